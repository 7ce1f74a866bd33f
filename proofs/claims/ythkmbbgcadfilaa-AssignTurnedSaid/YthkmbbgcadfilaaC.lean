/- Lists of lists of numbers in memory; small, columns, right, Check. -/
import Derived.Test.YthkmbbgcadfilaaB
namespace Go.Proofs.Ythkmbbgcadfilaa
open Go.RowKit Go.Shelf

/-- in world w the slice v holds the lists C, all in blocks below B -/
def NRest (B : Nat) (w : World) (C : List (List Int)) (v : Value) : Prop :=
  ∃ (a : Option Addr) (cap : Nat), v = .slice a C.length cap ∧ C.length ≤ cap ∧ cap ≤ maxLen ∧
    (C.length = 0 ∨ ∃ b off, a = some ⟨b, off, none⟩ ∧ b < B ∧ ∀ i (h : i < C.length), ∃ rv, w.cell? ⟨b, off + i, none⟩ = some rv ∧ IRest B w C[i] rv)
theorem nrest_nil (B : Nat) (w : World) : NRest B w [] (.slice none 0 0) := ⟨none, 0, rfl, by simp, by simp [maxLen], .inl rfl⟩
theorem NRest.mono {B B' : Nat} {w : World} {C : List (List Int)} {v : Value} (h : NRest B w C v) (hb : B ≤ B') : NRest B' w C v := by
  obtain ⟨a, cap, h1, h2, h3, h5⟩ := h
  refine ⟨a, cap, h1, h2, h3, ?_⟩
  rcases h5 with h0 | ⟨b, off, ha, hl, hc⟩
  · exact .inl h0
  · exact .inr ⟨b, off, ha, by omega, fun i hi => by obtain ⟨rv, k1, k2⟩ := hc i hi; exact ⟨rv, k1, k2.mono hb⟩⟩
theorem NRest.stays {B : Nat} {w w' : World} {C : List (List Int)} {v : Value} (h : NRest B w C v) (hb : Below B w w') : NRest B w' C v := by
  obtain ⟨a, cap, h1, h2, h3, h5⟩ := h
  refine ⟨a, cap, h1, h2, h3, ?_⟩
  rcases h5 with h0 | ⟨b, off, ha, hl, hc⟩
  · exact .inl h0
  · exact .inr ⟨b, off, ha, hl, fun i hi => by obtain ⟨rv, k1, k2⟩ := hc i hi; exact ⟨rv, (hb.cell (p := ⟨b, off + i, none⟩) hl).trans k1, k2.stays hb⟩⟩
theorem NRest.keep {w w' : World} {C : List (List Int)} {v : Value} (h : NRest w.heap.size w C v) (hb : Below w.heap.size w w') : NRest w'.heap.size w' C v := (h.stays hb).mono hb.size
theorem Kd.nrest {w w' : World} (h : Kd w w') {C : List (List Int)} {v : Value} (hr : NRest w.heap.size w C v) : NRest w'.heap.size w' C v := hr.keep h.below
theorem irest_shape {B : Nat} {w : World} {l : List Int} {v : Value} (h : IRest B w l v) : ∃ a c, v = .slice a l.length c := by
  obtain ⟨a, c, h1, -⟩ := h
  exact ⟨a, c, h1⟩
theorem nrest_shape {B : Nat} {w : World} {l : List (List Int)} {v : Value} (h : NRest B w l v) : ∃ a c, v = .slice a l.length c := by
  obtain ⟨a, c, h1, -⟩ := h
  exact ⟨a, c, h1⟩
theorem rows_at {B : Nat} {w : World} {C : List (List Int)} {n : Nat} {a : Option Addr} {cap : Nat} (h : NRest B w C (.slice a n cap)) :
    n = C.length ∧ C.length ≤ cap ∧ cap ≤ maxLen ∧ ∀ i, i < C.length → ∃ b off ra rc, a = some ⟨b, off, none⟩ ∧ b < B ∧ w.cell? ⟨b, off + i, none⟩ = some (.slice ra (C.getD i []).length rc) ∧ IRest B w (C.getD i []) (.slice ra (C.getD i []).length rc) := by
  obtain ⟨a2, cap2, he, h1, h2, h4⟩ := h
  injection he with e1 e2 e3
  subst e1 e2 e3
  refine ⟨rfl, h1, h2, fun i hi => ?_⟩
  have e : C.getD i [] = C[i] := by simp [hi]
  rw [e]
  rcases h4 with h4 | ⟨b, off, rfl, hb, hc⟩
  · omega
  · obtain ⟨rv, k1, k2⟩ := hc i hi
    obtain ⟨ra, rc, rfl⟩ := irest_shape k2
    exact ⟨b, off, ra, rc, rfl, hb, k1, k2⟩

def colsN (C : List (List Int)) : Nat := (C.getD 0 []).length
def smallR (C : List (List Int)) : Bool := C.all fun r => decide (r.length ≤ 16)
def smallB (C : List (List Int)) : Bool := decide (C.length ≤ 16) && smallR C
def elB (x : Int) : Bool := decide (-1 ≤ x ∧ x ≤ 1073741824)
def rowB (m : Nat) (r : List Int) : Bool := decide (r.length = m) && r.all elB
def rightB (C : List (List Int)) : Bool := C.all (rowB (colsN C))
def chkE (C : List (List Int)) : Int := if smallB C = true then (if rightB C = true then 0 else 140) else 2
theorem all_upto {α : Type} {p : α → Bool} {l : List α} {k : Nat} {d : α} (hk : l.length ≤ k) (h : ∀ i, i < k → p (l.getD i d) = true) : l.all p = true := by
  rw [List.all_eq_true]
  intro x hx
  obtain ⟨i, hi, rfl⟩ := List.getElem_of_mem hx
  have := h i (by omega)
  rwa [show l.getD i d = l[i] by simp [hi]] at this
theorem all_at {α : Type} {p : α → Bool} {l : List α} {k : Nat} {d : α} (hk : k < l.length) (h : p (l.getD k d) = false) : l.all p = false := by
  cases hq : l.all p with
  | false => rfl
  | true =>
    rw [List.all_eq_true] at hq
    have := hq (l.getD k d) (by simp [hk])
    rw [h] at this; cases this
theorem all_get {α : Type} {p : α → Bool} {l : List α} {k : Nat} {d : α} (h : l.all p = true) (hk : k < l.length) : p (l.getD k d) = true := by
  rw [List.all_eq_true] at h
  exact h _ (by simp [hk])

set_option maxRecDepth 100000 in
set_option maxHeartbeats 4000000 in
theorem small_call (C : List (List Int)) (vc : Value) (w : World) (hC : NRest w.heap.size w C vc) :
    Calls Try.prog 35 #[vc] w fun e w' => e = .returned (.bool (smallB C)) ∧ w' = w := by
  obtain ⟨a, c, rfl⟩ := nrest_shape hC
  obtain ⟨-, hac, ham, hat⟩ := rows_at hC
  obtain ⟨n, hn⟩ : ∃ n, n = C.length := ⟨_, rfl⟩
  rw [← hn] at hac hat ⊢
  have HAT := Lib.hid hat
  have HN := Lib.hid hn
  clear hat hn hC
  go_enter Try.func35, Try.ntmps35
  by_cases hb : 16 < n
  · have hbi : (16 : Int) < (n : Int) := by omega
    have HV : Hid (smallB C = false) := Lib.hid (by unfold smallB; rw [decide_eq_false (by have := HN.out; omega)]; rfl)
    go_wp2_with fail
    go_ret
    exact ⟨by rw [HV.out]; rfl, rfl⟩
  · have hbi : (n : Int) ≤ 16 := by omega
    have HB := Lib.hid hb
    clear hb
    go_upto_region 4 with (fail)
    go_loopw [10] (fun s10 wr => ∃ (k : Nat), k ≤ n ∧ s10 = .int .i64 (k : Int) ∧ wr = w ∧ ∀ i, i < k → decide ((C.getD i []).length ≤ 16) = true) (fun s10 _ => n - (intOf s10).toNat)
    case atStart => exact ⟨0, by omega, rfl, rfl, fun i hi => by omega⟩
    case round =>
      obtain ⟨k, hk, rfl, rfl, hall⟩ := hrel
      have HALL := Lib.hid hall
      have HK := Lib.hid hk
      clear hall hk
      by_cases hlt : k < n
      · have hki : (k : Int) < (n : Int) := by omega
        have HLT := Lib.hid hlt
        have HWK := Lib.hid (wrap_succ hlt (show n ≤ maxLen by unfold maxLen; omega))
        obtain ⟨b, off, ra, rc, q1, hb, f1, -⟩ := HAT.out k (by have := HN.out; omega)
        subst q1
        obtain ⟨m, hm⟩ : ∃ m, m = (C.getD k []).length := ⟨_, rfl⟩
        rw [← hm] at f1
        have HM := Lib.hid hm
        clear hlt hm hb
        by_cases hg : 16 < m
        · have hgi : (16 : Int) < (m : Int) := by omega
          have HV : Hid (smallB C = false) := Lib.hid (by
            unfold smallB smallR
            rw [all_at (k := k) (d := []) (by have := HN.out; have := HLT.out; omega) (decide_eq_false (by rw [← HM.out]; omega))]
            simp)
          go_wp2_with fail
          go_ret
          exact ⟨by rw [HV.out]; rfl, rfl⟩
        · have hgi : (m : Int) ≤ 16 := by omega
          have HG := Lib.hid hg
          clear hg
          go_wp2_with fail
          refine ⟨⟨k + 1, by have := HLT.out; omega, by first | rw [HWK.out, Int.natCast_succ] | go_num, by first | rfl | trivial, fun i hi => ?_⟩, by have := HLT.out; first | exact back_less this HWK.out | (simp [intOf]; omega)⟩
          rcases Nat.lt_or_ge i k with h9 | h9
          · exact HALL.out i h9
          · obtain rfl : i = k := by omega
            exact decide_eq_true (by rw [← HM.out]; have := HG.out; omega)
      · obtain rfl : k = n := by have := HK.out; omega
        have HV : Hid (smallB C = true) := Lib.hid (by
          unfold smallB smallR
          rw [decide_eq_true (by have := HN.out; have := HB.out; omega), all_upto (d := []) (by have := HN.out; omega) HALL.out]; rfl)
        go_wp2_with fail
        go_ret
        exact ⟨by rw [HV.out]; rfl, rfl⟩
set_option maxRecDepth 100000 in
set_option maxHeartbeats 4000000 in
theorem columns_call (C : List (List Int)) (vc : Value) (w : World) (hC : NRest w.heap.size w C vc) :
    Calls Try.prog 46 #[vc] w fun e w' => e = .returned (.int .i64 (colsN C : Int)) ∧ w' = w := by
  obtain ⟨a, c, rfl⟩ := nrest_shape hC
  obtain ⟨-, hac, ham, hat⟩ := rows_at hC
  obtain ⟨n, hn⟩ : ∃ n, n = C.length := ⟨_, rfl⟩
  rw [← hn] at hac hat ⊢
  have HAT := Lib.hid hat
  have HN := Lib.hid hn
  clear hat hn hC
  go_enter Try.func46, Try.ntmps46
  by_cases h0 : n = 0
  · have HV : Hid ((colsN C : Int) = 0) := Lib.hid (by
      have h9 : C = [] := List.eq_nil_of_length_eq_zero (by have := HN.out; omega)
      rw [h9]; rfl)
    have h1 : ((n : Int) == 0) = true := by simp [h0]
    clear h0
    go_wp2_with fail
    go_ret
    exact ⟨by rw [HV.out]; rfl, rfl⟩
  · have h1 : ((n : Int) == 0) = false := by simp; omega
    have hpos : 0 < n := by omega
    have hposi : (0 : Int) < (n : Int) := by omega
    obtain ⟨b, off, ra, rc, q1, hb, f1, -⟩ := HAT.out 0 (by have := HN.out; omega)
    subst q1
    have f1' : w.cell? ⟨b, off, none⟩ = some (.slice ra (C.getD 0 []).length rc) := by simpa using f1
    obtain ⟨m, hm⟩ : ∃ m, m = (C.getD 0 []).length := ⟨_, rfl⟩
    rw [← hm] at f1 f1'
    have HV : Hid ((colsN C : Int) = (m : Int)) := Lib.hid (by unfold colsN; rw [hm])
    clear hm h0 hb
    go_wp2_with fail
    go_ret
    exact ⟨by rw [HV.out]; rfl, rfl⟩
end Go.Proofs.Ythkmbbgcadfilaa
