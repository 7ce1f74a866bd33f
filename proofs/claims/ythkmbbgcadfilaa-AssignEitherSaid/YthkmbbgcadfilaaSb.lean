/- crowded. -/
import Derived.Test.YthkmbbgcadfilaaRd
import Derived.Maps.OwnSet
namespace Go.Proofs.Ythkmbbgcadfilaa
open Go.RowKit Go.Shelf Go.Maps

theorem law3 : Keyed Try.prog 3 := int_keyed Try.underlying3
theorem key_mk {x : Int} (h : I64 x) : keyOf Try.prog 3 (.int .i64 x) = some (.int .i64 x) := keyOf_int_mk Try.underlying3 (by obtain ⟨h1, h2⟩ := h; simp [Lit.wf, IntKind.min, IntKind.max, IntKind.signed, IntKind.bits]; omega)
theorem below_grown {w a b : World} {g : Nat} (h : Below w.heap.size w a) (hg : a.grownBy b (some g)) (hge : w.heap.size ≤ g) : Below w.heap.size w b :=
  ⟨hg.os.trans h.os, hg.tape.trans h.tape, hg.output.trans h.output, Nat.le_trans h.size hg.size, fun i hi => (hg.block i (Nat.lt_of_lt_of_le hi h.size) (fun e => by cases e; omega)).trans (h.block i hi)⟩
/-- a map whose keys are the numbers of p -/
def MI (D : DataW Unit) (p : Nat → Prop) : Prop := Tidy D ∧ (∀ x : Nat, has D (.int .i64 (x : Int)) = true ↔ p x) ∧ ∃ J : List Nat, J.Nodup ∧ size D = J.length ∧ ∀ x, x ∈ J ↔ p x
theorem MI.zero : MI (.map []) (fun _ => False) := ⟨tidy_empty, fun x => by simp [has], [], by simp, rfl, fun x => by simp⟩
theorem MI.put {D : DataW Unit} {p : Nat → Prop} (h : MI D p) (j : Nat) (d : DataW Unit) : MI (D.put (.int .i64 (j : Int)) d) (fun x => p x ∨ x = j) := by
  obtain ⟨h1, h2, J, h3, h4, h5⟩ := h
  have hk : WideAt.IsKeyLit (.int .i64 (j : Int)) := by simp [WideAt.IsKeyLit]
  refine ⟨h1.put hk d, fun x => ?_, ?_⟩
  · by_cases e : x = j
    · subst e
      rw [has_put_same h1.isMap hk]; simp
    · rw [has_put_other (fun e' => e (by injection e' with _ e'; omega)), h2 x]
      simp [e]
  · by_cases hp : p j
    · refine ⟨J, h3, ?_, fun x => ?_⟩
      · rw [size_put h1, if_pos ((h2 j).2 hp)]; exact h4
      · rw [h5 x]
        constructor
        · exact .inl
        · rintro (h | rfl)
          · exact h
          · exact hp
    · refine ⟨j :: J, ?_, ?_, fun x => ?_⟩
      · rw [List.nodup_cons]; exact ⟨fun hm => hp ((h5 j).1 hm), h3⟩
      · rw [size_put h1, if_neg (fun h => hp ((h2 j).1 h)), h4]; rfl
      · rw [List.mem_cons, h5 x]
        exact or_comm
theorem MI.to {D : DataW Unit} {p q : Nat → Prop} (h : MI D p) (e : ∀ x, p x ↔ q x) : MI D q := by
  obtain ⟨h1, h2, J, h3, h4, h5⟩ := h
  exact ⟨h1, fun x => (h2 x).trans (e x), J, h3, h4, fun x => (h5 x).trans (e x)⟩
/-- the columns that have been met -/
def Metp (C : List (List Int)) (m : Nat) (l : List Nat) (k j x : Nat) : Prop := x < m ∧ ((∃ i, i < k ∧ cst C (l.getD i 0) x ≠ -1) ∨ (x < j ∧ cst C (l.getD k 0) x ≠ -1))
theorem MI.cols {C : List (List Int)} {m : Nat} {l : List Nat} {D : DataW Unit} (h : MI D (Metp C m l l.length 0)) : size D = (colsL C m l).length := by
  obtain ⟨h1, h2, J, h3, h4, h5⟩ := h
  rw [h4]
  have hb : ∀ x, x ∈ J ↔ x ∈ colsL C m l := fun x => by
    rw [h5 x, mem_colsL]
    unfold Metp
    constructor
    · rintro ⟨k1, ⟨i, k2, k3⟩ | ⟨k2, -⟩⟩
      · exact ⟨k1, l.getD i 0, by rw [show l.getD i 0 = l[i] by simp [k2]]; exact List.getElem_mem _, k3⟩
      · omega
    · rintro ⟨k1, i, k2, k3⟩
      obtain ⟨q, hq, rfl⟩ := List.getElem_of_mem k2
      exact ⟨k1, .inl ⟨q, hq, by rw [show l.getD q 0 = l[q] by simp [hq]]; exact k3⟩⟩
  have e1 := nodup_le h3 (fun x hx => (hb x).1 hx)
  have e2 := nodup_le (colsL_nodup C m l) (fun x hx => (hb x).2 hx)
  omega
theorem metp_put {C : List (List Int)} {m : Nat} {l : List Nat} {k j : Nat} (hj : j < m) (h : cst C (l.getD k 0) j ≠ -1) (z : Nat) : (Metp C m l k j z ∨ z = j) ↔ Metp C m l k (j + 1) z := by
  unfold Metp
  constructor
  · rintro (⟨h1, h2 | ⟨h2, h3⟩⟩ | rfl)
    · exact ⟨h1, .inl h2⟩
    · exact ⟨h1, .inr ⟨by omega, h3⟩⟩
    · exact ⟨hj, .inr ⟨by omega, h⟩⟩
  · rintro ⟨h1, h2 | ⟨h2, h3⟩⟩
    · exact .inl ⟨h1, .inl h2⟩
    · by_cases e : z = j
      · exact .inr e
      · exact .inl ⟨h1, .inr ⟨by omega, h3⟩⟩
theorem metp_skip {C : List (List Int)} {m : Nat} {l : List Nat} {k j : Nat} (h : cst C (l.getD k 0) j = -1) (z : Nat) : Metp C m l k j z ↔ Metp C m l k (j + 1) z := by
  unfold Metp
  constructor
  · rintro ⟨h1, h2 | ⟨h2, h3⟩⟩
    · exact ⟨h1, .inl h2⟩
    · exact ⟨h1, .inr ⟨by omega, h3⟩⟩
  · rintro ⟨h1, h2 | ⟨h2, h3⟩⟩
    · exact ⟨h1, .inl h2⟩
    · by_cases e : z = j
      · subst e; exact absurd h h3
      · exact ⟨h1, .inr ⟨by omega, h3⟩⟩
theorem metp_next {C : List (List Int)} {m : Nat} {l : List Nat} {k : Nat} (z : Nat) : Metp C m l k m z ↔ Metp C m l (k + 1) 0 z := by
  unfold Metp
  constructor
  · rintro ⟨h1, ⟨i, h2, h3⟩ | ⟨h2, h3⟩⟩
    · exact ⟨h1, .inl ⟨i, by omega, h3⟩⟩
    · exact ⟨h1, .inl ⟨k, by omega, h3⟩⟩
  · rintro ⟨h1, ⟨i, h2, h3⟩ | ⟨h2, -⟩⟩
    · by_cases e : i = k
      · subst e; exact ⟨h1, .inr ⟨h1, h3⟩⟩
      · exact ⟨h1, .inl ⟨i, by omega, h3⟩⟩
    · omega
set_option maxRecDepth 100000 in
set_option maxHeartbeats 8000000 in
theorem crowded_call {n m : Nat} (C : List (List Int)) (l : List Nat) (vc vl : Value) (w : World) (hM : Mat C n m) (hC : NRest w.heap.size w C vc) (hl : IRest w.heap.size w (ofN l) vl) (hsl : SL n l) (hcr : crF C m l) :
    Calls Try.prog 27 #[vc, vl] w fun e w' => e = .returned (.bool true) ∧ Below w.heap.size w w' := by
  obtain ⟨a, c, rfl⟩ := nrest_shape hC
  obtain ⟨a1, c1, rfl⟩ := irest_shape hl
  obtain ⟨-, hac, ham, hat⟩ := rows_at hC
  obtain ⟨-, huc, hum, hut⟩ := ints_at hl
  have HAT := Lib.hid hat
  have HUT := Lib.hid hut
  have HM := Lib.hid hM
  have HSL := Lib.hid hsl
  have hn16 := hM.n16
  have hm16 := hM.m16
  have hs16 : l.length ≤ 16 := by have := hsl.len; omega
  have HN := Lib.hid hM.len
  rw [hM.len] at hac ⊢
  rw [ofN_len] at huc ⊢
  have HCR := Lib.hid hcr
  obtain ⟨s, hs⟩ : ∃ s, s = l.length := ⟨_, rfl⟩
  rw [← hs] at huc hs16 ⊢
  have HS := Lib.hid hs
  clear hat hut hM hsl hs hC hl hcr
  have hmm := @run_makeMap Try.prog
  have hown0 : (w.alloc (.map #[] 0)).ownsMap Try.prog 3 (plainElem Try.prog 4) w.heap.size 0 (.map ([] : List (Lit × DataW Unit))) := World.ownsMap_made _ _ _ _
  go_enter Try.func27, Try.ntmps27
  go_upto_region 3 with (fail)
  clear hmm
  go_loopw [13] (fun s13 wr => ∃ (k N : Nat) (D : DataW Unit), k ≤ s ∧ s13 = .int .i64 (k : Int) ∧ wr.ownsMap Try.prog 3 (plainElem Try.prog 4) w.heap.size N D ∧ MI D (Metp C m l k 0) ∧ N ≤ 1000 * k ∧ Below w.heap.size w wr) (fun s13 _ => s - (intOf s13).toNat)
  case atStart => exact ⟨0, 0, _, by omega, rfl, hown0, MI.zero.to (fun x => by unfold Metp; simp), by omega, Joins.below_alloc1 w _⟩
  case round =>
    obtain ⟨k, N, D, hk, rfl, hown, hmi, hN, hb⟩ := hrel
    have HMI := Lib.hid hmi
    have HK := Lib.hid hk
    have HB := Lib.hid hb
    have HNN := Lib.hid hN
    have HOW := Lib.hid hown
    clear hmi hk hb hown0 hN hown
    by_cases hlt : k < s
    · have hki : (k : Int) < (s : Int) := by omega
      have HLT := Lib.hid hlt
      have HWK := Lib.hid (wrap_succ hlt (show s ≤ maxLen by unfold maxLen; omega))
      obtain ⟨-, bu, offu, q1, hbu, f1⟩ := HUT.out k (by rw [ofN_len, ← HS.out]; exact hlt)
      subst q1
      rw [ofN_get] at f1
      have hyn := HSL.out.1 k (by rw [← HS.out]; exact hlt)
      obtain ⟨y, hy⟩ : ∃ y, y = l.getD k 0 := ⟨_, rfl⟩
      rw [← hy] at f1 hyn
      have HY := Lib.hid hy
      have d1 := (HB.out.cell (p := ⟨bu, offu + k, none⟩) hbu).trans f1
      have g1 : decide ((y : Int) < 0) = false := decide_eq_false (by omega)
      have g2 : decide ((n : Int) ≤ (y : Int)) = false := decide_eq_false (by omega)
      have hyi : (y : Int) < (n : Int) := by omega
      obtain ⟨b, off, ra, rc, q2, hbl, f2, hrow⟩ := HAT.out y (by rw [HN.out]; exact hyn)
      subst q2
      have hrl := HM.out.row y hyn
      obtain ⟨-, hrc, hrm, hrt⟩ := ints_at hrow
      rw [hrl] at f2 hrc hrt
      have HRT := Lib.hid hrt
      have HYN := Lib.hid hyn
      have d2 := (HB.out.cell (p := ⟨b, off + y, none⟩) hbl).trans f2
      clear hy hlt f1 hrow hrt hrl hbl f2 hyn
      have g2n : decide (n ≤ y) = false := decide_eq_false (by omega)
      have hzz : k = 0 ∨ 0 < k := by omega
      rcases hzz with hk0 | hk0
      rotate_left
      focus
        have g3 : decide (0 < k) = true := decide_eq_true (by omega)
        have hk1' : k - 1 < s := by omega
        have g5 : ((k - 1 : Nat) : Int) < (s : Int) := by omega
        obtain ⟨-, bu2, offu2, q3, hbu2, f3⟩ := HUT.out (k - 1) (by rw [ofN_len, ← HS.out]; exact hk1')
        cases q3
        rw [ofN_get] at f3
        have d3 := (HB.out.cell (p := ⟨bu, offu + (k - 1), none⟩) hbu2).trans f3
        have hpv : l.getD (k - 1) 0 < y := by have := HSL.out.2 (k - 1) k (by omega) (by rw [← HS.out]; exact HLT.out); have := HY.out; omega
        obtain ⟨y2, hy2⟩ : ∃ y2, y2 = l.getD (k - 1) 0 := ⟨_, rfl⟩
        rw [← hy2] at d3 hpv
        have g6 : decide (y ≤ y2) = false := decide_eq_false (by omega)
        clear f3 hbu2 hk1' hpv hy2
        go_upto_region 9 with (fail)
        clear d3 g6 g5 g3
      rotate_left
      focus
        have g3 : decide (0 < k) = false := decide_eq_false (by omega)
        clear hk0
        go_upto_region 9 with (fail)
        clear g3
      all_goals (
        clear g2n g1 g2
        have h20 := HOW.out
        have h21 := HMI.out
        have h22 := HB.out
        have h23 := HNN.out
        go_loopw [44] (fun s44 wq => ∃ (j N : Nat) (D : DataW Unit), j ≤ m ∧ s44 = .int .i64 (j : Int) ∧ wq.ownsMap Try.prog 3 (plainElem Try.prog 4) w.heap.size N D ∧ MI D (Metp C m l k j) ∧ N ≤ 1000 * k + j ∧ Below w.heap.size w wq) (fun s44 _ => m - (intOf s44).toNat)
        case atStart => exact ⟨0, N, D, by omega, rfl, h20, h21, by omega, h22⟩
        case round =>
          obtain ⟨j, N2, D2, hj, rfl, hown2, hmi2, hN2, hb2⟩ := hrel
          clear h20 h21 h22 h23
          have HMI2 := Lib.hid hmi2
          have HB2 := Lib.hid hb2
          have HN2 := Lib.hid hN2
          have HOW2 := Lib.hid hown2
          have HJ := Lib.hid hj
          clear hmi2 hb2 hN2 hown2 hj
          by_cases hjm : j < m
          · have hji : (j : Int) < (m : Int) := by omega
            have HWJ := Lib.hid (wrap_succ hjm (show m ≤ maxLen by unfold maxLen; omega))
            obtain ⟨hi3, b3, off3, q4, hb3, f4⟩ := HRT.out j hjm
            subst q4
            have d5 := (HB2.out.cell (p := ⟨b3, off3 + j, none⟩) hb3).trans f4
            rw [getDD HM.out HYN.out hjm] at d5 hi3
            obtain ⟨x, hx⟩ : ∃ x, x = cst C y j := ⟨_, rfl⟩
            rw [← hx] at d5 hi3
            have HX := Lib.hid hx
            have hxge : -1 ≤ x := by rw [hx]; exact (HM.out.el y j HYN.out hjm).1
            clear f4 hb3 hx
            by_cases hneg : 0 ≤ x
            · have g9 : decide (0 ≤ x) = true := decide_eq_true hneg
              have hsmall : N2 < maxLen := by have := HN2.out; have := HK.out; have := hjm; unfold maxLen; omega
              have hkey : keyOf Try.prog 3 (.int .i64 (j : Int)) = some (.int .i64 (j : Int)) := key_mk ⟨by omega, by omega⟩
              go_wp2_with (at_mapUpdate; refine wpList_mapUpdate_own _ rfl _ _ _ 67 rfl 3 4 law3 Try.underlying67 _ w.heap.size N2 _ rfl HOW2.out hsmall _ _ _ rfl rfl hkey _ [] (plainElem_bool Try.underlying4 true) ?_; intro w5 hown5 hgrow5)
              refine ⟨⟨j + 1, N2 + 1, _, hjm, rfl, hown5, ((HMI2.out.put j _).to fun z => ?_), by have := HN2.out; omega, below_grown HB2.out hgrow5 (Nat.le_refl _)⟩, by have := hjm; simp [intOf]; omega⟩
              exact metp_put hjm (by rw [← HY.out, ← HX.out]; omega) z
            · have g9 : decide (0 ≤ x) = false := decide_eq_false hneg
              go_wp2_with fail
              refine ⟨⟨j + 1, N2, _, hjm, rfl, HOW2.out, (HMI2.out.to fun z => ?_), by have := HN2.out; omega, HB2.out⟩, by have := hjm; simp [intOf]; omega⟩
              exact metp_skip (by rw [← HY.out, ← HX.out]; omega) z
          · obtain rfl : j = m := by have := HJ.out; omega
            go_wp2_with fail
            refine ⟨⟨k + 1, N2, _, HLT.out, rfl, HOW2.out, (HMI2.out.to fun z => ?_), by have := HN2.out; omega, HB2.out⟩, by have := HLT.out; simp [intOf]; omega⟩
            exact metp_next z)
    · obtain rfl : k = s := by have := HK.out; omega
      have hsz := MI.cols (C := C) (m := m) (l := l) (D := D) (by rw [← HS.out]; exact HMI.out)
      go_wp2_with (at_len; refine wpList_len_own _ rfl _ 67 rfl 3 4 Try.underlying67 _ _ _ _ rfl HOW.out ?_)
      refine bodyPost_ret (results_tmp rfl _ _ _) rfl ?_
      refine ⟨?_, HB.out⟩
      have h1 := HCR.out
      unfold crF at h1
      rw [← HS.out] at h1
      rw [show decide ((colsL C m l).length < k) = true from decide_eq_true h1]
      rfl
end Go.Proofs.Ythkmbbgcadfilaa
