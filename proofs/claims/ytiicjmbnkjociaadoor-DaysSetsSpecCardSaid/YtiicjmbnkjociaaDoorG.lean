/- Lists of spans: Check, Count, Nth. -/
import Derived.Test.YtiicjmbnkjociaaDoorF
import Derived.Test.YtiicjmbnkjociaaDoorS
namespace Go.Proofs.YtiicjmbnkjociaaDoor
open Go.RowKit

/-- the cells of a list of spans, hidden -/
theorem spans_at {B : Nat} {w : World} {l : List Sp} {n : Nat} {a : Option Addr} {cap : Nat} (h : PRest B w l (.slice a n cap)) :
    n = l.length ∧ l.length ≤ cap ∧ cap ≤ maxLen ∧ ∀ i, i < l.length → (I64 (l.getD i (0, 0)).1 ∧ I64 (l.getD i (0, 0)).2) ∧ ∃ b off, a = some ⟨b, off, none⟩ ∧ b < B ∧ w.cell? ⟨b, off + i * 2, none⟩ = some (.int .i64 (l.getD i (0, 0)).1) ∧ w.cell? ⟨b, off + i * 2 + 1, none⟩ = some (.int .i64 (l.getD i (0, 0)).2) := by
  obtain ⟨a2, cap2, he, h1, h2, h3, h4⟩ := h
  injection he with e1 e2 e3
  subst e1 e2 e3
  refine ⟨rfl, h1, h2, fun i hi => ?_⟩
  have e : l.getD i (0, 0) = l[i] := by simp [hi]
  rw [e]
  refine ⟨h3 _ (List.getElem_mem hi), ?_⟩
  rcases h4 with h4 | ⟨b, off, rfl, hb, hc⟩
  · omega
  · exact ⟨b, off, rfl, hb, (hc i hi).1, (hc i hi).2⟩
def SpV (x : Sp) : Value := .agg #[.int .i64 x.1, .int .i64 x.2]
theorem canB_of {l : List Sp} (h : ∀ j, j < l.length → okAt 0 l j) : canB 0 l = true := (canB_iff l 0).2 ((canF_iff l 0).2 h)
theorem canB_not {l : List Sp} {j : Nat} (hj : j < l.length) (h : ¬ okAt 0 l j) : canB 0 l = false := by
  rw [Bool.eq_false_iff]; exact fun h1 => h ((canF_iff l 0).1 ((canB_iff l 0).1 h1) j hj)
set_option maxHeartbeats 2000000 in
set_option maxRecDepth 100000 in
theorem canonical_call (l : List Sp) (v : Value) (B : Nat) (w : World) (h : PRest B w l v) (hB : B ≤ w.heap.size) (hn : l.length ≤ 1000000) :
    Calls Tryd.prog 40 #[v] w fun e w' => e = .returned (.bool (canB 0 l)) ∧ Below w.heap.size w w' := by
  have h0 := h
  obtain ⟨a, cap, rfl, -⟩ := h0
  obtain ⟨-, hl, hm, hc⟩ := spans_at h
  have HC := Lib.hid hc
  have HT : Hid ((∀ j, j < l.length → okAt 0 l j) → canB 0 l = true) := Lib.hid canB_of
  have HF : Hid (∀ j, j < l.length → ¬ okAt 0 l j → canB 0 l = false) := Lib.hid (fun j hj hk => canB_not hj hk)
  unfold maxLen at hm
  obtain ⟨n, hn2⟩ : ∃ n, n = l.length := ⟨_, rfl⟩
  rw [← hn2] at hl hn HC HT HF ⊢
  have HN := Lib.hid hn
  generalize canB 0 l = r at *
  clear h hc hn2
  go_enter Tryd.func40, Tryd.ntmps40
  go_wp2_with fail
  go_loopw [3, 8] (fun s3 s8 wr => ∃ k : Nat, (k ≤ n ∧ ∀ j, j < k → okAt 0 l j) ∧ s3 = .int .i64 (lst 0 l k) ∧ s8 = .int .i64 (k : Int) ∧ Below w.heap.size w wr) (fun _ s8 _ => n - (intOf s8).toNat)
  case atStart => exact ⟨0, ⟨by omega, fun j hj => by omega⟩, rfl, rfl, Below.refl _ _⟩
  case round =>
    obtain ⟨k, hk, rfl, rfl, hb⟩ := hrel
    have HK := Lib.hid hk
    have HB := Lib.hid hb
    rcases Nat.lt_or_ge k n with hlt | hge
    · obtain ⟨⟨hI1, hI2⟩, b, off, rfl, hbB, hc1, hc2⟩ := HC.out k hlt
      have hd1 := (hb.cell (p := ⟨b, off + k * 2, none⟩) (by show b < w.heap.size; omega)).trans hc1
      have hd2 := (hb.cell (p := ⟨b, off + k * 2 + 1, none⟩) (by show b < w.heap.size; omega)).trans hc2
      have hlo : Hid (okAt 0 l k = (lst 0 l k ≤ (l.getD k (0, 0)).1 ∧ (l.getD k (0, 0)).1 ≤ (l.getD k (0, 0)).2 ∧ (l.getD k (0, 0)).2 ≤ 73048)) := Lib.hid rfl
      have hls : Hid (lst 0 l (k + 1) = (l.getD k (0, 0)).2 + 2) := Lib.hid rfl
      have HO : Hid (okAt 0 l k → ∀ j, j < k + 1 → okAt 0 l j) := Lib.hid (fun h j hj => by
        rcases Nat.lt_or_ge j k with h1 | h1
        · exact HK.out.2 j h1
        · obtain rfl : j = k := by omega
          exact h)
      generalize (l.getD k (0, 0)).1 = x1 at *
      generalize (l.getD k (0, 0)).2 = x2 at *
      generalize lst 0 l k = lo at *
      have hki : (k : Int) < (n : Int) := by omega
      have HA := Lib.hid (Joins.below_alloc1 wr (.cells #[.int .i64 x1, .int .i64 x2] 45))
      clear hb hk hc1 hc2 hbB
      by_cases hg1 : x1 < lo
      · have hg := hg1
        have e1 : decide (x1 < lo) = true := by simpa using hg1
        have HRF : Hid (r = false) := Lib.hid (HF.out k hlt (by rw [hlo.out]; omega))
        clear hg hg1
        go_wp2_with fail
        go_ret
        exact ⟨ret_bool HRF.out.symm, below_next HB.out HA.out⟩
      · have e1 : decide (x1 < lo) = false := by simpa using hg1
        by_cases hg2 : x2 < x1
        · have hg := hg2
          have e2 : decide (x2 < x1) = true := by simpa using hg2
          have HRF : Hid (r = false) := Lib.hid (HF.out k hlt (by rw [hlo.out]; omega))
          clear hg hg1 hg2
          go_wp2_with fail
          go_ret
          exact ⟨ret_bool HRF.out.symm, below_next HB.out HA.out⟩
        · have e2 : decide (x2 < x1) = false := by simpa using hg2
          by_cases hg3 : 73048 < x2
          · have hg := hg3
            have e3 : decide ((73048 : Int) < x2) = true := by simpa using hg3
            have HRF : Hid (r = false) := Lib.hid (HF.out k hlt (by rw [hlo.out]; omega))
            clear hg hg1 hg2 hg3
            go_wp2_with fail
            go_ret
            exact ⟨ret_bool HRF.out.symm, below_next HB.out HA.out⟩
          · have e3 : decide ((73048 : Int) < x2) = false := by simpa using hg3
            have HOK := Lib.hid (HO.out (by rw [hlo.out]; omega))
            have hw2 : IntKind.i64.wrap (x2 + 2) = x2 + 2 := by obtain ⟨h8, h9⟩ := hI2; rw [IntKind.wrap_i64]; omega
            have hwk : IntKind.i64.wrap ((k : Int) + 1) = ((k + 1 : Nat) : Int) := by have := HN.out; rw [IntKind.wrap_i64]; omega
            have HLT := Lib.hid hlt
            clear hg1 hg2 hg3 hlt
            go_wp2_with fail
            exact ⟨⟨k + 1, ⟨by have := HLT.out; omega, HOK.out⟩, by first | (rw [hls.out]; done) | rfl | trivial, by first | rfl | trivial, below_next HB.out HA.out⟩, by have := HLT.out; simp [intOf]; omega⟩
    · obtain rfl : k = n := by omega
      have HRT : Hid (r = true) := Lib.hid (HT.out hk.2)
      clear hk hb
      go_wp2_with fail
      go_ret
      exact ⟨ret_bool HRT.out.symm, HB.out⟩
set_option maxHeartbeats 2000000 in
set_option maxRecDepth 100000 in
theorem Check_call (l : List Sp) (v : Value) (B : Nat) (w : World) (h : PRest B w l v) (hB : B ≤ w.heap.size) :
    Calls Tryd.prog 21 #[v] w fun e w' => e = .returned (.int .i64 (chk l)) ∧ Below w.heap.size w w' := by
  have HC : Hid (l.length ≤ 1000000 → Calls Tryd.prog 40 #[v] w fun e w' => e = .returned (.bool (canB 0 l)) ∧ Below w.heap.size w w') := Lib.hid (fun hn => canonical_call l v B w h hB hn)
  obtain ⟨a, cap, rfl, hl, hm, -⟩ := h
  unfold chk
  unfold maxLen at hm
  generalize canB 0 l = r at *
  obtain ⟨n, hn2⟩ : ∃ n, n = l.length := ⟨_, rfl⟩
  rw [← hn2] at hl HC ⊢
  clear hn2
  by_cases hg : 256 < n
  · rw [if_pos hg]
    have e1 : decide ((256 : Int) < (n : Int)) = true := by simp; omega
    go_enter Tryd.func21, Tryd.ntmps21
    go_wp2_with fail
    go_ret
    exact ⟨rfl, Below.refl _ _⟩
  · rw [if_neg hg]
    have e1 : decide ((256 : Int) < (n : Int)) = false := by simp; omega
    have HCC := Lib.hid (HC.out (by omega))
    rcases r with _ | _
    all_goals
      simp only [Bool.false_eq_true, if_false, if_true]
      go_enter Tryd.func21, Tryd.ntmps21
      go_wp2_with fail
      refine HCC.out.mono ?_
      rintro e w1 ⟨rfl, hb⟩
      go_wp2_with fail
      go_ret
      exact ⟨rfl, hb⟩
set_option maxHeartbeats 2000000 in
set_option maxRecDepth 100000 in
theorem size_call (x : Sp) (w : World) (hx : 0 ≤ x.1 ∧ x.1 ≤ x.2 ∧ x.2 ≤ 73048) :
    Calls Tryd.prog 39 #[SpV x] w fun e w' => e = .returned (.int .i64 (x.2 - x.1 + 1)) ∧ Below w.heap.size w w' := by
  obtain ⟨x1, x2⟩ := x
  obtain ⟨h1, h2, h3⟩ := hx
  simp only at h1 h2 h3 ⊢
  unfold SpV
  have HA := Lib.hid (Joins.below_alloc1 w (.cells #[.int .i64 x1, .int .i64 x2] 45))
  have hw1 : IntKind.i64.wrap (x2 - x1) = x2 - x1 := by rw [IntKind.wrap_i64]; omega
  have hw2 : IntKind.i64.wrap (x2 - x1 + 1) = x2 - x1 + 1 := by rw [IntKind.wrap_i64]; omega
  go_enter Tryd.func39, Tryd.ntmps39
  go_wp2_with fail
  go_ret
  exact ⟨rfl, HA.out⟩
end Go.Proofs.YtiicjmbnkjociaaDoor
