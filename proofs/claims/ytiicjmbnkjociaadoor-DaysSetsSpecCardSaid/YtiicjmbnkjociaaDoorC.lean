/- Dates: which are right. -/
import Derived.Test.YtiicjmbnkjociaaDoorB
import Derived.Deep.DeepCutAuto
namespace Go.Proofs.YtiicjmbnkjociaaDoor
open Go.RowKit

def Dt.v (x : Dt) : Value := .agg #[.int .i64 x.y, .int .i64 x.m, .int .i64 x.d]
def Dt.I64 (x : Dt) : Prop := YtiicjmbnkjociaaDoor.I64 x.y ∧ YtiicjmbnkjociaaDoor.I64 x.m ∧ YtiicjmbnkjociaaDoor.I64 x.d
theorem below_drewN {B : Nat} {a w : World} (h : Below B a w) (n : Nat) : Below B a (w.drewN n) := ⟨h.os, h.tape, h.output, h.size, h.block⟩
theorem drewN_below (w : World) (n : Nat) : Below w.heap.size w (w.drewN n) := ⟨rfl, (Below.refl 0 w).tape, (Below.refl 0 w).output, Nat.le_refl _, fun _ _ => rfl⟩
theorem lnB_3 (y : Int) (m : Nat) (h : m = 4 ∨ m = 6 ∨ m = 9 ∨ m = 11) : lnB (leap y) m = 30 := by unfold lnB; rcases h with h | h | h | h <;> subst h <;> simp
theorem lnB_4 (y : Int) (m : Nat) (h1 : 1 ≤ m ∧ m ≤ 12) (h : ¬ (m = 2 ∨ m = 4 ∨ m = 6 ∨ m = 9 ∨ m = 11)) : lnB (leap y) m = 31 := by
  have : m = 1 ∨ m = 3 ∨ m = 5 ∨ m = 7 ∨ m = 8 ∨ m = 10 ∨ m = 12 := by omega
  unfold lnB; rcases this with h | h | h | h | h | h | h <;> subst h <;> simp
theorem lnB_28 (y : Int) (h : leap y = false) : lnB (leap y) 2 = 28 := by unfold lnB; rw [h]; simp
set_option maxHeartbeats 1000000 in
set_option maxRecDepth 100000 in
theorem reflength_call (y : Int) (m : Nat) (w : World) (hy : 2000 ≤ y ∧ y ≤ 2200) (hm : 1 ≤ m ∧ m ≤ 12) :
    Calls Tryd.prog 35 #[.int .i64 y, .int .i64 (m : Int)] w fun e w' => e = .returned (.int .i64 (lnB (leap y) m)) ∧ w' = w := by
  have h0 := tmod4 y (by omega)
  have HA := Lib.hid (lnB_2 y m)
  have HB := Lib.hid (lnB_3 y m)
  have HC := Lib.hid (lnB_4 y m hm)
  have HD := Lib.hid (lnB_28 y)
  have HM : ((m : Int) = 2 → m = 2) := by omega
  obtain ⟨h1, h2⟩ := hy
  obtain ⟨h3, h4⟩ := hm
  go_enter Tryd.func35, Tryd.ntmps35
  go_wp2_with fail
  all_goals
    go_ret
    refine ⟨ret_i64 ?_, rfl⟩
    simp only [beq_iff_eq, bne_iff_ne, beq_eq_false_iff_ne, bne_eq_false_iff_eq, ne_eq] at *
    first
    | exact (HA.out ⟨by omega, leap_t (by omega) (by omega)⟩).symm
    | exact (HB.out (by omega)).symm
    | exact (HC.out (by omega)).symm
    | (have hm2 : m = 2 := by omega
       subst hm2
       exact (HD.out (leap_f (by omega))).symm)
set_option maxHeartbeats 2000000 in
set_option maxRecDepth 100000 in
theorem isDate_call (x : Dt) (w : World) (hT : Tab w) :
    Calls Tryd.prog 36 #[x.v] w fun e w' => e = .returned (.bool (decide x.ok)) ∧ Below w.heap.size w w' := by
  obtain ⟨y, m, d⟩ := x
  simp only [Dt.v]
  have HB : Hid (∀ q, Below w.heap.size w ((w.alloc (.cells #[.int .i64 y, .int .i64 m, .int .i64 d] 23)).drewN q)) := Lib.hid (fun q => below_drewN (Joins.below_alloc1 _ _) q)
  have HT : Hid (∀ q, Tab ((w.alloc (.cells #[.int .i64 y, .int .i64 m, .int .i64 d] 23)).drewN q)) := Lib.hid (fun q => hT.keep (HB.out q))
  by_cases h0 : 2000 ≤ y
  · skip
    have e0 : decide (2000 ≤ y) = true := by simpa using h0
    by_cases h1 : y ≤ 2199
    · skip
      have e1 : decide (y ≤ 2199) = true := by simpa using h1
      by_cases h2 : 1 ≤ m
      · skip
        have e2 : decide (1 ≤ m) = true := by simpa using h2
        by_cases h3 : m ≤ 12
        · skip
          have e3 : decide (m ≤ 12) = true := by simpa using h3
          by_cases h4 : 1 ≤ d
          · skip
            have e4 : decide (1 ≤ d) = true := by simpa using h4
            obtain ⟨k, rfl⟩ : ∃ k : Nat, m = (k : Int) := ⟨m.toNat, by omega⟩
            have hkk : ((k : Int)).toNat = k := rfl
            have HL := Lib.hid (fun W hW => length_call y k W (by omega) (by omega) hW)
            have hz : ∃ z, z = lnB (leap y) k := ⟨_, rfl⟩
            obtain ⟨z, hz⟩ := hz
            rw [← hz] at HL
            by_cases h9 : d ≤ z
            · skip
              have e9 : decide (d ≤ z) = true := by simpa using h9
              have hf : Hid (decide (Dt.ok ⟨y, (k : Int), d⟩) = true) := Lib.hid (by rw [decide_eq_true_iff]; exact ⟨h0, h1, h2, h3, h4, by show d ≤ lnB (leap y) ((k : Int)).toNat; rw [hkk, ← hz]; exact h9⟩)
              rw [hf.out]
              clear hz
              go_enter Tryd.func36, Tryd.ntmps36
              go_upto_region 1 with (fail)
              go_quiet ((go_at_call 47; exact Calls.quiet_of_same (HL.out _ (HT.out _))))
              go_wp2_with fail
              go_ret
              exact ⟨rfl, HB.out _⟩
            · skip
              have e9 : decide (d ≤ z) = false := by simpa using h9
              have hf : Hid (decide (Dt.ok ⟨y, (k : Int), d⟩) = false) := Lib.hid (by rw [decide_eq_false_iff_not]; intro h; have h8 : d ≤ lnB (leap y) ((k : Int)).toNat := h.2.2.2.2.2; rw [hkk, ← hz] at h8; exact h9 h8)
              rw [hf.out]
              clear hz
              go_enter Tryd.func36, Tryd.ntmps36
              go_upto_region 1 with (fail)
              go_quiet ((go_at_call 47; exact Calls.quiet_of_same (HL.out _ (HT.out _))))
              go_wp2_with fail
              go_ret
              exact ⟨rfl, HB.out _⟩
          · skip
            have e4 : decide (1 ≤ d) = false := by simpa using h4
            have hf : Hid (decide (Dt.ok ⟨y, m, d⟩) = false) := Lib.hid (by rw [decide_eq_false_iff_not]; intro h; exact h4 h.2.2.2.2.1)
            rw [hf.out]
            go_enter Tryd.func36, Tryd.ntmps36
            go_upto_region 1 with (fail)
            go_quiet (fail)
            go_wp2_with fail
            go_ret
            exact ⟨rfl, HB.out _⟩
        · skip
          have e3 : decide (m ≤ 12) = false := by simpa using h3
          have hf : Hid (decide (Dt.ok ⟨y, m, d⟩) = false) := Lib.hid (by rw [decide_eq_false_iff_not]; intro h; exact h3 h.2.2.2.1)
          rw [hf.out]
          go_enter Tryd.func36, Tryd.ntmps36
          go_upto_region 1 with (fail)
          go_quiet (fail)
          go_wp2_with fail
          go_ret
          exact ⟨rfl, HB.out _⟩
      · skip
        have e2 : decide (1 ≤ m) = false := by simpa using h2
        have hf : Hid (decide (Dt.ok ⟨y, m, d⟩) = false) := Lib.hid (by rw [decide_eq_false_iff_not]; intro h; exact h2 h.2.2.1)
        rw [hf.out]
        go_enter Tryd.func36, Tryd.ntmps36
        go_upto_region 1 with (fail)
        go_quiet (fail)
        go_wp2_with fail
        go_ret
        exact ⟨rfl, HB.out _⟩
    · skip
      have e1 : decide (y ≤ 2199) = false := by simpa using h1
      have hf : Hid (decide (Dt.ok ⟨y, m, d⟩) = false) := Lib.hid (by rw [decide_eq_false_iff_not]; intro h; exact h1 h.2.1)
      rw [hf.out]
      go_enter Tryd.func36, Tryd.ntmps36
      go_upto_region 1 with (fail)
      go_quiet (fail)
      go_wp2_with fail
      go_ret
      exact ⟨rfl, HB.out _⟩
  · skip
    have e0 : decide (2000 ≤ y) = false := by simpa using h0
    have hf : Hid (decide (Dt.ok ⟨y, m, d⟩) = false) := Lib.hid (by rw [decide_eq_false_iff_not]; intro h; exact h0 h.1)
    rw [hf.out]
    go_enter Tryd.func36, Tryd.ntmps36
    go_upto_region 1 with (fail)
    go_quiet (fail)
    go_wp2_with fail
    go_ret
    exact ⟨rfl, HB.out _⟩
set_option maxHeartbeats 2000000 in
set_option maxRecDepth 100000 in
theorem refRight_call (x : Dt) (w : World) :
    Calls Tryd.prog 38 #[x.v] w fun e w' => e = .returned (.bool (decide x.ok)) ∧ Below w.heap.size w w' := by
  obtain ⟨y, m, d⟩ := x
  simp only [Dt.v]
  have HB : Hid (∀ q, Below w.heap.size w ((w.alloc (.cells #[.int .i64 y, .int .i64 m, .int .i64 d] 23)).drewN q)) := Lib.hid (fun q => below_drewN (Joins.below_alloc1 _ _) q)
  by_cases h0 : 2000 ≤ y
  · skip
    have e0 : decide (2000 ≤ y) = true := by simpa using h0
    by_cases h1 : y ≤ 2199
    · skip
      have e1 : decide (y ≤ 2199) = true := by simpa using h1
      by_cases h2 : 1 ≤ m
      · skip
        have e2 : decide (1 ≤ m) = true := by simpa using h2
        by_cases h3 : m ≤ 12
        · skip
          have e3 : decide (m ≤ 12) = true := by simpa using h3
          by_cases h4 : 1 ≤ d
          · skip
            have e4 : decide (1 ≤ d) = true := by simpa using h4
            obtain ⟨k, rfl⟩ : ∃ k : Nat, m = (k : Int) := ⟨m.toNat, by omega⟩
            have hkk : ((k : Int)).toNat = k := rfl
            have HL := Lib.hid (fun W => reflength_call y k W (by omega) (by omega))
            have hz : ∃ z, z = lnB (leap y) k := ⟨_, rfl⟩
            obtain ⟨z, hz⟩ := hz
            rw [← hz] at HL
            by_cases h9 : d ≤ z
            · skip
              have e9 : decide (d ≤ z) = true := by simpa using h9
              have hf : Hid (decide (Dt.ok ⟨y, (k : Int), d⟩) = true) := Lib.hid (by rw [decide_eq_true_iff]; exact ⟨h0, h1, h2, h3, h4, by show d ≤ lnB (leap y) ((k : Int)).toNat; rw [hkk, ← hz]; exact h9⟩)
              rw [hf.out]
              clear hz
              go_enter Tryd.func38, Tryd.ntmps38
              go_upto_region 1 with (fail)
              go_quiet ((go_at_call 35; exact Calls.quiet_of_same (HL.out _)))
              go_wp2_with fail
              go_ret
              exact ⟨rfl, HB.out _⟩
            · skip
              have e9 : decide (d ≤ z) = false := by simpa using h9
              have hf : Hid (decide (Dt.ok ⟨y, (k : Int), d⟩) = false) := Lib.hid (by rw [decide_eq_false_iff_not]; intro h; have h8 : d ≤ lnB (leap y) ((k : Int)).toNat := h.2.2.2.2.2; rw [hkk, ← hz] at h8; exact h9 h8)
              rw [hf.out]
              clear hz
              go_enter Tryd.func38, Tryd.ntmps38
              go_upto_region 1 with (fail)
              go_quiet ((go_at_call 35; exact Calls.quiet_of_same (HL.out _)))
              go_wp2_with fail
              go_ret
              exact ⟨rfl, HB.out _⟩
          · skip
            have e4 : decide (1 ≤ d) = false := by simpa using h4
            have hf : Hid (decide (Dt.ok ⟨y, m, d⟩) = false) := Lib.hid (by rw [decide_eq_false_iff_not]; intro h; exact h4 h.2.2.2.2.1)
            rw [hf.out]
            go_enter Tryd.func38, Tryd.ntmps38
            go_upto_region 1 with (fail)
            go_quiet (fail)
            go_wp2_with fail
            go_ret
            exact ⟨rfl, HB.out _⟩
        · skip
          have e3 : decide (m ≤ 12) = false := by simpa using h3
          have hf : Hid (decide (Dt.ok ⟨y, m, d⟩) = false) := Lib.hid (by rw [decide_eq_false_iff_not]; intro h; exact h3 h.2.2.2.1)
          rw [hf.out]
          go_enter Tryd.func38, Tryd.ntmps38
          go_upto_region 1 with (fail)
          go_quiet (fail)
          go_wp2_with fail
          go_ret
          exact ⟨rfl, HB.out _⟩
      · skip
        have e2 : decide (1 ≤ m) = false := by simpa using h2
        have hf : Hid (decide (Dt.ok ⟨y, m, d⟩) = false) := Lib.hid (by rw [decide_eq_false_iff_not]; intro h; exact h2 h.2.2.1)
        rw [hf.out]
        go_enter Tryd.func38, Tryd.ntmps38
        go_upto_region 1 with (fail)
        go_quiet (fail)
        go_wp2_with fail
        go_ret
        exact ⟨rfl, HB.out _⟩
    · skip
      have e1 : decide (y ≤ 2199) = false := by simpa using h1
      have hf : Hid (decide (Dt.ok ⟨y, m, d⟩) = false) := Lib.hid (by rw [decide_eq_false_iff_not]; intro h; exact h1 h.2.1)
      rw [hf.out]
      go_enter Tryd.func38, Tryd.ntmps38
      go_upto_region 1 with (fail)
      go_quiet (fail)
      go_wp2_with fail
      go_ret
      exact ⟨rfl, HB.out _⟩
  · skip
    have e0 : decide (2000 ≤ y) = false := by simpa using h0
    have hf : Hid (decide (Dt.ok ⟨y, m, d⟩) = false) := Lib.hid (by rw [decide_eq_false_iff_not]; intro h; exact h0 h.1)
    rw [hf.out]
    go_enter Tryd.func38, Tryd.ntmps38
    go_upto_region 1 with (fail)
    go_quiet (fail)
    go_wp2_with fail
    go_ret
    exact ⟨rfl, HB.out _⟩
end Go.Proofs.YtiicjmbnkjociaaDoor
