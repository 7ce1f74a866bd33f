/- Whether a disk is valid, and whether it runs. -/
import Derived.Test.YtlaaolbdadempaaE
namespace Go.Proofs.Ytlaaolbdadempaa
open Go.RowKit

def validB (d : Dsk) : Bool := decide (1 ≤ d.secs.length) && (decide (d.secs.length ≤ 4096) && (!anyDam d.secs && (decide (d.pend.length ≤ 4096) && (!anyWrong d.secs.length d.pend && (decide (-1 ≤ d.left) && decide (d.left ≤ 65536))))))
set_option maxHeartbeats 4000000 in
set_option maxRecDepth 100000 in
theorem valid_call (d : Dsk) (v : Value) (w : World) (h : DRest w.heap.size w d v) :
    Calls Try.prog 52 #[v] w fun e w' => e = .returned (.bool (validB d)) ∧ Below w.heap.size w w' := by
  obtain ⟨s, p, rfl, hs, hp⟩ := h
  have HR := Lib.hid (row_new w 25 (dskCells s p d))
  have HB0 := Lib.hid (Joins.below_alloc1 w (.cells (dskCells s p d).toArray 25))
  have HS : Hid (∀ W, Below (w.alloc (.cells (dskCells s p d).toArray 25)).heap.size (w.alloc (.cells (dskCells s p d).toArray 25)) W → Calls Try.prog 76 #[s, .func (.func 75) #[] #[]] W fun e w' => e = .returned (.bool (anyDam d.secs)) ∧ Below W.heap.size W w') :=
    Lib.hid (fun W hW => contains_dam d.secs s W (hs.keep (below_next (Joins.below_alloc1 w _) hW)))
  have HP : Hid (∀ W, Below (w.alloc (.cells (dskCells s p d).toArray 25)).heap.size (w.alloc (.cells (dskCells s p d).toArray 25)) W → Calls Try.prog 77 #[p, .func (.func 74) #[] #[.pointer (some ⟨w.heap.size, 0, none⟩)]] W fun e w' => e = .returned (.bool (anyWrong d.secs.length d.pend)) ∧ Below W.heap.size W w') :=
    Lib.hid (fun W hW => contains_wrong d s p w.heap.size W (hs.keep (below_next (Joins.below_alloc1 w _) hW)) (hp.keep (below_next (Joins.below_alloc1 w _) hW)) ((row_new w 25 (dskCells s p d)).keep hW))
  obtain ⟨a, cap, rfl, hc1, hc2⟩ := hs.shape
  obtain ⟨a2, cap2, rfl, hc3, hc4⟩ := hp.shape
  clear hs hp
  unfold validB dskOf
  unfold dskCells at HR HB0 HS HP ⊢
  obtain ⟨dam, hdam⟩ : ∃ r, r = anyDam d.secs := ⟨_, rfl⟩
  obtain ⟨wro, hwro⟩ : ∃ r, r = anyWrong d.secs.length d.pend := ⟨_, rfl⟩
  rw [← hdam] at HS ⊢
  rw [← hwro] at HP ⊢
  clear hdam hwro
  generalize d.secs.length = n at *
  generalize d.pend.length = m at *
  obtain ⟨se, pe, left, stop⟩ := d
  simp only at HR HB0 HS HP ⊢
  generalize hww : w.alloc (.cells _ 25) = w1 at HB0 HS HP HR
  have HW1 := Lib.hid hww
  clear hww
  by_cases h1 : 1 ≤ n
  · have i1 : (1 : Int) ≤ (n : Int) := by omega
    rw [decide_eq_true h1, Bool.true_and]
    by_cases h2 : n ≤ 4096
    · have i2 : (n : Int) ≤ 4096 := by omega
      rw [decide_eq_true h2, Bool.true_and]
      cases dam
      · rw [Bool.not_false, Bool.true_and]
        by_cases h3 : m ≤ 4096
        · have i3 : (m : Int) ≤ 4096 := by omega
          rw [decide_eq_true h3, Bool.true_and]
          cases wro
          · rw [Bool.not_false, Bool.true_and]
            by_cases h4 : -1 ≤ left
            · rw [decide_eq_true h4, Bool.true_and]
              go_enter Try.func52, Try.ntmps52
              go_wp2_with fail
              rw [HW1.out]
              refine (HS.out _ (Below.refl _ _)).mono ?_
              rintro e w2 ⟨rfl, hb⟩
              have HB2 := Lib.hid (below_next HB0.out hb)
              have HB1 := Lib.hid hb
              have k1 := HR.out.later hb (i := 1) rfl
              have k2 := HR.out.later hb (i := 2) rfl
              clear hb
              go_wp2_with fail
              refine (HP.out _ HB1.out).mono ?_
              rintro e w3 ⟨rfl, hb⟩
              have HB3 := Lib.hid (below_next HB2.out hb)
              have m2 := HR.out.later (below_next HB1.out hb) (i := 2) rfl
              clear hb k1 k2
              go_wp2_with fail
              go_ret
              exact ⟨rfl, HB3.out⟩
            · rw [decide_eq_false h4, Bool.false_and]
              go_enter Try.func52, Try.ntmps52
              go_wp2_with fail
              rw [HW1.out]
              refine (HS.out _ (Below.refl _ _)).mono ?_
              rintro e w2 ⟨rfl, hb⟩
              have HB2 := Lib.hid (below_next HB0.out hb)
              have HB1 := Lib.hid hb
              have k1 := HR.out.later hb (i := 1) rfl
              have k2 := HR.out.later hb (i := 2) rfl
              clear hb
              go_wp2_with fail
              refine (HP.out _ HB1.out).mono ?_
              rintro e w3 ⟨rfl, hb⟩
              have HB3 := Lib.hid (below_next HB2.out hb)
              have m2 := HR.out.later (below_next HB1.out hb) (i := 2) rfl
              clear hb k1 k2
              go_wp2_with fail
              go_ret
              exact ⟨rfl, HB3.out⟩
          · rw [Bool.not_true, Bool.false_and]
            go_enter Try.func52, Try.ntmps52
            go_wp2_with fail
            rw [HW1.out]
            refine (HS.out _ (Below.refl _ _)).mono ?_
            rintro e w2 ⟨rfl, hb⟩
            have HB2 := Lib.hid (below_next HB0.out hb)
            have HB1 := Lib.hid hb
            have k1 := HR.out.later hb (i := 1) rfl
            have k2 := HR.out.later hb (i := 2) rfl
            clear hb
            go_wp2_with fail
            refine (HP.out _ HB1.out).mono ?_
            rintro e w3 ⟨rfl, hb⟩
            have HB3 := Lib.hid (below_next HB2.out hb)
            have m2 := HR.out.later (below_next HB1.out hb) (i := 2) rfl
            clear hb k1 k2
            go_wp2_with fail
            go_ret
            exact ⟨rfl, HB3.out⟩
        · have i3 : ¬ (m : Int) ≤ 4096 := by omega
          rw [decide_eq_false h3, Bool.false_and]
          go_enter Try.func52, Try.ntmps52
          go_wp2_with fail
          rw [HW1.out]
          refine (HS.out _ (Below.refl _ _)).mono ?_
          rintro e w2 ⟨rfl, hb⟩
          have HB2 := Lib.hid (below_next HB0.out hb)
          have HB1 := Lib.hid hb
          have k1 := HR.out.later hb (i := 1) rfl
          have k2 := HR.out.later hb (i := 2) rfl
          clear hb
          go_wp2_with fail
          go_ret
          exact ⟨rfl, HB2.out⟩
      · rw [Bool.not_true, Bool.false_and]
        go_enter Try.func52, Try.ntmps52
        go_wp2_with fail
        rw [HW1.out]
        refine (HS.out _ (Below.refl _ _)).mono ?_
        rintro e w2 ⟨rfl, hb⟩
        have HB2 := Lib.hid (below_next HB0.out hb)
        have HB1 := Lib.hid hb
        have k1 := HR.out.later hb (i := 1) rfl
        have k2 := HR.out.later hb (i := 2) rfl
        clear hb
        go_wp2_with fail
        go_ret
        exact ⟨rfl, HB2.out⟩
    · have i2 : ¬ (n : Int) ≤ 4096 := by omega
      rw [decide_eq_false h2, Bool.false_and]
      go_enter Try.func52, Try.ntmps52
      go_wp2_with fail
      go_ret
      exact ⟨rfl, Joins.below_alloc1 w _⟩
  · have i1 : ¬ (1 : Int) ≤ (n : Int) := by omega
    rw [decide_eq_false h1, Bool.false_and]
    go_enter Try.func52, Try.ntmps52
    go_wp2_with fail
    go_ret
    exact ⟨rfl, Joins.below_alloc1 w _⟩
theorem runs_call (d : Dsk) (v : Value) (w : World) (h : DRest w.heap.size w d v) :
    Calls Try.prog 53 #[v] w fun e w' => e = .returned (.bool (validB d && !d.stop)) ∧ Below w.heap.size w w' := by
  obtain ⟨s, p, rfl, hs, hp⟩ := h
  exact runs_of d s p _ w (Lib.hid (fun W hW => valid_call d _ W ⟨s, p, rfl, hs.keep hW, hp.keep hW⟩))
end Go.Proofs.Ytlaaolbdadempaa
