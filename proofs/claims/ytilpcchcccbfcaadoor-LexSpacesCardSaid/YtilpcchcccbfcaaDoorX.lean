/- The chapter's examples: the statements' own check returns true. -/
import Derived.Test.YtilpcchcccbfcaaDoorW
namespace Go.Proofs.YtilpcchcccbfcaaDoor
open Go.RowKit

set_option maxHeartbeats 8000000 in
set_option maxRecDepth 100000 in
theorem sane_call (w : World) (hT : Laid w) :
    Calls Tryd.prog 11 #[] w fun e w' => e = .returned (.bool true) ∧ Below w.heap.size w w' := by
  have HT : Hid (∀ W, Below w.heap.size w W → Laid W) := fun W hb => hT.keep hb
  have HL : ∀ (s : ByteArray) (ts : List Tok) (p c n : Nat), lexR s = (ts, p, c) → ts.length = n → s.size ≤ 281474976710656 → Hid (∀ W, Below w.heap.size w W → Calls Tryd.prog 12 #[.string s] W fun e w' => ∃ a cap, e = .returned (.tuple #[.slice a n cap, .int .i64 (p : Int), .int .i64 (c : Int)]) ∧ TRest w'.heap.size w' ts (.slice a n cap) ∧ Below W.heap.size W w') :=
    fun s ts p c n h hn hs => Lib.hid (fun W hb => lex_of h n hn W hs (HT.out W hb))
  have HL1 := HL x1 t1 0 0 3 r1 rfl (by decide)
  have HL2 := HL x2 [] 0 30 0 r2 rfl (by decide)
  have HL3 := HL x3 t3 0 0 1 r3 rfl (by decide)
  have HL4 := HL x4 t4 0 0 1 r4 rfl (by decide)
  have HL5 := HL x5 [] 2 30 0 r5 rfl (by decide)
  have HL6 := HL x6 t6 0 0 3 r6 rfl (by decide)
  have HL7 := HL x7 [] 0 0 0 r7 rfl (by decide)
  have HB := Lib.hid (Below.refl w.heap.size w)
  clear hT HL
  go_enter Tryd.func11, Tryd.ntmps11
  go_wp2_with fail
  refine (HL1.out _ HB.out).mono ?_
  rintro e w1 ⟨va1, vc1, rfl, hr, hb⟩
  have H1 := Lib.hid hr
  have HB := Lib.hid (below_next HB.out hb)
  clear hr hb HL1
  go_wp2_with fail
  have HBA := Lib.hid (below_next HB.out (Joins.below_alloc1 w1 (.cells (cellsT t1).toArray 35)))
  have HW := Lib.hid (trest_alloc w1 t1 3 rfl (by omega))
  have H1 := Lib.hid (H1.out.keep (Joins.below_alloc1 w1 (.cells (cellsT t1).toArray 35)))
  refine (HL2.out _ HBA.out).mono ?_
  rintro e w2 ⟨va2, vc2, rfl, hr, hb⟩
  have HB := Lib.hid (below_next HBA.out hb)
  have H1 := Lib.hid (H1.out.keep hb)
  have HW := Lib.hid (HW.out.keep hb)
  clear hr hb HL2 HBA
  go_wp2_with fail
  refine (HL3.out _ HB.out).mono ?_
  rintro e w3 ⟨va3, vc3, rfl, hr, hb⟩
  have H3 := Lib.hid hr
  have HB := Lib.hid (below_next HB.out hb)
  have H1 := Lib.hid (H1.out.keep hb)
  have HW := Lib.hid (HW.out.keep hb)
  clear hr hb HL3
  go_wp2_with fail
  refine (HL4.out _ HB.out).mono ?_
  rintro e w4 ⟨va4, vc4, rfl, hr, hb⟩
  have H4 := Lib.hid hr
  have HB := Lib.hid (below_next HB.out hb)
  have H1 := Lib.hid (H1.out.keep hb)
  have H3 := Lib.hid (H3.out.keep hb)
  have HW := Lib.hid (HW.out.keep hb)
  clear hr hb HL4
  go_wp2_with fail
  refine (HL5.out _ HB.out).mono ?_
  rintro e w5 ⟨va5, vc5, rfl, hr, hb⟩
  have HB := Lib.hid (below_next HB.out hb)
  have H1 := Lib.hid (H1.out.keep hb)
  have H3 := Lib.hid (H3.out.keep hb)
  have H4 := Lib.hid (H4.out.keep hb)
  have HW := Lib.hid (HW.out.keep hb)
  clear hr hb HL5
  go_wp2_with fail
  refine (HL6.out _ HB.out).mono ?_
  rintro e w6 ⟨va6, vc6, rfl, hr, hb⟩
  have H6 := Lib.hid hr
  have HB := Lib.hid (below_next HB.out hb)
  have H1 := Lib.hid (H1.out.keep hb)
  have H3 := Lib.hid (H3.out.keep hb)
  have H4 := Lib.hid (H4.out.keep hb)
  have HW := Lib.hid (HW.out.keep hb)
  clear hr hb HL6
  go_wp2_with fail
  have HTX := Text_call t6 _ w6 H6.out (by decide) ok6 (by rw [j6]; omega) (HT.out _ HB.out)
  rw [u6] at HTX
  refine HTX.mono ?_
  clear HTX
  rintro e w7 ⟨rfl, hb⟩
  have HB := Lib.hid (below_next HB.out hb)
  have H1 := Lib.hid (H1.out.keep hb)
  have H3 := Lib.hid (H3.out.keep hb)
  have H4 := Lib.hid (H4.out.keep hb)
  have H6 := Lib.hid (H6.out.keep hb)
  have HW := Lib.hid (HW.out.keep hb)
  clear hb
  unfold str
  go_wp2_with fail
  refine (HL7.out _ HB.out).mono ?_
  rintro e w8 ⟨va7, vc7, rfl, hr, hb⟩
  have HB := Lib.hid (below_next HB.out hb)
  have H1 := Lib.hid (H1.out.keep hb)
  have H3 := Lib.hid (H3.out.keep hb)
  have H4 := Lib.hid (H4.out.keep hb)
  have H6 := Lib.hid (H6.out.keep hb)
  have HW := Lib.hid (HW.out.keep hb)
  clear hr hb HL7
  go_wp2_with fail
  have HBA := Lib.hid (below_next HB.out (Joins.below_alloc1 w8 (.cells (cellsT t0).toArray 35)))
  have HW0 := Lib.hid (trest_alloc w8 t0 1 rfl (by omega))
  have H1 := Lib.hid (H1.out.keep (Joins.below_alloc1 w8 (.cells (cellsT t0).toArray 35)))
  have H3 := Lib.hid (H3.out.keep (Joins.below_alloc1 w8 (.cells (cellsT t0).toArray 35)))
  have H4 := Lib.hid (H4.out.keep (Joins.below_alloc1 w8 (.cells (cellsT t0).toArray 35)))
  have H6 := Lib.hid (H6.out.keep (Joins.below_alloc1 w8 (.cells (cellsT t0).toArray 35)))
  have HW := Lib.hid (HW.out.keep (Joins.below_alloc1 w8 (.cells (cellsT t0).toArray 35)))
  have HTX := Text_call t0 _ _ HW0.out (by decide) ok0 (by rw [j0]; omega) (HT.out _ HBA.out)
  rw [u0] at HTX
  refine HTX.mono ?_
  clear HTX
  rintro e w9 ⟨rfl, hb⟩
  have HB := Lib.hid (below_next HBA.out hb)
  have H1 := Lib.hid (H1.out.keep hb)
  have H3 := Lib.hid (H3.out.keep hb)
  have H4 := Lib.hid (H4.out.keep hb)
  have H6 := Lib.hid (H6.out.keep hb)
  have HW := Lib.hid (HW.out.keep hb)
  clear hb HBA HW0
  unfold str
  go_wp2_with fail
  have HEQ := equal_call t1 t1 _ _ w9 H1.out HW.out
  rw [show decide (t1 = t1) = true from by simp] at HEQ
  refine HEQ.mono ?_
  clear HEQ
  rintro e w10 ⟨rfl, hb⟩
  have HB := Lib.hid (below_next HB.out hb)
  have H4 := Lib.hid (H4.out.keep hb)
  have H6 := Lib.hid (H6.out.keep hb)
  have h3 := H3.out.keep hb
  obtain ⟨b3, o3, rfl, _, hc3⟩ := tok_cells4 h3 (k := 0) (t := ⟨2, [], 1099511627776, 0⟩) rfl
  obtain ⟨b4, o4, rfl, _, hc4⟩ := tok_cells4 H4.out (k := 0) (t := ⟨1, [97], 0, 0⟩) rfl
  have c3 := (hc3 w10 (Below.refl _ _)).2.2.1
  have c4 := (hc4 w10 (Below.refl _ _)).2.1
  simp only [Nat.zero_mul, Nat.add_zero] at c3 c4
  have HN1 : Hid (Calls Tryd.prog 20 #[.string ⟨#[66, 95, 49, 50]⟩] w10 fun e w' => e = .returned (.bool true) ∧ w10 = w') := Lib.hid (by
    have := name_call ⟨#[66, 95, 49, 50]⟩ w10 (by decide) (HT.out _ HB.out).cls
    rwa [show isName (bs ⟨#[66, 95, 49, 50]⟩) = true from n1] at this)
  have HN2 : Hid (Calls Tryd.prog 20 #[.string ⟨#[95, 49, 50]⟩] w10 fun e w' => e = .returned (.bool false) ∧ w10 = w') := Lib.hid (by
    have := name_call ⟨#[95, 49, 50]⟩ w10 (by decide) (HT.out _ HB.out).cls
    rwa [show isName (bs ⟨#[95, 49, 50]⟩) = false from n2] at this)
  clear hb h3 hc3 hc4 H3 H1 HW
  go_wp2_with fail
  refine HN1.out.mono ?_
  rintro e w' ⟨rfl, rfl⟩
  go_wp2_with fail
  refine HN2.out.mono ?_
  rintro e w' ⟨rfl, rfl⟩
  go_wp2_with fail
  have HSM := Same_call t4 t6 _ _ w10 H4.out H6.out
  rw [s46] at HSM
  refine HSM.mono ?_
  clear HSM HN1 HN2
  rintro e w11 ⟨rfl, hb⟩
  have HB := Lib.hid (below_next HB.out hb)
  have H4 := Lib.hid (H4.out.keep hb)
  clear hb
  go_wp2_with fail
  have HSM := Same_call t4 t9 _ _ _ (H4.out.keep (Joins.below_alloc1 w11 (.cells (cellsT t9).toArray 35))) (trest_alloc w11 t9 1 rfl (by omega))
  rw [s49] at HSM
  refine HSM.mono ?_
  clear HSM
  rintro e w12 ⟨rfl, hb⟩
  have HB := Lib.hid (below_next (below_next HB.out (Joins.below_alloc1 w11 (.cells (cellsT t9).toArray 35))) hb)
  clear hb
  go_wp2_with fail
  go_ret
  exact ⟨rfl, HB.out⟩
end Go.Proofs.YtilpcchcccbfcaaDoor
