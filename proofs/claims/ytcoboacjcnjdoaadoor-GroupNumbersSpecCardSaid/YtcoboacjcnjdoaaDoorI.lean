/- The chapter's examples hold. -/
import Derived.Test.YtcoboacjcnjdoaaDoorF
namespace Go.Proofs.YtcoboacjcnjdoaaDoor
open Go.RowKit Go.Shelf

theorem powT_ok {a n r : Int} (h : valid a = true) (hr : powQ a n = r) : powT a n = .tuple #[.int .i64 r, .int .i64 0] := by unfold powT; rw [if_pos h, hr]
theorem powT_no {a n : Int} (h : valid a = false) : powT a n = .tuple #[.int .i64 0, .int .i64 100] := by unfold powT; rw [if_neg (by rw [h]; exact Bool.false_ne_true)]
theorem mulT_44 : mulT 4 4 = .tuple #[.int .i64 16, .int .i64 0] := by unfold mulT; rw [valid_4]; rfl
theorem mulT_42 : mulT 4 2 = .tuple #[.int .i64 0, .int .i64 100] := by unfold mulT; rw [valid_4, valid_2]; rfl
theorem elT_2 : elT 2 = .tuple #[.int .i64 2147483577, .int .i64 0] := by unfold elT; rw [if_pos (by decide), valid_2]; rfl
theorem elT_0 : elT 0 = .tuple #[.int .i64 0, .int .i64 1] := by unfold elT; rw [if_neg (by decide)]
theorem elT_q : elT 1073741790 = .tuple #[.int .i64 0, .int .i64 1] := by unfold elT; rw [if_neg (by decide)]
theorem numT_p2 : numT 2147483577 = .tuple #[.int .i64 2, .int .i64 0] := by unfold numT; rw [if_pos valid_p2, if_neg (by decide)]; rfl
theorem numT_2 : numT 2 = .tuple #[.int .i64 0, .int .i64 100] := by unfold numT; rw [if_neg (by rw [valid_2]; exact Bool.false_ne_true)]
theorem i64_small (n : Int) (h1 : -4294967296 ≤ n) (h2 : n ≤ 4294967296) : I64 n := ⟨by omega, by omega⟩
set_option maxHeartbeats 8000000 in
set_option maxRecDepth 100000 in
theorem sane_call (w : World) : Calls Tryd.prog 5 #[] w fun e w' => e = .returned (.bool true) ∧ Below w.heap.size w w' := by
  have HB := Lib.hid (Below.refl w.heap.size w)
  go_enter Tryd.func5, Tryd.ntmps5
  go_wp2_with fail
  refine (Pow_call 4 2 _ (i64_small _ (by omega) (by omega)) (i64_small _ (by omega) (by omega))).mono ?_
  rintro e w9 ⟨he, hb⟩
  rw [powT_ok valid_4 powQ_42] at he
  subst he
  replace HB := Lib.hid (below_next HB.out hb)
  clear hb
  go_wp2_with fail
  refine (Pow_call 4 1073741789 _ (i64_small _ (by omega) (by omega)) (i64_small _ (by omega) (by omega))).mono ?_
  rintro e w9 ⟨he, hb⟩
  rw [powT_ok valid_4 powQ_4q] at he
  subst he
  replace HB := Lib.hid (below_next HB.out hb)
  clear hb
  go_wp2_with fail
  refine (Pow_call 4 (-1) _ (i64_small _ (by omega) (by omega)) (i64_small _ (by omega) (by omega))).mono ?_
  rintro e w9 ⟨he, hb⟩
  rw [powT_ok valid_4 powQ_4n] at he
  subst he
  replace HB := Lib.hid (below_next HB.out hb)
  clear hb
  go_wp2_with fail
  refine (Pow_call 0 1 _ (i64_small _ (by omega) (by omega)) (i64_small _ (by omega) (by omega))).mono ?_
  rintro e w9 ⟨he, hb⟩
  rw [powT_no (valid_out (by omega))] at he
  subst he
  replace HB := Lib.hid (below_next HB.out hb)
  clear hb
  go_wp2_with fail
  refine (Mul_call 4 4 _ (i64_small _ (by omega) (by omega)) (i64_small _ (by omega) (by omega))).mono ?_
  rintro e w9 ⟨he, rfl⟩
  rw [mulT_44] at he
  subst he
  go_wp2_with fail
  refine (Mul_call 4 2 _ (i64_small _ (by omega) (by omega)) (i64_small _ (by omega) (by omega))).mono ?_
  rintro e w9 ⟨he, rfl⟩
  rw [mulT_42] at he
  subst he
  go_wp2_with fail
  refine (Element_call 2 _ (i64_small _ (by omega) (by omega))).mono ?_
  rintro e w9 ⟨he, rfl⟩
  rw [elT_2] at he
  subst he
  go_wp2_with fail
  refine (Element_call 0 _ (i64_small _ (by omega) (by omega))).mono ?_
  rintro e w9 ⟨he, rfl⟩
  rw [elT_0] at he
  subst he
  go_wp2_with fail
  refine (Element_call 1073741790 _ (i64_small _ (by omega) (by omega))).mono ?_
  rintro e w9 ⟨he, rfl⟩
  rw [elT_q] at he
  subst he
  go_wp2_with fail
  refine (Number_call 2147483577 _ (i64_small _ (by omega) (by omega))).mono ?_
  rintro e w9 ⟨he, rfl⟩
  rw [numT_p2] at he
  subst he
  go_wp2_with fail
  refine (Number_call 2 _ (i64_small _ (by omega) (by omega))).mono ?_
  rintro e w9 ⟨he, rfl⟩
  rw [numT_2] at he
  subst he
  go_wp2_with fail
  refine (Valid_call 0 _ (i64_small _ (by omega) (by omega))).mono ?_
  rintro e w9 ⟨he, rfl⟩
  rw [valid_out (x := 0) (by omega)] at he
  subst he
  go_wp2_with fail
  refine (Valid_call 2147483579 _ (i64_small _ (by omega) (by omega))).mono ?_
  rintro e w9 ⟨he, rfl⟩
  rw [valid_out (x := 2147483579) (by omega)] at he
  subst he
  go_wp2_with fail
  refine (Valid_call 2 _ (i64_small _ (by omega) (by omega))).mono ?_
  rintro e w9 ⟨he, rfl⟩
  rw [valid_2] at he
  subst he
  go_wp2_with fail
  refine (Valid_call 1 _ (i64_small _ (by omega) (by omega))).mono ?_
  rintro e w9 ⟨he, rfl⟩
  rw [valid_1] at he
  subst he
  go_wp2_with fail
  refine (Valid_call 4 _ (i64_small _ (by omega) (by omega))).mono ?_
  rintro e w9 ⟨he, rfl⟩
  rw [valid_4] at he
  subst he
  go_wp2_with fail
  refine (Valid_call 2147483578 _ (i64_small _ (by omega) (by omega))).mono ?_
  rintro e w9 ⟨he, rfl⟩
  rw [valid_p1] at he
  subst he
  go_wp2_with fail
  go_ret
  exact ⟨rfl, HB.out⟩
end Go.Proofs.YtcoboacjcnjdoaaDoor
