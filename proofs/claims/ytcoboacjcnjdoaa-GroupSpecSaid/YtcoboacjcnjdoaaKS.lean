/- The specification of the group: the walk of its law. -/
import Derived.Test.YtcoboacjcnjdoaaH
import Derived.Test.YtcoboacjcnjdoaaI
import Derived.Test.YtcoboacjcnjdoaaG
namespace Go.Proofs.Ytcoboacjcnjdoaa
open Go.RowKit Go.Shelf

set_option maxHeartbeats 8000000 in
set_option maxRecDepth 100000 in
theorem spec_walk (a b n : Int) (ha : I64 a) (hb : I64 b) (hn : I64 n) (w : World) :
    Calls Try.prog 3 #[.int .i64 a, .int .i64 b, .int .i64 n] w fun e w' => e = .returned (.bool true) ∧ Below w.heap.size w w' := by
  obtain ⟨c1, c2, HM⟩ : ∃ c1 c2 : Int, Hid (mulT a b = .tuple #[.int .i64 c1, .int .i64 c2]) := by
    unfold mulT
    by_cases h : (valid a && valid b) = true
    · rw [if_pos h]; exact ⟨_, _, rfl⟩
    · rw [if_neg h]; exact ⟨_, _, rfl⟩
  obtain ⟨d1, d2, HP⟩ : ∃ d1 d2 : Int, Hid (powT a n = .tuple #[.int .i64 d1, .int .i64 d2]) := by
    unfold powT
    by_cases h : valid a = true
    · rw [if_pos h]; exact ⟨_, _, rfl⟩
    · rw [if_neg h]; exact ⟨_, _, rfl⟩
  go_enter Try.func3, Try.ntmps3
  go_wp2_with fail
  refine (sane_call w).mono ?_
  rintro e w1 ⟨rfl, hb1⟩
  have HB := Lib.hid hb1
  clear hb1
  go_wp2_with fail
  refine (Mul_call (a) (b) _ (ha) (hb)).mono ?_
  rintro e w9 ⟨he, rfl⟩
  rw [HM.out] at he
  subst he
  go_wp2_with fail
  refine (refMul_call (a) (b) _ (ha) (hb)).mono ?_
  rintro e w9 ⟨he, rfl⟩
  rw [HM.out] at he
  subst he
  go_wp2_with fail
  refine (Pow_call (a) (n) _ (ha) (hn)).mono ?_
  rintro e w9 ⟨he, hb⟩
  rw [HP.out] at he
  subst he
  replace HB := Lib.hid (below_next HB.out hb)
  clear hb
  go_wp2_with fail
  refine (refPow_call (a) (n) _ (ha) (hn)).mono ?_
  rintro e w9 ⟨he, rfl⟩
  rw [HP.out] at he
  subst he
  go_wp2_with fail
  obtain ⟨v, hv⟩ : ∃ v, valid a = v := ⟨_, rfl⟩
  have HV := Lib.hid hv
  clear hv
  refine (Valid_call (a) _ (ha)).mono ?_
  rintro e w9 ⟨he, rfl⟩
  rw [HV.out] at he
  subst he
  go_wp2_with fail
  refine (refValid_call (a) _ (ha)).mono ?_
  rintro e w9 ⟨he, rfl⟩
  rw [HV.out] at he
  subst he
  go_wp2_with fail
  go_ret
  exact ⟨rfl, HB.out⟩
end Go.Proofs.Ytcoboacjcnjdoaa
