/- The laws of a group: the walk of the law. -/
import Derived.Test.YtcoboacjcnjdoaaH
import Derived.Test.YtcoboacjcnjdoaaI
import Derived.Test.YtcoboacjcnjdoaaG
namespace Go.Proofs.Ytcoboacjcnjdoaa
open Go.RowKit Go.Shelf

set_option maxHeartbeats 8000000 in
set_option maxRecDepth 100000 in
theorem laws_walk (x y z : Int) (hx : I64 x) (hy : I64 y) (hz : I64 z) (w : World) :
    Calls Try.prog 4 #[.int .i64 x, .int .i64 y, .int .i64 z] w fun e w' => e = .returned (.bool true) ∧ Below w.heap.size w w' := by
  have HX := Lib.hid hx
  have HY := Lib.hid hy
  have HZ := Lib.hid hz
  clear hx hy hz
  obtain ⟨a, ha⟩ : ∃ a, a = elm x := ⟨_, rfl⟩
  obtain ⟨b, hb⟩ : ∃ b, b = elm y := ⟨_, rfl⟩
  obtain ⟨c, hc⟩ : ∃ c, c = elm z := ⟨_, rfl⟩
  have Va : Hid (valid a = true) := Lib.hid (by rw [ha]; exact elm_valid x)
  have Vb : Hid (valid b = true) := Lib.hid (by rw [hb]; exact elm_valid y)
  have Vc : Hid (valid c = true) := Lib.hid (by rw [hc]; exact elm_valid z)
  obtain ⟨p, hp⟩ : ∃ p, p = a * b % 2147483579 := ⟨_, rfl⟩
  have Vp : Hid (valid p = true) := Lib.hid (by rw [hp]; exact valid_mul Va.out Vb.out)
  obtain ⟨q, hq⟩ : ∃ q, q = p * c % 2147483579 := ⟨_, rfl⟩
  have Vq : Hid (valid q = true) := Lib.hid (by rw [hq]; exact valid_mul Vp.out Vc.out)
  obtain ⟨r, hr⟩ : ∃ r, r = b * c % 2147483579 := ⟨_, rfl⟩
  have Vr : Hid (valid r = true) := Lib.hid (by rw [hr]; exact valid_mul Vb.out Vc.out)
  obtain ⟨i, hi⟩ : ∃ i, i = powQ a (-1) := ⟨_, rfl⟩
  have Vi : Hid (valid i = true) := Lib.hid (by rw [hi]; exact powQ_valid Va.out _)
  obtain ⟨j, hj⟩ : ∃ j, j = powQ b (-1) := ⟨_, rfl⟩
  have Vj : Hid (valid j = true) := Lib.hid (by rw [hj]; exact powQ_valid Vb.out _)
  obtain ⟨k, hk⟩ : ∃ k, k = powQ p (-1) := ⟨_, rfl⟩
  have Vk : Hid (valid k = true) := Lib.hid (by rw [hk]; exact powQ_valid Vp.out _)
  have Ha := Lib.hid ha.symm
  have Hb := Lib.hid hb.symm
  have Hc := Lib.hid hc.symm
  have Hp := Lib.hid hp.symm
  have Hq := Lib.hid hq.symm
  have Hr := Lib.hid hr.symm
  have Hi := Lib.hid hi.symm
  have Hj := Lib.hid hj.symm
  have Hk := Lib.hid hk.symm
  have F1 : Hid (b * a % 2147483579 = p) := Lib.hid (by rw [hp, mul_comm_mod])
  have F2 : Hid (a * r % 2147483579 = q) := Lib.hid (by rw [hq, hp, hr, mul_assoc_mod])
  have F3 : Hid (a * 1 % 2147483579 = a) := Lib.hid (mul_one_mod (valid_rp Va.out))
  have F4 : Hid (a * i % 2147483579 = 1) := Lib.hid (by rw [hi]; exact powQ_inv Va.out)
  have F5 : Hid (p * j % 2147483579 = a) := Lib.hid (by rw [hp, hj]; exact mul_back Va.out Vb.out)
  have F6 : Hid (i * j % 2147483579 = k) := Lib.hid (by rw [hk, hp, hi, hj]; exact (powQ_prod a b (-1)).symm)
  clear ha hb hc hp hq hr hi hj hk
  go_enter Try.func4, Try.ntmps4
  go_wp2_with fail
  refine (sane_call w).mono ?_
  rintro e w1 ⟨rfl, hb1⟩
  have HB := Lib.hid hb1
  clear hb1
  go_wp2_with fail
  refine (element_call (x) _ (HX.out)).mono ?_
  rintro e w9 ⟨he, rfl⟩
  rw [Ha.out] at he
  subst he
  go_wp2_with fail
  refine (element_call (y) _ (HY.out)).mono ?_
  rintro e w9 ⟨he, rfl⟩
  rw [Hb.out] at he
  subst he
  go_wp2_with fail
  refine (element_call (z) _ (HZ.out)).mono ?_
  rintro e w9 ⟨he, rfl⟩
  rw [Hc.out] at he
  subst he
  go_wp2_with fail
  refine (mul_new a b _ (Va.out) (Vb.out)).mono ?_
  rintro e w9 ⟨he, hb⟩
  rw [Hp.out] at he
  subst he
  replace HB := Lib.hid (below_next HB.out hb)
  clear hb
  go_wp2_with fail
  refine (Valid_call (a) _ ((valid_rp Va.out).i64)).mono ?_
  rintro e w9 ⟨he, rfl⟩
  rw [Va.out] at he
  subst he
  go_wp2_with fail
  refine (Valid_call (p) _ ((valid_rp Vp.out).i64)).mono ?_
  rintro e w9 ⟨he, rfl⟩
  rw [Vp.out] at he
  subst he
  go_wp2_with fail
  refine (mul_new b a _ (Vb.out) (Va.out)).mono ?_
  rintro e w9 ⟨he, hb⟩
  rw [F1.out] at he
  subst he
  replace HB := Lib.hid (below_next HB.out hb)
  clear hb
  go_wp2_with fail
  refine (mul_new p c _ (Vp.out) (Vc.out)).mono ?_
  rintro e w9 ⟨he, hb⟩
  rw [Hq.out] at he
  subst he
  replace HB := Lib.hid (below_next HB.out hb)
  clear hb
  go_wp2_with fail
  refine (mul_new b c _ (Vb.out) (Vc.out)).mono ?_
  rintro e w9 ⟨he, hb⟩
  rw [Hr.out] at he
  subst he
  replace HB := Lib.hid (below_next HB.out hb)
  clear hb
  go_wp2_with fail
  refine (mul_new a r _ (Va.out) (Vr.out)).mono ?_
  rintro e w9 ⟨he, hb⟩
  rw [F2.out] at he
  subst he
  replace HB := Lib.hid (below_next HB.out hb)
  clear hb
  go_wp2_with fail
  refine (mul_new a 1 _ (Va.out) (valid_1)).mono ?_
  rintro e w9 ⟨he, hb⟩
  rw [F3.out] at he
  subst he
  replace HB := Lib.hid (below_next HB.out hb)
  clear hb
  go_wp2_with fail
  refine (pow_call (a) (-1) _ (Va.out) (i64_small _ (by omega) (by omega))).mono ?_
  rintro e w9 ⟨he, hb⟩
  rw [Hi.out] at he
  subst he
  replace HB := Lib.hid (below_next HB.out hb)
  clear hb
  go_wp2_with fail
  refine (mul_new a i _ (Va.out) (Vi.out)).mono ?_
  rintro e w9 ⟨he, hb⟩
  rw [F4.out] at he
  subst he
  replace HB := Lib.hid (below_next HB.out hb)
  clear hb
  go_wp2_with fail
  refine (mul_new a b _ (Va.out) (Vb.out)).mono ?_
  rintro e w9 ⟨he, hb⟩
  rw [Hp.out] at he
  subst he
  replace HB := Lib.hid (below_next HB.out hb)
  clear hb
  go_wp2_with fail
  refine (pow_call (b) (-1) _ (Vb.out) (i64_small _ (by omega) (by omega))).mono ?_
  rintro e w9 ⟨he, hb⟩
  rw [Hj.out] at he
  subst he
  replace HB := Lib.hid (below_next HB.out hb)
  clear hb
  go_wp2_with fail
  refine (mul_new p j _ (Vp.out) (Vj.out)).mono ?_
  rintro e w9 ⟨he, hb⟩
  rw [F5.out] at he
  subst he
  replace HB := Lib.hid (below_next HB.out hb)
  clear hb
  go_wp2_with fail
  refine (pow_call (p) (-1) _ (Vp.out) (i64_small _ (by omega) (by omega))).mono ?_
  rintro e w9 ⟨he, hb⟩
  rw [Hk.out] at he
  subst he
  replace HB := Lib.hid (below_next HB.out hb)
  clear hb
  go_wp2_with fail
  refine (pow_call (a) (-1) _ (Va.out) (i64_small _ (by omega) (by omega))).mono ?_
  rintro e w9 ⟨he, hb⟩
  rw [Hi.out] at he
  subst he
  replace HB := Lib.hid (below_next HB.out hb)
  clear hb
  go_wp2_with fail
  refine (pow_call (b) (-1) _ (Vb.out) (i64_small _ (by omega) (by omega))).mono ?_
  rintro e w9 ⟨he, hb⟩
  rw [Hj.out] at he
  subst he
  replace HB := Lib.hid (below_next HB.out hb)
  clear hb
  go_wp2_with fail
  refine (mul_new i j _ (Vi.out) (Vj.out)).mono ?_
  rintro e w9 ⟨he, hb⟩
  rw [F6.out] at he
  subst he
  replace HB := Lib.hid (below_next HB.out hb)
  clear hb
  go_wp2_with fail
  go_ret
  exact ⟨rfl, HB.out⟩
end Go.Proofs.Ytcoboacjcnjdoaa
