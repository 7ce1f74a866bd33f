/- Powers in the group: the walk of the law. -/
import Derived.Test.YtcoboacjcnjdoaaH
import Derived.Test.YtcoboacjcnjdoaaI
import Derived.Test.YtcoboacjcnjdoaaG
namespace Go.Proofs.Ytcoboacjcnjdoaa
open Go.RowKit Go.Shelf

set_option maxHeartbeats 8000000 in
set_option maxRecDepth 100000 in
theorem powers_walk (x y i k : Int) (hx : I64 x) (hy : I64 y) (hi : -2147483648 ≤ i ∧ i ≤ 2147483647) (hk : -2147483648 ≤ k ∧ k ≤ 2147483647) (w : World) :
    Calls Try.prog 5 #[.int .i64 x, .int .i64 y, .int .i32 i, .int .i32 k] w fun e w' => e = .returned (.bool true) ∧ Below w.heap.size w w' := by
  have HX := Lib.hid hx
  have HY := Lib.hid hy
  clear hx hy
  obtain ⟨a, ha⟩ : ∃ a, a = elm x := ⟨_, rfl⟩
  obtain ⟨b, hb⟩ : ∃ b, b = elm y := ⟨_, rfl⟩
  have Va : Hid (valid a = true) := Lib.hid (by rw [ha]; exact elm_valid x)
  have Vb : Hid (valid b = true) := Lib.hid (by rw [hb]; exact elm_valid y)
  obtain ⟨hi1, hi2⟩ := hi
  obtain ⟨hk1, hk2⟩ := hk
  obtain ⟨p, hp⟩ : ∃ p, p = a * b % 2147483579 := ⟨_, rfl⟩
  have Vp : Hid (valid p = true) := Lib.hid (by rw [hp]; exact valid_mul Va.out Vb.out)
  obtain ⟨d, hd⟩ : ∃ d, d = a * a % 2147483579 := ⟨_, rfl⟩
  have Vd : Hid (valid d = true) := Lib.hid (by rw [hd]; exact valid_mul Va.out Va.out)
  obtain ⟨u, hu⟩ : ∃ u, u = powQ a i := ⟨_, rfl⟩
  have Vu : Hid (valid u = true) := Lib.hid (by rw [hu]; exact powQ_valid Va.out _)
  obtain ⟨v, hv⟩ : ∃ v, v = powQ a k := ⟨_, rfl⟩
  have Vv : Hid (valid v = true) := Lib.hid (by rw [hv]; exact powQ_valid Va.out _)
  obtain ⟨s, hs⟩ : ∃ s, s = powQ a (i + k) := ⟨_, rfl⟩
  have Vs : Hid (valid s = true) := Lib.hid (by rw [hs]; exact powQ_valid Va.out _)
  obtain ⟨t, ht⟩ : ∃ t, t = powQ a (i * k) := ⟨_, rfl⟩
  have Vt : Hid (valid t = true) := Lib.hid (by rw [ht]; exact powQ_valid Va.out _)
  obtain ⟨r, hr⟩ : ∃ r, r = powQ p i := ⟨_, rfl⟩
  have Vr : Hid (valid r = true) := Lib.hid (by rw [hr]; exact powQ_valid Vp.out _)
  obtain ⟨z, hz⟩ : ∃ z, z = powQ b i := ⟨_, rfl⟩
  have Vz : Hid (valid z = true) := Lib.hid (by rw [hz]; exact powQ_valid Vb.out _)
  have Ha := Lib.hid ha.symm
  have Hb := Lib.hid hb.symm
  have Hp := Lib.hid hp.symm
  have Hd := Lib.hid hd.symm
  have Hu := Lib.hid hu.symm
  have Hv := Lib.hid hv.symm
  have Hs := Lib.hid hs.symm
  have Ht := Lib.hid ht.symm
  have Hr := Lib.hid hr.symm
  have Hz := Lib.hid hz.symm
  have F1 : Hid (powQ a 0 = 1) := Lib.hid (powQ_zero a)
  have F2 : Hid (powQ a 1 = a) := Lib.hid (powQ_one Va.out)
  have F3 : Hid (powQ a 2 = d) := Lib.hid (by rw [hd]; have := powQ_add Va.out 1 1; rw [powQ_one Va.out] at this; exact this.symm)
  have F4 : Hid (powQ a 1073741789 = 1) := Lib.hid (by rw [powQ_mod (k := 0) (by omega), powQ_zero])
  have F5 : Hid (powQ a (i + 1073741789) = u) := Lib.hid (by rw [hu]; exact powQ_mod (by omega))
  have F6 : Hid (powQ a (i - 1073741789) = u) := Lib.hid (by rw [hu]; exact powQ_mod (by omega))
  have F7 : Hid (u * v % 2147483579 = s) := Lib.hid (by rw [hs, hu, hv]; exact powQ_add Va.out i k)
  have F8 : Hid (powQ u k = t) := Lib.hid (by rw [ht, hu]; exact powQ_mul Va.out i k)
  have F10 : Hid (u * z % 2147483579 = r) := Lib.hid (by rw [hr, hp, hu, hz]; exact (powQ_prod a b i).symm)
  clear ha hb hp hd hu hv hs ht hr hz
  have hik : -4611686018427387904 ≤ i * k ∧ i * k ≤ 4611686018427387904 := by
    obtain ⟨A, hA⟩ : ∃ A : Nat, A = i.natAbs := ⟨_, rfl⟩
    obtain ⟨B, hB⟩ : ∃ B : Nat, B = k.natAbs := ⟨_, rfl⟩
    have h1 := Nat.mul_le_mul (show A ≤ 2147483648 by omega) (show B ≤ 2147483648 by omega)
    have h2 : (i * k).natAbs = A * B := by rw [Int.natAbs_mul, hA, hB]
    generalize A * B = C at *
    generalize i * k = D at *
    clear hA hB
    omega
  obtain ⟨hik1, hik2⟩ := hik
  have w1 : wrap64 (i + 1073741789) = i + 1073741789 := by unfold wrap64; omega
  have w2 : wrap64 (i - 1073741789) = i - 1073741789 := by unfold wrap64; omega
  have w3 : wrap64 (i + k) = i + k := by unfold wrap64; omega
  have w4 : wrap64 (i * k) = i * k := by unfold wrap64; omega
  have w5 : wrap64 i = i := by unfold wrap64; omega
  have w6 : wrap64 k = k := by unfold wrap64; omega
  have Ii : Hid (I64 i) := Lib.hid ⟨by omega, by omega⟩
  have Ik : Hid (I64 k) := Lib.hid ⟨by omega, by omega⟩
  have I1 : Hid (I64 (i + 1073741789)) := Lib.hid ⟨by omega, by omega⟩
  have I2 : Hid (I64 (i - 1073741789)) := Lib.hid ⟨by omega, by omega⟩
  have I3 : Hid (I64 (i + k)) := Lib.hid ⟨by omega, by omega⟩
  have I4 : Hid (I64 (i * k)) := Lib.hid ⟨by omega, by omega⟩
  go_enter Try.func5, Try.ntmps5
  go_wp2_with fail
  refine (sane_call w).mono ?_
  rintro e w1 ⟨rfl, hb1⟩
  have HB := Lib.hid hb1
  clear hb1
  go_wp2_with fail
  refine (element_call (x) _ (HX.out)).mono ?_
  rintro e w9 ⟨he, rfl⟩
  rw [Ha.out] at he
  subst he
  go_wp2_with fail
  refine (element_call (y) _ (HY.out)).mono ?_
  rintro e w9 ⟨he, rfl⟩
  rw [Hb.out] at he
  subst he
  go_wp2_with fail
  refine (pow_call (a) (0) _ (Va.out) (i64_small _ (by omega) (by omega))).mono ?_
  rintro e w9 ⟨he, hb⟩
  rw [F1.out] at he
  subst he
  replace HB := Lib.hid (below_next HB.out hb)
  clear hb
  go_wp2_with fail
  refine (pow_call (a) (1) _ (Va.out) (i64_small _ (by omega) (by omega))).mono ?_
  rintro e w9 ⟨he, hb⟩
  rw [F2.out] at he
  subst he
  replace HB := Lib.hid (below_next HB.out hb)
  clear hb
  go_wp2_with fail
  refine (pow_call (a) (2) _ (Va.out) (i64_small _ (by omega) (by omega))).mono ?_
  rintro e w9 ⟨he, hb⟩
  rw [F3.out] at he
  subst he
  replace HB := Lib.hid (below_next HB.out hb)
  clear hb
  go_wp2_with fail
  refine (mul_new a a _ (Va.out) (Va.out)).mono ?_
  rintro e w9 ⟨he, hb⟩
  rw [Hd.out] at he
  subst he
  replace HB := Lib.hid (below_next HB.out hb)
  clear hb
  go_wp2_with fail
  refine (pow_call (a) (1073741789) _ (Va.out) (i64_small _ (by omega) (by omega))).mono ?_
  rintro e w9 ⟨he, hb⟩
  rw [F4.out] at he
  subst he
  replace HB := Lib.hid (below_next HB.out hb)
  clear hb
  go_wp2_with fail
  refine (pow_call (a) (i + 1073741789) _ (Va.out) (I1.out)).mono ?_
  rintro e w9 ⟨he, hb⟩
  rw [F5.out] at he
  subst he
  replace HB := Lib.hid (below_next HB.out hb)
  clear hb
  go_wp2_with fail
  refine (pow_call (a) (i) _ (Va.out) (Ii.out)).mono ?_
  rintro e w9 ⟨he, hb⟩
  rw [Hu.out] at he
  subst he
  replace HB := Lib.hid (below_next HB.out hb)
  clear hb
  go_wp2_with fail
  refine (pow_call (a) (i - 1073741789) _ (Va.out) (I2.out)).mono ?_
  rintro e w9 ⟨he, hb⟩
  rw [F6.out] at he
  subst he
  replace HB := Lib.hid (below_next HB.out hb)
  clear hb
  go_wp2_with fail
  refine (pow_call (a) (i) _ (Va.out) (Ii.out)).mono ?_
  rintro e w9 ⟨he, hb⟩
  rw [Hu.out] at he
  subst he
  replace HB := Lib.hid (below_next HB.out hb)
  clear hb
  go_wp2_with fail
  refine (pow_call (a) (i) _ (Va.out) (Ii.out)).mono ?_
  rintro e w9 ⟨he, hb⟩
  rw [Hu.out] at he
  subst he
  replace HB := Lib.hid (below_next HB.out hb)
  clear hb
  go_wp2_with fail
  refine (pow_call (a) (k) _ (Va.out) (Ik.out)).mono ?_
  rintro e w9 ⟨he, hb⟩
  rw [Hv.out] at he
  subst he
  replace HB := Lib.hid (below_next HB.out hb)
  clear hb
  go_wp2_with fail
  refine (mul_new u v _ (Vu.out) (Vv.out)).mono ?_
  rintro e w9 ⟨he, hb⟩
  rw [F7.out] at he
  subst he
  replace HB := Lib.hid (below_next HB.out hb)
  clear hb
  go_wp2_with fail
  refine (pow_call (a) (i + k) _ (Va.out) (I3.out)).mono ?_
  rintro e w9 ⟨he, hb⟩
  rw [Hs.out] at he
  subst he
  replace HB := Lib.hid (below_next HB.out hb)
  clear hb
  go_wp2_with fail
  refine (pow_call (a) (i) _ (Va.out) (Ii.out)).mono ?_
  rintro e w9 ⟨he, hb⟩
  rw [Hu.out] at he
  subst he
  replace HB := Lib.hid (below_next HB.out hb)
  clear hb
  go_wp2_with fail
  refine (pow_call (u) (k) _ (Vu.out) (Ik.out)).mono ?_
  rintro e w9 ⟨he, hb⟩
  rw [F8.out] at he
  subst he
  replace HB := Lib.hid (below_next HB.out hb)
  clear hb
  go_wp2_with fail
  refine (pow_call (a) (i * k) _ (Va.out) (I4.out)).mono ?_
  rintro e w9 ⟨he, hb⟩
  rw [Ht.out] at he
  subst he
  replace HB := Lib.hid (below_next HB.out hb)
  clear hb
  go_wp2_with fail
  refine (mul_new a b _ (Va.out) (Vb.out)).mono ?_
  rintro e w9 ⟨he, hb⟩
  rw [Hp.out] at he
  subst he
  replace HB := Lib.hid (below_next HB.out hb)
  clear hb
  go_wp2_with fail
  refine (pow_call (p) (i) _ (Vp.out) (Ii.out)).mono ?_
  rintro e w9 ⟨he, hb⟩
  rw [Hr.out] at he
  subst he
  replace HB := Lib.hid (below_next HB.out hb)
  clear hb
  go_wp2_with fail
  refine (pow_call (a) (i) _ (Va.out) (Ii.out)).mono ?_
  rintro e w9 ⟨he, hb⟩
  rw [Hu.out] at he
  subst he
  replace HB := Lib.hid (below_next HB.out hb)
  clear hb
  go_wp2_with fail
  refine (pow_call (b) (i) _ (Vb.out) (Ii.out)).mono ?_
  rintro e w9 ⟨he, hb⟩
  rw [Hz.out] at he
  subst he
  replace HB := Lib.hid (below_next HB.out hb)
  clear hb
  go_wp2_with fail
  refine (mul_new u z _ (Vu.out) (Vz.out)).mono ?_
  rintro e w9 ⟨he, hb⟩
  rw [F10.out] at he
  subst he
  replace HB := Lib.hid (below_next HB.out hb)
  clear hb
  go_wp2_with fail
  go_ret
  exact ⟨rfl, HB.out⟩
end Go.Proofs.Ytcoboacjcnjdoaa
