/- The laws of a field, and the specification of numbers. -/
import Derived.Test.YtbigkcemcdokaaaJ
namespace Go.Proofs.Ytbigkcemcdokaaa
open Go.RowKit

set_option maxHeartbeats 4000000 in
set_option maxRecDepth 100000 in
theorem spec_walk (a b : Int) (ha : I64 a) (hb : I64 b) (w : World) :
    Calls Try.prog 3 #[.int .i64 a, .int .i64 b] w fun e w' => e = .returned (.bool true) ∧ Below w.heap.size w w' := by
  obtain ⟨i1, i2, HV⟩ : ∃ i1 i2 : Int, Hid (invV a = .tuple #[.int .i64 i1, .int .i64 i2]) := by
    unfold invV
    by_cases h : a % 1073741789 = 0
    · rw [if_pos h]; exact ⟨_, _, rfl⟩
    · rw [if_neg h]; exact ⟨_, _, rfl⟩
  go_enter Try.func3, Try.ntmps3
  go_wp2_with fail
  refine (sane_call w).mono ?_
  rintro e w1 ⟨rfl, hb1⟩
  have HB := Lib.hid hb1
  clear hb1
  go_wp2_with fail
  refine (Inverse_call a _ ha).mono ?_
  rintro e w9 ⟨he, rfl⟩
  rw [HV.out] at he
  subst he
  go_wp2_with fail
  refine (refInverse_call a _ ha).mono ?_
  rintro e w9 ⟨he, rfl⟩
  rw [HV.out] at he
  subst he
  go_wp2_with fail
  refine (mod_call a _ ha).mono ?_
  rintro e w9 ⟨rfl, rfl⟩
  go_wp2_with fail
  refine (refmod_call a _ ha).mono ?_
  rintro e w9 ⟨rfl, rfl⟩
  go_wp2_with fail
  refine (add_call a b _ ha hb).mono ?_
  rintro e w9 ⟨rfl, hb1⟩
  replace HB := Lib.hid (below_next HB.out hb1)
  clear hb1
  go_wp2_with fail
  refine (refadd_call a b _ ha hb).mono ?_
  rintro e w9 ⟨rfl, rfl⟩
  go_wp2_with fail
  refine (mul_call a b _ ha hb).mono ?_
  rintro e w9 ⟨rfl, rfl⟩
  go_wp2_with fail
  refine (refmul_call a b _ ha hb).mono ?_
  rintro e w9 ⟨rfl, rfl⟩
  go_wp2_with fail
  go_ret
  exact ⟨rfl, HB.out⟩

theorem laws_facts (a b c : Int) (x y z s p t u q r m k : Int) (hx : x = a % 1073741789) (hy : y = b % 1073741789) (hz : z = c % 1073741789) (hs : s = (a + b) % 1073741789) (hp : p = a * b % 1073741789) (ht : t = (a + b + c) % 1073741789) (hu : u = (b + c) % 1073741789) (hq : q = a * b * c % 1073741789) (hr : r = b * c % 1073741789) (hm : m = a * (b + c) % 1073741789) (hk : k = a * c % 1073741789) :
    x % 1073741789 = x ∧ (y + x) % 1073741789 = s ∧ y * x % 1073741789 = p ∧ (s + c) % 1073741789 = t ∧ (a + u) % 1073741789 = t ∧ p * c % 1073741789 = q ∧ a * r % 1073741789 = q ∧ a * u % 1073741789 = m ∧ (p + k) % 1073741789 = m ∧ (a + 0) % 1073741789 = x ∧ a * 1 % 1073741789 = x ∧ (x + -x) % 1073741789 = 0 ∧ (p = 0 ↔ x = 0 ∨ y = 0) := by
  subst hx hy hz hs hp ht hu hq hr hm hk
  have cm := cg_mod
  refine ⟨by omega, by omega, ?_, by omega, by omega, ?_, ?_, ?_, ?_, by omega, by omega, by omega, ?_⟩
  · exact ((cm b).mul (cm a)).eq.trans (by rw [Int.mul_comm])
  · exact ((cm (a * b)).mul (Cg.refl c)).eq
  · exact ((Cg.refl a).mul (cm (b * c))).eq.trans (by rw [Int.mul_assoc])
  · exact ((Cg.refl a).mul (cm (b + c))).eq
  · exact ((cm (a * b)).add (cm (a * c))).eq.trans (by rw [Int.mul_add])
  · constructor
    · intro h
      rcases cg_mul_zero (cg_zero.2 h) with h | h
      · exact .inl (cg_zero.1 h)
      · exact .inr (cg_zero.1 h)
    · rintro (h | h)
      · have := ((cg_zero.2 h).mul (Cg.refl b)).eq; rwa [Int.zero_mul] at this
      · have := ((Cg.refl a).mul (cg_zero.2 h)).eq; rwa [Int.mul_zero] at this
theorem sub_facts (a x : Int) (ha : I64 a) (hx : x = a % 1073741789) :
    (0 ≤ a ∧ wrap64 (a - x) = a - x ∧ (a - x).tmod 1073741789 = 0) ∨ (¬ 0 ≤ a ∧ (wrap64 (a - x)).tmod 1073741789 = 0) ∨ (¬ 0 ≤ a ∧ ¬ (wrap64 (a - x)).tmod 1073741789 = 0) := by
  by_cases h : 0 ≤ a
  · left
    obtain ⟨h1, h2⟩ := ha
    refine ⟨h, by unfold wrap64; omega, ?_⟩
    have := tmod_or (a - x)
    omega
  · right
    by_cases h2 : (wrap64 (a - x)).tmod 1073741789 = 0
    · exact .inl ⟨h, h2⟩
    · exact .inr ⟨h, h2⟩
set_option maxHeartbeats 8000000 in
set_option maxRecDepth 100000 in
theorem laws_walk (a b c : Int) (ha : I64 a) (hb : I64 b) (hc : I64 c) (w : World) :
    Calls Try.prog 4 #[.int .i64 a, .int .i64 b, .int .i64 c] w fun e w' => e = .returned (.bool true) ∧ Below w.heap.size w w' := by
  obtain ⟨x, hx⟩ : ∃ x, x = a % 1073741789 := ⟨_, rfl⟩
  obtain ⟨y, hy⟩ : ∃ y, y = b % 1073741789 := ⟨_, rfl⟩
  obtain ⟨z, hz⟩ : ∃ z, z = c % 1073741789 := ⟨_, rfl⟩
  obtain ⟨s, hs⟩ : ∃ s, s = (a + b) % 1073741789 := ⟨_, rfl⟩
  obtain ⟨p, hp⟩ : ∃ p, p = a * b % 1073741789 := ⟨_, rfl⟩
  obtain ⟨t, ht⟩ : ∃ t, t = (a + b + c) % 1073741789 := ⟨_, rfl⟩
  obtain ⟨u, hu⟩ : ∃ u, u = (b + c) % 1073741789 := ⟨_, rfl⟩
  obtain ⟨q, hq⟩ : ∃ q, q = a * b * c % 1073741789 := ⟨_, rfl⟩
  obtain ⟨r, hr⟩ : ∃ r, r = b * c % 1073741789 := ⟨_, rfl⟩
  obtain ⟨m, hm⟩ : ∃ m, m = a * (b + c) % 1073741789 := ⟨_, rfl⟩
  obtain ⟨k, hk⟩ : ∃ k, k = a * c % 1073741789 := ⟨_, rfl⟩
  obtain ⟨f1, f2, f3, f4, f5, f6, f7, f8, f9, f10, f11, f12, f13⟩ := laws_facts a b c x y z s p t u q r m k hx hy hz hs hp ht hu hq hr hm hk
  have HSUB := Lib.hid (sub_facts a x ha hx)
  have Rx : 0 ≤ x ∧ x < 1073741789 := by rw [hx]; exact mod_rng _
  have Ix : I64 x := ⟨by omega, by omega⟩
  have Hx := Lib.hid hx.symm
  replace Rx := Lib.hid Rx
  have Ry : 0 ≤ y ∧ y < 1073741789 := by rw [hy]; exact mod_rng _
  have Iy : I64 y := ⟨by omega, by omega⟩
  have Hy := Lib.hid hy.symm
  replace Ry := Lib.hid Ry
  have Rz : 0 ≤ z ∧ z < 1073741789 := by rw [hz]; exact mod_rng _
  have Iz : I64 z := ⟨by omega, by omega⟩
  have Hz := Lib.hid hz.symm
  replace Rz := Lib.hid Rz
  have Rs : 0 ≤ s ∧ s < 1073741789 := by rw [hs]; exact mod_rng _
  have Is : I64 s := ⟨by omega, by omega⟩
  have Hs := Lib.hid hs.symm
  replace Rs := Lib.hid Rs
  have Rp : 0 ≤ p ∧ p < 1073741789 := by rw [hp]; exact mod_rng _
  have Ip : I64 p := ⟨by omega, by omega⟩
  have Hp := Lib.hid hp.symm
  replace Rp := Lib.hid Rp
  have Rt : 0 ≤ t ∧ t < 1073741789 := by rw [ht]; exact mod_rng _
  have It : I64 t := ⟨by omega, by omega⟩
  have Ht := Lib.hid ht.symm
  replace Rt := Lib.hid Rt
  have Ru : 0 ≤ u ∧ u < 1073741789 := by rw [hu]; exact mod_rng _
  have Iu : I64 u := ⟨by omega, by omega⟩
  have Hu := Lib.hid hu.symm
  replace Ru := Lib.hid Ru
  have Rq : 0 ≤ q ∧ q < 1073741789 := by rw [hq]; exact mod_rng _
  have Iq : I64 q := ⟨by omega, by omega⟩
  have Hq := Lib.hid hq.symm
  replace Rq := Lib.hid Rq
  have Rr : 0 ≤ r ∧ r < 1073741789 := by rw [hr]; exact mod_rng _
  have Ir : I64 r := ⟨by omega, by omega⟩
  have Hr := Lib.hid hr.symm
  replace Rr := Lib.hid Rr
  have Rm : 0 ≤ m ∧ m < 1073741789 := by rw [hm]; exact mod_rng _
  have Im : I64 m := ⟨by omega, by omega⟩
  have Hm := Lib.hid hm.symm
  replace Rm := Lib.hid Rm
  have Rk : 0 ≤ k ∧ k < 1073741789 := by rw [hk]; exact mod_rng _
  have Ik : I64 k := ⟨by omega, by omega⟩
  have Hk := Lib.hid hk.symm
  replace Rk := Lib.hid Rk
  have F1 := Lib.hid f1
  have F2 := Lib.hid f2
  have F3 := Lib.hid f3
  have F4 := Lib.hid f4
  have F5 := Lib.hid f5
  have F6 := Lib.hid f6
  have F7 := Lib.hid f7
  have F8 := Lib.hid f8
  have F9 := Lib.hid f9
  have F10 := Lib.hid f10
  have F11 := Lib.hid f11
  have F12 := Lib.hid f12
  have F13 := Lib.hid f13
  have In : I64 (-x) := ⟨by have := Rx.out; omega, by have := Rx.out; omega⟩
  have Hw : wrap64 (-x) = -x := by have := Rx.out; unfold wrap64; omega
  have I0 : I64 0 := ⟨by omega, by omega⟩
  have I1 : I64 1 := ⟨by omega, by omega⟩
  have HINV : Hid (x = 0 → invV a = .tuple #[.int .i64 0, .int .i64 90]) := Lib.hid (fun h => by unfold invV; rw [if_pos (by rw [← hx]; exact h)])
  have HINV2 : Hid (¬ x = 0 → invV a = .tuple #[.int .i64 (finv a), .int .i64 0]) := Lib.hid (fun h => by unfold invV; rw [if_neg (by rw [← hx]; exact h)])
  have HINV3 : Hid (¬ x = 0 → a * finv a % 1073741789 = 1) := Lib.hid (fun h => (finv_mul a (fun h0 => h (by rw [hx]; exact cg_zero.1 h0))).eq)
  have Rf := finv_rng a
  have If : I64 (finv a) := ⟨by omega, by omega⟩
  replace Rf := Lib.hid Rf
  generalize finv a = fi at *
  clear hx hy hz hs hp ht hu hq hr hm hk f1 f2 f3 f4 f5 f6 f7 f8 f9 f10 f11 f12 f13
  go_enter Try.func4, Try.ntmps4
  go_wp2_with fail
  refine (sane_call w).mono ?_
  rintro e w1 ⟨rfl, hb1⟩
  have HB := Lib.hid hb1
  clear hb1
  go_wp2_with fail
  refine (mod_call a _ ha).mono ?_
  rintro e w9 ⟨he, rfl⟩
  rw [Hx.out] at he
  subst he
  go_wp2_with fail
  refine (mod_call b _ hb).mono ?_
  rintro e w9 ⟨he, rfl⟩
  rw [Hy.out] at he
  subst he
  go_wp2_with fail
  refine (mod_call c _ hc).mono ?_
  rintro e w9 ⟨he, rfl⟩
  rw [Hz.out] at he
  subst he
  go_wp2_with fail
  refine (in_call x _ Rx.out).mono ?_
  rintro e w9 ⟨rfl, rfl⟩
  go_wp2_with fail
  refine (in_call y _ Ry.out).mono ?_
  rintro e w9 ⟨rfl, rfl⟩
  go_wp2_with fail
  refine (in_call z _ Rz.out).mono ?_
  rintro e w9 ⟨rfl, rfl⟩
  go_wp2_with fail
  refine (mod_call x _ Ix).mono ?_
  rintro e w9 ⟨he, rfl⟩
  rw [F1.out] at he
  subst he
  rcases HSUB.out with ⟨g1, g2, g3⟩ | ⟨g1, g2⟩ | ⟨g1, g2⟩
  all_goals
    go_wp2_with fail
    refine (add_call a b _ ha hb).mono ?_
    rintro e w9 ⟨he, hb⟩
    rw [Hs.out] at he
    subst he
    replace HB := Lib.hid (below_next HB.out hb)
    clear hb
    go_wp2_with fail
    refine (add_call y x _ Iy Ix).mono ?_
    rintro e w9 ⟨he, hb⟩
    rw [F2.out] at he
    subst he
    replace HB := Lib.hid (below_next HB.out hb)
    clear hb
    go_wp2_with fail
    refine (mul_call a b _ ha hb).mono ?_
    rintro e w9 ⟨he, rfl⟩
    rw [Hp.out] at he
    subst he
    go_wp2_with fail
    refine (mul_call y x _ Iy Ix).mono ?_
    rintro e w9 ⟨he, rfl⟩
    rw [F3.out] at he
    subst he
    go_wp2_with fail
    refine (add_call a b _ ha hb).mono ?_
    rintro e w9 ⟨he, hb⟩
    rw [Hs.out] at he
    subst he
    replace HB := Lib.hid (below_next HB.out hb)
    clear hb
    go_wp2_with fail
    refine (add_call s c _ Is hc).mono ?_
    rintro e w9 ⟨he, hb⟩
    rw [F4.out] at he
    subst he
    replace HB := Lib.hid (below_next HB.out hb)
    clear hb
    go_wp2_with fail
    refine (add_call b c _ hb hc).mono ?_
    rintro e w9 ⟨he, hb⟩
    rw [Hu.out] at he
    subst he
    replace HB := Lib.hid (below_next HB.out hb)
    clear hb
    go_wp2_with fail
    refine (add_call a u _ ha Iu).mono ?_
    rintro e w9 ⟨he, hb⟩
    rw [F5.out] at he
    subst he
    replace HB := Lib.hid (below_next HB.out hb)
    clear hb
    go_wp2_with fail
    refine (mul_call a b _ ha hb).mono ?_
    rintro e w9 ⟨he, rfl⟩
    rw [Hp.out] at he
    subst he
    go_wp2_with fail
    refine (mul_call p c _ Ip hc).mono ?_
    rintro e w9 ⟨he, rfl⟩
    rw [F6.out] at he
    subst he
    go_wp2_with fail
    refine (mul_call b c _ hb hc).mono ?_
    rintro e w9 ⟨he, rfl⟩
    rw [Hr.out] at he
    subst he
    go_wp2_with fail
    refine (mul_call a r _ ha Ir).mono ?_
    rintro e w9 ⟨he, rfl⟩
    rw [F7.out] at he
    subst he
    go_wp2_with fail
    refine (add_call b c _ hb hc).mono ?_
    rintro e w9 ⟨he, hb⟩
    rw [Hu.out] at he
    subst he
    replace HB := Lib.hid (below_next HB.out hb)
    clear hb
    go_wp2_with fail
    refine (mul_call a u _ ha Iu).mono ?_
    rintro e w9 ⟨he, rfl⟩
    rw [F8.out] at he
    subst he
    go_wp2_with fail
    refine (mul_call a b _ ha hb).mono ?_
    rintro e w9 ⟨he, rfl⟩
    rw [Hp.out] at he
    subst he
    go_wp2_with fail
    refine (mul_call a c _ ha hc).mono ?_
    rintro e w9 ⟨he, rfl⟩
    rw [Hk.out] at he
    subst he
    go_wp2_with fail
    refine (add_call p k _ Ip Ik).mono ?_
    rintro e w9 ⟨he, hb⟩
    rw [F9.out] at he
    subst he
    replace HB := Lib.hid (below_next HB.out hb)
    clear hb
    go_wp2_with fail
    refine (add_call a 0 _ ha I0).mono ?_
    rintro e w9 ⟨he, hb⟩
    rw [F10.out] at he
    subst he
    replace HB := Lib.hid (below_next HB.out hb)
    clear hb
    go_wp2_with fail
    refine (mul_call a 1 _ ha I1).mono ?_
    rintro e w9 ⟨he, rfl⟩
    rw [F11.out] at he
    subst he
    go_wp2_with fail
    refine (add_call x (-x) _ Ix In).mono ?_
    rintro e w9 ⟨he, hb⟩
    rw [F12.out] at he
    subst he
    replace HB := Lib.hid (below_next HB.out hb)
    clear hb
    go_wp2_with fail
    refine (mul_call a b _ ha hb).mono ?_
    rintro e w9 ⟨he, rfl⟩
    rw [Hp.out] at he
    subst he
    by_cases hx0 : x = 0
    · have hp0 : p = 0 := F13.out.2 (.inl hx0)
      have HV := Lib.hid (HINV.out hx0)
      subst hx0 hp0
      go_wp2_with fail
      refine (Inverse_call a _ ha).mono ?_
      rintro e w9 ⟨he, rfl⟩
      rw [HV.out] at he
      subst he
      go_wp2_with fail
      go_ret
      exact ⟨rfl, HB.out⟩
    · have HV := Lib.hid (HINV2.out hx0)
      have HV3 := Lib.hid (HINV3.out hx0)
      have hx0b : (x == 0) = false := by simpa using hx0
      by_cases hy0 : y = 0
      · have hp0 : p = 0 := F13.out.2 (.inr hy0)
        subst hy0 hp0
        go_wp2_with fail
        refine (Inverse_call a _ ha).mono ?_
        rintro e w9 ⟨he, rfl⟩
        rw [HV.out] at he
        subst he
        go_wp2_with fail
        refine (in_call fi _ Rf.out).mono ?_
        rintro e w9 ⟨rfl, rfl⟩
        go_wp2_with fail
        refine (mul_call a fi _ ha If).mono ?_
        rintro e w9 ⟨he, rfl⟩
        rw [HV3.out] at he
        subst he
        go_wp2_with fail
        go_ret
        exact ⟨rfl, HB.out⟩
      · have hp0 : ¬ p = 0 := fun h => (F13.out.1 h).elim hx0 hy0
        have hp0b : (p == 0) = false := by simpa using hp0
        have hy0b : (y == 0) = false := by simpa using hy0
        go_wp2_with fail
        refine (Inverse_call a _ ha).mono ?_
        rintro e w9 ⟨he, rfl⟩
        rw [HV.out] at he
        subst he
        go_wp2_with fail
        refine (in_call fi _ Rf.out).mono ?_
        rintro e w9 ⟨rfl, rfl⟩
        go_wp2_with fail
        refine (mul_call a fi _ ha If).mono ?_
        rintro e w9 ⟨he, rfl⟩
        rw [HV3.out] at he
        subst he
        go_wp2_with fail
        go_ret
        exact ⟨rfl, HB.out⟩
end Go.Proofs.Ytbigkcemcdokaaa
