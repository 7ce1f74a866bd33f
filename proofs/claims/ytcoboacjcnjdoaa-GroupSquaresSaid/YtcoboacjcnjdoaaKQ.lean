/- Squares: the walk of the law. -/
import Derived.Test.YtcoboacjcnjdoaaH
import Derived.Test.YtcoboacjcnjdoaaI
import Derived.Test.YtcoboacjcnjdoaaG
namespace Go.Proofs.Ytcoboacjcnjdoaa
open Go.RowKit Go.Shelf

theorem tmodp_or (n : Int) : 0 ≤ n ∧ n.tmod 2147483579 = n % 2147483579 ∨ n.tmod 2147483579 = -((-n) % 2147483579) ∧ n < 0 := by
  rcases Int.lt_or_le n 0 with h | h
  · right
    refine ⟨?_, h⟩
    have := Int.neg_tmod (-n) 2147483579
    rw [Int.neg_neg] at this
    rw [this, Int.tmod_eq_emod_of_nonneg (by omega)]
  · exact .inl ⟨h, Int.tmod_eq_emod_of_nonneg h⟩

set_option maxHeartbeats 8000000 in
set_option maxRecDepth 100000 in
theorem squares_walk (x : Int) (hx : I64 x) (w : World) :
    Calls Try.prog 6 #[.int .i64 x] w fun e w' => e = .returned (.bool true) ∧ Below w.heap.size w w' := by
  have HX := Lib.hid hx
  have HIX : Hid (I64 x) := Lib.hid hx
  obtain ⟨hx1, hx2⟩ := hx
  have HT : Hid (0 ≤ x ∧ x.tmod 2147483579 = x % 2147483579 ∨ x.tmod 2147483579 = -((-x) % 2147483579) ∧ x < 0) := Lib.hid (tmodp_or x)
  obtain ⟨t, ht⟩ : ∃ t, t = x.tmod 2147483579 := ⟨_, rfl⟩
  rw [← ht] at HT
  have ht' := ht.symm
  clear ht
  obtain ⟨n, hn, hcase⟩ : ∃ n : Int, n = x % 2147483579 ∧ ((t < 0 ∧ wrap64 (t + 2147483579) = t + 2147483579 ∧ t + 2147483579 = n ∧ ¬ n = 0) ∨ (¬ t < 0 ∧ t = n)) := by
    refine ⟨_, rfl, ?_⟩
    have := HT.out
    rcases Int.lt_or_le t 0 with h | h
    · exact .inl ⟨h, by unfold wrap64; omega, by omega, by omega⟩
    · exact .inr ⟨by omega, by omega⟩
  have HR : Hid (Rp n) := Lib.hid (by rw [hn]; exact rp_mod x)
  have HXN : Hid (¬ n = 0 → ¬ n = x → valid x = false) := Lib.hid (fun h1 h2 => valid_out (by omega))
  have HSQ : Hid (¬ n = 0 → valid (n * n % 2147483579) = true) := Lib.hid (fun h => valid_square (by have := HR.out.1; omega) HR.out.2)
  have HNG : Hid (¬ n = 0 → valid (2147483579 - n) = !valid n) := Lib.hid (fun h => valid_neg (by have := HR.out.1; omega) HR.out.2)
  have HNX : Hid (n = x → I64 x) := Lib.hid (fun _ => HIX.out)
  have hnn := mulp_rng HR.out HR.out
  have hw0 : wrap64 n = n := by have := HR.out.1; have := HR.out.2; unfold wrap64; omega
  have hw1 : wrap64 (n * n) = n * n := by unfold wrap64; omega
  have hw2 : wrap64 (2147483579 - n) = 2147483579 - n := by have := HR.out.1; have := HR.out.2; unfold wrap64; omega
  obtain ⟨hnn1, hnn2⟩ := hnn
  have HMM := Lib.hid (rp_mod (n * n)).i64
  have HU : Hid (valid n = true → ∃ u, powQ n 536870895 = u ∧ valid u = true ∧ powQ u 2 = n) := Lib.hid (fun h => ⟨_, rfl, powQ_valid h _, by rw [powQ_mul h, powQ_mod (k := 1) (by omega), powQ_one h]⟩)
  have HI2 : Hid (I64 (2147483579 - n)) := Lib.hid ⟨by have := HR.out.2; omega, by have := HR.out.1; omega⟩
  clear hn
  rcases hcase with ⟨c1, c2, c3, h0⟩ | ⟨c1, c3⟩
  · skip
    have HN1 := Lib.hid (HSQ.out h0)
    have HN2 := Lib.hid (HNG.out h0)
    cases hv : valid n with
    | true =>
      rw [hv] at HN2
      have HV := Lib.hid hv
      clear hv
      by_cases hnx : n = x
      · exfalso; have := HT.out; have := HR.out.1; omega
      · have hne : (n != x) = true := by simp [hnx]
        have HO := Lib.hid (HXN.out h0 hnx)
        have HEQ := Lib.hid hnx
        go_enter Try.func6, Try.ntmps6
        go_wp2_with fail
        refine (sane_call w).mono ?_
        rintro e w1 ⟨rfl, hb1⟩
        have HB := Lib.hid hb1
        clear hb1
        go_wp2_with fail
        refine (Valid_call (n) _ (HR.out.i64)).mono ?_
        rintro e w9 ⟨he, rfl⟩
        rw [HV.out] at he
        subst he
        go_wp2_with fail
        refine (Valid_call (2147483579 - n) _ (HI2.out)).mono ?_
        rintro e w9 ⟨he, rfl⟩
        rw [HN2.out] at he
        subst he
        go_wp2_with fail
        refine (Valid_call (n * n % 2147483579) _ (HMM.out)).mono ?_
        rintro e w9 ⟨he, rfl⟩
        rw [HN1.out] at he
        subst he
        go_wp2_with fail
        refine (Valid_call (x) _ (HX.out)).mono ?_
        rintro e w9 ⟨he, rfl⟩
        rw [HO.out] at he
        subst he
        go_wp2_with fail
        refine (Valid_call (n) _ (HR.out.i64)).mono ?_
        rintro e w9 ⟨he, rfl⟩
        rw [HV.out] at he
        subst he
        go_wp2_with fail
        obtain ⟨pz, hpz1, hpz2, hpz3⟩ := HU.out HV.out
        have HP0 := Lib.hid hpz1
        have HP1 := Lib.hid hpz2
        have HP2 := Lib.hid hpz3
        clear hpz1 hpz2 hpz3
        refine (pow_call (n) (536870895) _ (HV.out) (i64_small _ (by omega) (by omega))).mono ?_
        rintro e w9 ⟨he, hb⟩
        rw [HP0.out] at he
        subst he
        replace HB := Lib.hid (below_next HB.out hb)
        clear hb
        go_wp2_with fail
        refine (pow_call (pz) (2) _ (HP1.out) (i64_small _ (by omega) (by omega))).mono ?_
        rintro e w9 ⟨he, hb⟩
        rw [HP2.out] at he
        subst he
        replace HB := Lib.hid (below_next HB.out hb)
        clear hb
        go_wp2_with fail
        go_ret
        exact ⟨rfl, HB.out⟩
    | false =>
      rw [hv] at HN2
      have HV := Lib.hid hv
      clear hv
      by_cases hnx : n = x
      · exfalso; have := HT.out; have := HR.out.1; omega
      · have hne : (n != x) = true := by simp [hnx]
        have HO := Lib.hid (HXN.out h0 hnx)
        have HEQ := Lib.hid hnx
        go_enter Try.func6, Try.ntmps6
        go_wp2_with fail
        refine (sane_call w).mono ?_
        rintro e w1 ⟨rfl, hb1⟩
        have HB := Lib.hid hb1
        clear hb1
        go_wp2_with fail
        refine (Valid_call (n) _ (HR.out.i64)).mono ?_
        rintro e w9 ⟨he, rfl⟩
        rw [HV.out] at he
        subst he
        go_wp2_with fail
        refine (Valid_call (2147483579 - n) _ (HI2.out)).mono ?_
        rintro e w9 ⟨he, rfl⟩
        rw [HN2.out] at he
        subst he
        go_wp2_with fail
        refine (Valid_call (n * n % 2147483579) _ (HMM.out)).mono ?_
        rintro e w9 ⟨he, rfl⟩
        rw [HN1.out] at he
        subst he
        go_wp2_with fail
        refine (Valid_call (x) _ (HX.out)).mono ?_
        rintro e w9 ⟨he, rfl⟩
        rw [HO.out] at he
        subst he
        go_wp2_with fail
        refine (Valid_call (n) _ (HR.out.i64)).mono ?_
        rintro e w9 ⟨he, rfl⟩
        rw [HV.out] at he
        subst he
        go_wp2_with fail
        go_ret
        exact ⟨rfl, HB.out⟩
  · by_cases h0 : n = 0
    · skip
      subst h0
      go_enter Try.func6, Try.ntmps6
      go_wp2_with fail
      refine (sane_call w).mono ?_
      rintro e w1 ⟨rfl, hb1⟩
      have HB := Lib.hid hb1
      clear hb1
      go_wp2_with fail
      refine (Valid_call (0) _ (i64_small _ (by omega) (by omega))).mono ?_
      rintro e w9 ⟨he, rfl⟩
      rw [valid_out (x := 0) (by omega)] at he
      subst he
      go_wp2_with fail
      refine (Valid_call (2147483579) _ (i64_small _ (by omega) (by omega))).mono ?_
      rintro e w9 ⟨he, rfl⟩
      rw [valid_out (x := 2147483579) (by omega)] at he
      subst he
      go_wp2_with fail
      refine (Valid_call (-4) _ (i64_small _ (by omega) (by omega))).mono ?_
      rintro e w9 ⟨he, rfl⟩
      rw [valid_out (x := -4) (by omega)] at he
      subst he
      go_wp2_with fail
      go_ret
      exact ⟨rfl, HB.out⟩
    · skip
      have HN1 := Lib.hid (HSQ.out h0)
      have HN2 := Lib.hid (HNG.out h0)
      cases hv : valid n with
      | true =>
        rw [hv] at HN2
        have HV := Lib.hid hv
        clear hv
        by_cases hnx : n = x
        · have hne : (n != x) = false := by simp [hnx]
          have HEQ := Lib.hid hnx
          subst hnx
          go_enter Try.func6, Try.ntmps6
          go_wp2_with fail
          refine (sane_call w).mono ?_
          rintro e w1 ⟨rfl, hb1⟩
          have HB := Lib.hid hb1
          clear hb1
          go_wp2_with fail
          refine (Valid_call (n) _ (HR.out.i64)).mono ?_
          rintro e w9 ⟨he, rfl⟩
          rw [HV.out] at he
          subst he
          go_wp2_with fail
          refine (Valid_call (2147483579 - n) _ (HI2.out)).mono ?_
          rintro e w9 ⟨he, rfl⟩
          rw [HN2.out] at he
          subst he
          go_wp2_with fail
          refine (Valid_call (n * n % 2147483579) _ (HMM.out)).mono ?_
          rintro e w9 ⟨he, rfl⟩
          rw [HN1.out] at he
          subst he
          go_wp2_with fail
          refine (Valid_call (n) _ (HR.out.i64)).mono ?_
          rintro e w9 ⟨he, rfl⟩
          rw [HV.out] at he
          subst he
          go_wp2_with fail
          obtain ⟨pz, hpz1, hpz2, hpz3⟩ := HU.out HV.out
          have HP0 := Lib.hid hpz1
          have HP1 := Lib.hid hpz2
          have HP2 := Lib.hid hpz3
          clear hpz1 hpz2 hpz3
          refine (pow_call (n) (536870895) _ (HV.out) (i64_small _ (by omega) (by omega))).mono ?_
          rintro e w9 ⟨he, hb⟩
          rw [HP0.out] at he
          subst he
          replace HB := Lib.hid (below_next HB.out hb)
          clear hb
          go_wp2_with fail
          refine (pow_call (pz) (2) _ (HP1.out) (i64_small _ (by omega) (by omega))).mono ?_
          rintro e w9 ⟨he, hb⟩
          rw [HP2.out] at he
          subst he
          replace HB := Lib.hid (below_next HB.out hb)
          clear hb
          go_wp2_with fail
          go_ret
          exact ⟨rfl, HB.out⟩
        · have hne : (n != x) = true := by simp [hnx]
          have HO := Lib.hid (HXN.out h0 hnx)
          have HEQ := Lib.hid hnx
          go_enter Try.func6, Try.ntmps6
          go_wp2_with fail
          refine (sane_call w).mono ?_
          rintro e w1 ⟨rfl, hb1⟩
          have HB := Lib.hid hb1
          clear hb1
          go_wp2_with fail
          refine (Valid_call (n) _ (HR.out.i64)).mono ?_
          rintro e w9 ⟨he, rfl⟩
          rw [HV.out] at he
          subst he
          go_wp2_with fail
          refine (Valid_call (2147483579 - n) _ (HI2.out)).mono ?_
          rintro e w9 ⟨he, rfl⟩
          rw [HN2.out] at he
          subst he
          go_wp2_with fail
          refine (Valid_call (n * n % 2147483579) _ (HMM.out)).mono ?_
          rintro e w9 ⟨he, rfl⟩
          rw [HN1.out] at he
          subst he
          go_wp2_with fail
          refine (Valid_call (x) _ (HX.out)).mono ?_
          rintro e w9 ⟨he, rfl⟩
          rw [HO.out] at he
          subst he
          go_wp2_with fail
          refine (Valid_call (n) _ (HR.out.i64)).mono ?_
          rintro e w9 ⟨he, rfl⟩
          rw [HV.out] at he
          subst he
          go_wp2_with fail
          obtain ⟨pz, hpz1, hpz2, hpz3⟩ := HU.out HV.out
          have HP0 := Lib.hid hpz1
          have HP1 := Lib.hid hpz2
          have HP2 := Lib.hid hpz3
          clear hpz1 hpz2 hpz3
          refine (pow_call (n) (536870895) _ (HV.out) (i64_small _ (by omega) (by omega))).mono ?_
          rintro e w9 ⟨he, hb⟩
          rw [HP0.out] at he
          subst he
          replace HB := Lib.hid (below_next HB.out hb)
          clear hb
          go_wp2_with fail
          refine (pow_call (pz) (2) _ (HP1.out) (i64_small _ (by omega) (by omega))).mono ?_
          rintro e w9 ⟨he, hb⟩
          rw [HP2.out] at he
          subst he
          replace HB := Lib.hid (below_next HB.out hb)
          clear hb
          go_wp2_with fail
          go_ret
          exact ⟨rfl, HB.out⟩
      | false =>
        rw [hv] at HN2
        have HV := Lib.hid hv
        clear hv
        by_cases hnx : n = x
        · have hne : (n != x) = false := by simp [hnx]
          have HEQ := Lib.hid hnx
          subst hnx
          go_enter Try.func6, Try.ntmps6
          go_wp2_with fail
          refine (sane_call w).mono ?_
          rintro e w1 ⟨rfl, hb1⟩
          have HB := Lib.hid hb1
          clear hb1
          go_wp2_with fail
          refine (Valid_call (n) _ (HR.out.i64)).mono ?_
          rintro e w9 ⟨he, rfl⟩
          rw [HV.out] at he
          subst he
          go_wp2_with fail
          refine (Valid_call (2147483579 - n) _ (HI2.out)).mono ?_
          rintro e w9 ⟨he, rfl⟩
          rw [HN2.out] at he
          subst he
          go_wp2_with fail
          refine (Valid_call (n * n % 2147483579) _ (HMM.out)).mono ?_
          rintro e w9 ⟨he, rfl⟩
          rw [HN1.out] at he
          subst he
          go_wp2_with fail
          refine (Valid_call (n) _ (HR.out.i64)).mono ?_
          rintro e w9 ⟨he, rfl⟩
          rw [HV.out] at he
          subst he
          go_wp2_with fail
          go_ret
          exact ⟨rfl, HB.out⟩
        · have hne : (n != x) = true := by simp [hnx]
          have HO := Lib.hid (HXN.out h0 hnx)
          have HEQ := Lib.hid hnx
          go_enter Try.func6, Try.ntmps6
          go_wp2_with fail
          refine (sane_call w).mono ?_
          rintro e w1 ⟨rfl, hb1⟩
          have HB := Lib.hid hb1
          clear hb1
          go_wp2_with fail
          refine (Valid_call (n) _ (HR.out.i64)).mono ?_
          rintro e w9 ⟨he, rfl⟩
          rw [HV.out] at he
          subst he
          go_wp2_with fail
          refine (Valid_call (2147483579 - n) _ (HI2.out)).mono ?_
          rintro e w9 ⟨he, rfl⟩
          rw [HN2.out] at he
          subst he
          go_wp2_with fail
          refine (Valid_call (n * n % 2147483579) _ (HMM.out)).mono ?_
          rintro e w9 ⟨he, rfl⟩
          rw [HN1.out] at he
          subst he
          go_wp2_with fail
          refine (Valid_call (x) _ (HX.out)).mono ?_
          rintro e w9 ⟨he, rfl⟩
          rw [HO.out] at he
          subst he
          go_wp2_with fail
          refine (Valid_call (n) _ (HR.out.i64)).mono ?_
          rintro e w9 ⟨he, rfl⟩
          rw [HV.out] at he
          subst he
          go_wp2_with fail
          go_ret
          exact ⟨rfl, HB.out⟩
end Go.Proofs.Ytcoboacjcnjdoaa
