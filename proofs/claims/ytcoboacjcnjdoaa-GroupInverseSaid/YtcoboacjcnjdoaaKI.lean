/- Elements and their numbers: the walk of the law. -/
import Derived.Test.YtcoboacjcnjdoaaH
import Derived.Test.YtcoboacjcnjdoaaI
import Derived.Test.YtcoboacjcnjdoaaG
namespace Go.Proofs.Ytcoboacjcnjdoaa
open Go.RowKit Go.Shelf

theorem elT_in {n : Int} (h1 : 1 ≤ n) (h2 : n ≤ 1073741789) (hv : valid n = true) : elT n = .tuple #[.int .i64 n, .int .i64 0] := by unfold elT; rw [if_pos ⟨h1, h2⟩, if_pos hv]
theorem elT_neg {n : Int} (h1 : 1 ≤ n) (h2 : n ≤ 1073741789) (hv : valid n = false) : elT n = .tuple #[.int .i64 (2147483579 - n), .int .i64 0] := by unfold elT; rw [if_pos ⟨h1, h2⟩, hv]; rfl
theorem elT_out {n : Int} (h : ¬ (1 ≤ n ∧ n ≤ 1073741789)) : elT n = .tuple #[.int .i64 0, .int .i64 1] := by unfold elT; rw [if_neg h]
theorem numT_in {x : Int} (h : x ≤ 1073741789) (hv : valid x = true) : numT x = .tuple #[.int .i64 x, .int .i64 0] := by unfold numT; rw [if_pos hv, if_pos h]
theorem numT_neg {x : Int} (h : ¬ x ≤ 1073741789) (hv : valid x = true) : numT x = .tuple #[.int .i64 (2147483579 - x), .int .i64 0] := by unfold numT; rw [if_pos hv, if_neg h]
theorem numT_no {x : Int} (hv : valid x = false) : numT x = .tuple #[.int .i64 0, .int .i64 100] := by unfold numT; rw [hv]; rfl

set_option maxHeartbeats 8000000 in
set_option maxRecDepth 100000 in
theorem inverse_walk (n m : Int) (hn : I64 n) (hm : I64 m) (w : World) :
    Calls Try.prog 7 #[.int .i64 n, .int .i64 m] w fun e w' => e = .returned (.bool true) ∧ Below w.heap.size w w' := by
  have HN := Lib.hid hn
  have HM := Lib.hid hm
  obtain ⟨hn1, hn2⟩ := hn
  clear hm
  by_cases h1 : 1 ≤ n
  · by_cases h2 : n ≤ 1073741789
    · skip
      have hw : wrap64 (2147483579 - n) = 2147483579 - n := by unfold wrap64; omega
      cases hv : valid n with
      | true =>
        have HV := Lib.hid hv
        have HEL := Lib.hid (elT_in h1 h2 hv)
        have HNN := Lib.hid (numT_in h2 hv)
        have HNX := Lib.hid (numT_in h2 hv)
        have HVX := Lib.hid hv
        have HIX := Lib.hid HN.out
        clear hv
        by_cases hmr : 1 ≤ m ∧ m ≤ 1073741789
        · by_cases hmn : m = n
          · obtain rfl : n = m := hmn.symm
            go_enter Try.func7, Try.ntmps7
            go_wp2_with fail
            refine (sane_call w).mono ?_
            rintro e w1 ⟨rfl, hb1⟩
            have HB := Lib.hid hb1
            clear hb1
            go_wp2_with fail
            refine (Element_call (n) _ (HN.out)).mono ?_
            rintro e w9 ⟨he, rfl⟩
            rw [HEL.out] at he
            subst he
            go_wp2_with fail
            refine (Number_call (n) _ (HIX.out)).mono ?_
            rintro e w9 ⟨he, rfl⟩
            rw [HNX.out] at he
            subst he
            go_wp2_with fail
            refine (Valid_call (n) _ (HIX.out)).mono ?_
            rintro e w9 ⟨he, rfl⟩
            rw [HVX.out] at he
            subst he
            go_wp2_with fail
            refine (Element_call (n) _ (HM.out)).mono ?_
            rintro e w9 ⟨he, rfl⟩
            rw [HEL.out] at he
            subst he
            go_wp2_with fail
            refine (Number_call (n) _ (HN.out)).mono ?_
            rintro e w9 ⟨he, rfl⟩
            rw [HNN.out] at he
            subst he
            go_wp2_with fail
            refine (Valid_call (n) _ (HN.out)).mono ?_
            rintro e w9 ⟨he, rfl⟩
            rw [HV.out] at he
            subst he
            go_wp2_with fail
            refine (Element_call (n) _ (HN.out)).mono ?_
            rintro e w9 ⟨he, rfl⟩
            rw [HEL.out] at he
            subst he
            go_wp2_with fail
            go_ret
            exact ⟨rfl, HB.out⟩
          · skip
            obtain ⟨y, hy1, hy2⟩ : ∃ y : Int, elT m = .tuple #[.int .i64 y, .int .i64 0] ∧ ¬ n = y := by
              cases hvm : valid m with
              | true => exact ⟨_, elT_in hmr.1 hmr.2 hvm, by omega⟩
              | false => exact ⟨_, elT_neg hmr.1 hmr.2 hvm, by omega⟩
            have HEM := Lib.hid hy1
            have hxy : (n == y) = false := by simp only [beq_eq_false_iff_ne]; exact hy2
            have hmn2 : ¬ n = m := fun h => hmn h.symm
            have hnm : (n == m) = false := by simp only [beq_eq_false_iff_ne]; exact hmn2
            clear hy1 hmr
            go_enter Try.func7, Try.ntmps7
            go_wp2_with fail
            refine (sane_call w).mono ?_
            rintro e w1 ⟨rfl, hb1⟩
            have HB := Lib.hid hb1
            clear hb1
            go_wp2_with fail
            refine (Element_call (n) _ (HN.out)).mono ?_
            rintro e w9 ⟨he, rfl⟩
            rw [HEL.out] at he
            subst he
            go_wp2_with fail
            refine (Number_call (n) _ (HIX.out)).mono ?_
            rintro e w9 ⟨he, rfl⟩
            rw [HNX.out] at he
            subst he
            go_wp2_with fail
            refine (Valid_call (n) _ (HIX.out)).mono ?_
            rintro e w9 ⟨he, rfl⟩
            rw [HVX.out] at he
            subst he
            go_wp2_with fail
            refine (Element_call (m) _ (HM.out)).mono ?_
            rintro e w9 ⟨he, rfl⟩
            rw [HEM.out] at he
            subst he
            go_wp2_with fail
            refine (Number_call (n) _ (HN.out)).mono ?_
            rintro e w9 ⟨he, rfl⟩
            rw [HNN.out] at he
            subst he
            go_wp2_with fail
            refine (Valid_call (n) _ (HN.out)).mono ?_
            rintro e w9 ⟨he, rfl⟩
            rw [HV.out] at he
            subst he
            go_wp2_with fail
            refine (Element_call (n) _ (HN.out)).mono ?_
            rintro e w9 ⟨he, rfl⟩
            rw [HEL.out] at he
            subst he
            go_wp2_with fail
            go_ret
            exact ⟨rfl, HB.out⟩
        · have HEM := Lib.hid (elT_out hmr)
          clear hmr
          go_enter Try.func7, Try.ntmps7
          go_wp2_with fail
          refine (sane_call w).mono ?_
          rintro e w1 ⟨rfl, hb1⟩
          have HB := Lib.hid hb1
          clear hb1
          go_wp2_with fail
          refine (Element_call (n) _ (HN.out)).mono ?_
          rintro e w9 ⟨he, rfl⟩
          rw [HEL.out] at he
          subst he
          go_wp2_with fail
          refine (Number_call (n) _ (HIX.out)).mono ?_
          rintro e w9 ⟨he, rfl⟩
          rw [HNX.out] at he
          subst he
          go_wp2_with fail
          refine (Valid_call (n) _ (HIX.out)).mono ?_
          rintro e w9 ⟨he, rfl⟩
          rw [HVX.out] at he
          subst he
          go_wp2_with fail
          refine (Element_call (m) _ (HM.out)).mono ?_
          rintro e w9 ⟨he, rfl⟩
          rw [HEM.out] at he
          subst he
          go_wp2_with fail
          refine (Number_call (n) _ (HN.out)).mono ?_
          rintro e w9 ⟨he, rfl⟩
          rw [HNN.out] at he
          subst he
          go_wp2_with fail
          refine (Valid_call (n) _ (HN.out)).mono ?_
          rintro e w9 ⟨he, rfl⟩
          rw [HV.out] at he
          subst he
          go_wp2_with fail
          refine (Element_call (n) _ (HN.out)).mono ?_
          rintro e w9 ⟨he, rfl⟩
          rw [HEL.out] at he
          subst he
          go_wp2_with fail
          go_ret
          exact ⟨rfl, HB.out⟩
      | false =>
        have HV := Lib.hid hv
        have HEL := Lib.hid (elT_neg h1 h2 hv)
        have HNN := Lib.hid (numT_no hv)
        have hv2 : valid (2147483579 - n) = true := by rw [valid_neg h1 (by omega), hv]; rfl
        have HVX := Lib.hid hv2
        have HNX : Hid (numT (2147483579 - n) = .tuple #[.int .i64 n, .int .i64 0]) := Lib.hid (by rw [numT_neg (by omega) hv2, show 2147483579 - (2147483579 - n) = n by omega])
        have HIX : Hid (I64 (2147483579 - n)) := Lib.hid ⟨by omega, by omega⟩
        have hzn : (2147483579 - n != n) = true := by simp only [bne_iff_ne]; omega
        have hzn2 : ¬ (2147483579 - n = n) := by omega
        clear hv2
        clear hv
        by_cases hmr : 1 ≤ m ∧ m ≤ 1073741789
        · by_cases hmn : m = n
          · obtain rfl : n = m := hmn.symm
            go_enter Try.func7, Try.ntmps7
            go_wp2_with fail
            refine (sane_call w).mono ?_
            rintro e w1 ⟨rfl, hb1⟩
            have HB := Lib.hid hb1
            clear hb1
            go_wp2_with fail
            refine (Element_call (n) _ (HN.out)).mono ?_
            rintro e w9 ⟨he, rfl⟩
            rw [HEL.out] at he
            subst he
            go_wp2_with fail
            refine (Number_call (2147483579 - n) _ (HIX.out)).mono ?_
            rintro e w9 ⟨he, rfl⟩
            rw [HNX.out] at he
            subst he
            go_wp2_with fail
            refine (Valid_call (2147483579 - n) _ (HIX.out)).mono ?_
            rintro e w9 ⟨he, rfl⟩
            rw [HVX.out] at he
            subst he
            go_wp2_with fail
            refine (Element_call (n) _ (HM.out)).mono ?_
            rintro e w9 ⟨he, rfl⟩
            rw [HEL.out] at he
            subst he
            go_wp2_with fail
            refine (Number_call (n) _ (HN.out)).mono ?_
            rintro e w9 ⟨he, rfl⟩
            rw [HNN.out] at he
            subst he
            go_wp2_with fail
            refine (Valid_call (n) _ (HN.out)).mono ?_
            rintro e w9 ⟨he, rfl⟩
            rw [HV.out] at he
            subst he
            go_wp2_with fail
            go_ret
            exact ⟨rfl, HB.out⟩
          · skip
            obtain ⟨y, hy1, hy2⟩ : ∃ y : Int, elT m = .tuple #[.int .i64 y, .int .i64 0] ∧ ¬ 2147483579 - n = y := by
              cases hvm : valid m with
              | true => exact ⟨_, elT_in hmr.1 hmr.2 hvm, by omega⟩
              | false => exact ⟨_, elT_neg hmr.1 hmr.2 hvm, by omega⟩
            have HEM := Lib.hid hy1
            have hxy : (2147483579 - n == y) = false := by simp only [beq_eq_false_iff_ne]; exact hy2
            have hmn2 : ¬ n = m := fun h => hmn h.symm
            have hnm : (n == m) = false := by simp only [beq_eq_false_iff_ne]; exact hmn2
            clear hy1 hmr
            go_enter Try.func7, Try.ntmps7
            go_wp2_with fail
            refine (sane_call w).mono ?_
            rintro e w1 ⟨rfl, hb1⟩
            have HB := Lib.hid hb1
            clear hb1
            go_wp2_with fail
            refine (Element_call (n) _ (HN.out)).mono ?_
            rintro e w9 ⟨he, rfl⟩
            rw [HEL.out] at he
            subst he
            go_wp2_with fail
            refine (Number_call (2147483579 - n) _ (HIX.out)).mono ?_
            rintro e w9 ⟨he, rfl⟩
            rw [HNX.out] at he
            subst he
            go_wp2_with fail
            refine (Valid_call (2147483579 - n) _ (HIX.out)).mono ?_
            rintro e w9 ⟨he, rfl⟩
            rw [HVX.out] at he
            subst he
            go_wp2_with fail
            refine (Element_call (m) _ (HM.out)).mono ?_
            rintro e w9 ⟨he, rfl⟩
            rw [HEM.out] at he
            subst he
            go_wp2_with fail
            refine (Number_call (n) _ (HN.out)).mono ?_
            rintro e w9 ⟨he, rfl⟩
            rw [HNN.out] at he
            subst he
            go_wp2_with fail
            refine (Valid_call (n) _ (HN.out)).mono ?_
            rintro e w9 ⟨he, rfl⟩
            rw [HV.out] at he
            subst he
            go_wp2_with fail
            go_ret
            exact ⟨rfl, HB.out⟩
        · have HEM := Lib.hid (elT_out hmr)
          clear hmr
          go_enter Try.func7, Try.ntmps7
          go_wp2_with fail
          refine (sane_call w).mono ?_
          rintro e w1 ⟨rfl, hb1⟩
          have HB := Lib.hid hb1
          clear hb1
          go_wp2_with fail
          refine (Element_call (n) _ (HN.out)).mono ?_
          rintro e w9 ⟨he, rfl⟩
          rw [HEL.out] at he
          subst he
          go_wp2_with fail
          refine (Number_call (2147483579 - n) _ (HIX.out)).mono ?_
          rintro e w9 ⟨he, rfl⟩
          rw [HNX.out] at he
          subst he
          go_wp2_with fail
          refine (Valid_call (2147483579 - n) _ (HIX.out)).mono ?_
          rintro e w9 ⟨he, rfl⟩
          rw [HVX.out] at he
          subst he
          go_wp2_with fail
          refine (Element_call (m) _ (HM.out)).mono ?_
          rintro e w9 ⟨he, rfl⟩
          rw [HEM.out] at he
          subst he
          go_wp2_with fail
          refine (Number_call (n) _ (HN.out)).mono ?_
          rintro e w9 ⟨he, rfl⟩
          rw [HNN.out] at he
          subst he
          go_wp2_with fail
          refine (Valid_call (n) _ (HN.out)).mono ?_
          rintro e w9 ⟨he, rfl⟩
          rw [HV.out] at he
          subst he
          go_wp2_with fail
          go_ret
          exact ⟨rfl, HB.out⟩
    · cases hv : valid n with
      | true =>
        have hr := valid_rng hv
        have hw : wrap64 (2147483579 - n) = 2147483579 - n := by unfold wrap64; omega
        have HEL := Lib.hid (elT_out (n := n) (by omega))
        have HV := Lib.hid hv
        have HNN := Lib.hid (numT_neg h2 hv)
        have HE2 : Hid (elT (2147483579 - n) = .tuple #[.int .i64 n, .int .i64 0]) := Lib.hid (by
          have h9 : valid (2147483579 - n) = false := by rw [valid_neg h1 hr.2, hv]; rfl
          rw [elT_neg (by omega) (by omega) h9, show 2147483579 - (2147483579 - n) = n by omega])
        obtain ⟨k, hk⟩ : ∃ k, k = 2147483579 - n := ⟨_, rfl⟩
        rw [← hk] at HNN HE2
        have hk1 : 1 ≤ k := by omega
        have hk2 : k ≤ 1073741789 := by omega
        have HIK : Hid (I64 k) := Lib.hid ⟨by omega, by omega⟩
        clear hv hk hr hw
        go_enter Try.func7, Try.ntmps7
        go_wp2_with fail
        refine (sane_call w).mono ?_
        rintro e w1 ⟨rfl, hb1⟩
        have HB := Lib.hid hb1
        clear hb1
        go_wp2_with fail
        refine (Element_call (n) _ (HN.out)).mono ?_
        rintro e w9 ⟨he, rfl⟩
        rw [HEL.out] at he
        subst he
        go_wp2_with fail
        refine (Number_call (n) _ (HN.out)).mono ?_
        rintro e w9 ⟨he, rfl⟩
        rw [HNN.out] at he
        subst he
        go_wp2_with fail
        refine (Valid_call (n) _ (HN.out)).mono ?_
        rintro e w9 ⟨he, rfl⟩
        rw [HV.out] at he
        subst he
        go_wp2_with fail
        refine (Element_call (k) _ (HIK.out)).mono ?_
        rintro e w9 ⟨he, rfl⟩
        rw [HE2.out] at he
        subst he
        go_wp2_with fail
        go_ret
        exact ⟨rfl, HB.out⟩
      | false =>
        have HEL := Lib.hid (elT_out (n := n) (by omega))
        have HV := Lib.hid hv
        have HNN := Lib.hid (numT_no hv)
        clear hv
        go_enter Try.func7, Try.ntmps7
        go_wp2_with fail
        refine (sane_call w).mono ?_
        rintro e w1 ⟨rfl, hb1⟩
        have HB := Lib.hid hb1
        clear hb1
        go_wp2_with fail
        refine (Element_call (n) _ (HN.out)).mono ?_
        rintro e w9 ⟨he, rfl⟩
        rw [HEL.out] at he
        subst he
        go_wp2_with fail
        refine (Number_call (n) _ (HN.out)).mono ?_
        rintro e w9 ⟨he, rfl⟩
        rw [HNN.out] at he
        subst he
        go_wp2_with fail
        refine (Valid_call (n) _ (HN.out)).mono ?_
        rintro e w9 ⟨he, rfl⟩
        rw [HV.out] at he
        subst he
        go_wp2_with fail
        go_ret
        exact ⟨rfl, HB.out⟩
  · have hv : valid n = false := valid_out (by omega)
    have HEL := Lib.hid (elT_out (n := n) (by omega))
    have HV := Lib.hid hv
    have HNN := Lib.hid (numT_no hv)
    clear hv
    go_enter Try.func7, Try.ntmps7
    go_wp2_with fail
    refine (sane_call w).mono ?_
    rintro e w1 ⟨rfl, hb1⟩
    have HB := Lib.hid hb1
    clear hb1
    go_wp2_with fail
    refine (Element_call (n) _ (HN.out)).mono ?_
    rintro e w9 ⟨he, rfl⟩
    rw [HEL.out] at he
    subst he
    go_wp2_with fail
    refine (Number_call (n) _ (HN.out)).mono ?_
    rintro e w9 ⟨he, rfl⟩
    rw [HNN.out] at he
    subst he
    go_wp2_with fail
    refine (Valid_call (n) _ (HN.out)).mono ?_
    rintro e w9 ⟨he, rfl⟩
    rw [HV.out] at he
    subst he
    go_wp2_with fail
    go_ret
    exact ⟨rfl, HB.out⟩
end Go.Proofs.Ytcoboacjcnjdoaa
