/- Products, powers, elements and numbers: the program's functions, the specification's, and the laws' own. -/
import Derived.Test.YtcoboacjcnjdoaaDoorE
namespace Go.Proofs.YtcoboacjcnjdoaaDoor
open Go.RowKit Go.Shelf

set_option maxHeartbeats 400000 in
set_option maxRecDepth 100000 in
theorem Mul_call (a b : Int) (w : World) (ha : I64 a) (hb : I64 b) :
    Calls Tryd.prog 14 #[.int .i64 a, .int .i64 b] w fun e w' => e = .returned (mulT a b) ∧ w' = w := by
  cases h1 : valid a with
  | false =>
    have HV : Hid (mulT a b = .tuple #[.int .i64 0, .int .i64 100]) := Lib.hid (by unfold mulT; rw [h1]; rfl)
    have HC := Lib.hid (Valid_call a w ha)
    rw [h1] at HC
    clear h1
    go_enter Tryd.func14, Tryd.ntmps14
    go_wp2_with fail
    refine HC.out.mono ?_
    rintro e w1 ⟨rfl, rfl⟩
    go_wp2_with fail
    exact bodyPost_ret (results_tmps (p := 4) (q := 5) rfl _ _ _ _ rfl rfl) rfl ⟨congrArg Ending.returned HV.out.symm, rfl⟩
  | true =>
    have HC := Lib.hid (Valid_call a w ha)
    have HC2 := Lib.hid (Valid_call b w hb)
    have HRA := Lib.hid (valid_rp h1)
    cases h2 : valid b with
    | false =>
      have HV : Hid (mulT a b = .tuple #[.int .i64 0, .int .i64 100]) := Lib.hid (by unfold mulT; rw [h1, h2]; rfl)
      rw [h1] at HC
      rw [h2] at HC2
      clear h1 h2
      go_enter Tryd.func14, Tryd.ntmps14
      go_wp2_with fail
      refine HC.out.mono ?_
      rintro e w1 ⟨rfl, rfl⟩
      go_wp2_with fail
      refine HC2.out.mono ?_
      rintro e w1 ⟨rfl, rfl⟩
      go_wp2_with fail
      exact bodyPost_ret (results_tmps (p := 4) (q := 5) rfl _ _ _ _ rfl rfl) rfl ⟨congrArg Ending.returned HV.out.symm, rfl⟩
    | true =>
      have HV : Hid (mulT a b = .tuple #[.int .i64 (a * b % 2147483579), .int .i64 0]) := Lib.hid (by unfold mulT; rw [h1, h2]; rfl)
      have HRB := Lib.hid (valid_rp h2)
      rw [h1] at HC
      rw [h2] at HC2
      clear h1 h2
      go_enter Tryd.func14, Tryd.ntmps14
      go_wp2_with fail
      refine HC.out.mono ?_
      rintro e w1 ⟨rfl, rfl⟩
      go_wp2_with fail
      refine HC2.out.mono ?_
      rintro e w1 ⟨rfl, rfl⟩
      go_wp2_with fail
      refine (product_call a b _ HRA.out HRB.out).mono ?_
      rintro e w1 ⟨rfl, rfl⟩
      go_wp2_with fail
      exact bodyPost_ret (results_tmps (p := 4) (q := 5) rfl _ _ _ _ rfl rfl) rfl ⟨congrArg Ending.returned HV.out.symm, rfl⟩
set_option maxHeartbeats 400000 in
set_option maxRecDepth 100000 in
theorem Pow_call (a n : Int) (w : World) (ha : I64 a) (hn : I64 n) :
    Calls Tryd.prog 13 #[.int .i64 a, .int .i64 n] w fun e w' => e = .returned (powT a n) ∧ Below w.heap.size w w' := by
  have HC := Lib.hid (Valid_call a w ha)
  cases h1 : valid a with
  | false =>
    have HV : Hid (powT a n = .tuple #[.int .i64 0, .int .i64 100]) := Lib.hid (by unfold powT; rw [h1]; rfl)
    rw [h1] at HC
    clear h1
    go_enter Tryd.func13, Tryd.ntmps13
    go_wp2_with fail
    refine HC.out.mono ?_
    rintro e w1 ⟨rfl, rfl⟩
    go_wp2_with fail
    exact bodyPost_ret (results_tmps (p := 4) (q := 5) rfl _ _ _ _ rfl rfl) rfl ⟨congrArg Ending.returned HV.out.symm, Below.refl _ _⟩
  | true =>
    have HV : Hid (powT a n = .tuple #[.int .i64 (powQ a n), .int .i64 0]) := Lib.hid (by unfold powT; rw [h1]; rfl)
    have HRA := Lib.hid (valid_rp h1)
    have HM := Lib.hid (modq_rng n)
    rw [h1] at HC
    clear h1
    have HP : Hid (∀ W, Calls Tryd.prog 21 #[.int .i64 a, .int .i64 (n % 1073741789)] W fun e w' => e = .returned (.int .i64 (powQ a n)) ∧ Below W.heap.size W w') := Lib.hid (fun W => by
      have := power_call a (n % 1073741789).toNat W HRA.out (by have := HM.out; omega)
      rw [toNat_mod] at this
      exact this)
    have HB := Lib.hid (Joins.below_alloc1 w (.cells #[.int .i64 n] 3))
    go_enter Tryd.func13, Tryd.ntmps13
    go_wp2_with fail
    refine HC.out.mono ?_
    rintro e w1 ⟨rfl, rfl⟩
    go_wp2_with fail
    refine (exponent_one n _ _ hn (by simp)).mono ?_
    rintro e w1 ⟨rfl, rfl⟩
    go_wp2_with fail
    refine (HP.out _).mono ?_
    rintro e w1 ⟨rfl, hb⟩
    go_wp2_with fail
    exact bodyPost_ret (results_tmps (p := 4) (q := 5) rfl _ _ _ _ rfl rfl) rfl ⟨congrArg Ending.returned HV.out.symm, below_next HB.out hb⟩
set_option maxHeartbeats 400000 in
set_option maxRecDepth 100000 in
theorem Element_call (n : Int) (w : World) (hn : I64 n) :
    Calls Tryd.prog 6 #[.int .i64 n] w fun e w' => e = .returned (elT n) ∧ w' = w := by
  have HI := Lib.hid hn
  obtain ⟨hn1, hn2⟩ := hn
  by_cases h1 : n < 1
  · have HV : Hid (elT n = .tuple #[.int .i64 0, .int .i64 1]) := Lib.hid (by unfold elT; rw [if_neg (by omega)])
    go_enter Tryd.func6, Tryd.ntmps6
    go_wp2_with fail
    exact bodyPost_ret (results_tmps (p := 2) (q := 3) rfl _ _ _ _ rfl rfl) rfl ⟨congrArg Ending.returned HV.out.symm, rfl⟩
  · by_cases h2 : 1073741789 < n
    · have HV : Hid (elT n = .tuple #[.int .i64 0, .int .i64 1]) := Lib.hid (by unfold elT; rw [if_neg (by omega)])
      go_enter Tryd.func6, Tryd.ntmps6
      go_wp2_with fail
      exact bodyPost_ret (results_tmps (p := 2) (q := 3) rfl _ _ _ _ rfl rfl) rfl ⟨congrArg Ending.returned HV.out.symm, rfl⟩
    · have HC := Lib.hid (Valid_call n w HI.out)
      have hw : wrap64 (2147483579 - n) = 2147483579 - n := by unfold wrap64; omega
      cases h3 : valid n with
      | true =>
        have HV : Hid (elT n = .tuple #[.int .i64 n, .int .i64 0]) := Lib.hid (by unfold elT; rw [if_pos (by omega), h3]; rfl)
        rw [h3] at HC
        clear h3
        go_enter Tryd.func6, Tryd.ntmps6
        go_wp2_with fail
        refine HC.out.mono ?_
        rintro e w1 ⟨rfl, rfl⟩
        go_wp2_with fail
        exact bodyPost_ret (results_tmps (p := 2) (q := 3) rfl _ _ _ _ rfl rfl) rfl ⟨congrArg Ending.returned HV.out.symm, rfl⟩
      | false =>
        have HV : Hid (elT n = .tuple #[.int .i64 (2147483579 - n), .int .i64 0]) := Lib.hid (by unfold elT; rw [if_pos (by omega), h3]; rfl)
        rw [h3] at HC
        clear h3
        go_enter Tryd.func6, Tryd.ntmps6
        go_wp2_with fail
        refine HC.out.mono ?_
        rintro e w1 ⟨rfl, rfl⟩
        go_wp2_with fail
        exact bodyPost_ret (results_tmps (p := 2) (q := 3) rfl _ _ _ _ rfl rfl) rfl ⟨congrArg Ending.returned HV.out.symm, rfl⟩
set_option maxHeartbeats 400000 in
set_option maxRecDepth 100000 in
theorem Number_call (x : Int) (w : World) (hx : I64 x) :
    Calls Tryd.prog 8 #[.int .i64 x] w fun e w' => e = .returned (numT x) ∧ w' = w := by
  have HC := Lib.hid (Valid_call x w hx)
  obtain ⟨hn1, hn2⟩ := hx
  cases h3 : valid x with
  | false =>
    have HV : Hid (numT x = .tuple #[.int .i64 0, .int .i64 100]) := Lib.hid (by unfold numT; rw [h3]; rfl)
    rw [h3] at HC
    clear h3
    go_enter Tryd.func8, Tryd.ntmps8
    go_wp2_with fail
    refine HC.out.mono ?_
    rintro e w1 ⟨rfl, rfl⟩
    go_wp2_with fail
    exact bodyPost_ret (results_tmps (p := 2) (q := 3) rfl _ _ _ _ rfl rfl) rfl ⟨congrArg Ending.returned HV.out.symm, rfl⟩
  | true =>
    have hr := valid_rng h3
    have hw : wrap64 (2147483579 - x) = 2147483579 - x := by unfold wrap64; omega
    by_cases h4 : x ≤ 1073741789
    · have HV : Hid (numT x = .tuple #[.int .i64 x, .int .i64 0]) := Lib.hid (by unfold numT; rw [h3, if_pos rfl, if_pos h4])
      rw [h3] at HC
      clear h3
      go_enter Tryd.func8, Tryd.ntmps8
      go_wp2_with fail
      refine HC.out.mono ?_
      rintro e w1 ⟨rfl, rfl⟩
      go_wp2_with fail
      exact bodyPost_ret (results_tmps (p := 2) (q := 3) rfl _ _ _ _ rfl rfl) rfl ⟨congrArg Ending.returned HV.out.symm, rfl⟩
    · have HV : Hid (numT x = .tuple #[.int .i64 (2147483579 - x), .int .i64 0]) := Lib.hid (by unfold numT; rw [h3, if_pos rfl, if_neg h4])
      rw [h3] at HC
      clear h3
      go_enter Tryd.func8, Tryd.ntmps8
      go_wp2_with fail
      refine HC.out.mono ?_
      rintro e w1 ⟨rfl, rfl⟩
      go_wp2_with fail
      exact bodyPost_ret (results_tmps (p := 2) (q := 3) rfl _ _ _ _ rfl rfl) rfl ⟨congrArg Ending.returned HV.out.symm, rfl⟩
end Go.Proofs.YtcoboacjcnjdoaaDoor
