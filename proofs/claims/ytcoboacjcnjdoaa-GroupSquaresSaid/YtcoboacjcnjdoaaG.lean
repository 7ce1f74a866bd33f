/- Products, powers, elements and numbers: the program's functions, the specification's, and the laws' own. -/
import Derived.Test.YtcoboacjcnjdoaaF
namespace Go.Proofs.Ytcoboacjcnjdoaa
open Go.RowKit Go.Shelf

set_option maxHeartbeats 400000 in
set_option maxRecDepth 100000 in
theorem refMul_call (a b : Int) (w : World) (ha : I64 a) (hb : I64 b) :
    Calls Try.prog 10 #[.int .i64 a, .int .i64 b] w fun e w' => e = .returned (mulT a b) ∧ w' = w := by
  cases h1 : valid a with
  | false =>
    have HV : Hid (mulT a b = .tuple #[.int .i64 0, .int .i64 100]) := Lib.hid (by unfold mulT; rw [h1]; rfl)
    have HC := Lib.hid (refValid_call a w ha)
    rw [h1] at HC
    clear h1
    go_enter Try.func10, Try.ntmps10
    go_wp2_with fail
    refine HC.out.mono ?_
    rintro e w1 ⟨rfl, rfl⟩
    go_wp2_with fail
    exact bodyPost_ret (results_tmps (p := 4) (q := 5) rfl _ _ _ _ rfl rfl) rfl ⟨congrArg Ending.returned HV.out.symm, rfl⟩
  | true =>
    have HC := Lib.hid (refValid_call a w ha)
    have HC2 := Lib.hid (refValid_call b w hb)
    have HRA := Lib.hid (valid_rp h1)
    cases h2 : valid b with
    | false =>
      have HV : Hid (mulT a b = .tuple #[.int .i64 0, .int .i64 100]) := Lib.hid (by unfold mulT; rw [h1, h2]; rfl)
      rw [h1] at HC
      rw [h2] at HC2
      clear h1 h2
      go_enter Try.func10, Try.ntmps10
      go_wp2_with fail
      refine HC.out.mono ?_
      rintro e w1 ⟨rfl, rfl⟩
      go_wp2_with fail
      refine HC2.out.mono ?_
      rintro e w1 ⟨rfl, rfl⟩
      go_wp2_with fail
      exact bodyPost_ret (results_tmps (p := 4) (q := 5) rfl _ _ _ _ rfl rfl) rfl ⟨congrArg Ending.returned HV.out.symm, rfl⟩
    | true =>
      have HV : Hid (mulT a b = .tuple #[.int .i64 (a * b % 2147483579), .int .i64 0]) := Lib.hid (by unfold mulT; rw [h1, h2]; rfl)
      have HRB := Lib.hid (valid_rp h2)
      rw [h1] at HC
      rw [h2] at HC2
      clear h1 h2
      go_enter Try.func10, Try.ntmps10
      go_wp2_with fail
      refine HC.out.mono ?_
      rintro e w1 ⟨rfl, rfl⟩
      go_wp2_with fail
      refine HC2.out.mono ?_
      rintro e w1 ⟨rfl, rfl⟩
      have hab := mulp_rng HRA.out HRB.out
      have hw : wrap64 (a * b) = a * b := by unfold wrap64; omega
      obtain ⟨hab1, hab2⟩ := hab
      go_wp2_with fail
      exact bodyPost_ret (results_tmps (p := 4) (q := 5) rfl _ _ _ _ rfl rfl) rfl ⟨congrArg Ending.returned HV.out.symm, rfl⟩
set_option maxHeartbeats 400000 in
set_option maxRecDepth 100000 in
theorem refPow_call (a n : Int) (w : World) (ha : I64 a) (hn : I64 n) :
    Calls Try.prog 12 #[.int .i64 a, .int .i64 n] w fun e w' => e = .returned (powT a n) ∧ w' = w := by
  have HC := Lib.hid (refValid_call a w ha)
  cases h1 : valid a with
  | false =>
    have HV : Hid (powT a n = .tuple #[.int .i64 0, .int .i64 100]) := Lib.hid (by unfold powT; rw [h1]; rfl)
    rw [h1] at HC
    clear h1
    go_enter Try.func12, Try.ntmps12
    go_wp2_with fail
    refine HC.out.mono ?_
    rintro e w1 ⟨rfl, rfl⟩
    go_wp2_with fail
    exact bodyPost_ret (results_tmps (p := 4) (q := 5) rfl _ _ _ _ rfl rfl) rfl ⟨congrArg Ending.returned HV.out.symm, rfl⟩
  | true =>
    have HV : Hid (powT a n = .tuple #[.int .i64 (powQ a n), .int .i64 0]) := Lib.hid (by unfold powT; rw [h1]; rfl)
    have HRA := Lib.hid (valid_rp h1)
    have HM := Lib.hid (modq_rng n)
    rw [h1] at HC
    clear h1
    have HP : Hid (∀ W, Calls Try.prog 23 #[.int .i64 a, .int .i64 (n % 1073741789)] W fun e w' => e = .returned (.int .i64 (powQ a n)) ∧ w' = W) := Lib.hid (fun W => by
      have := refpower_call a (n % 1073741789).toNat W HRA.out (by have := HM.out; omega)
      rw [toNat_mod] at this
      exact this)
    go_enter Try.func12, Try.ntmps12
    go_wp2_with fail
    refine HC.out.mono ?_
    rintro e w1 ⟨rfl, rfl⟩
    go_wp2_with fail
    refine (refexponent_call n _ hn).mono ?_
    rintro e w1 ⟨rfl, rfl⟩
    go_wp2_with fail
    refine (HP.out _).mono ?_
    rintro e w1 ⟨rfl, rfl⟩
    go_wp2_with fail
    exact bodyPost_ret (results_tmps (p := 4) (q := 5) rfl _ _ _ _ rfl rfl) rfl ⟨congrArg Ending.returned HV.out.symm, rfl⟩
end Go.Proofs.Ytcoboacjcnjdoaa
