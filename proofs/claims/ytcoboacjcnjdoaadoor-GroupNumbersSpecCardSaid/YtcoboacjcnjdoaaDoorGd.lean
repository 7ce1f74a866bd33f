/- Products, powers, elements and numbers: the program's functions, the specification's, and the laws' own. -/
import Derived.Test.YtcoboacjcnjdoaaDoorF
namespace Go.Proofs.YtcoboacjcnjdoaaDoor
open Go.RowKit Go.Shelf

set_option maxHeartbeats 400000 in
set_option maxRecDepth 100000 in
theorem refElement_call (n : Int) (w : World) (hn : I64 n) :
    Calls Tryd.prog 7 #[.int .i64 n] w fun e w' => e = .returned (elT n) ∧ w' = w := by
  have HI := Lib.hid hn
  obtain ⟨hn1, hn2⟩ := hn
  by_cases h1 : n < 1
  · have HV : Hid (elT n = .tuple #[.int .i64 0, .int .i64 1]) := Lib.hid (by unfold elT; rw [if_neg (by omega)])
    go_enter Tryd.func7, Tryd.ntmps7
    go_wp2_with fail
    exact bodyPost_ret (results_tmps (p := 2) (q := 3) rfl _ _ _ _ rfl rfl) rfl ⟨congrArg Ending.returned HV.out.symm, rfl⟩
  · by_cases h2 : 1073741789 < n
    · have HV : Hid (elT n = .tuple #[.int .i64 0, .int .i64 1]) := Lib.hid (by unfold elT; rw [if_neg (by omega)])
      go_enter Tryd.func7, Tryd.ntmps7
      go_wp2_with fail
      exact bodyPost_ret (results_tmps (p := 2) (q := 3) rfl _ _ _ _ rfl rfl) rfl ⟨congrArg Ending.returned HV.out.symm, rfl⟩
    · have HC := Lib.hid (refValid_call n w HI.out)
      have hw : wrap64 (2147483579 - n) = 2147483579 - n := by unfold wrap64; omega
      cases h3 : valid n with
      | true =>
        have HV : Hid (elT n = .tuple #[.int .i64 n, .int .i64 0]) := Lib.hid (by unfold elT; rw [if_pos (by omega), h3]; rfl)
        rw [h3] at HC
        clear h3
        go_enter Tryd.func7, Tryd.ntmps7
        go_wp2_with fail
        refine HC.out.mono ?_
        rintro e w1 ⟨rfl, rfl⟩
        go_wp2_with fail
        exact bodyPost_ret (results_tmps (p := 2) (q := 3) rfl _ _ _ _ rfl rfl) rfl ⟨congrArg Ending.returned HV.out.symm, rfl⟩
      | false =>
        have HV : Hid (elT n = .tuple #[.int .i64 (2147483579 - n), .int .i64 0]) := Lib.hid (by unfold elT; rw [if_pos (by omega), h3]; rfl)
        rw [h3] at HC
        clear h3
        go_enter Tryd.func7, Tryd.ntmps7
        go_wp2_with fail
        refine HC.out.mono ?_
        rintro e w1 ⟨rfl, rfl⟩
        go_wp2_with fail
        exact bodyPost_ret (results_tmps (p := 2) (q := 3) rfl _ _ _ _ rfl rfl) rfl ⟨congrArg Ending.returned HV.out.symm, rfl⟩
set_option maxHeartbeats 400000 in
set_option maxRecDepth 100000 in
theorem refNumber_call (x : Int) (w : World) (hx : I64 x) :
    Calls Tryd.prog 9 #[.int .i64 x] w fun e w' => e = .returned (numT x) ∧ w' = w := by
  have HC := Lib.hid (refValid_call x w hx)
  obtain ⟨hn1, hn2⟩ := hx
  cases h3 : valid x with
  | false =>
    have HV : Hid (numT x = .tuple #[.int .i64 0, .int .i64 100]) := Lib.hid (by unfold numT; rw [h3]; rfl)
    rw [h3] at HC
    clear h3
    go_enter Tryd.func9, Tryd.ntmps9
    go_wp2_with fail
    refine HC.out.mono ?_
    rintro e w1 ⟨rfl, rfl⟩
    go_wp2_with fail
    exact bodyPost_ret (results_tmps (p := 2) (q := 3) rfl _ _ _ _ rfl rfl) rfl ⟨congrArg Ending.returned HV.out.symm, rfl⟩
  | true =>
    have hr := valid_rng h3
    have hw : wrap64 (2147483579 - x) = 2147483579 - x := by unfold wrap64; omega
    by_cases h4 : x ≤ 1073741789
    · have HV : Hid (numT x = .tuple #[.int .i64 x, .int .i64 0]) := Lib.hid (by unfold numT; rw [h3, if_pos rfl, if_pos h4])
      rw [h3] at HC
      clear h3
      go_enter Tryd.func9, Tryd.ntmps9
      go_wp2_with fail
      refine HC.out.mono ?_
      rintro e w1 ⟨rfl, rfl⟩
      go_wp2_with fail
      exact bodyPost_ret (results_tmps (p := 2) (q := 3) rfl _ _ _ _ rfl rfl) rfl ⟨congrArg Ending.returned HV.out.symm, rfl⟩
    · have HV : Hid (numT x = .tuple #[.int .i64 (2147483579 - x), .int .i64 0]) := Lib.hid (by unfold numT; rw [h3, if_pos rfl, if_neg h4])
      rw [h3] at HC
      clear h3
      go_enter Tryd.func9, Tryd.ntmps9
      go_wp2_with fail
      refine HC.out.mono ?_
      rintro e w1 ⟨rfl, rfl⟩
      go_wp2_with fail
      exact bodyPost_ret (results_tmps (p := 2) (q := 3) rfl _ _ _ _ rfl rfl) rfl ⟨congrArg Ending.returned HV.out.symm, rfl⟩
end Go.Proofs.YtcoboacjcnjdoaaDoor
