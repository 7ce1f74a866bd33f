/- Memory: slices of numbers and of points; the smallest functions of the program. -/
import Derived.Test.YtbigkcemcdokaaaRows
import Derived.Test.YtbigkcemcdokaaaM
import Derived.WalkKit
import Derived.WalkLawsBesides
import Derived.Lib.Hide
import Derived.Outline
import Derived.Deep.QuietTactic
import Derived.BigQuiet
import Derived.Laws.Wrap64
import Derived.IntWalk
import Derived.ArgAppend
import Derived.Lib.SmallJoins
import Derived.Laws.Rows
import Derived.Deep.WholeRow
import Derived.Deep.RegionWith
import Derived.Deep.RegionHeld3
import Derived.OpenShut
import Derived.WalkMore
import Derived.Laws.ShiftsVarLaws
import Derived.Lib.RabinKarpLaws
import Derived.WalkArith
import Derived.Laws.Shifts
namespace Go.Proofs.Ytbigkcemcdokaaa
open Go.RowKit

theorem ret_i64 {a b : Int} (h : a = b) : Ending.returned (.int .i64 a) = .returned (.int .i64 b) := by rw [h]
theorem ret_bool {a b : Bool} (h : a = b) : Ending.returned (.bool a) = .returned (.bool b) := by rw [h]
theorem below_next {w a b : World} (h : Below w.heap.size w a) (k : Below a.heap.size a b) : Below w.heap.size w b := h.trans (k.mono h.size)

theorem tmod_or (n : Int) : 0 ≤ n ∧ n.tmod 1073741789 = n % 1073741789 ∨ n.tmod 1073741789 = -((-n) % 1073741789) ∧ n < 0 := by
  rcases Int.lt_or_le n 0 with h | h
  · right
    refine ⟨?_, h⟩
    have := Int.neg_tmod (-n) 1073741789
    rw [Int.neg_neg] at this
    rw [this, Int.tmod_eq_emod_of_nonneg (by omega)]
  · exact .inl ⟨h, Int.tmod_eq_emod_of_nonneg h⟩
/-- a number that an int holds -/
def I64 (n : Int) : Prop := -9223372036854775808 ≤ n ∧ n ≤ 9223372036854775807
theorem i64_mod (n : Int) : I64 (n % 1073741789) := ⟨by have := Int.emod_nonneg n (show (1073741789 : Int) ≠ 0 by omega); omega, by have := Int.emod_lt_of_pos n (show (0 : Int) < 1073741789 by omega); omega⟩
theorem mod_rng (n : Int) : 0 ≤ n % 1073741789 ∧ n % 1073741789 < 1073741789 := ⟨Int.emod_nonneg _ (by omega), Int.emod_lt_of_pos _ (by omega)⟩
theorem mul_rng {x y : Int} (hx : 0 ≤ x ∧ x < 1073741789) (hy : 0 ≤ y ∧ y < 1073741789) : 0 ≤ x * y ∧ x * y ≤ 1152921504606846976 := by
  refine ⟨Int.mul_nonneg hx.1 hy.1, ?_⟩
  have h1 := Int.mul_le_mul_of_nonneg_right (show x ≤ 1073741824 by omega) hy.1
  omega
theorem wrap_mul (a b : Int) : wrap64 (a % 1073741789 * (b % 1073741789)) = a % 1073741789 * (b % 1073741789) := by
  have := mul_rng (mod_rng a) (mod_rng b)
  unfold wrap64; omega

set_option maxHeartbeats 400000 in
set_option maxRecDepth 100000 in
theorem mod_call (n : Int) (w : World) (hn : I64 n) :
    Calls Try.prog 10 #[.int .i64 n] w fun e w' => e = .returned (.int .i64 (n % 1073741789)) ∧ w' = w := by
  have HT := Lib.hid (tmod_or n)
  obtain ⟨hn1, hn2⟩ := hn
  go_enter Try.func10, Try.ntmps10
  go_wp2_with fail
  all_goals
    go_ret
    refine ⟨ret_i64 ?_, rfl⟩
    have := HT.out
    try unfold wrap64
    omega
set_option maxHeartbeats 400000 in
set_option maxRecDepth 100000 in
theorem refmod_call (n : Int) (w : World) (hn : I64 n) :
    Calls Try.prog 11 #[.int .i64 n] w fun e w' => e = .returned (.int .i64 (n % 1073741789)) ∧ w' = w := by
  have HT := Lib.hid (tmod_or n)
  obtain ⟨hn1, hn2⟩ := hn
  go_enter Try.func11, Try.ntmps11
  go_wp2_with fail
  all_goals
    go_ret
    refine ⟨ret_i64 ?_, rfl⟩
    have := HT.out
    try unfold wrap64
    omega
set_option maxHeartbeats 400000 in
set_option maxRecDepth 100000 in
theorem in_call (n : Int) (w : World) (hn : 0 ≤ n ∧ n < 1073741789) :
    Calls Try.prog 16 #[.int .i64 n] w fun e w' => e = .returned (.bool true) ∧ w' = w := by
  obtain ⟨h1, h2⟩ := hn
  go_enter Try.func16, Try.ntmps16
  go_wp2_with fail
  go_ret
  exact ⟨rfl, rfl⟩
set_option maxHeartbeats 400000 in
set_option maxRecDepth 100000 in
theorem mul_call (a b : Int) (w : World) (ha : I64 a) (hb : I64 b) :
    Calls Try.prog 14 #[.int .i64 a, .int .i64 b] w fun e w' => e = .returned (.int .i64 (a * b % 1073741789)) ∧ w' = w := by
  have HW := Lib.hid (wrap_mul a b)
  have HR := Lib.hid (mul_rng (mod_rng a) (mod_rng b))
  have HE : Hid (a % 1073741789 * (b % 1073741789) % 1073741789 = a * b % 1073741789) := Lib.hid (Int.mul_emod a b _).symm
  have HM : Hid (∀ n, I64 n → ∀ w, Calls Try.prog 10 #[.int .i64 n] w fun e w' => e = .returned (.int .i64 (n % 1073741789)) ∧ w' = w) := Lib.hid fun n hn w => mod_call n w hn
  have hA := i64_mod a
  have hB := i64_mod b
  go_enter Try.func14, Try.ntmps14
  go_wp2_with fail
  refine (mod_call a w ha).mono ?_
  rintro e w1 ⟨rfl, rfl⟩
  go_wp2_with fail
  refine (mod_call b _ hb).mono ?_
  rintro e w1 ⟨rfl, rfl⟩
  have hw := HW.out
  go_wp2_with fail
  refine (mod_call _ _ ⟨by have := HR.out; omega, by have := HR.out; omega⟩).mono ?_
  rintro e w1 ⟨rfl, rfl⟩
  go_wp2_with fail
  go_ret
  exact ⟨ret_i64 HE.out, rfl⟩
theorem tmod_pos {n : Int} (h : 0 ≤ n) : n.tmod 1073741789 = n % 1073741789 := Int.tmod_eq_emod_of_nonneg h
set_option maxHeartbeats 400000 in
set_option maxRecDepth 100000 in
theorem refmul_call (a b : Int) (w : World) (ha : I64 a) (hb : I64 b) :
    Calls Try.prog 15 #[.int .i64 a, .int .i64 b] w fun e w' => e = .returned (.int .i64 (a * b % 1073741789)) ∧ w' = w := by
  have HW := Lib.hid (wrap_mul a b)
  have HE : Hid (a % 1073741789 * (b % 1073741789) % 1073741789 = a * b % 1073741789) := Lib.hid (Int.mul_emod a b _).symm
  have HT := Lib.hid (tmod_pos (mul_rng (mod_rng a) (mod_rng b)).1)
  go_enter Try.func15, Try.ntmps15
  go_wp2_with fail
  refine (refmod_call a w ha).mono ?_
  rintro e w1 ⟨rfl, rfl⟩
  go_wp2_with fail
  refine (refmod_call b _ hb).mono ?_
  rintro e w1 ⟨rfl, rfl⟩
  have hw := HW.out
  go_wp2_with fail
  go_ret
  exact ⟨ret_i64 (by first | exact HE.out | rw [HT.out, HE.out]), rfl⟩
set_option maxHeartbeats 400000 in
set_option maxRecDepth 100000 in
theorem refadd_call (a b : Int) (w : World) (ha : I64 a) (hb : I64 b) :
    Calls Try.prog 13 #[.int .i64 a, .int .i64 b] w fun e w' => e = .returned (.int .i64 ((a + b) % 1073741789)) ∧ w' = w := by
  have HA := Lib.hid (mod_rng a)
  have HB := Lib.hid (mod_rng b)
  have HW : Hid (wrap64 (a % 1073741789 + b % 1073741789) = a % 1073741789 + b % 1073741789) := Lib.hid (by have := mod_rng a; have := mod_rng b; unfold wrap64; omega)
  have HE : Hid ((a % 1073741789 + b % 1073741789) % 1073741789 = (a + b) % 1073741789) := Lib.hid (by omega)
  have HT := Lib.hid (tmod_pos (show 0 ≤ a % 1073741789 + b % 1073741789 by omega))
  go_enter Try.func13, Try.ntmps13
  go_wp2_with fail
  refine (refmod_call a w ha).mono ?_
  rintro e w1 ⟨rfl, rfl⟩
  go_wp2_with fail
  refine (refmod_call b _ hb).mono ?_
  rintro e w1 ⟨rfl, rfl⟩
  have hw := HW.out
  go_wp2_with fail
  go_ret
  exact ⟨ret_i64 (by first | exact HE.out | rw [HT.out, HE.out]), rfl⟩

/-! ### powers -/
theorem fpow_step (y x : Int) (n : Nat) : Cg (y * x ^ n) ((if n % 2 = 1 then y * x % 1073741789 else y) * (x * x % 1073741789) ^ (n / 2)) := by
  have h1 : x ^ n = (x * x) ^ (n / 2) * x ^ (n % 2) := by
    rw [show x * x = x ^ 2 by rw [Int.pow_succ, Int.pow_succ, Int.pow_zero, Int.one_mul], ← Int.pow_mul, ← Int.pow_add, Nat.div_add_mod]
  have h2 : Cg ((x * x) ^ (n / 2)) ((x * x % 1073741789) ^ (n / 2)) := ((cg_mod (x * x)).symm).pow _
  rw [h1]
  split
  · rename_i h
    rw [h, Int.pow_one, show y * ((x * x) ^ (n / 2) * x) = y * x * (x * x) ^ (n / 2) by grind]
    exact ((cg_mod (y * x)).symm).mul h2
  · rename_i h
    rw [show n % 2 = 0 by omega, Int.pow_zero, Int.mul_one]
    exact (Cg.refl y).mul h2
def PowHead (x0 : Int) (n0 : Nat) (w : World) (s0 s1 s5 : Value) (wr : World) : Prop :=
  ∃ (x y : Int) (n : Nat), s0 = .int .i64 x ∧ s1 = .int .i64 (n : Int) ∧ s5 = .int .i64 y ∧ I64 x ∧ (0 ≤ y ∧ y < 1073741789) ∧ n ≤ n0 ∧ Cg (y * x ^ n) (x0 ^ n0) ∧ wr = w
set_option maxHeartbeats 1000000 in
set_option maxRecDepth 100000 in
theorem power_call (x : Int) (n : Nat) (w : World) (hx : I64 x) (hn : n < 1073741824) :
    Calls Try.prog 26 #[.int .i64 x, .int .i64 (n : Int)] w fun e w' => e = .returned (.int .i64 (fpow x n)) ∧ w' = w := by
  have HS : Hid (∀ y x : Int, ∀ n : Nat, Cg (y * x ^ n) ((if n % 2 = 1 then y * x % 1073741789 else y) * (x * x % 1073741789) ^ (n / 2))) := Lib.hid fpow_step
  have HN := Lib.hid hn
  clear hn
  go_enter Try.func26, Try.ntmps26
  go_wp2_with fail
  go_step3
  go_wp2_with fail
  go_step3
  go_wp2_with fail
  go_loopw [0, 1, 5] (fun s0 s1 s5 wr => PowHead x n w s0 s1 s5 wr) (fun _ s1 _ _ => (intOf s1).toNat)
  case atStart => exact ⟨x, 1, n, rfl, rfl, rfl, hx, by omega, Nat.le_refl _, by rw [Int.one_mul]; exact Cg.refl _, rfl⟩
  case round =>
    obtain ⟨x1, y1, m, rfl, rfl, rfl, hx1, hy1, hm, hc, rfl⟩ := hrel
    have HM := Lib.hid hm
    have HC := Lib.hid hc
    have HY := Lib.hid hy1
    have HI := Lib.hid (i64_mod (x1 * x1))
    have hyI : I64 y1 := ⟨by omega, by omega⟩
    have hmb : (m : Int) ≤ 1073741823 := by have := HN.out; omega
    have hmz : (0 : Int) ≤ (m : Int) := by omega
    have hand : bits .and .i64 (m : Int) 1 = ((m % 2 : Nat) : Int) := Go.Proofs.and_one m (by omega)
    clear hc hy1 hm
    obtain ⟨M, hMM⟩ : ∃ M : Int, M = (m : Int) := ⟨_, rfl⟩
    have HMM := Lib.hid hMM
    rw [← hMM] at hmb hmz hand ⊢
    clear hMM
    by_cases h0 : m = 0
    · have hM0 : M = 0 := by have := HMM.out; omega
      subst hM0 h0
      go_wp2_with fail
      try rw [Exit.noGoto_ret]
      go_ret
      refine ⟨ret_i64 ?_, rfl⟩
      have h1 := HC.out.eq
      have h2 := HY.out
      rw [Int.pow_zero, Int.mul_one] at h1
      unfold fpow
      omega
    · have hm0 : ¬ M = 0 := by have := HMM.out; omega
      by_cases h2 : m % 2 = 1
      · rw [h2] at hand
        have HS1 := HS.out y1 x1 m
        rw [if_pos h2] at HS1
        replace HS1 := Lib.hid HS1
        go_wp2_with fail
        refine (mul_call _ _ _ hyI hx1).mono ?_
        rintro e w1 ⟨rfl, rfl⟩
        go_wp2_with fail
        refine (mul_call _ _ _ hx1 hx1).mono ?_
        rintro e w1 ⟨rfl, rfl⟩
        go_wp2_with fail
        exact ⟨⟨_, _, m / 2, rfl, by have := HMM.out; exact congrArg _ (by omega), rfl, HI.out, mod_rng _, by have := HM.out; omega, HS1.out.symm.trans HC.out, rfl⟩, by have := HMM.out; simp [intOf]; omega⟩
      · have h2' : m % 2 = 0 := by omega
        rw [h2'] at hand
        have HS1 := HS.out y1 x1 m
        rw [if_neg h2] at HS1
        replace HS1 := Lib.hid HS1
        go_wp2_with fail
        refine (mul_call _ _ _ hx1 hx1).mono ?_
        rintro e w1 ⟨rfl, rfl⟩
        go_wp2_with fail
        exact ⟨⟨_, _, m / 2, rfl, by have := HMM.out; exact congrArg _ (by omega), rfl, HI.out, HY.out, by have := HM.out; omega, HS1.out.symm.trans HC.out, rfl⟩, by have := HMM.out; simp [intOf]; omega⟩
set_option maxHeartbeats 1000000 in
set_option maxRecDepth 100000 in
theorem refpower_call (x : Int) (n : Nat) (w : World) (hx : I64 x) (hn : n < 1073741824) :
    Calls Try.prog 21 #[.int .i64 x, .int .i64 (n : Int)] w fun e w' => e = .returned (.int .i64 (fpow x n)) ∧ w' = w := by
  have HS : Hid (∀ y x : Int, ∀ n : Nat, Cg (y * x ^ n) ((if n % 2 = 1 then y * x % 1073741789 else y) * (x * x % 1073741789) ^ (n / 2))) := Lib.hid fpow_step
  have HN := Lib.hid hn
  clear hn
  go_enter Try.func21, Try.ntmps21
  go_wp2_with fail
  go_loopw [0, 1, 5] (fun s0 s1 s5 wr => PowHead x n w s0 s1 s5 wr) (fun _ s1 _ _ => (intOf s1).toNat)
  case atStart => exact ⟨x, 1, n, rfl, rfl, rfl, hx, by omega, Nat.le_refl _, by rw [Int.one_mul]; exact Cg.refl _, rfl⟩
  case round =>
    obtain ⟨x1, y1, m, rfl, rfl, rfl, hx1, hy1, hm, hc, rfl⟩ := hrel
    have HM := Lib.hid hm
    have HC := Lib.hid hc
    have HY := Lib.hid hy1
    have HI := Lib.hid (i64_mod (x1 * x1))
    have hyI : I64 y1 := ⟨by omega, by omega⟩
    have hmb : (m : Int) ≤ 1073741823 := by have := HN.out; omega
    have hmz : (0 : Int) ≤ (m : Int) := by omega
    clear hc hy1 hm
    obtain ⟨M, hMM⟩ : ∃ M : Int, M = (m : Int) := ⟨_, rfl⟩
    have HMM := Lib.hid hMM
    rw [← hMM] at hmb hmz ⊢
    clear hMM
    by_cases h0 : m = 0
    · have hM0 : M = 0 := by have := HMM.out; omega
      subst hM0 h0
      go_wp2_with fail
      try rw [Exit.noGoto_ret]
      go_ret
      refine ⟨ret_i64 ?_, rfl⟩
      have h1 := HC.out.eq
      have h2 := HY.out
      rw [Int.pow_zero, Int.mul_one] at h1
      unfold fpow
      omega
    · have hm0 : 0 < M := by have := HMM.out; omega
      by_cases h2 : m % 2 = 1
      · have hmm : M % 2 = 1 := by have := HMM.out; omega
        have HS1 := HS.out y1 x1 m
        rw [if_pos h2] at HS1
        replace HS1 := Lib.hid HS1
        go_wp2_with fail
        refine (refmul_call _ _ _ hyI hx1).mono ?_
        rintro e w1 ⟨rfl, rfl⟩
        go_wp2_with fail
        refine (refmul_call _ _ _ hx1 hx1).mono ?_
        rintro e w1 ⟨rfl, rfl⟩
        go_wp2_with fail
        exact ⟨⟨_, _, m / 2, rfl, by have := HMM.out; exact congrArg _ (by omega), rfl, HI.out, mod_rng _, by have := HM.out; omega, HS1.out.symm.trans HC.out, rfl⟩, by have := HMM.out; simp [intOf]; omega⟩
      · have h2' : m % 2 = 0 := by omega
        have hmm : M % 2 = 0 := by have := HMM.out; omega
        have HS1 := HS.out y1 x1 m
        rw [if_neg h2] at HS1
        replace HS1 := Lib.hid HS1
        go_wp2_with fail
        refine (refmul_call _ _ _ hx1 hx1).mono ?_
        rintro e w1 ⟨rfl, rfl⟩
        go_wp2_with fail
        exact ⟨⟨_, _, m / 2, rfl, by have := HMM.out; exact congrArg _ (by omega), rfl, HI.out, HY.out, by have := HM.out; omega, HS1.out.symm.trans HC.out, rfl⟩, by have := HMM.out; simp [intOf]; omega⟩

/-! ### inverses -/
theorem results_tmps {fn : Func} {p q : Tmp} (h : fn.results = #[.tmp p, .tmp q]) (tmps : Array Value) (w : World) (x y : Value) (hx : tmps.getD p undef = x) (hy : tmps.getD q undef = y) : (results fn tmps).run Try.prog w = .ok (.tuple #[x, y]) w := by
  have hx' : tmps[p]?.getD undef = x := by simpa using hx
  have hy' : tmps[q]?.getD undef = y := by simpa using hy
  simp [results, h, hx', hy']
set_option maxRecDepth 100000 in
theorem inverse_call (x : Int) (w : World) (hx : I64 x) :
    Calls Try.prog 20 #[.int .i64 x] w fun e w' => e = .returned (.int .i64 (finv x)) ∧ w' = w := by
  have HP : Hid (∀ w, Calls Try.prog 26 #[.int .i64 x, .int .i64 1073741787] w fun e w' => e = .returned (.int .i64 (finv x)) ∧ w' = w) := Lib.hid fun w => by
    obtain ⟨n, hn⟩ : ∃ n : Nat, n = 1073741788 - 1 := ⟨_, rfl⟩
    have h := power_call x n w hx (by omega)
    rw [show (n : Int) = 1073741787 by omega] at h
    unfold finv; rw [← hn]; exact h
  go_enter Try.func20, Try.ntmps20
  go_wp2_with fail
  refine (HP.out w).mono ?_
  rintro e w1 ⟨rfl, rfl⟩
  go_wp2_with fail
  go_ret
  exact ⟨rfl, rfl⟩
theorem refpow_inv (x : Int) (w : World) (hx : I64 x) : Calls Try.prog 21 #[.int .i64 x, .int .i64 1073741787] w fun e w' => e = .returned (.int .i64 (finv x)) ∧ w' = w := by
  obtain ⟨n, hn⟩ : ∃ n : Nat, n = 1073741788 - 1 := ⟨_, rfl⟩
  have h := refpower_call x n w hx (by omega)
  rw [show (n : Int) = 1073741787 by omega] at h
  unfold finv; rw [← hn]; exact h
/-- what Inverse returns -/
def invV (x : Int) : Value := if x % 1073741789 = 0 then .tuple #[.int .i64 0, .int .i64 90] else .tuple #[.int .i64 (finv x), .int .i64 0]
set_option maxRecDepth 100000 in
theorem Inverse_call (x : Int) (w : World) (hx : I64 x) :
    Calls Try.prog 8 #[.int .i64 x] w fun e w' => e = .returned (invV x) ∧ w' = w := by
  by_cases h0 : x % 1073741789 = 0
  · have HV : Hid (invV x = .tuple #[.int .i64 0, .int .i64 90]) := Lib.hid (by unfold invV; rw [if_pos h0])
    go_enter Try.func8, Try.ntmps8
    go_wp2_with fail
    refine (mod_call x w hx).mono ?_
    rintro e w1 ⟨rfl, rfl⟩
    go_wp2_with fail
    exact bodyPost_ret (results_tmps (p := 2) (q := 3) rfl _ _ _ _ rfl rfl) rfl ⟨congrArg Ending.returned HV.out.symm, rfl⟩
  · have HV : Hid (invV x = .tuple #[.int .i64 (finv x), .int .i64 0]) := Lib.hid (by unfold invV; rw [if_neg h0])
    go_enter Try.func8, Try.ntmps8
    go_wp2_with fail
    refine (mod_call x w hx).mono ?_
    rintro e w1 ⟨rfl, rfl⟩
    go_wp2_with fail
    refine (inverse_call x _ hx).mono ?_
    rintro e w1 ⟨rfl, rfl⟩
    go_wp2_with fail
    exact bodyPost_ret (results_tmps (p := 2) (q := 3) rfl _ _ _ _ rfl rfl) rfl ⟨congrArg Ending.returned HV.out.symm, rfl⟩
set_option maxRecDepth 100000 in
theorem refInverse_call (x : Int) (w : World) (hx : I64 x) :
    Calls Try.prog 9 #[.int .i64 x] w fun e w' => e = .returned (invV x) ∧ w' = w := by
  by_cases h0 : x % 1073741789 = 0
  · have HV : Hid (invV x = .tuple #[.int .i64 0, .int .i64 90]) := Lib.hid (by unfold invV; rw [if_pos h0])
    go_enter Try.func9, Try.ntmps9
    go_wp2_with fail
    refine (refmod_call x w hx).mono ?_
    rintro e w1 ⟨rfl, rfl⟩
    go_wp2_with fail
    exact bodyPost_ret (results_tmps (p := 2) (q := 3) rfl _ _ _ _ rfl rfl) rfl ⟨congrArg Ending.returned HV.out.symm, rfl⟩
  · have HV : Hid (invV x = .tuple #[.int .i64 (finv x), .int .i64 0]) := Lib.hid (by unfold invV; rw [if_neg h0])
    go_enter Try.func9, Try.ntmps9
    go_wp2_with fail
    refine (refmod_call x w hx).mono ?_
    rintro e w1 ⟨rfl, rfl⟩
    go_wp2_with fail
    refine (refpow_inv x _ hx).mono ?_
    rintro e w1 ⟨rfl, rfl⟩
    go_wp2_with fail
    exact bodyPost_ret (results_tmps (p := 2) (q := 3) rfl _ _ _ _ rfl rfl) rfl ⟨congrArg Ending.returned HV.out.symm, rfl⟩
end Go.Proofs.Ytbigkcemcdokaaa
