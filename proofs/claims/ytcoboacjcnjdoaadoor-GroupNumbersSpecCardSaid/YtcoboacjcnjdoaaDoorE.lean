/- The program's and the specification's functions on elements. -/
import Derived.Test.YtcoboacjcnjdoaaDoorN
namespace Go.Proofs.YtcoboacjcnjdoaaDoor
open Go.RowKit Go.Shelf

def mulT (a b : Int) : Value := if (valid a && valid b) = true then .tuple #[.int .i64 (a * b % 2147483579), .int .i64 0] else .tuple #[.int .i64 0, .int .i64 100]
def powT (a n : Int) : Value := if valid a = true then .tuple #[.int .i64 (powQ a n), .int .i64 0] else .tuple #[.int .i64 0, .int .i64 100]
def elT (n : Int) : Value := if 1 ≤ n ∧ n ≤ 1073741789 then (if valid n = true then .tuple #[.int .i64 n, .int .i64 0] else .tuple #[.int .i64 (2147483579 - n), .int .i64 0]) else .tuple #[.int .i64 0, .int .i64 1]
def numT (x : Int) : Value := if valid x = true then (if x ≤ 1073741789 then .tuple #[.int .i64 x, .int .i64 0] else .tuple #[.int .i64 (2147483579 - x), .int .i64 0]) else .tuple #[.int .i64 0, .int .i64 100]

/-! ### the specification -/
def PowHead (x0 : Int) (n0 : Nat) (w : World) (s0 s1 s5 : Value) (wr : World) : Prop :=
  ∃ (x y : Int) (n : Nat), s0 = .int .i64 x ∧ s1 = .int .i64 (n : Int) ∧ s5 = .int .i64 y ∧ Rp x ∧ Rp y ∧ n ≤ n0 ∧ Cp (y * x ^ n) (x0 ^ n0) ∧ wr = w
set_option maxHeartbeats 1000000 in
set_option maxRecDepth 100000 in
theorem refpower_call (x : Int) (n : Nat) (w : World) (hx : Rp x) (hn : n < 1073741824) :
    Calls Tryd.prog 24 #[.int .i64 x, .int .i64 (n : Int)] w fun e w' => e = .returned (.int .i64 (fpw x n)) ∧ w' = w := by
  have HS : Hid (∀ y x : Int, ∀ n : Nat, Cp (y * x ^ n) ((if n % 2 = 1 then y * x % 2147483579 else y) * (x * x % 2147483579) ^ (n / 2))) := Lib.hid fpw_step
  have HN := Lib.hid hn
  have HX := Lib.hid hx
  clear hn hx
  go_enter Tryd.func24, Tryd.ntmps24
  go_wp2_with fail
  go_loopw [0, 1, 5] (fun s0 s1 s5 wr => PowHead x n w s0 s1 s5 wr) (fun _ s1 _ _ => (intOf s1).toNat)
  case atStart => exact ⟨x, 1, n, rfl, rfl, rfl, HX.out, ⟨by omega, by omega⟩, Nat.le_refl _, by rw [Int.one_mul]; exact Cp.refl _, rfl⟩
  case round =>
    obtain ⟨x1, y1, m, rfl, rfl, rfl, hx1, hy1, hm, hc, rfl⟩ := hrel
    have HM := Lib.hid hm
    have HC := Lib.hid hc
    have HY := Lib.hid hy1
    have hmb : (m : Int) ≤ 1073741823 := by have := HN.out; omega
    have hmz : (0 : Int) ≤ (m : Int) := by omega
    have hxx := mulp_rng hx1 hx1
    have hyx := mulp_rng hy1 hx1
    have hw1 : wrap64 (x1 * x1) = x1 * x1 := by unfold wrap64; omega
    have hw2 : wrap64 (y1 * x1) = y1 * x1 := by unfold wrap64; omega
    obtain ⟨hxx1, hxx2⟩ := hxx
    obtain ⟨hyx1, hyx2⟩ := hyx
    clear hc hy1 hm hx1
    obtain ⟨M, hMM⟩ : ∃ M : Int, M = (m : Int) := ⟨_, rfl⟩
    have HMM := Lib.hid hMM
    rw [← hMM] at hmb hmz ⊢
    clear hMM
    by_cases h0 : m = 0
    · have hM0 : M = 0 := by have := HMM.out; omega
      subst hM0 h0
      go_wp2_with fail
      try rw [Exit.noGoto_ret]
      go_ret
      refine ⟨ret_i64 ?_, rfl⟩
      have h1 := HC.out.eq
      have h2 := HY.out.1
      have h3 := HY.out.2
      rw [Int.pow_zero, Int.mul_one] at h1
      unfold fpw
      omega
    · have hm0 : 0 < M := by have := HMM.out; omega
      by_cases h2 : m % 2 = 1
      · have hmm : M % 2 = 1 := by have := HMM.out; omega
        have HS1 := HS.out y1 x1 m
        rw [if_pos h2] at HS1
        replace HS1 := Lib.hid HS1
        go_wp2_with fail
        exact ⟨⟨_, _, m / 2, rfl, by have := HMM.out; exact congrArg _ (by omega), rfl, rp_mod _, rp_mod _, by have := HM.out; omega, HS1.out.symm.trans HC.out, rfl⟩, by have := HMM.out; simp [intOf]; omega⟩
      · have h2' : m % 2 = 0 := by omega
        have hmm : M % 2 = 0 := by have := HMM.out; omega
        have HS1 := HS.out y1 x1 m
        rw [if_neg h2] at HS1
        replace HS1 := Lib.hid HS1
        go_wp2_with fail
        exact ⟨⟨_, _, m / 2, rfl, by have := HMM.out; exact congrArg _ (by omega), rfl, rp_mod _, HY.out, by have := HM.out; omega, HS1.out.symm.trans HC.out, rfl⟩, by have := HMM.out; simp [intOf]; omega⟩
theorem fpw_valid {x : Int} (h1 : 1 ≤ x) (h2 : x < 2147483579) (n : Nat) (hn : n = 1073741789) : (fpw x n == 1) = valid x := by
  have he := euler_valid h1 h2 hn
  have h3 := fpw_cp x n
  have hr := fpw_rng x n
  cases hv : valid x
  · rw [hv] at he
    have h4 := (h3.trans he).eq
    rw [show sgI (!false) % 2147483579 = 2147483578 from rfl] at h4
    have := hr.1; have := hr.2
    simp only [beq_eq_false_iff_ne]; omega
  · rw [hv] at he
    have h4 := (h3.trans he).eq
    rw [show sgI (!true) % 2147483579 = 1 from rfl] at h4
    have := hr.1; have := hr.2
    simp only [beq_iff_eq]; omega
set_option maxHeartbeats 400000 in
set_option maxRecDepth 100000 in
theorem refValid_call (x : Int) (w : World) (hx : I64 x) :
    Calls Tryd.prog 16 #[.int .i64 x] w fun e w' => e = .returned (.bool (valid x)) ∧ w' = w := by
  obtain ⟨hx1, hx2⟩ := hx
  by_cases h1 : 1 ≤ x
  · by_cases h2 : x < 2147483579
    · obtain ⟨y, HY, HC⟩ : ∃ y : Int, Hid ((y == 1) = valid x) ∧ Hid (Calls Tryd.prog 24 #[.int .i64 x, .int .i64 1073741789] w fun e w' => e = .returned (.int .i64 y) ∧ w' = w) := by
        obtain ⟨n, hn⟩ : ∃ n : Nat, n = 1073741789 := ⟨_, rfl⟩
        have h := refpower_call x n w ⟨by omega, h2⟩ (by omega)
        rw [show (n : Int) = 1073741789 by omega] at h
        exact ⟨_, Lib.hid (fpw_valid h1 h2 n hn), Lib.hid h⟩
      go_enter Tryd.func16, Tryd.ntmps16
      go_wp2_with fail
      refine HC.out.mono ?_
      rintro e w1 ⟨rfl, rfl⟩
      go_wp2_with fail
      go_ret
      exact ⟨ret_bool HY.out, rfl⟩
    · have HV : Hid (valid x = false) := Lib.hid (valid_out (by omega))
      go_enter Tryd.func16, Tryd.ntmps16
      go_wp2_with fail
      go_ret
      exact ⟨ret_bool HV.out.symm, rfl⟩
  · have HV : Hid (valid x = false) := Lib.hid (valid_out (by omega))
    go_enter Tryd.func16, Tryd.ntmps16
    go_wp2_with fail
    go_ret
    exact ⟨ret_bool HV.out.symm, rfl⟩
end Go.Proofs.YtcoboacjcnjdoaaDoor
