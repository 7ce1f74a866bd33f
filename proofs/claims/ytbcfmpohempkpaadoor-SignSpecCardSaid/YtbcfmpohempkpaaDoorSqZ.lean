/- Numbers modulo Q of the specification: remainders, products, powers, quotients; two signatures with one point give away the secret. -/
import Derived.Test.YtbcfmpohempkpaaDoorSmZ
import Derived.Test.YtbcfmpohempkpaaDoorQMZ
namespace Go.Proofs.YtbcfmpohempkpaaDoor.Dig
open Go.RowKit

set_option maxHeartbeats 400000 in
set_option maxRecDepth 100000 in
theorem mod_call (n : Int) (w : World) (hn : I64 n) :
    Calls Tryd.prog 17 #[.int .i64 n] w fun e w' => e = .returned (.int .i64 (n % 1073741789)) ∧ w' = w := by
  have HT := Lib.hid (tmodq_or n)
  obtain ⟨hn1, hn2⟩ := hn
  go_enter Tryd.func17, Tryd.ntmps17
  go_wp2_with fail
  all_goals
    go_ret
    refine ⟨ret_i64 ?_, rfl⟩
    have := HT.out
    try unfold wrap64
    omega
/-- a product modulo Q -/
def tmsQ (a b : Int) : Int := (a % 1073741789) * (b % 1073741789) % 1073741789
theorem mulq_rng {x y : Int} (hx : 0 ≤ x ∧ x < 1073741789) (hy : 0 ≤ y ∧ y < 1073741789) : 0 ≤ x * y ∧ x * y < 1152921504606846976 := by
  refine ⟨Int.mul_nonneg hx.1 hy.1, ?_⟩
  have h1 := Int.mul_le_mul_of_nonneg_right (show x ≤ 1073741788 by omega) hy.1
  omega
set_option maxHeartbeats 1000000 in
set_option maxRecDepth 100000 in
theorem times_call (a b : Int) (w : World) (ha : I64 a) (hb : I64 b) :
    Calls Tryd.prog 30 #[.int .i64 a, .int .i64 b] w fun e w' => e = .returned (.int .i64 (tmsQ a b)) ∧ w' = w := by
  have HA := Lib.hid (fun W => mod_call a W ha)
  have HB := Lib.hid (fun W => mod_call b W hb)
  have HX := modq_rng a
  have HY := modq_rng b
  unfold tmsQ
  obtain ⟨x, hx⟩ : ∃ x, x = a % 1073741789 := ⟨_, rfl⟩
  obtain ⟨y, hy⟩ : ∃ y, y = b % 1073741789 := ⟨_, rfl⟩
  rw [← hx] at HA HX ⊢
  rw [← hy] at HB HY ⊢
  obtain ⟨m1, m2⟩ := mulq_rng HX HY
  have hw : wrap64 (x * y) = x * y := by unfold wrap64; omega
  clear hx hy HX HY
  go_enter Tryd.func30, Tryd.ntmps30
  go_wp2_with (first
    | (go_at_call 17; (first | with_reducible refine (HA.out _).mono ?_ | with_reducible refine (HB.out _).mono ?_); rintro e w1 ⟨rfl, rfl⟩)
    | fail)
  all_goals
    go_ret
    exact ⟨rfl, rfl⟩
/-- a power modulo Q -/
theorem fpq_step (y x : Int) (n : Nat) : Fld.Cg (y * x ^ n) ((if n % 2 = 1 then y * x % 1073741789 else y) * (x * x % 1073741789) ^ (n / 2)) := by
  have h1 : x ^ n = (x * x) ^ (n / 2) * x ^ (n % 2) := by
    rw [show x * x = x ^ 2 by rw [Int.pow_succ, Int.pow_succ, Int.pow_zero, Int.one_mul], ← Int.pow_mul, ← Int.pow_add, Nat.div_add_mod]
  have h2 : Fld.Cg ((x * x) ^ (n / 2)) ((x * x % 1073741789) ^ (n / 2)) := ((Fld.cg_mod (x * x)).symm).pow _
  rw [h1]
  split
  · rename_i h
    rw [h, Int.pow_one, show y * ((x * x) ^ (n / 2) * x) = y * x * (x * x) ^ (n / 2) by grind]
    exact ((Fld.cg_mod (y * x)).symm).mul h2
  · rename_i h
    rw [show n % 2 = 0 by omega, Int.pow_zero, Int.mul_one]
    exact (Fld.Cg.refl y).mul h2
def Rq (n : Int) : Prop := 0 ≤ n ∧ n < 1073741789
theorem rq_mod (n : Int) : Rq (n % 1073741789) := modq_rng n
def PwHead (x0 : Int) (n0 : Nat) (w : World) (s0 s1 s5 : Value) (wr : World) : Prop :=
  ∃ (x y : Int) (n : Nat), s0 = .int .i64 x ∧ s1 = .int .i64 (n : Int) ∧ s5 = .int .i64 y ∧ Rq x ∧ Rq y ∧ n ≤ n0 ∧ Fld.Cg (y * x ^ n) (x0 ^ n0) ∧ wr = w
set_option maxHeartbeats 1000000 in
set_option maxRecDepth 100000 in
theorem Power_call (x0 : Int) (n : Nat) (w : World) (hx : I64 x0) (hn : n < 1073741824) :
    Calls Tryd.prog 42 #[.int .i64 x0, .int .i64 (n : Int)] w fun e w' => e = .returned (.int .i64 (Fld.fpow x0 n)) ∧ w' = w := by
  have HS : Hid (∀ y x : Int, ∀ n : Nat, Fld.Cg (y * x ^ n) ((if n % 2 = 1 then y * x % 1073741789 else y) * (x * x % 1073741789) ^ (n / 2))) := Lib.hid fpq_step
  have HN := Lib.hid hn
  have HMC := Lib.hid (fun W => mod_call x0 W hx)
  have HX := Lib.hid (modq_rng x0)
  have HE : Hid (Fld.Cg ((x0 % 1073741789) ^ n) (x0 ^ n)) := Lib.hid ((Fld.cg_mod x0).pow n)
  obtain ⟨x, hxx⟩ : ∃ x, x = x0 % 1073741789 := ⟨_, rfl⟩
  rw [← hxx] at HMC HX HE
  clear hn hx hxx
  go_enter Tryd.func42, Tryd.ntmps42
  go_wp2_with fail
  refine (HMC.out _).mono ?_
  rintro e w1 ⟨rfl, rfl⟩
  go_wp2_with fail
  go_loopw [0, 1, 5] (fun s0 s1 s5 wr => PwHead x0 n w1 s0 s1 s5 wr) (fun _ s1 _ _ => (intOf s1).toNat)
  case atStart => exact ⟨x, 1, n, rfl, rfl, rfl, HX.out, ⟨by omega, by omega⟩, Nat.le_refl _, by rw [Int.one_mul]; exact HE.out, rfl⟩
  case round =>
    obtain ⟨x1, y1, m, rfl, rfl, rfl, hx1, hy1, hm, hc, rfl⟩ := hrel
    have HM := Lib.hid hm
    have HC := Lib.hid hc
    have HY := Lib.hid hy1
    have hmb : (m : Int) ≤ 1073741823 := by have := HN.out; omega
    have hmz : (0 : Int) ≤ (m : Int) := by omega
    have hxx := mulq_rng hx1 hx1
    have hyx := mulq_rng hy1 hx1
    have hw1 : wrap64 (x1 * x1) = x1 * x1 := by unfold wrap64; omega
    have hw2 : wrap64 (y1 * x1) = y1 * x1 := by unfold wrap64; omega
    obtain ⟨hxx1, hxx2⟩ := hxx
    obtain ⟨hyx1, hyx2⟩ := hyx
    clear hc hy1 hm hx1
    obtain ⟨M, hMM⟩ : ∃ M : Int, M = (m : Int) := ⟨_, rfl⟩
    have HMM := Lib.hid hMM
    rw [← hMM] at hmb hmz ⊢
    clear hMM
    by_cases h0 : m = 0
    · have hM0 : M = 0 := by have := HMM.out; omega
      subst hM0 h0
      go_wp2_with fail
      try rw [Exit.noGoto_ret]
      go_ret
      refine ⟨ret_i64 ?_, rfl⟩
      have h1 := HC.out.eq
      have h2 := HY.out.1
      have h3 := HY.out.2
      rw [Int.pow_zero, Int.mul_one] at h1
      unfold Fld.fpow
      omega
    · have hm0 : 0 < M := by have := HMM.out; omega
      by_cases h2 : m % 2 = 1
      · have hmm : M % 2 = 1 := by have := HMM.out; omega
        have HS1 := HS.out y1 x1 m
        rw [if_pos h2] at HS1
        replace HS1 := Lib.hid HS1
        go_wp2_with fail
        exact ⟨⟨_, _, m / 2, rfl, by have := HMM.out; exact congrArg _ (by omega), rfl, rq_mod _, rq_mod _, by have := HM.out; omega, HS1.out.symm.trans HC.out, rfl⟩, by have := HMM.out; simp [intOf]; omega⟩
      · have h2' : m % 2 = 0 := by omega
        have hmm : M % 2 = 0 := by have := HMM.out; omega
        have HS1 := HS.out y1 x1 m
        rw [if_neg h2] at HS1
        replace HS1 := Lib.hid HS1
        go_wp2_with fail
        exact ⟨⟨_, _, m / 2, rfl, by have := HMM.out; exact congrArg _ (by omega), rfl, rq_mod _, HY.out, by have := HM.out; omega, HS1.out.symm.trans HC.out, rfl⟩, by have := HMM.out; simp [intOf]; omega⟩
/-- a quotient modulo Q -/
def quoQ (a b : Int) : Int := tmsQ a (Fld.finv b)
theorem quoQ_rng (a b : Int) : Rq (quoQ a b) := modq_rng _
set_option maxHeartbeats 1000000 in
set_option maxRecDepth 100000 in
theorem Quotient_call (a b : Int) (w : World) (ha : I64 a) (hb : I64 b) :
    Calls Tryd.prog 18 #[.int .i64 a, .int .i64 b] w fun e w' => e = .returned (.int .i64 (quoQ a b)) ∧ w' = w := by
  obtain ⟨n, hn⟩ : ∃ n : Nat, n = 1073741787 := ⟨_, rfl⟩
  have HP := Lib.hid (fun W => Power_call b n W hb (by omega))
  have hF : Fld.fpow b n = Fld.finv b := by rw [hn]; rfl
  rw [hF, show (n : Int) = 1073741787 by omega] at HP
  have hr : Rq (Fld.finv b) := by unfold Fld.finv Fld.fpow; exact modq_rng _
  have HT := Lib.hid (fun W => times_call a (Fld.finv b) W ha ⟨by have := hr.1; omega, by have := hr.2; omega⟩)
  unfold quoQ
  obtain ⟨i, hi⟩ : ∃ i, i = Fld.finv b := ⟨_, rfl⟩
  rw [← hi] at HP HT ⊢
  obtain ⟨z, hz⟩ : ∃ z, z = tmsQ a i := ⟨_, rfl⟩
  rw [← hz] at HT ⊢
  clear hn hF hr hi hz
  go_enter Tryd.func18, Tryd.ntmps18
  go_wp2_with fail
  refine (HP.out _).mono ?_
  rintro e w1 ⟨rfl, rfl⟩
  go_wp2_with fail
  refine (HT.out _).mono ?_
  rintro e w1 ⟨rfl, rfl⟩
  go_wp2_with fail
  go_ret
  exact ⟨rfl, rfl⟩
theorem pt_one {key : Int} (hk : valid key = true) (E S E' : Int) : pt key E S * powQ key E' % 2147483579 = powQ 4 S * powQ key (E' - E) % 2147483579 := by
  unfold pt
  rw [mul_assoc_mod, powQ_add hk]
  congr 2
  rw [show -E + E' = E' - E by omega]
/-- two signatures with one point give away the secret -/
theorem twice_key {key E S E' S' : Int} (hk : valid key = true) (hp : pt key E S = pt key E' S') (hd : (E - E') % 1073741789 ≠ 0) : powQ 4 (quoQ (S - S') (E - E')) = key := by
  have h1 := pt_one hk E S E
  have h2 := pt_one hk E' S' E
  rw [hp, h2, show E - E = 0 by omega, powQ_zero, mul_one_mod (powQ_rng _ _)] at h1
  have h3 : powQ 4 (S - S') = powQ key (E - E') := by
    have h4 := congrArg (fun z => z * powQ 4 (-S') % 2147483579) h1
    rw [powQ_add valid_4, mul_comm_mod (powQ 4 S'), mul_assoc_mod, powQ_add valid_4, show S' + -S' = 0 by omega, powQ_zero, mul_one_mod (powQ_rng _ _)] at h4
    rw [show S - S' = S + -S' by omega]
    exact h4.symm
  have hc : ¬ Fld.Cg (E - E') 0 := fun h => hd (Fld.cg_zero.1 h)
  have h5 := (Fld.finv_mul _ hc).eq
  have h6 : powQ 4 (quoQ (S - S') (E - E')) = powQ 4 ((S - S') * Fld.finv (E - E')) := powQ_mod (by
    unfold quoQ tmsQ
    rw [Int.emod_emod_of_dvd _ (Int.dvd_refl _), ← Int.mul_emod])
  rw [h6, ← powQ_mul valid_4, h3, powQ_mul hk, powQ_mod h5, powQ_one hk]
end Go.Proofs.YtbcfmpohempkpaaDoor.Dig
