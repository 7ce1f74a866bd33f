/- Elements and their powers: plain mathematics. -/
import Derived.Test.YtcoboacjcnjdoaaDoorD
namespace Go.Proofs.YtcoboacjcnjdoaaDoor
open Go

theorem cp_ne (h : Cp (-1) 1) : False := by obtain ⟨c, hc⟩ := h; omega
theorem cp_ne0 (h : Cp 0 1) : False := by obtain ⟨c, hc⟩ := h; omega
theorem cp_nat (x : Int) (h0 : 0 ≤ x) : ((x.toNat : Nat) : Int) = x := by omega
theorem euler_valid {x : Int} (h1 : 1 ≤ x) (h2 : x < 2147483579) {h : Nat} (hh : h = 1073741789) : Cp (x ^ h) (sgI (!valid x)) := by
  have hc := p_coprime (x := x.toNat) (by omega) (by omega)
  have he := euler_cp hh hc
  rw [cp_nat x (by omega)] at he
  have hv : valid x = !J x.toNat 2147483579 := by unfold valid; rw [decide_eq_true h1, decide_eq_true h2, Bool.true_and, Bool.true_and]
  rw [hv, Bool.not_not]
  exact he
theorem valid_rng {x : Int} (h : valid x = true) : 1 ≤ x ∧ x < 2147483579 := by
  unfold valid at h
  rw [Bool.and_eq_true, Bool.and_eq_true, decide_eq_true_eq, decide_eq_true_eq] at h
  exact ⟨h.1, h.2.1⟩
theorem valid_rp {x : Int} (h : valid x = true) : Rp x := ⟨by have := (valid_rng h).1; omega, (valid_rng h).2⟩
theorem valid_cp {x : Int} (hv : valid x = true) {h : Nat} (hh : h = 1073741789) : Cp (x ^ h) 1 := by
  have := euler_valid (valid_rng hv).1 (valid_rng hv).2 hh
  rw [hv] at this
  exact this
theorem valid_of {x : Int} (h1 : 1 ≤ x) (h2 : x < 2147483579) (hx : ∀ h : Nat, h = 1073741789 → Cp (x ^ h) 1) : valid x = true := by
  have he := euler_valid h1 h2 rfl
  have h3 := hx _ rfl
  cases hv : valid x
  · rw [hv] at he
    exact (cp_ne (he.symm.trans h3)).elim
  · rfl
theorem valid_out {x : Int} (h : ¬ (1 ≤ x ∧ x < 2147483579)) : valid x = false := by
  cases hv : valid x
  · rfl
  · exact absurd (valid_rng hv) h
theorem zero_pow' : ∀ h : Nat, 0 < h → (0 : Int) ^ h = 0
  | 0, h => by omega
  | h + 1, _ => by rw [Int.pow_succ, Int.mul_zero]
theorem one_pow' : ∀ h : Nat, (1 : Int) ^ h = 1
  | 0 => rfl
  | h + 1 => by rw [Int.pow_succ, one_pow' h]; rfl
theorem mul_pow' (a b : Int) : ∀ n : Nat, (a * b) ^ n = a ^ n * b ^ n
  | 0 => by rw [Int.pow_zero, Int.pow_zero, Int.pow_zero]; rfl
  | n + 1 => by rw [Int.pow_succ, Int.pow_succ, Int.pow_succ, mul_pow' a b n]; grind
/-- a number whose power to Q is 1 stands for an element -/
theorem valid_mod {x : Int} (hx : ∀ h : Nat, h = 1073741789 → Cp (x ^ h) 1) : valid (x % 2147483579) = true := by
  have hr := rp_mod x
  have key : ∀ h : Nat, h = 1073741789 → Cp ((x % 2147483579) ^ h) 1 := fun h hh => ((cp_mod x).pow h).trans (hx h hh)
  refine valid_of ?_ hr.2 key
  rcases Int.lt_or_le (x % 2147483579) 1 with h | h
  · exfalso
    have h0 : x % 2147483579 = 0 := by have := hr.1; omega
    obtain ⟨n, hn⟩ : ∃ n : Nat, n = 1073741789 := ⟨_, rfl⟩
    have h1 := key n hn
    rw [h0, zero_pow' n (by omega)] at h1
    exact cp_ne0 h1
  · exact h
theorem valid_mul {a b : Int} (ha : valid a = true) (hb : valid b = true) : valid (a * b % 2147483579) = true :=
  valid_mod fun h hh => by
    rw [mul_pow']
    have := (valid_cp ha hh).mul (valid_cp hb hh)
    rwa [Int.one_mul] at this
theorem valid_fpw {a : Int} (ha : valid a = true) (n : Nat) : valid (fpw a n) = true :=
  valid_mod fun h hh => by
    rw [← Int.pow_mul, Nat.mul_comm, Int.pow_mul]
    have := (valid_cp ha hh).pow n
    rwa [one_pow'] at this
theorem valid_square {n : Int} (h1 : 1 ≤ n) (h2 : n < 2147483579) : valid (n * n % 2147483579) = true :=
  valid_mod fun h hh => by
    rw [mul_pow']
    have := (euler_valid h1 h2 hh).mul (euler_valid h1 h2 hh)
    rwa [show ∀ b : Bool, sgI b * sgI b = 1 from fun b => by cases b <;> rfl] at this
theorem neg_pow_odd (x : Int) : ∀ k : Nat, (-x) ^ (2 * k + 1) = -(x ^ (2 * k + 1))
  | 0 => by rw [Int.pow_succ, Int.pow_succ, Int.pow_zero, Int.pow_zero]; omega
  | k + 1 => by
    rw [show 2 * (k + 1) + 1 = 2 * k + 1 + 1 + 1 by omega, Int.pow_succ, Int.pow_succ, Int.pow_succ x, Int.pow_succ x, neg_pow_odd x k]
    grind
theorem valid_neg {n : Int} (h1 : 1 ≤ n) (h2 : n < 2147483579) : valid (2147483579 - n) = !valid n := by
  obtain ⟨h, hh⟩ : ∃ h : Nat, h = 1073741789 := ⟨_, rfl⟩
  obtain ⟨k, hk⟩ : ∃ k, h = 2 * k + 1 := ⟨h / 2, by omega⟩
  have e1 := euler_valid h1 h2 hh
  have e2 := euler_valid (x := 2147483579 - n) (by omega) (by omega) hh
  have e3 : Cp ((2147483579 - n) ^ h) ((-n) ^ h) := Cp.pow ⟨1, by omega⟩ h
  have e4 : (-n) ^ h = -(n ^ h) := by rw [hk]; exact neg_pow_odd n k
  rw [e4] at e3
  have e5 : Cp (-(n ^ h)) (-(sgI (!valid n))) := by
    have := (Cp.refl 0).sub e1
    rwa [Int.zero_sub, Int.zero_sub] at this
  have e6 := e2.symm.trans (e3.trans e5)
  cases hv : valid n <;> cases hw : valid (2147483579 - n)
  · rw [hv, hw] at e6; exact (cp_ne e6).elim
  · rfl
  · rfl
  · rw [hv, hw] at e6; exact (cp_ne e6.symm).elim

/-! ### powers -/
/-- the power of a to n, counted modulo Q -/
def powQ (a n : Int) : Int := fpw a (n % 1073741789).toNat
theorem powQ_rng (a n : Int) : Rp (powQ a n) := fpw_rng _ _
theorem powQ_valid {a : Int} (ha : valid a = true) (n : Int) : valid (powQ a n) = true := valid_fpw ha _
theorem rp_eq {x y : Int} (hx : Rp x) (hy : Rp y) (h : Cp x y) : x = y := by
  have := h.eq
  have := hx.1; have := hx.2; have := hy.1; have := hy.2
  omega
theorem fpw_cp (a : Int) (n : Nat) : Cp (fpw a n) (a ^ n) := cp_mod _
theorem pow_red {a : Int} (ha : valid a = true) (m : Nat) : Cp (a ^ m) (a ^ (m % 1073741789)) := by
  obtain ⟨h, hh⟩ : ∃ h : Nat, h = 1073741789 := ⟨_, rfl⟩
  rw [← hh]
  have h1 := (valid_cp ha hh).pow (m / h)
  rw [one_pow', ← Int.pow_mul] at h1
  have h2 := h1.mul (Cp.refl (a ^ (m % h)))
  rw [← Int.pow_add, Nat.div_add_mod, Int.one_mul] at h2
  exact h2
theorem toNat_mod (n : Int) : (((n % 1073741789).toNat : Nat) : Int) = n % 1073741789 := by
  have := Int.emod_nonneg n (show (1073741789 : Int) ≠ 0 by omega); omega
theorem powQ_add {a : Int} (ha : valid a = true) (i k : Int) : powQ a i * powQ a k % 2147483579 = powQ a (i + k) := by
  refine rp_eq (rp_mod _) (powQ_rng _ _) ?_
  refine (cp_mod _).trans (((fpw_cp a _).mul (fpw_cp a _)).trans ?_)
  rw [← Int.pow_add]
  refine (pow_red ha _).trans ?_
  rw [show ((i % 1073741789).toNat + (k % 1073741789).toNat) % 1073741789 = ((i + k) % 1073741789).toNat by
    have := toNat_mod i; have := toNat_mod k; have := toNat_mod (i + k); omega]
  exact (fpw_cp a _).symm
theorem powQ_mul {a : Int} (ha : valid a = true) (i k : Int) : powQ (powQ a i) k = powQ a (i * k) := by
  refine rp_eq (powQ_rng _ _) (powQ_rng _ _) ?_
  refine (fpw_cp _ _).trans (((fpw_cp a _).pow _).trans ?_)
  rw [← Int.pow_mul]
  refine (pow_red ha _).trans ?_
  have h1 := toNat_mod i
  have h2 := toNat_mod k
  have e : i * k % 1073741789 = (((i % 1073741789).toNat * (k % 1073741789).toNat : Nat) : Int) % 1073741789 := by
    rw [Int.mul_emod, ← h1, ← h2, ← Int.natCast_mul]; rfl
  have e2 : ((i % 1073741789).toNat * (k % 1073741789).toNat) % 1073741789 = (i * k % 1073741789).toNat := by
    rw [e]
    generalize (i % 1073741789).toNat * (k % 1073741789).toNat = m
    omega
  rw [e2]
  exact (fpw_cp a _).symm
theorem powQ_prod (a b i : Int) : powQ (a * b % 2147483579) i = powQ a i * powQ b i % 2147483579 := by
  refine rp_eq (powQ_rng _ _) (rp_mod _) ?_
  refine (fpw_cp _ _).trans (((cp_mod (a * b)).pow _).trans ?_)
  rw [mul_pow']
  exact (((fpw_cp a _).mul (fpw_cp b _)).symm).trans (cp_mod _).symm
theorem powQ_mod {a i k : Int} (h : i % 1073741789 = k % 1073741789) : powQ a i = powQ a k := by
  unfold powQ; rw [h]
theorem powQ_zero (a : Int) : powQ a 0 = 1 := by
  unfold powQ fpw
  rw [show ((0 : Int) % 1073741789).toNat = 0 from rfl, Int.pow_zero]; rfl
theorem powQ_one {a : Int} (ha : valid a = true) : powQ a 1 = a := by
  refine rp_eq (powQ_rng _ _) (valid_rp ha) ?_
  refine (fpw_cp a _).trans ?_
  show Cp (a ^ 1) a
  rw [Int.pow_succ, Int.pow_zero, Int.one_mul]; exact Cp.refl _
theorem mul_one_mod {a : Int} (ha : Rp a) : a * 1 % 2147483579 = a := by rw [Int.mul_one]; have := ha.1; have := ha.2; omega
theorem powQ_inv {a : Int} (ha : valid a = true) : a * powQ a (-1) % 2147483579 = 1 := by
  have h := powQ_add ha 1 (-1)
  rw [powQ_one ha] at h
  exact h.trans (powQ_zero a)
theorem mul_comm_mod (a b : Int) : a * b % 2147483579 = b * a % 2147483579 := by rw [Int.mul_comm]
theorem mul_assoc_mod (a b c : Int) : a * b % 2147483579 * c % 2147483579 = a * (b * c % 2147483579) % 2147483579 := by
  refine Cp.eq ?_
  refine ((cp_mod (a * b)).mul (Cp.refl c)).trans ?_
  rw [Int.mul_assoc]
  exact (Cp.refl a).mul (cp_mod (b * c)).symm
theorem mul_back {a b : Int} (ha : valid a = true) (hb : valid b = true) : a * b % 2147483579 * powQ b (-1) % 2147483579 = a := by
  rw [mul_assoc_mod, powQ_inv hb]; exact mul_one_mod (valid_rp ha)

/-! ### examples -/
theorem valid_1 : valid 1 = true := by
  refine valid_of (by omega) (by omega) fun h _ => ?_
  rw [one_pow']; exact Cp.refl _
theorem valid_4 : valid 4 = true := by
  have := valid_square (n := 2) (by omega) (by omega)
  exact this
theorem valid_2 : valid 2 = false := by
  unfold valid
  rw [show (2 : Int).toNat = 2 from rfl, J_two (by omega)]
  rfl
theorem valid_p1 : valid 2147483578 = false := by
  have := valid_neg (n := 1) (by omega) (by omega)
  rw [valid_1] at this
  exact this
theorem valid_p2 : valid 2147483577 = true := by
  have := valid_neg (n := 2) (by omega) (by omega)
  rw [valid_2] at this
  exact this
theorem powQ_42 : powQ 4 2 = 16 := by
  unfold powQ fpw
  rw [show ((2 : Int) % 1073741789).toNat = 2 from rfl]; rfl
theorem powQ_4q : powQ 4 1073741789 = 1 := by
  rw [powQ_mod (k := 0) (by omega), powQ_zero]
theorem inv_4 {z : Int} (h : 4 * z % 2147483579 = 1) (h1 : Rp z) : z = 536870895 := by
  refine rp_eq h1 ⟨by decide, by decide⟩ ?_
  obtain ⟨c, hc⟩ : Cp (4 * z) 1 := (cp_iff _ _).2 (by rw [h]; rfl)
  refine ⟨536870895 * c - z, ?_⟩
  have h2 : 536870895 * (4 * z - 1) = 536870895 * (2147483579 * c) := by rw [hc]
  clear h hc
  grind
theorem powQ_4n : powQ 4 (-1) = 536870895 := inv_4 (powQ_inv valid_4) (powQ_rng 4 (-1))
end Go.Proofs.YtcoboacjcnjdoaaDoor
