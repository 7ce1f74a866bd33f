/- Plain mathematics on the codec's numbers: the unsigned form of an integer and back, the digits of a number, how many there are, and how they are read again. Nothing here speaks of the program. -/
import Derived.Lib.BitFns
import Derived.Laws.BitsAllLaws
import Derived.Laws.Wrap64
import Derived.RowKit
import Derived.Laws.BitsLemmas
namespace Go.Proofs.YtbcfmpohempkpaaDoor.Cod

def uns (n : Int) : Nat := if 0 ≤ n then (2 * n).toNat else (-2 * n - 1).toNat
set_option maxRecDepth 100000 in
theorem uns_lt (n : Int) (h0 : -9223372036854775808 ≤ n) (h1 : n ≤ 9223372036854775807) : uns n < 18446744073709551616 := by
  unfold uns; split <;> omega

def num (u : Nat) : List Nat := if u < 128 then [u] else (u % 128 + 128) :: num (u / 128)
termination_by u
decreasing_by omega

set_option maxRecDepth 100000 in
theorem num_lo (u : Nat) (h : u < 128) : num u = [u] := by rw [num, if_pos h]
set_option maxRecDepth 100000 in
theorem num_hi (u : Nat) (h : 128 ≤ u) : num u = (u % 128 + 128) :: num (u / 128) := by rw [num, if_neg (by omega)]

set_option maxRecDepth 100000 in
theorem num_pos (u : Nat) : 1 ≤ (num u).length := by
  by_cases h : u < 128
  · rw [num_lo u h]; simp
  · rw [num_hi u (by omega)]; simp

set_option maxRecDepth 100000 in
theorem num_len_pow (k : Nat) : ∀ u, u < 128 ^ (k + 1) → (num u).length ≤ k + 1 := by
  induction k with
  | zero => intro u hu; rw [num_lo u (by simpa using hu)]; simp
  | succ k ih =>
    intro u hu
    by_cases h : u < 128
    · rw [num_lo u h]; simp
    · rw [num_hi u (by omega)]
      have := ih (u / 128) (by rw [Nat.div_lt_iff_lt_mul (by omega)]; rw [Nat.pow_succ] at hu; omega)
      simp; omega

set_option maxRecDepth 100000 in
theorem num_len (u : Nat) (h : u < 18446744073709551616) : (num u).length ≤ 10 := num_len_pow 9 u (by omega)

set_option maxRecDepth 100000 in
theorem or_one (u : Nat) : u ||| 1 = u / 2 * 2 + 1 := by
  have e : u ||| 1 = u / 2 * 2 ||| 1 := by
    apply Nat.eq_of_testBit_eq
    intro i
    cases i with
    | zero => simp
    | succ i =>
      rw [Nat.testBit_succ, Nat.testBit_succ]
      have a := Nat.or_div_two_pow (a := u) (b := 1) (n := 1)
      have b := Nat.or_div_two_pow (a := u / 2 * 2) (b := 1) (n := 1)
      simp only [Nat.pow_one] at a b
      rw [a, b, Nat.mul_div_cancel _ (by omega)]
  rw [e]
  exact nat_join 1 (u / 2 * 2) 1 (by omega) (by omega)

set_option maxRecDepth 100000 in
theorem bitLen_small (u : Nat) (h0 : 1 ≤ u) (h : u < 128) : 1 ≤ Lib.bitLen u ∧ Lib.bitLen u ≤ 7 := by
  refine ⟨?_, Lib.bitLen_le u 7 (by omega) (by omega)⟩
  rw [Lib.bitLen_half u (by omega) (by omega)]; omega

set_option maxRecDepth 100000 in
theorem bitLen_128 (u : Nat) (h0 : 128 ≤ u) (h : u < 18446744073709551616) : Lib.bitLen u = 7 + Lib.bitLen (u / 128) :=
  Lib.bitLen_shift 7 u (by omega) (by omega)

set_option maxRecDepth 100000 in
theorem num_bits_aux (u : Nat) : u < 18446744073709551616 → (num u).length = (Lib.bitLen (u / 2 * 2 + 1) + 6) / 7 := by
  induction u using Nat.strongRecOn with
  | ind u ih =>
    intro h
    by_cases hu : u < 128
    · rw [num_lo u hu]
      have := bitLen_small (u / 2 * 2 + 1) (by omega) (by omega)
      simp; omega
    · rw [num_hi u (by omega), bitLen_128 (u / 2 * 2 + 1) (by omega) (by omega)]
      have e := ih (u / 128) (by omega) (by omega)
      have e2 : (u / 2 * 2 + 1) / 128 = u / 128 := by omega
      rw [e2, List.length_cons, e]
      by_cases ho : u / 128 % 2 = 1
      · have : u / 128 / 2 * 2 + 1 = u / 128 := by omega
        rw [this]; omega
      · have h2 : u / 128 / 2 * 2 = u / 128 := by omega
        rw [h2]
        have a : Lib.bitLen (u / 128) = 1 + Lib.bitLen (u / 128 / 2) := Lib.bitLen_half _ (by omega) (by omega)
        have b : Lib.bitLen (u / 128 + 1) = 1 + Lib.bitLen ((u / 128 + 1) / 2) := Lib.bitLen_half _ (by omega) (by omega)
        have c : (u / 128 + 1) / 2 = u / 128 / 2 := by omega
        rw [c] at b
        rw [b, ← a]; omega

set_option maxRecDepth 100000 in
/-- the number of digits, as the program reckons it -/
theorem num_bits (u : Nat) (h : u < 18446744073709551616) : (num u).length = (Lib.bitLen (u ||| 1) + 6) / 7 := by
  rw [or_one]; exact num_bits_aux u h

set_option maxRecDepth 100000 in
theorem xor_ones (a : Nat) (h : a < 18446744073709551616) : a ^^^ 18446744073709551615 = 18446744073709551615 - a := by
  apply Nat.eq_of_testBit_eq
  intro i
  have h1 := Nat.testBit_two_pow_sub_succ (x := a) (n := 64) (by omega) i
  have h2 := Nat.testBit_two_pow_sub_one 64 i
  have e1 : 2 ^ 64 - (a + 1) = 18446744073709551615 - a := by omega
  have e2 : 2 ^ 64 - 1 = 18446744073709551615 := rfl
  rw [e1] at h1
  rw [e2] at h2
  rw [h1, Nat.testBit_xor, h2]
  by_cases hi : i < 64
  · simp [hi]
  · have := Nat.testBit_lt_two_pow (x := a) (i := i) (Nat.lt_of_lt_of_le h (by rw [show (18446744073709551616 : Nat) = 2 ^ 64 from rfl]; exact Nat.pow_le_pow_right (by omega) (by omega)))
    simp [hi, this]

set_option maxRecDepth 100000 in
theorem unsigned_bits (n : Int) (h0 : -9223372036854775808 ≤ n) (h1 : n ≤ 9223372036854775807) :
    bits .xor .u64 (IntKind.u64.wrap (IntKind.u64.wrap n * 2)) (IntKind.u64.wrap (n / 9223372036854775808)) = (uns n : Int) := by
  simp only [IntKind.wrap_u64]
  by_cases h : 0 ≤ n
  · have e1 : (n % 18446744073709551616 * 2) % 18446744073709551616 = ((2 * n).toNat : Int) := by omega
    have e2 : (n / 9223372036854775808) % 18446744073709551616 = ((0 : Nat) : Int) := by omega
    rw [e1, e2, u64_xor_nat _ _ (by omega) (by omega)]
    unfold uns; rw [if_pos h]; simp
  · have e1 : (n % 18446744073709551616 * 2) % 18446744073709551616 = ((18446744073709551616 - (-2 * n).toNat : Nat) : Int) := by omega
    have e2 : (n / 9223372036854775808) % 18446744073709551616 = ((18446744073709551615 : Nat) : Int) := by omega
    rw [e1, e2, u64_xor_nat _ _ (by omega) (by omega), xor_ones _ (by omega)]
    unfold uns; rw [if_neg h]; omega

end Go.Proofs.YtbcfmpohempkpaaDoor.Cod
