/- What is encoded is decoded as itself: plain mathematics over the functions of the other files. -/
import Derived.Test.YtgliddedimpgaaaT
namespace Go.Proofs.Ytgliddedimpgaaa
open Go.RowKit

theorem rd_digits (u : Nat) : ∀ (j a : Nat) (rest : List UInt8), j ≤ 9 → (0 < j → 0 < u) → u * 128 ^ j < 18446744073709551616 → rd j a (digits u ++ rest) = some (a + u * 128 ^ j, rest) := by
  induction u using Nat.strongRecOn with
  | ind u ih =>
    intro j a rest hj hp hb
    have h9 : j = 9 → u ≤ 1 := fun h => by subst h; omega
    by_cases h : u < 128
    · rw [digits_lo u h, List.cons_append, List.nil_append, rd, byte_nat u (by omega), if_neg (by omega), if_pos h, show u % 128 = u by omega]
    · have hj9 : j < 9 := by
        rcases Nat.lt_or_ge j 9 with h1 | h1
        · exact h1
        · have := h9 (by omega); omega
      rw [digits_hi u (by omega), List.cons_append, rd, byte_nat _ (by omega), if_neg (by omega), if_neg (by omega)]
      have hstep : u / 128 * 128 ^ (j + 1) + u % 128 * 128 ^ j = u * 128 ^ j := by
        rw [Nat.pow_succ, Nat.mul_comm (128 ^ j) 128, ← Nat.mul_assoc, ← Nat.add_mul, Nat.mul_comm (u / 128) 128, Nat.div_add_mod]
      rw [ih (u / 128) (by omega) (j + 1) _ rest (by omega) (by omega) (by omega)]
      have e : (u % 128 + 128) % 128 = u % 128 := by omega
      rw [e]
      congr 2
      omega

theorem readNum_digits (u : Nat) (rest : List UInt8) (h : u < 18446744073709551616) : readNum (digits u ++ rest) = some (u, rest) := by
  rw [readNum, rd_digits u 0 0 rest (by omega) (by omega) (by omega)]; simp

theorem decode_int (n : Int) (hn : -9223372036854775808 ≤ n ∧ n ≤ 9223372036854775807) : decode (enc (.mk 1 n ⟨#[]⟩ [])) = some (.mk 1 n ⟨#[]⟩ []) := by
  have h := readNum_digits (uns n) [] (uns_lt n hn.1 hn.2)
  rw [List.append_nil] at h
  rw [enc_1, decode, dec, decHead, if_pos (show UInt8.toNat 1 = 1 from rfl), h]
  simp only
  rw [sgn_uns]

/-- a value that reads as a tree shows its parts -/
theorem is_inv {B : Nat} {w : World} {k n k' n' : Int} {s s' : ByteArray} {l : List V} {a : Option Addr} {m c : Nat} (h : IsB B w (.mk k n s l) (val k' n' s' a m c)) : k' = k ∧ n' = n ∧ s' = s ∧ m = l.length := by
  generalize hv : val k' n' s' a m c = v at h
  cases h
  simp [val] at hv
  exact ⟨hv.1, hv.2.1, hv.2.2.1, hv.2.2.2.2.1⟩
end Go.Proofs.Ytgliddedimpgaaa
