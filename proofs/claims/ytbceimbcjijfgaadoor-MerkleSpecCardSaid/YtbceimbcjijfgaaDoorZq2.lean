/- Contracts of the small functions on numbers: rotations. -/
import Derived.Test.YtbceimbcjijfgaaDoorRows
import Derived.WalkKit
import Derived.WalkLawsBesides
import Derived.Lib.Hide
import Derived.Outline
import Derived.Deep.QuietTactic
import Derived.BigQuiet
import Derived.Laws.ShiftsVarLaws
import Derived.Laws.Wrap64
import Derived.Test.YtbceimbcjijfgaaDoorZq1
namespace Go.Proofs.YtbceimbcjijfgaaDoor.Dig
open Go.RowKit

theorem ret_u32 {a b : Int} (h : a = b) : Ending.returned (.int .u32 a) = .returned (.int .u32 b) := by rw [h]
theorem neg_and31 (n : Nat) (h2 : 0 < n) (h3 : n < 32) : bits .and .u64 (IntKind.u64.wrap (-(n : Int))) 31 = 32 - (n : Int) := by
  have e : IntKind.u64.wrap (-(n : Int)) = ((18446744073709551616 - n : Nat) : Int) := by rw [IntKind.wrap_u64]; omega
  have h := u64_and_nat (18446744073709551616 - n) 31 (by omega) (by omega)
  rw [nat_mask5] at h
  rw [e]
  exact h.trans (by omega)

theorem rr_or (v n : Nat) (h1 : v < 4294967296) (h3 : n < 32) : bits .or .u32 ((v : Int) / 2 ^ n) ((v : Int) * 2 ^ (32 - n) % 4294967296) = (rr n v : Int) := by
  have e1 : (v : Int) / 2 ^ n = ((v / 2 ^ n : Nat) : Int) := by simp
  have e2 : (v : Int) * 2 ^ (32 - n) % 4294967296 = ((v * 2 ^ (32 - n) % 4294967296 : Nat) : Int) := by simp
  rw [e1, e2]
  exact u32_or_nat _ _ (Nat.lt_of_le_of_lt (Nat.div_le_self _ _) h1) (Nat.mod_lt _ (by omega))
theorem rr_or2 (v n : Nat) (h1 : v < 4294967296) (h3 : n < 32) : bits .or .u32 ((v : Int) * 2 ^ (32 - n) % 4294967296) ((v : Int) / 2 ^ n) = (rr n v : Int) := by
  have e1 : (v : Int) / 2 ^ n = ((v / 2 ^ n : Nat) : Int) := by simp
  have e2 : (v : Int) * 2 ^ (32 - n) % 4294967296 = ((v * 2 ^ (32 - n) % 4294967296 : Nat) : Int) := by simp
  rw [e1, e2, rr, Nat.or_comm]
  exact u32_or_nat _ _ (Nat.mod_lt _ (by omega)) (Nat.lt_of_le_of_lt (Nat.div_le_self _ _) h1)
theorem rr_lt (n v : Nat) (h1 : v < 4294967296) : rr n v < 4294967296 :=
  Nat.or_lt_two_pow (n := 32) (Nat.lt_of_le_of_lt (Nat.div_le_self _ _) h1) (Nat.mod_lt _ (by omega))

set_option maxHeartbeats 400000 in
theorem rotl_call (v n : Nat) (w : World) (h1 : v < 4294967296) (h2 : 0 < n) (h3 : n < 32) :
    Calls Tryd.prog 56 #[.int .u32 v, .int .i64 (-(n : Int))] w fun e w' => e = .returned (.int .u32 (rr n v)) ∧ w = w' := by
  have hb := neg_and31 n h2 h3
  go_enter Tryd.func56, Tryd.ntmps56
  go_wp2
  go_ret
  exact ⟨ret_u32 (by rw [show 32 - (32 - n) = n by omega]; exact rr_or2 v n h1 h3), rfl⟩

set_option maxHeartbeats 400000 in
theorem ror_call (v n : Nat) (w : World) (h1 : v < 4294967296) (h2 : 0 < n) (h3 : n < 32) :
    Calls Tryd.prog 51 #[.int .u32 v, .int .i64 n] w fun e w' => e = .returned (.int .u32 (rr n v)) ∧ w = w' := by
  go_enter Tryd.func51, Tryd.ntmps51
  go_wp2_with (go_at_call 56; refine (rotl_call _ _ _ h1 h2 h3).mono ?_; rintro e w' ⟨rfl, rfl⟩)
  go_ret
  exact ⟨rfl, rfl⟩

set_option maxHeartbeats 400000 in
theorem refror_call (v n : Nat) (w : World) (h1 : v < 4294967296) (h2 : 0 < n) (h3 : n < 32) :
    Calls Tryd.prog 58 #[.int .u32 v, .int .i64 n] w fun e w' => e = .returned (.int .u32 (rr n v)) ∧ ∃ k, w' = w.drewN k := by
  go_enter Tryd.func58, Tryd.ntmps58
  go_wp2
  go_quiet (fail)
  go_wp2
  go_ret
  exact ⟨ret_u32 (rr_or v n h1 h3), _, rfl⟩
theorem xor_lt {a b : Nat} (h1 : a < 4294967296) (h2 : b < 4294967296) : a ^^^ b < 4294967296 := Nat.xor_lt_two_pow (n := 32) h1 h2
theorem and_lt {a b : Nat} (h1 : a < 4294967296) : a &&& b < 4294967296 := Nat.lt_of_le_of_lt Nat.and_le_left h1
theorem sg0_bits (x : Nat) (h : x < 4294967296) : bits .xor .u32 (bits .xor .u32 (rr 7 x : Int) (rr 18 x : Int)) ((x : Int) / 8) = (sg0 x : Int) := by
  rw [u32_xor_nat _ _ (rr_lt 7 x h) (rr_lt 18 x h), show (x : Int) / 8 = ((x / 8 : Nat) : Int) by omega, u32_xor_nat _ _ (xor_lt (rr_lt 7 x h) (rr_lt 18 x h)) (by omega)]; rfl
theorem sg1_bits (x : Nat) (h : x < 4294967296) : bits .xor .u32 (bits .xor .u32 (rr 17 x : Int) (rr 19 x : Int)) ((x : Int) / 1024) = (sg1 x : Int) := by
  rw [u32_xor_nat _ _ (rr_lt 17 x h) (rr_lt 19 x h), show (x : Int) / 1024 = ((x / 1024 : Nat) : Int) by omega, u32_xor_nat _ _ (xor_lt (rr_lt 17 x h) (rr_lt 19 x h)) (by omega)]; rfl
theorem bg1_bits (x : Nat) (h : x < 4294967296) : bits .xor .u32 (bits .xor .u32 (rr 6 x : Int) (rr 11 x : Int)) (rr 25 x : Int) = (bg1 x : Int) := by
  rw [u32_xor_nat _ _ (rr_lt 6 x h) (rr_lt 11 x h), u32_xor_nat _ _ (xor_lt (rr_lt 6 x h) (rr_lt 11 x h)) (rr_lt 25 x h)]; rfl
theorem bg0_bits (x : Nat) (h : x < 4294967296) : bits .xor .u32 (bits .xor .u32 (rr 2 x : Int) (rr 13 x : Int)) (rr 22 x : Int) = (bg0 x : Int) := by
  rw [u32_xor_nat _ _ (rr_lt 2 x h) (rr_lt 13 x h), u32_xor_nat _ _ (xor_lt (rr_lt 2 x h) (rr_lt 13 x h)) (rr_lt 22 x h)]; rfl
theorem ones_xor (a : Nat) (h : a < 4294967296) : 4294967295 ^^^ a = 4294967295 - a := by
  apply Nat.eq_of_testBit_eq
  intro i
  have h1 := Nat.testBit_two_pow_sub_succ (x := a) (n := 32) (by omega) i
  have h2 := Nat.testBit_two_pow_sub_one 32 i
  have e1 : 2 ^ 32 - (a + 1) = 4294967295 - a := by omega
  have e2 : 2 ^ 32 - 1 = 4294967295 := rfl
  rw [e1] at h1
  rw [e2] at h2
  rw [h1, Nat.testBit_xor, h2]
  by_cases hi : i < 32
  · simp [hi]
  · have := Nat.testBit_lt_two_pow (x := a) (i := i) (Nat.lt_of_lt_of_le h (by rw [show (4294967296 : Nat) = 2 ^ 32 from rfl]; exact Nat.pow_le_pow_right (by omega) (by omega)))
    simp [hi, this]
theorem chs_bits (e f g : Nat) (he : e < 4294967296) (hf : f < 4294967296) (hg : g < 4294967296) :
    bits .xor .u32 (bits .and .u32 (e : Int) (f : Int)) (bits .and .u32 (bits .xor .u32 (if IntKind.u32.signed = true then -1 else IntKind.u32.max) (e : Int)) (g : Int)) = (chs e f g : Int) := by
  have h0 : (if IntKind.u32.signed = true then -1 else IntKind.u32.max) = ((4294967295 : Nat) : Int) := by decide
  rw [h0, u32_xor_nat _ _ (by omega) he, ones_xor e he, u32_and_nat _ _ he hf, u32_and_nat _ _ (by omega) hg, u32_xor_nat _ _ (and_lt he) (and_lt (by omega))]; rfl
theorem maj_bits (a b c : Nat) (ha : a < 4294967296) (hb : b < 4294967296) (hc : c < 4294967296) :
    bits .xor .u32 (bits .xor .u32 (bits .and .u32 (a : Int) (b : Int)) (bits .and .u32 (a : Int) (c : Int))) (bits .and .u32 (b : Int) (c : Int)) = (maj a b c : Int) := by
  rw [u32_and_nat _ _ ha hb, u32_and_nat _ _ ha hc, u32_and_nat _ _ hb hc, u32_xor_nat _ _ (and_lt ha) (and_lt ha), u32_xor_nat _ _ (xor_lt (and_lt ha) (and_lt ha)) (and_lt hb)]; rfl
theorem rnd_a (k w a b c d e f g h : Nat) : (((h : Int) + (bg1 e : Int) + (chs e f g : Int) + (k : Int) + (w : Int)) % 4294967296 + ((bg0 a : Int) + (maj a b c : Int)) % 4294967296) % 4294967296 = ((rnd k w ⟨a, b, c, d, e, f, g, h⟩).a : Int) := by
  have e1 : (rnd k w ⟨a, b, c, d, e, f, g, h⟩).a = ((h + bg1 e + chs e f g + k + w) % 4294967296 + (bg0 a + maj a b c) % 4294967296) % 4294967296 := rfl
  rw [e1]; omega
theorem rnd_e (k w a b c d e f g h : Nat) : ((d : Int) + ((h : Int) + (bg1 e : Int) + (chs e f g : Int) + (k : Int) + (w : Int)) % 4294967296) % 4294967296 = ((rnd k w ⟨a, b, c, d, e, f, g, h⟩).e : Int) := by
  have e1 : (rnd k w ⟨a, b, c, d, e, f, g, h⟩).e = (d + (h + bg1 e + chs e f g + k + w) % 4294967296) % 4294967296 := rfl
  rw [e1]; omega
end Go.Proofs.YtbceimbcjijfgaaDoor.Dig
