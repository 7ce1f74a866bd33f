/- Contracts of the small functions of the codec: how numbers are brought to their unsigned form and back. -/
import Derived.Test.YtgliddedimpgaaaRows
import Derived.WalkKit
import Derived.WalkLawsBesides
import Derived.Lib.Hide
import Derived.Test.YtgliddedimpgaaaM
import Derived.Test.YtgliddedimpgaaaL
namespace Go.Proofs.Ytgliddedimpgaaa
open Go.RowKit


/-- a value of kind k with number n, text s and elements at a -/
abbrev val (k n : Int) (s : ByteArray) (a : Option Addr) (len cap : Nat) : Value := .agg #[.int .i64 k, .int .i64 n, .string s, .slice a len cap]

theorem int_call (n : Int) (w : World) :
    Calls Try.prog 23 #[.int .i64 n] w fun e w' => e = .returned (val 1 n ⟨#[]⟩ none 0 0) ∧ Below w.heap.size w w' := by
  go_enter Try.func23, Try.ntmps23
  go_wp2
  exact bodyPost_ret (v := .agg #[.int .i64 1, .int .i64 n, .string ⟨#[]⟩, .slice none 0 0]) (by simp [results, Try.results23, go_sem]) rfl ⟨rfl, (Below.refl _ _).alloc (Nat.le_refl _) _⟩

theorem text_call (s : ByteArray) (w : World) :
    Calls Try.prog 24 #[.string s] w fun e w' => e = .returned (val 2 0 s none 0 0) ∧ Below w.heap.size w w' := by
  go_enter Try.func24, Try.ntmps24
  go_wp2
  exact bodyPost_ret (v := .agg #[.int .i64 2, .int .i64 0, .string s, .slice none 0 0]) (by simp [results, Try.results24, go_sem]) rfl ⟨rfl, (Below.refl _ _).alloc (Nat.le_refl _) _⟩

theorem list_call (a : Option Addr) (len cap : Nat) (w : World) :
    Calls Try.prog 22 #[.slice a len cap] w fun e w' => e = .returned (val 3 0 ⟨#[]⟩ a len cap) ∧ Below w.heap.size w w' := by
  go_enter Try.func22, Try.ntmps22
  go_wp2
  exact bodyPost_ret (v := .agg #[.int .i64 3, .int .i64 0, .string ⟨#[]⟩, .slice a len cap]) (by simp [results, Try.results22, go_sem]) rfl ⟨rfl, (Below.refl _ _).alloc (Nat.le_refl _) _⟩

theorem ret_u64 {a b : Int} (h : a = b) : Ending.returned (.int .u64 a) = .returned (.int .u64 b) := by rw [h]
theorem ret_i64 {a b : Int} (h : a = b) : Ending.returned (.int .i64 a) = .returned (.int .i64 b) := by rw [h]

set_option maxHeartbeats 400000 in
theorem unsigned_call (n : Int) (w : World) (h0 : -9223372036854775808 ≤ n) (h1 : n ≤ 9223372036854775807) :
    Calls Try.prog 57 #[.int .i64 n] w fun e w' => e = .returned (.int .u64 (uns n)) ∧ w = w' := by
  go_enter Try.func57, Try.ntmps57
  go_wp2
  go_ret
  exact ⟨ret_u64 (unsigned_bits n h0 h1), rfl⟩

set_option maxHeartbeats 400000 in
theorem signed_call (u : Nat) (w : World) (h1 : u ≤ 18446744073709551615) :
    Calls Try.prog 42 #[.int .u64 u] w fun e w' => e = .returned (.int .i64 (sgn u)) ∧ w = w' := by
  go_enter Try.func42, Try.ntmps42
  go_wp2
  go_ret
  exact ⟨ret_i64 (signed_bits u (by omega)), rfl⟩

set_option maxHeartbeats 400000 in
theorem sizeNumeral_call (u : Nat) (w : World) (h1 : u ≤ 18446744073709551615) :
    Calls Try.prog 56 #[.int .u64 u] w fun e w' => e = .returned (.int .i64 (num u).length) ∧ w = w' := by
  go_enter Try.func56, Try.ntmps56
  have hb : Lib.bitLen (u ||| 1) ≤ 64 := Lib.bitLen_le _ 64 (by omega) (by rw [or_one]; omega)
  have ho : bits .or .u64 (u : Int) 1 = ((u ||| 1 : Nat) : Int) := u64_or_nat u 1 (by omega) (by omega)
  have hlt : u ||| 1 ≤ 18446744073709551615 := by rw [or_one]; omega
  have HN := Lib.hid (num_bits u (by omega))
  go_wp2_with (go_at_call 59; refine (len64_call _ _ (by omega) (by omega)).mono ?_; rintro e w' ⟨rfl, rfl⟩)
  go_ret
  exact ⟨ret_i64 (by rw [HN.out]; omega), rfl⟩
theorem sizeNumeral_same (u : Nat) (w : World) (h1 : u ≤ 18446744073709551615) :
    Calls Try.prog 56 #[.int .u64 u] w fun e w' => e = .returned (.int .i64 (num u).length) ∧ w' = w :=
  (sizeNumeral_call u w h1).mono fun _ _ ⟨h, k⟩ => ⟨h, k.symm⟩
end Go.Proofs.Ytgliddedimpgaaa
