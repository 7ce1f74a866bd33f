/- Contracts of the small functions of the codec: how numbers are brought to their unsigned form and back. -/
import Derived.Test.YtbcfmpohempkpaaDoorRows
import Derived.WalkKit
import Derived.WalkLawsBesides
import Derived.Lib.Hide
import Derived.Test.YtbcfmpohempkpaaDoorZc23
import Derived.Test.YtbcfmpohempkpaaDoorZc24
namespace Go.Proofs.YtbcfmpohempkpaaDoor.Cod
open Go.RowKit


/-- a value of kind k with number n, text s and elements at a -/
abbrev val (k n : Int) (s : ByteArray) (a : Option Addr) (len cap : Nat) : Value := .agg #[.int .i64 k, .int .i64 n, .string s, .slice a len cap]

set_option maxRecDepth 100000 in
theorem int_call (n : Int) (w : World) :
    Calls Tryd.prog 25 #[.int .i64 n] w fun e w' => e = .returned (val 1 n ⟨#[]⟩ none 0 0) ∧ Below w.heap.size w w' := by
  go_enter Tryd.func25, Tryd.ntmps25
  go_wp2
  exact bodyPost_ret (v := .agg #[.int .i64 1, .int .i64 n, .string ⟨#[]⟩, .slice none 0 0]) (by simp [results, Tryd.results25, go_sem]) rfl ⟨rfl, (Below.refl _ _).alloc (Nat.le_refl _) _⟩

set_option maxRecDepth 100000 in
theorem text_call (s : ByteArray) (w : World) :
    Calls Tryd.prog 26 #[.string s] w fun e w' => e = .returned (val 2 0 s none 0 0) ∧ Below w.heap.size w w' := by
  go_enter Tryd.func26, Tryd.ntmps26
  go_wp2
  exact bodyPost_ret (v := .agg #[.int .i64 2, .int .i64 0, .string s, .slice none 0 0]) (by simp [results, Tryd.results26, go_sem]) rfl ⟨rfl, (Below.refl _ _).alloc (Nat.le_refl _) _⟩

set_option maxRecDepth 100000 in
theorem list_call (a : Option Addr) (len cap : Nat) (w : World) :
    Calls Tryd.prog 24 #[.slice a len cap] w fun e w' => e = .returned (val 3 0 ⟨#[]⟩ a len cap) ∧ Below w.heap.size w w' := by
  go_enter Tryd.func24, Tryd.ntmps24
  go_wp2
  exact bodyPost_ret (v := .agg #[.int .i64 3, .int .i64 0, .string ⟨#[]⟩, .slice a len cap]) (by simp [results, Tryd.results24, go_sem]) rfl ⟨rfl, (Below.refl _ _).alloc (Nat.le_refl _) _⟩

set_option maxRecDepth 100000 in
theorem ret_u64 {a b : Int} (h : a = b) : Ending.returned (.int .u64 a) = .returned (.int .u64 b) := by rw [h]
set_option maxRecDepth 100000 in
theorem ret_i64 {a b : Int} (h : a = b) : Ending.returned (.int .i64 a) = .returned (.int .i64 b) := by rw [h]

set_option maxRecDepth 100000 in
set_option maxHeartbeats 400000 in
theorem unsigned_call (n : Int) (w : World) (h0 : -9223372036854775808 ≤ n) (h1 : n ≤ 9223372036854775807) :
    Calls Tryd.prog 81 #[.int .i64 n] w fun e w' => e = .returned (.int .u64 (uns n)) ∧ w = w' := by
  go_enter Tryd.func81, Tryd.ntmps81
  go_wp2
  go_ret
  exact ⟨ret_u64 (unsigned_bits n h0 h1), rfl⟩

set_option maxRecDepth 100000 in
set_option maxHeartbeats 400000 in
theorem sizeNumeral_call (u : Nat) (w : World) (h1 : u ≤ 18446744073709551615) :
    Calls Tryd.prog 80 #[.int .u64 u] w fun e w' => e = .returned (.int .i64 (num u).length) ∧ w = w' := by
  go_enter Tryd.func80, Tryd.ntmps80
  have hb : Lib.bitLen (u ||| 1) ≤ 64 := Lib.bitLen_le _ 64 (by omega) (by rw [or_one]; omega)
  have ho : bits .or .u64 (u : Int) 1 = ((u ||| 1 : Nat) : Int) := u64_or_nat u 1 (by omega) (by omega)
  have hlt : u ||| 1 ≤ 18446744073709551615 := by rw [or_one]; omega
  have HN := Lib.hid (num_bits u (by omega))
  go_wp2_with (go_at_call 89; refine (len64_call _ _ (by omega) (by omega)).mono ?_; rintro e w' ⟨rfl, rfl⟩)
  go_ret
  exact ⟨ret_i64 (by rw [HN.out]; omega), rfl⟩
set_option maxRecDepth 100000 in
theorem sizeNumeral_same (u : Nat) (w : World) (h1 : u ≤ 18446744073709551615) :
    Calls Tryd.prog 80 #[.int .u64 u] w fun e w' => e = .returned (.int .i64 (num u).length) ∧ w' = w :=
  (sizeNumeral_call u w h1).mono fun _ _ ⟨h, k⟩ => ⟨h, k.symm⟩
end Go.Proofs.YtbcfmpohempkpaaDoor.Cod

/- Values of the codec as plain trees: which are well-formed, how deep they are, how they are encoded, how bytes are read. Nothing here speaks of the program. -/
namespace Go.Proofs.YtbcfmpohempkpaaDoor.Cod

inductive V where
  | mk : Int → Int → ByteArray → List V → V

set_option maxRecDepth 100000 in
theorem V.ind {P : V → Prop} (h : ∀ k n s l, (∀ x ∈ l, P x) → P (.mk k n s l)) : ∀ x, P x
  | .mk k n s l => h k n s l fun x _ => V.ind h x
termination_by x => SizeOf.sizeOf x
decreasing_by
  have := List.sizeOf_lt_of_mem ‹x ∈ l›
  simp; omega

mutual
def formed : V → Bool
  | .mk k n s l => (k == 1 && (s.size == 0 && l.length == 0)) || ((k == 2 && (n == 0 && l.length == 0)) || (k == 3 && ((n == 0 && s.size == 0) && formedL l)))
def formedL : List V → Bool
  | [] => true
  | x :: l => formed x && formedL l
end

mutual
def depth : V → Nat
  | .mk k _ _ l => if k = 3 then depthL l + 1 else 0
def depthL : List V → Nat
  | [] => 0
  | x :: l => max (depth x) (depthL l)
end

def digits (u : Nat) : List UInt8 := (num u).map UInt8.ofNat
set_option maxRecDepth 100000 in
theorem digits_lo (u : Nat) (h : u < 128) : digits u = [UInt8.ofNat u] := by rw [digits, num_lo u h]; rfl
set_option maxRecDepth 100000 in
theorem digits_hi (u : Nat) (h : 128 ≤ u) : digits u = UInt8.ofNat (u % 128 + 128) :: digits (u / 128) := by rw [digits, num_hi u h]; rfl
set_option maxRecDepth 100000 in
theorem digits_len (u : Nat) : (digits u).length = (num u).length := by simp [digits]
set_option maxRecDepth 100000 in
theorem byte_nat (u : Nat) (h : u < 256) : (UInt8.ofNat u).toNat = u := by simp; omega

mutual
def enc : V → List UInt8
  | .mk k n s l => UInt8.ofNat k.toNat :: (if k = 1 then digits (uns n) else if k = 2 then digits s.size ++ s.data.toList else digits l.length ++ encL l)
def encL : List V → List UInt8
  | [] => []
  | x :: l => enc x ++ encL l
end

set_option maxRecDepth 100000 in
theorem encL_append : ∀ a b : List V, encL (a ++ b) = encL a ++ encL b
  | [], b => by simp [encL]
  | x :: a, b => by rw [List.cons_append, encL, encL, encL_append a b, List.append_assoc]

set_option maxRecDepth 100000 in
theorem formedL_mem : ∀ (l : List V), formedL l = true ↔ ∀ x ∈ l, formed x = true
  | [] => by simp [formedL]
  | x :: l => by rw [formedL, Bool.and_eq_true, formedL_mem l]; simp

set_option maxRecDepth 100000 in
theorem depthL_le : ∀ (l : List V) (n : Nat), depthL l ≤ n ↔ ∀ x ∈ l, depth x ≤ n
  | [], n => by simp [depthL]
  | x :: l, n => by rw [depthL, Nat.max_le, depthL_le l n]; simp

set_option maxRecDepth 100000 in
theorem encL_take (l : List V) (i : Nat) (h : i < l.length) : encL (l.take (i + 1)) = encL (l.take i) ++ enc l[i] := by
  rw [List.take_succ_eq_append_getElem h, encL_append]; simp [encL]
end Go.Proofs.YtbcfmpohempkpaaDoor.Cod
