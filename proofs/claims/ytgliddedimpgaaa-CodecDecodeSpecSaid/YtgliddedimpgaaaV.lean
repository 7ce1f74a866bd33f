/- Values of the codec as plain trees: which are well-formed, how deep they are, how they are encoded, how bytes are read. Nothing here speaks of the program. -/
import Derived.Test.YtgliddedimpgaaaM
namespace Go.Proofs.Ytgliddedimpgaaa

inductive V where
  | mk : Int → Int → ByteArray → List V → V

theorem V.ind {P : V → Prop} (h : ∀ k n s l, (∀ x ∈ l, P x) → P (.mk k n s l)) : ∀ x, P x
  | .mk k n s l => h k n s l fun x _ => V.ind h x
termination_by x => SizeOf.sizeOf x
decreasing_by
  have := List.sizeOf_lt_of_mem ‹x ∈ l›
  simp; omega

mutual
def formed : V → Bool
  | .mk k n s l => (k == 1 && (s.size == 0 && l.length == 0)) || ((k == 2 && (n == 0 && l.length == 0)) || (k == 3 && ((n == 0 && s.size == 0) && formedL l)))
def formedL : List V → Bool
  | [] => true
  | x :: l => formed x && formedL l
end

mutual
def depth : V → Nat
  | .mk k _ _ l => if k = 3 then depthL l + 1 else 0
def depthL : List V → Nat
  | [] => 0
  | x :: l => max (depth x) (depthL l)
end

def digits (u : Nat) : List UInt8 := (num u).map UInt8.ofNat
theorem digits_lo (u : Nat) (h : u < 128) : digits u = [UInt8.ofNat u] := by rw [digits, num_lo u h]; rfl
theorem digits_hi (u : Nat) (h : 128 ≤ u) : digits u = UInt8.ofNat (u % 128 + 128) :: digits (u / 128) := by rw [digits, num_hi u h]; rfl
theorem digits_len (u : Nat) : (digits u).length = (num u).length := by simp [digits]
theorem byte_nat (u : Nat) (h : u < 256) : (UInt8.ofNat u).toNat = u := by simp; omega

mutual
def enc : V → List UInt8
  | .mk k n s l => UInt8.ofNat k.toNat :: (if k = 1 then digits (uns n) else if k = 2 then digits s.size ++ s.data.toList else digits l.length ++ encL l)
def encL : List V → List UInt8
  | [] => []
  | x :: l => enc x ++ encL l
end

theorem encL_append : ∀ a b : List V, encL (a ++ b) = encL a ++ encL b
  | [], b => by simp [encL]
  | x :: a, b => by rw [List.cons_append, encL, encL, encL_append a b, List.append_assoc]

theorem formedL_mem : ∀ (l : List V), formedL l = true ↔ ∀ x ∈ l, formed x = true
  | [] => by simp [formedL]
  | x :: l => by rw [formedL, Bool.and_eq_true, formedL_mem l]; simp

theorem depthL_le : ∀ (l : List V) (n : Nat), depthL l ≤ n ↔ ∀ x ∈ l, depth x ≤ n
  | [], n => by simp [depthL]
  | x :: l, n => by rw [depthL, Nat.max_le, depthL_le l n]; simp

theorem encL_take (l : List V) (i : Nat) (h : i < l.length) : encL (l.take (i + 1)) = encL (l.take i) ++ enc l[i] := by
  rw [List.take_succ_eq_append_getElem h, encL_append]; simp [encL]
end Go.Proofs.Ytgliddedimpgaaa
