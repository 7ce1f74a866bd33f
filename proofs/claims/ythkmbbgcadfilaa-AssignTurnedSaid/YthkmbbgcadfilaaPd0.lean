/- The number of bits of a number below 2^16, reckoned. -/
import Derived.WalkKit
namespace Go.Proofs.Ythkmbbgcadfilaa

def on1 (x : Nat) : Nat := Nat.add (Nat.land (Nat.div x 2) 6148914691236517205) (Nat.land x 6148914691236517205)
def on2 (x : Nat) : Nat := Nat.add (Nat.land (Nat.div x 4) 3689348814741910323) (Nat.land x 3689348814741910323)
def on3 (x : Nat) : Nat := Nat.land (Nat.add (Nat.div x 16) x) 1085102592571150095
def on4 (x : Nat) : Nat := Nat.add x (Nat.div x 256)
def on5 (x : Nat) : Nat := Nat.add x (Nat.div x 65536)
def on6 (x : Nat) : Nat := Nat.add x (Nat.div x 4294967296)
def onN (x : Nat) : Nat := Nat.land (on6 (on5 (on4 (on3 (on2 (on1 x)))))) 127
def popR : Nat → Nat → Nat
  | 0, _ => 0
  | k + 1, x => Nat.add (Nat.mod x 2) (popR k (Nat.div x 2))
def chkA : Nat → Nat → Bool
  | 0, _ => true
  | k + 1, x => Nat.beq (onN x) (popR 16 x) && chkA k (Nat.succ x)
def chkB : Nat → Nat → Bool
  | 0, _ => true
  | k + 1, x => chkA 256 x && chkB k (Nat.add x 256)
theorem on_all : chkB 256 0 = true := by decide +kernel
theorem chkA_at : ∀ {k x i : Nat}, chkA k x = true → i < k → onN (x + i) = popR 16 (x + i)
  | 0, _, _, _, h => by omega
  | k + 1, x, i, h, hi => by
    unfold chkA at h
    rw [Bool.and_eq_true] at h
    cases i with
    | zero => exact Nat.eq_of_beq_eq_true h.1
    | succ i =>
      have := chkA_at h.2 (i := i) (by omega)
      rwa [show Nat.succ x + i = x + (i + 1) by omega] at this
theorem chkB_at : ∀ {k x i j : Nat}, chkB k x = true → i < k → j < 256 → onN (x + 256 * i + j) = popR 16 (x + 256 * i + j)
  | 0, _, _, _, _, h, _ => by omega
  | k + 1, x, i, j, h, hi, hj => by
    unfold chkB at h
    rw [Bool.and_eq_true] at h
    cases i with
    | zero => exact chkA_at h.1 hj
    | succ i =>
      have := chkB_at h.2 (i := i) (j := j) (by omega) hj
      rwa [show Nat.add x 256 + 256 * i + j = x + 256 * (i + 1) + j by show x + 256 + 256 * i + j = _; omega] at this
theorem on_pop {x : Nat} (h : x < 65536) : onN x = popR 16 x := by
  have := chkB_at on_all (i := x / 256) (j := x % 256) (by omega) (by omega)
  rwa [show 0 + 256 * (x / 256) + x % 256 = x by omega] at this
end Go.Proofs.Ythkmbbgcadfilaa
