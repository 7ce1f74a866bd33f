/- Small functions of the disk: has, damaged. -/
import Derived.Test.YtlaaolbdadempaaB
namespace Go.Proofs.Ytlaaolbdadempaa
open Go.RowKit

theorem ret_bool {a b : Bool} (h : a = b) : Ending.returned (.bool a) = .returned (.bool b) := by rw [h]
theorem ret_int {k : IntKind} {a b : Int} (h : a = b) : Ending.returned (.int k a) = .returned (.int k b) := by rw [h]
def hasB (n : Nat) (at' : Int) : Bool := decide (0 ≤ at' ∧ at' < (n : Int))
def damB (n : Nat) : Bool := decide (n ≠ 128)
set_option maxHeartbeats 1000000 in
set_option maxRecDepth 100000 in
theorem damaged_call (xs : List UInt8) (v : Value) (B : Nat) (w w0 : World) (h : Rest B w0 xs v) :
    Calls Try.prog 75 #[v] w fun e w' => e = .returned (.bool (damB xs.length)) ∧ w = w' := by
  obtain ⟨a, cap, rfl, _, _⟩ := h.shape
  generalize xs.length = n
  clear h
  unfold damB
  go_enter Try.func75, Try.ntmps75
  go_wp2
  go_ret
  exact ⟨ret_bool (by rw [Bool.eq_iff_iff]; simp; omega), rfl⟩
set_option maxHeartbeats 1000000 in
set_option maxRecDepth 100000 in
theorem has_call (d : Dsk) (v : Value) (at' : Int) (B : Nat) (w w0 : World) (h : DRest B w0 d v) :
    Calls Try.prog 54 #[v, .int .i64 at'] w fun e w' => e = .returned (.bool (hasB d.secs.length at')) ∧ Below w.heap.size w w' := by
  obtain ⟨s, p, rfl, h1, _⟩ := h
  obtain ⟨a, cap, rfl, _, _⟩ := h1.shape
  unfold dskOf dskCells hasB
  generalize d.secs.length = n
  clear h1
  by_cases h : 0 ≤ at'
  · by_cases h2 : at' < (n : Int)
    · rw [decide_eq_true ⟨h, h2⟩]
      go_enter Try.func54, Try.ntmps54
      go_wp2
      go_ret
      exact ⟨rfl, Joins.below_alloc1 w _⟩
    · rw [decide_eq_false (by omega)]
      go_enter Try.func54, Try.ntmps54
      go_wp2
      go_ret
      exact ⟨rfl, Joins.below_alloc1 w _⟩
  · rw [decide_eq_false (by omega)]
    go_enter Try.func54, Try.ntmps54
    go_wp2
    go_ret
    exact ⟨rfl, Joins.below_alloc1 w _⟩
end Go.Proofs.Ytlaaolbdadempaa
