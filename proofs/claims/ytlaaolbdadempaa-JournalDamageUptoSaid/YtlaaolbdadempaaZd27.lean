/- JournalDamage: the walk, as the claim takes it. -/
import Derived.Test.YtlaaolbdadempaaZd25
import Derived.Test.YtlaaolbdadempaaZd26
namespace Go.Proofs.Ytlaaolbdadempaa
open Go.RowKit

theorem jdamage_walk2 (R : List (List UInt8)) (vR : Value) (sec at' by' : Int) (w : World) (h : NRest w.heap.size w R vR) (hsum : (R.map fun b => b.length + 1).sum ≤ 1048576) (hb : 0 ≤ by' ∧ by' ≤ 255) (hs : -9223372036854775808 ≤ sec ∧ sec ≤ 9223372036854775807) (ha : -9223372036854775808 ≤ at' ∧ at' ≤ 9223372036854775807) :
    Calls Try.prog 15 #[vR, .int .i64 sec, .int .i64 at', .int .u8 by'] w fun e w' => e = .returned (.bool true) ∧ Below w.heap.size w w' := by
  obtain ⟨b, rfl⟩ : ∃ b : Nat, by' = (b : Int) := ⟨by'.toNat, by omega⟩
  have hn : R.length ≤ (R.map fun b => b.length + 1).sum := by
    clear h hsum
    induction R with
    | nil => simp
    | cons x r ih => simp only [List.map_cons, List.sum_cons, List.length_cons]; omega
  exact jdamage_walk R vR sec at' b w h (fun x hx => by have := len_sum hx; omega) (by omega) (by omega) hs.1 hs.2 ha.1 ha.2
end Go.Proofs.Ytlaaolbdadempaa
