/- The kinds, and all tokens of a source: the program's functions. -/
import Derived.Test.YtilpcchcccbfcaaDoorF
namespace Go.Proofs.YtilpcchcccbfcaaDoor
open Go.RowKit

def fnV (k : Nat) : Value := .func (.func k) #[] #[]
def kindCells : List Value := [fnV 42, .nilFunc, .nilFunc, fnV 43, fnV 44, fnV 45, fnV 46, fnV 47, fnV 48, fnV 49, fnV 50, fnV 45, fnV 42, .nilFunc, .nilFunc, fnV 42, .nilFunc, .nilFunc]
def kinds0 : List Value := List.replicate 18 .nilFunc
def kindsV : Value := .agg kindCells.toArray
theorem size51 : (Tryd.prog.info? 51).map (·.size) = some 18 := by kernel_rfl

set_option maxHeartbeats 1000000 in
set_option maxRecDepth 100000 in
theorem kinds_call (w : World) :
    Calls Tryd.prog 32 #[] w fun e w' => e = .returned kindsV ∧ Below w.heap.size w w' := by
  go_enter Tryd.func32, Tryd.ntmps32
  go_wp2
  exact bodyPost_ret (results_cell_row rfl _ _ w.heap.size 51 kindCells.toArray (0, 0) _ rfl (heap_alloc_new w _) Tryd.underlying51 rfl size51) rfl ⟨rfl, Joins.below_alloc1 w _⟩

theorem kinds_at0 (k : IntKind) (W : World) : (Instr.index 51 kindsV (.int k 0)).run Tryd.prog W = .ok (.agg #[fnV 42, .nilFunc, .nilFunc]) W := by kernel_rfl
theorem kinds_at1 (k : IntKind) (W : World) : (Instr.index 51 kindsV (.int k 1)).run Tryd.prog W = .ok (.agg #[fnV 43, fnV 44, fnV 45]) W := by kernel_rfl
theorem kinds_at2 (k : IntKind) (W : World) : (Instr.index 51 kindsV (.int k 2)).run Tryd.prog W = .ok (.agg #[fnV 46, fnV 47, fnV 48]) W := by kernel_rfl
theorem kinds_at3 (k : IntKind) (W : World) : (Instr.index 51 kindsV (.int k 3)).run Tryd.prog W = .ok (.agg #[fnV 49, fnV 50, fnV 45]) W := by kernel_rfl
theorem kinds_at4 (k : IntKind) (W : World) : (Instr.index 51 kindsV (.int k 4)).run Tryd.prog W = .ok (.agg #[fnV 42, .nilFunc, .nilFunc]) W := by kernel_rfl
theorem kinds_at5 (k : IntKind) (W : World) : (Instr.index 51 kindsV (.int k 5)).run Tryd.prog W = .ok (.agg #[fnV 42, .nilFunc, .nilFunc]) W := by kernel_rfl
theorem kind_scan (x y z : Value) (W : World) : (Instr.field 50 (.agg #[x, y, z]) 0).run Tryd.prog W = .ok x W := by kernel_rfl
theorem kind_fits (x y z : Value) (W : World) : (Instr.field 50 (.agg #[x, y, z]) 1).run Tryd.prog W = .ok y W := by kernel_rfl
theorem kind_word (x y z : Value) (W : World) : (Instr.field 50 (.agg #[x, y, z]) 2).run Tryd.prog W = .ok z W := by kernel_rfl
end Go.Proofs.YtilpcchcccbfcaaDoor
