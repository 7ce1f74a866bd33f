/- The package's variables, as the program's text lays them. -/
import Derived.Test.YtilpcchcccbfcaaDoorRows
import Derived.Test.YtilpcchcccbfcaaDoorF
import Derived.ProofKit
import Derived.LaidMore
import Derived.OpenShut
import Derived.Stop.LaidErr
import Derived.Stop.Joined
import Derived.Carry
namespace Go.Proofs.YtilpcchcccbfcaaDoor
open Go.RowKit Go.ChangeShapes Go.WideShapes Go.ChangeAt

abbrev laid6 {H : Type} : List (String × DataW H) := [("math/bits.deBruijn32tab", Rows.laid_math_bits_deBruijn32tab), ("math/bits.deBruijn64tab", Rows.laid_math_bits_deBruijn64tab), ("internal/strconv.uint64pow10", Rows.laid_internal_strconv_uint64pow10), ("strconv.ErrRange", Rows.laid_strconv_ErrRange), ("strconv.ErrSyntax", Rows.laid_strconv_ErrSyntax), ("fasti/lex.classes", Rows.laid_fasti_lex_classes)]
theorem own : ownKnob Tryd.prog.godebug = none := by kernel_rfl
theorem laid_pow : (Rows.laid_internal_strconv_uint64pow10 : DataW Unit) = Lib.tabData .u64 Lib.pow10Tab := rfl
theorem laid_cls : (Rows.laid_fasti_lex_classes : DataW Unit) = Lib.tabData .u8 (clsTab.map fun (k : Nat) => (k : Int)) := by
  have h : (clsTab.map fun (k : Nat) => (k : Int)) = [0, 0, 0, 0, 0, 0, 0, 0, 0, 4, 4, 0, 0, 4, 0, 0, 0, 0, 0, 0, 0, 0, 0, 0, 0, 0, 0, 0, 0, 0, 0, 0, 4, 3, 0, 0, 0, 0, 0, 0, 3, 3, 3, 3, 3, 3, 3, 3, 2, 2, 2, 2, 2, 2, 2, 2, 2, 2, 3, 3, 3, 3, 3, 0, 0, 1, 1, 1, 1, 1, 1, 1, 1, 1, 1, 1, 1, 1, 1, 1, 1, 1, 1, 1, 1, 1, 1, 1, 1, 1, 1, 0, 0, 0, 0, 5, 0, 1, 1, 1, 1, 1, 1, 1, 1, 1, 1, 1, 1, 1, 1, 1, 1, 1, 1, 1, 1, 1, 1, 1, 1, 1, 1, 3, 0, 3, 0, 0] := by decide +kernel
  rw [h]; rfl
theorem gCls : Tryd.prog.globalNamed "fasti/lex.classes" = some 0 := by kernel_rfl
theorem tCls : (Tryd.prog.globals[0]?).map (·.type) = some 70 := by kernel_rfl
theorem tPow : (Tryd.prog.globals[4]?).map (·.type) = some 102 := by kernel_rfl
theorem gRange : Tryd.prog.globalNamed "strconv.ErrRange" = some 3 := by kernel_rfl
theorem tRange : (Tryd.prog.globals[3]?).map (·.type) = some 66 := by kernel_rfl
theorem star : "*" ++ "errors.errorString" = "*errors.errorString" := by decide
theorem row97 (u : TypeId) (h : Tryd.prog.typeName? 3 u = some "*errors.errorString") : u = 97 :=
  typeName_ptr_named (nm := "errors.errorString") (by rw [star]; kernel_rfl) (by kernel_rfl) (by decide) u (by rw [star]; exact h)
theorem cells99 : Tryd.prog.cellsOf 99 = 1 := by kernel_rfl
theorem cells9 : Tryd.prog.cellsOf 9 = 1 := by kernel_rfl
theorem cells5 : Tryd.prog.cellsOf 5 = 1 := by kernel_rfl
theorem cells84 : Tryd.prog.cellsOf 84 = 1 := by kernel_rfl
theorem cells70 : Tryd.prog.cellsOf 70 = 128 := by kernel_rfl
theorem cells102 : Tryd.prog.cellsOf 102 = 20 := by kernel_rfl

/-- The door's own heap meets the condition: closed facts. -/
theorem door_met (os : Os) (args : Array Value) : laidMetH Tryd.prog laid6 ((World.doorLaid Tryd.prog 400 os).forCall (fun _ _ => 0) ⟨#[], args, []⟩).memory :=
  laidMetH_of_parts3 (fuel := 8) (laidMet_of_run' 8 (by kernel_rfl) (by kernel_rfl)) (by kernel_rfl) (by kernel_rfl)

theorem laid_of {W : World} (h : laidMetH Tryd.prog laid6 W) : Laid W := by
  rw [MakeChecks.laidMetH_plain _ _ _ (by kernel_rfl)] at h
  have h3 := h.tail.tail
  have h4 := h3.tail
  have h6 := h4.tail.tail
  rw [laid_pow] at h3
  rw [laid_cls] at h6
  have hp := Lib.tabIs_of_head gPow tPow Tryd.underlying102 Tryd.underlying84 cells84 cells102 h3
  have hc := Lib.tabIs_of_head gCls tCls Tryd.underlying70 Tryd.underlying5 cells5 cells70 h6
  obtain ⟨a, s, hv, _, _, _⟩ := laid_sentinel h4 gRange tRange Tryd.underlying66 row97 Tryd.underlying97 Tryd.underlying99 rfl rfl Tryd.underlying9 cells99 cells9
  have hcell : ∀ i, i < 128 → W.cell? ⟨0, i, none⟩ = some (.int .u8 (clsTab.getD i 0 : Int)) := fun i hi => by
    have := hc.cell gCls i (by simp [clsTab]; exact hi)
    rw [this]
    simp [List.getD, clsTab, List.getElem?_map, List.getElem?_range hi]
  refine ⟨⟨World.block_lt_of_cell? W _ (hcell 0 (by omega)), hcell⟩, ⟨_, _, by simpa using World.var?_cell gRange hv 0⟩, hp⟩
end Go.Proofs.YtilpcchcccbfcaaDoor
