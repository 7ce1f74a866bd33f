/- The reference's numbers: the function's contract. -/
import Derived.Test.YtbcfmpohempkpaaDoorXRwZ
import Derived.Test.YtbcfmpohempkpaaDoorZc15
import Derived.Test.YtbcfmpohempkpaaDoorZc11
namespace Go.Proofs.YtbcfmpohempkpaaDoor.Dig
open Go.RowKit

theorem wpList_value {ops : Array Oper} {rest : List Oper} {o : Oper} {a : Act} {w : World} {Q : Exit → Act → World → Prop} (t : TypeId) (ho : ∃ parts, o.op = .build t parts) (hgd : o.guard = none) (v : Value) (hr : (execOp a.eval o).run Tryd.prog w = .ok (.value v) w)
    (h : wpList Tryd.prog ops Q rest (a.put o.dst v) w) : wpList Tryd.prog ops Q (o :: rest) a w :=
  wpList_plain hgd fun _ hK => by
    unfold Oper.wp
    rw [hr]
    exact hK _ _ h
theorem u32s_64 : (u32s kTab).toArray.size = 64 := by kernel_rfl

def z64 : List Value := u32s (List.replicate 64 0)
set_option maxHeartbeats 4000000 in
set_option maxRecDepth 100000 in
theorem numbers_call (w : World) : Calls Tryd.prog 88 #[] w fun e w' => e = .returned (.agg (u32s kTab).toArray) ∧ Below w.heap.size w w' := by
  have HRow : Hid (Row (w.alloc (.cells z64.toArray 97)) w.heap.size 97 z64) := row_new w 97 _
  go_enter Tryd.func88, Tryd.ntmps88
  go_wp2_with (first
    | (refine wpList_value 97 ⟨_, rfl⟩ rfl (.agg (u32s kTab).toArray) (by kernel_rfl) ?_)
    | (refine wpList_store_row rfl 97 (.tmp 0) (.tmp 1) rfl w.heap.size (u32s kTab).toArray rfl rfl 97 z64.toArray HRow.out (by rw [u32s_64]; kernel_rfl) (by kernel_rfl) (u32s_one _) ?_))
  exact bodyPost_ret (results_cell_row rfl _ _ w.heap.size 97 (u32s kTab).toArray (0, 0) _ rfl (HRow.out.setRow _) Tryd.underlying97 rfl (by kernel_rfl)) rfl ⟨rfl, below_setRow (Joins.below_alloc1 w _) _ _ (Nat.le_refl _)⟩
end Go.Proofs.YtbcfmpohempkpaaDoor.Dig
