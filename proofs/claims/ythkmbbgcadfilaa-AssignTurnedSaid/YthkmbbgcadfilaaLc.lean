/- steps of a region that draws its order, as laws: a slice of zeros made, a slice of one number laid. -/
import Derived.Test.YthkmbbgcadfilaaLb
import Derived.Great.BuildSlice
namespace Go.Proofs.Ythkmbbgcadfilaa
open Go.RowKit Go.Shelf

/-- what a new block of numbers is -/
def NewI (w w' : World) (g : Nat) (L : List Int) : Prop := g = w.heap.size ∧ Row w' g 3 (nums L) ∧ w'.heap.size = w.heap.size + 1 ∧ Below w.heap.size w w'
theorem step_make {ops : Array Oper} {o : Oper} {a : Act} {w : World} {K : Act → World → Prop} {Q : Exit → Act → World → Prop} {E : Prop} (hgd : o.guard = none) (x : Operand) (ho : o.op = .makeSlice 23 x x) (n : Nat) (hn : n ≤ 1000000) (hx : a.eval x = .int .i64 (n : Int))
    (h : ∀ g w', Hid (NewI w w' g (List.replicate n 0)) → K (a.put o.dst (.slice (some ⟨g, 0, none⟩) n n)) w') :
    if Region.wanted o (yielded ops a.tmps) = true then Oper.wp Try.prog o a w K Q else E := by
  have hw : Region.wanted o (yielded ops a.tmps) = true := by simp [Region.wanted, hgd]
  rw [if_pos hw]
  obtain ⟨i0, hi, hz⟩ := info_parts Try.infoI
  simp only [Prod.mk.injEq] at hz
  obtain ⟨hz0, hz1, hz2⟩ := hz
  have hr := run_makeSlice (P := Try.prog) w 23 3 i0 (.int .i64 0) Try.underlying23 hi hz0 .i64 .i64 (n : Int) (n : Int) (by omega) (by omega) (by rw [hz1, Int.toNat_natCast]; omega) (by rw [hz2]; omega) (by omega)
  rw [hz1, Int.toNat_natCast, made_ints] at hr
  have h1 := h _ _ (Lib.hid ⟨rfl, row_new w 3 _, by simp, Joins.below_alloc1 w _⟩)
  unfold Oper.wp execOp
  have e : (nums (List.replicate n 0)).toArray = Array.replicate n (Value.int .i64 0) := by simp [nums]
  rw [e] at h1 hr
  simp [ho, hx, hr, Sem.run_bind]
  exact h1
theorem step_one {ops : Array Oper} {o : Oper} {a : Act} {w : World} {K : Act → World → Prop} {Q : Exit → Act → World → Prop} {E : Prop} (hgd : o.guard = none) (c : Int) (ho : o.op = .buildSlice 23 1 #[(0, .const (.int .i64 c))])
    (h : ∀ g w', Hid (NewI w w' g [c]) → K (a.put o.dst (.slice (some ⟨g, 0, none⟩) 1 1)) w') :
    if Region.wanted o (yielded ops a.tmps) = true then Oper.wp Try.prog o a w K Q else E := by
  have hw : Region.wanted o (yielded ops a.tmps) = true := by simp [Region.wanted, hgd]
  rw [if_pos hw]
  have h1 := h _ _ (Lib.hid ⟨rfl, row_new w 3 [.int .i64 c], by simp, Joins.below_alloc1 w _⟩)
  obtain ⟨i0, hi, hz⟩ := info_parts Try.infoI
  simp only [Prod.mk.injEq] at hz
  obtain ⟨hz0, hz1, hz2⟩ := hz
  refine wp_buildSlice 23 3 1 #[(0, .const (.int .i64 c))] ho #[.int .i64 c] i0 (.int .i64 0) Try.underlying23 hi hz0 (by rw [hz1]; decide) (by rw [hz1]; decide) ?_ h1
  rw [hz1]
  have e1 : ((#[(0, Operand.const (Value.int IntKind.i64 c))] : Array (Nat × Operand)).map fun x => match x with | (i, x) => (i, a.eval x)).toList = [(0, Value.int .i64 c)] := by simp [Act.eval]
  have e2 : Array.map (fun x => (Value.int IntKind.i64 0).cells[x % (Value.int IntKind.i64 0).cells.size]!) (Array.range (1 * 1)) = #[Value.int .i64 0] := by
    rw [show (Value.int IntKind.i64 0).cells = #[Value.int IntKind.i64 0] from rfl]
    simp
    exact ⟨0, by decide, by rfl⟩
  rw [e1, e2]
  have e3 : (Value.int IntKind.i64 c).cells = #[Value.int IntKind.i64 c] := rfl
  simp [Instr.fill, e3]
end Go.Proofs.Ythkmbbgcadfilaa
