/- Steps on rows of numbers: each names what it leaves. -/
import Derived.Test.YtbcfmpohempkpaaDoorXRmZ
import Derived.Test.YtbcfmpohempkpaaDoorZc13
namespace Go.Proofs.YtbcfmpohempkpaaDoor.Dig
open Go.RowKit

theorem row_far' {w : World} {g g' T : Nat} {cs : List Value} (h : Row w g T cs) (cs' : Array Value) (hne : g ≠ g') : Row (w.setRow g' cs') g T cs := (setRow_other w g' g cs' (by omega)).trans h
theorem wpList_store_u {ops : Array Oper} {rest : List Oper} {o : Oper} {a : Act} {w : World} {Q : Exit → Act → World → Prop} {T : TypeId} (hgd : o.guard = none) (x y : Operand) (ho : o.op = .store T x y)
    (g : Nat) (cs old : List Value) (hx : a.eval x = .pointer (some ⟨g, 0, none⟩)) (hy : a.eval y = .agg cs.toArray) (hg : Row w g T old)
    (hi : (Tryd.prog.info? T).map (·.size) = some cs.toArray.size) (hsz : cs.toArray.size = old.toArray.size) (h1 : cs.toArray.all (·.oneCell') = true) {B : Nat} {w0 : World} (hb : Below B w0 w) (hB : B ≤ g)
    (h : ∀ w', Row w' g T cs → Below B w0 w' → (∀ g' T' cs', g' ≠ g → Row w g' T' cs' → Row w' g' T' cs') → wpList Tryd.prog ops Q rest (a.put o.dst undef) w') : wpList Tryd.prog ops Q (o :: rest) a w :=
  wpList_store_row hgd T x y ho g cs.toArray hx hy T old.toArray hg hi hsz.symm h1 (h _ (hg.setRow _) (below_setRow hb _ _ hB) fun g' T' cs' hne hr => row_far' hr _ hne)
theorem wpList_alloc_u {ops : Array Oper} {rest : List Oper} {o : Oper} {a : Act} {w : World} {Q : Exit → Act → World → Prop} {T : TypeId} (hgd : o.guard = none) (t : Nat) (hd : o.dst = some t) (ho : o.op = .alloc T) (cs : List Value)
    (hz : (Tryd.prog.info? T).map (·.zero) = some (some (.agg cs.toArray)))
    (h : ∀ g w', g = w.heap.size → Row w' g T cs → Below w.heap.size w w' → wpList Tryd.prog ops Q rest (a.put (some t) (.pointer (some ⟨g, 0, none⟩))) w') : wpList Tryd.prog ops Q (o :: rest) a w :=
  wpList_plain hgd fun K hK => by
    have h1 := hK _ _ (h w.heap.size (w.alloc (.cells cs.toArray T)) rfl (row_new w T cs) (Joins.below_alloc1 w _))
    rw [← hd] at h1
    cases hi : Tryd.prog.info? T with
    | none => rw [hi] at hz; cases hz
    | some i0 =>
      rw [hi] at hz
      have hz0 : i0.zero = some (.agg cs.toArray) := by simpa using hz
      unfold Oper.wp
      simp [execOp, ho, Instr.alloc, newObj, newVar, zeroValue, typeInfo, hi, hz0, Sem.run_bind, Value.cells]
      exact h1
theorem wpList_box_u {ops : Array Oper} {rest : List Oper} {o : Oper} {a : Act} {w : World} {Q : Exit → Act → World → Prop} {T : TypeId} (hgd : o.guard = none) (t : Nat) (hd : o.dst = some t) (x : Operand) (ho : o.op = .box T x) (cs : List Value)
    (hx : a.eval x = .agg cs.toArray)
    (h : ∀ g w', g = w.heap.size → Row w' g T cs → Below w.heap.size w w' → wpList Tryd.prog ops Q rest (a.put (some t) (.pointer (some ⟨g, 0, none⟩))) w') : wpList Tryd.prog ops Q (o :: rest) a w :=
  wpList_plain hgd fun K hK => by
    have h1 := hK _ _ (h w.heap.size (w.alloc (.cells cs.toArray T)) rfl (row_new w T cs) (Joins.below_alloc1 w _))
    rw [← hd] at h1
    unfold Oper.wp
    simp [execOp, ho, hx, Instr.box, newObj, Sem.run_bind, Value.cells]
    exact h1
end Go.Proofs.YtbcfmpohempkpaaDoor.Dig
