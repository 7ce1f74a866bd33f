/- Empty paths, as the program lays them. -/
import Derived.Test.YthkmbbgcadfilaaI
import Derived.Great.Walk
namespace Go.Proofs.Ythkmbbgcadfilaa
open Go.RowKit Go.Shelf

def pz : List Value := nums (List.replicate 16 0) ++ (nums (List.replicate 16 0) ++ bls (List.replicate 16 false))
theorem built_p : Try.prog.built 82 [] = some pz.toArray := by kernel_rfl
theorem size_p : (Try.prog.info? 82).map (·.size) = some 48 := by kernel_rfl
theorem pz_len : pz.length = 48 := by kernel_rfl
theorem pz_one : pz.all (·.oneCell') = true := by kernel_rfl
theorem wpList_build_p {ops : Array Oper} {rest : List Oper} {o : Oper} {a : Act} {w : World} {Q : Exit → Act → World → Prop} (hgd : o.guard = none) (ho : o.op = .build 82 #[])
    (h : ∀ cs : Array Value, cs = pz.toArray → wpList Try.prog ops Q rest (a.put o.dst (.agg cs)) w) : wpList Try.prog ops Q (o :: rest) a w :=
  wpList_plain hgd fun _ hK => by
    have hr := run_build (P := Try.prog) w 82 #[] _ built_p
    have h1 := hK _ _ (h _ rfl)
    unfold Oper.wp execOp
    simp [ho, hr, Sem.run_bind]
    exact h1
theorem alloc_p (w : World) (ρ : Operand → Value) (o : Oper) (ho : o.op = .alloc 82) : (execOp ρ o).run Try.prog w = .ok (.value (.pointer (some ⟨w.heap.size, 0, none⟩))) (w.alloc (.cells pz.toArray 82)) := by
  unfold execOp
  rw [ho]
  kernel_rfl
theorem wpList_alloc_p {ops : Array Oper} {rest : List Oper} {o : Oper} {a : Act} {w : World} {Q : Exit → Act → World → Prop} (hgd : o.guard = none) (ho : o.op = .alloc 82)
    (h : ∀ W, Row W w.heap.size 82 pz → Below w.heap.size w W → wpList Try.prog ops Q rest (a.put o.dst (.pointer (some ⟨w.heap.size, 0, none⟩))) W) : wpList Try.prog ops Q (o :: rest) a w :=
  wpList_plain hgd fun _ hK => by
    have h1 := hK _ _ (h _ (row_new w _ pz) (Joins.below_alloc1 w _))
    unfold Oper.wp
    rw [alloc_p w _ o ho, Oper.upon_value]
    exact h1
theorem wpList_store_p {ops : Array Oper} {rest : List Oper} {o : Oper} {a : Act} {w w0 : World} {Q : Exit → Act → World → Prop} (hgd : o.guard = none) (x y : Operand) (ho : o.op = .store 82 x y)
    (g : Nat) (cs : Array Value) (hc : cs = pz.toArray) (hx : a.eval x = .pointer (some ⟨g, 0, none⟩)) (hy : a.eval y = .agg cs) (hr : Row w g 82 pz) (hb : Below w0.heap.size w0 w) (hg : w0.heap.size ≤ g)
    (h : ∀ W, PMem g (List.replicate 16 0) (List.replicate 16 0) (List.replicate 16 false) W → Below w0.heap.size w0 W → wpList Try.prog ops Q rest (a.put o.dst undef) W) : wpList Try.prog ops Q (o :: rest) a w := by
  subst hc
  exact wpList_store_row hgd _ x y ho g pz.toArray hx hy _ pz.toArray hr (by rw [size_p]; simp [pz_len]) rfl (by simpa using pz_one) (h _ ⟨hr.setRow pz, by simp, by simp, by simp⟩ (below_setRow hb _ _ hg))
end Go.Proofs.Ythkmbbgcadfilaa
