/- One law for each of a walk's steps on whole tokens: a new variable, a store, a load, a slice of one. -/
import Derived.Test.YtilpcchcccbfcaaDoorG
import Derived.Deep.RegionLaw
import Derived.Deep.RegionHeld
import Derived.BigRegion
namespace Go.Proofs.YtilpcchcccbfcaaDoor
open Go.RowKit

theorem row_far {w : World} {g g' T : Nat} {cs : List Value} (h : Row w g T cs) (cs' : Array Value) (hne : g ≠ g') : Row (w.setRow g' cs') g T cs := (setRow_other w g' g cs' (by omega)).trans h
set_option maxRecDepth 100000 in
theorem wp_alloc_tok {o : Oper} {a : Act} {w : World} {K : Act → World → Prop} {Q : Exit → Act → World → Prop} (t : Nat) (hd : o.dst = some t) (ho : o.op = .alloc 35)
    (h : ∀ g w', g = w.heap.size → Row w' g 35 tok0 → Below w.heap.size w w' → K (a.put (some t) (.pointer (some ⟨g, 0, none⟩))) w') : o.wp Tryd.prog a w K Q := by
  have h1 := h w.heap.size (w.alloc (.cells tok0.toArray 35)) rfl (row_new w 35 tok0) (Joins.below_alloc1 w _)
  obtain ⟨i0, hi, hz0, -, -⟩ := info_parts Tryd.info35
  rw [← hd] at h1
  unfold Oper.wp
  simp [execOp, ho]
  exact h1
/-- a token as a value -/
def tokOf (t : Tok) : Value := .agg (tokCells t).toArray
theorem wp_store_tok {o : Oper} {a : Act} {w : World} {K : Act → World → Prop} {Q : Exit → Act → World → Prop} (x y : Operand) (ho : o.op = .store 35 x y)
    (g : Nat) (t : Tok) (cs : List Value) (hl : cs.length = 4) (hx : a.eval x = .pointer (some ⟨g, 0, none⟩)) (hy : a.eval y = tokOf t) (hg : Row w g 35 cs) {B : Nat} {w0 : World} (hb : Below B w0 w) (hB : B ≤ g)
    (h : ∀ w', Row w' g 35 (tokCells t) → Below B w0 w' → K (a.put o.dst undef) w') : o.wp Tryd.prog a w K Q :=
  wp_store_row 35 x y ho g (tokCells t).toArray hx hy 35 cs.toArray hg (by rw [size35]; rfl) (by simp [hl, tokCells_len]) (tokArr_one t) (h _ (hg.setRow _) (below_setRow hb _ _ hB))
theorem run_load_tok {w : World} {g : Nat} {t : Tok} (hg : Row w g 35 (tokCells t)) : (loadVar 35 ⟨g, 0, none⟩).run Tryd.prog w = .ok (tokOf t) w :=
  run_loadVar_row (P := Tryd.prog) w g 35 35 (tokCells t).toArray (0, 0) _ hg Tryd.underlying35 rfl (by rw [size35]; rfl)
theorem wpList_load_tok {ops : Array Oper} {rest : List Oper} {o : Oper} {a : Act} {w : World} {Q : Exit → Act → World → Prop} (hgd : o.guard = none) (x : Operand) (ho : o.op = .load 35 x)
    (g : Nat) (t : Tok) (hx : a.eval x = .pointer (some ⟨g, 0, none⟩)) (hg : Row w g 35 (tokCells t))
    (h : wpList Tryd.prog ops Q rest (a.put o.dst (tokOf t)) w) : wpList Tryd.prog ops Q (o :: rest) a w :=
  wpList_load_row hgd 35 x ho g hx 35 (tokCells t).toArray (0, 0) _ hg Tryd.underlying35 rfl (by rw [size35]; rfl) h
theorem wrote_below {w w0 w1 : World} {v v' : Value} (hw : Wrote w w1 v v') (hb : Below w0.heap.size w0 w) (hv : ∀ k, v.ownBlock = some k → w0.heap.size ≤ k) :
    Below w0.heap.size w0 w1 ∧ ∀ k, v'.ownBlock = some k → w0.heap.size ≤ k := by
  refine ⟨hb.trans (hw.toBelow hb.size hv), fun k hk => ?_⟩
  rcases hw.own with h | h
  · exact hv k (h ▸ hk)
  · exact Nat.le_trans hb.size (h k hk)
theorem TNew.app {w0 w w1 : World} {v v' : Value} {ts us : List Tok} (h : TNew w0 w v ts) (hb : TBuf w1 v' us) (hw : Wrote w w1 v v') : TNew w0 w1 v' us :=
  ⟨hb, (wrote_below hw h.2.1 h.2.2).1, (wrote_below hw h.2.1 h.2.2).2⟩
theorem cut2 {A B : Type} {F : A → B → Prop} (G : A → B → Prop) {R : Prop} (rest : (∀ a b, F a b → G a b) → R) (kk : ∀ a b, F a b → G a b) : R := rest kk
end Go.Proofs.YtilpcchcccbfcaaDoor
