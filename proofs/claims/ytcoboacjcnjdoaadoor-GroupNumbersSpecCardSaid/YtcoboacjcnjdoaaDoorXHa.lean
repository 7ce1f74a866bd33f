/- DigestHalves: the law's walk. -/
import Derived.Test.YtcoboacjcnjdoaaDoorXDg
import Derived.Test.YtcoboacjcnjdoaaDoorXTa
import Derived.Deep.RegionLaw
import Derived.Deep.RegionHeld
import Derived.BigRegion
namespace Go.Proofs.YtcoboacjcnjdoaaDoor.Dig
open Go.RowKit

theorem row_far {w : World} {g g' T : Nat} {cs : List Value} (h : Row w g T cs) (cs' : Array Value) (hne : g ≠ g') : Row (w.setRow g' cs') g T cs := (setRow_other w g' g cs' (by omega)).trans h
theorem wp_alloc_dig {o : Oper} {a : Act} {w : World} {K : Act → World → Prop} {Q : Exit → Act → World → Prop} (t : Nat) (hd : o.dst = some t) (ho : o.op = .alloc 30)
    (h : ∀ g w', g = w.heap.size → Row w' g 30 zb → Below w.heap.size w w' → K (a.put (some t) (.pointer (some ⟨g, 0, none⟩))) w') : o.wp Tryd.prog a w K Q := by
  have h1 := h w.heap.size (w.alloc (.cells z32 30)) rfl (row_new w 30 zb) (Joins.below_alloc1 w _)
  obtain ⟨i0, hi, hz0, -, -⟩ := info_parts Tryd.info30
  rw [← hd] at h1
  unfold Oper.wp
  simp [execOp, ho, newObj, newVar, zeroValue, typeInfo, hi, hz0, Sem.run_bind]
  exact h1
theorem wp_store_dig' {o : Oper} {a : Act} {w : World} {K : Act → World → Prop} {Q : Exit → Act → World → Prop} (x y : Operand) (ho : o.op = .store 30 x y)
    (g : Nat) (d : List UInt8) (hd : d.length = 32) (hx : a.eval x = .pointer (some ⟨g, 0, none⟩)) (hy : a.eval y = dg d) (hg : Row w g 30 zb) {B : Nat} {w0 : World} (hb : Below B w0 w) (hB : B ≤ g)
    (h : ∀ w', Row w' g 30 (cellsOf d) → Below B w0 w' → (∀ g' T cs, g' ≠ g → Row w g' T cs → Row w' g' T cs) → K (a.put o.dst undef) w') : o.wp Tryd.prog a w K Q :=
  wp_store_dig x y ho g d hd hx hy hg (h _ (hg.setRow _) (below_setRow hb _ _ hB) fun g' T cs hne hr => row_far hr _ hne)

theorem wp_none' {o : Oper} {a : Act} {w w0 : World} {K : Act → World → Prop} {Q : Exit → Act → World → Prop} (ho : o.op = .buildSlice 22 0 #[]) (hb : Below w0.heap.size w0 w)
    (h : ∀ v' w', New w0 w' v' [] → K (a.put o.dst v') w') : o.wp Tryd.prog a w K Q := by
  obtain ⟨i0, hi, -, -, -⟩ := info_parts Tryd.info5
  exact wp_build_none 22 5 ho i0 Tryd.underlying22 hi (h _ _ ((new_none w).since hb))
theorem wp_buf' {w w0 : World} {o : Oper} {a : Act} {K : Act → World → Prop} {Q : Exit → Act → World → Prop} (hgd : o.guard = none) (s x : Operand)
    (ho : o.op = .call { callee := .builtin .append, args := #[s, x], argTypes := #[22, 22] })
    (v : Value) (xs : List UInt8) (hs : a.eval s = v) (hn : New w0 w v xs) (sv : Value) (B : Nat) (ys : List UInt8) (hx : a.eval x = sv) (hr : Rest B w ys sv) (hlen : xs.length + ys.length ≤ 70368744177664)
    (h : ∀ v' w', New w0 w' v' (xs ++ ys) → K (a.put o.dst v') w') : o.wp Tryd.prog a w K Q :=
  wp_buf hgd s x ho v xs hs hn.1 sv B ys hx hr hlen fun v' w' hb hw => h v' w' (hn.app hb hw)
end Go.Proofs.YtcoboacjcnjdoaaDoor.Dig
