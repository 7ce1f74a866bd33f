/- Steps of a walk that make and append lists of digests; each names what it leaves. -/
import Derived.Test.YtcoboacjcnjdoaaDoorXHa
import Derived.Deep.MidRow
import Derived.Deep.RegionHeld3
namespace Go.Proofs.YtcoboacjcnjdoaaDoor.Dig
open Go.RowKit

theorem wpList_alloc_dig {ops : Array Oper} {rest : List Oper} {o : Oper} {a : Act} {w : World} {Q : Exit → Act → World → Prop} (hgd : o.guard = none) (t : Nat) (hd : o.dst = some t) (ho : o.op = .alloc 30)
    (h : ∀ g w', g = w.heap.size → Row w' g 30 zb → Below w.heap.size w w' → wpList Tryd.prog ops Q rest (a.put (some t) (.pointer (some ⟨g, 0, none⟩))) w') : wpList Tryd.prog ops Q (o :: rest) a w :=
  wpList_plain hgd fun _ hK => wp_alloc_dig t hd ho fun g w' h1 h2 h3 => hd ▸ hK _ _ (hd ▸ h g w' h1 h2 h3)
theorem wpList_store_dig {ops : Array Oper} {rest : List Oper} {o : Oper} {a : Act} {w : World} {Q : Exit → Act → World → Prop} (hgd : o.guard = none) (x y : Operand) (ho : o.op = .store 30 x y)
    (g : Nat) (d : List UInt8) (hd : d.length = 32) (hx : a.eval x = .pointer (some ⟨g, 0, none⟩)) (hy : a.eval y = dg d) (hg : Row w g 30 zb) {B : Nat} {w0 : World} (hb : Below B w0 w) (hB : B ≤ g)
    (h : ∀ w', Row w' g 30 (cellsOf d) → Below B w0 w' → (∀ g' T cs, g' ≠ g → Row w g' T cs → Row w' g' T cs) → wpList Tryd.prog ops Q rest (a.put o.dst undef) w') : wpList Tryd.prog ops Q (o :: rest) a w :=
  wpList_plain hgd fun _ hK => wp_store_dig' x y ho g d hd hx hy hg hb hB fun w' h1 h2 h3 => hK _ _ (h w' h1 h2 h3)
theorem wpList_row_dig {ops : Array Oper} {rest : List Oper} {o : Oper} {a : Act} {w : World} {Q : Exit → Act → World → Prop} (hgd : o.guard = none) (x : Operand) (ho : o.op = .load 30 x)
    (g : Nat) (d : List UInt8) (hd : d.length = 32) (hx : a.eval x = .pointer (some ⟨g, 0, none⟩)) (hg : Row w g 30 (cellsOf d))
    (h : wpList Tryd.prog ops Q rest (a.put o.dst (dg d)) w) : wpList Tryd.prog ops Q (o :: rest) a w :=
  wpList_load_row hgd 30 x ho g hx 30 (cellsOf d).toArray (0, 0) _ hg Tryd.underlying30 rfl (size32' hd) h
end Go.Proofs.YtcoboacjcnjdoaaDoor.Dig
