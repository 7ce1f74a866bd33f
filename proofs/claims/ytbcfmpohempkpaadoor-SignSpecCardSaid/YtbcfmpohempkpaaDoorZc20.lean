/- What a path leads to: the program's functions. -/
import Derived.Deep.RegionLaw
import Derived.Deep.RegionHeld
import Derived.BigRegion
import Derived.Deep.RegionHeld3
import Derived.Deep.MidRow
import Derived.Test.YtbcfmpohempkpaaDoorZc19
namespace Go.Proofs.YtbcfmpohempkpaaDoor.Dig
open Go.RowKit

theorem row_cells {w : World} {g T : Nat} {d : List UInt8} (h : Row w g T (cellsOf d)) (hd : d.length = 32) : ∀ j, j < 32 → w.cell? ⟨g, 0 + j, none⟩ = some (.int .u8 ((d.getD j 0).toNat : Int)) := fun j hj => by
  rw [Nat.zero_add, h.cell (cellsOf_get (show j < d.length by omega))]
  simp [show j < d.length by omega]

theorem range_row {w : World} {g T : Nat} {cs : List Value} (h : Row w g T cs) : w.rangeAt g 0 cs := fun j v hv => by rw [Nat.zero_add]; exact h.cell hv
theorem wp_store_dig {o : Oper} {a : Act} {w : World} {K : Act → World → Prop} {Q : Exit → Act → World → Prop} (x y : Operand) (ho : o.op = .store 59 x y)
    (g : Nat) (d : List UInt8) (hd : d.length = 32) (hx : a.eval x = .pointer (some ⟨g, 0, none⟩)) (hy : a.eval y = dg d) (hg : Row w g 59 zb)
    (h : K (a.put o.dst undef) (w.setRow g (cellsOf d).toArray)) : o.wp Tryd.prog a w K Q :=
  wp_store_row 59 x y ho g (cellsOf d).toArray hx hy 59 zb.toArray hg (size32' hd) (by rw [size32 hd]; rfl) (cellsOf_one _) h

end Go.Proofs.YtbcfmpohempkpaaDoor.Dig
