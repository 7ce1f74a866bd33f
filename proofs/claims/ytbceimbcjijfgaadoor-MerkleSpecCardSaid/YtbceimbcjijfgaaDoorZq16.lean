/- What a path leads to: the program's functions. -/
import Derived.Deep.RegionLaw
import Derived.Deep.RegionHeld
import Derived.BigRegion
import Derived.Deep.RegionHeld3
import Derived.Deep.MidRow
import Derived.Test.YtbceimbcjijfgaaDoorZq15
namespace Go.Proofs.YtbceimbcjijfgaaDoor.Dig
open Go.RowKit

theorem row_cells {w : World} {g T : Nat} {d : List UInt8} (h : Row w g T (cellsOf d)) (hd : d.length = 32) : ∀ j, j < 32 → w.cell? ⟨g, 0 + j, none⟩ = some (.int .u8 ((d.getD j 0).toNat : Int)) := fun j hj => by
  rw [Nat.zero_add, h.cell (cellsOf_get (show j < d.length by omega))]
  simp [show j < d.length by omega]

theorem range_row {w : World} {g T : Nat} {cs : List Value} (h : Row w g T cs) : w.rangeAt g 0 cs := fun j v hv => by rw [Nat.zero_add]; exact h.cell hv
theorem wp_store_dig {o : Oper} {a : Act} {w : World} {K : Act → World → Prop} {Q : Exit → Act → World → Prop} (x y : Operand) (ho : o.op = .store 30 x y)
    (g : Nat) (d : List UInt8) (hd : d.length = 32) (hx : a.eval x = .pointer (some ⟨g, 0, none⟩)) (hy : a.eval y = dg d) (hg : Row w g 30 zb)
    (h : K (a.put o.dst undef) (w.setRow g (cellsOf d).toArray)) : o.wp Tryd.prog a w K Q :=
  wp_store_row 30 x y ho g (cellsOf d).toArray hx hy 30 zb.toArray hg (size32' hd) (by rw [size32 hd]; rfl) (cellsOf_one _) h

end Go.Proofs.YtbceimbcjijfgaaDoor.Dig

/- A slice made of one digest; a digest appended: one law for each of a walk's steps. -/
namespace Go.Proofs.YtbceimbcjijfgaaDoor.Dig
open Go.RowKit

theorem fold_get : ∀ (cs : List Value) (i : Nat) (z : Array Value) (j : Nat), i + cs.length ≤ z.size →
    ((cs.zipIdx i).foldl (fun acc (p : Value × Nat) => acc.setIfInBounds (p.2) p.1) z)[j]? = if i ≤ j ∧ j < i + cs.length then cs[j - i]? else z[j]?
  | [], i, z, j, _ => by simp; omega
  | c :: cs, i, z, j, h => by
    rw [List.length_cons] at h
    rw [List.zipIdx_cons, List.foldl_cons, fold_get cs (i + 1) _ j (by simp; omega)]
    simp only [List.length_cons]
    by_cases h1 : j = i
    · subst h1
      rw [if_neg (by omega), if_pos (by omega), Nat.sub_self]
      simp [show j < z.size by omega]
    · by_cases h2 : i + 1 ≤ j ∧ j < i + 1 + cs.length
      · rw [if_pos h2, if_pos (by omega), show j - i = (j - (i + 1)) + 1 by omega, List.getElem?_cons_succ]
      · rw [if_neg h2, if_neg (by omega), Array.getElem?_setIfInBounds_ne (by omega)]
theorem fold_all (cs : List Value) (z : Array Value) (h : z.size = cs.length) : ((cs.zipIdx).foldl (fun acc (p : Value × Nat) => acc.setIfInBounds (p.2) p.1) z) = cs.toArray := by
  apply Array.ext_getElem?
  intro j
  rw [fold_get cs 0 z j (by omega)]
  by_cases hj : j < cs.length
  · rw [if_pos (by omega)]; simp
  · rw [if_neg (by omega), Array.getElem?_eq_none (by omega), Array.getElem?_eq_none (by simp; omega)]

theorem run_build_one (d : List UInt8) (hd : d.length = 32) (w : World) :
    (Instr.buildSlice 25 1 #[(0, dg d)]).run Tryd.prog w = .ok (.slice (some ⟨w.heap.size, 0, none⟩) 1 1) (w.alloc (.cells (cellsOf d).toArray 30)) := by
  obtain ⟨i0, hi, hz0, hz1, hz2⟩ := info_parts Tryd.info30
  have hf : ∀ z : Array Value, z.size = 32 → (cellsOf d).zipIdx.foldl (fun acc (p : Value × Nat) => acc.setIfInBounds p.2 p.1) z = (cellsOf d).toArray := fun z hz => fold_all (cellsOf d) z (by rw [hz, cellsOf_len, hd])
  have hl : (cellsOf d).length = 32 := by rw [cellsOf_len, hd]
  unfold Instr.buildSlice
  simp [Sem.run_bind, run_underlying Tryd.underlying25 w, sizeOf, typeInfo, hi, hz0, hz1, zeroValue, dg, Instr.fill, Value.cells, hl, newRow, newObj]
  rw [hf _ (by simp)]
  rfl
theorem wp_build_one {o : Oper} {a : Act} {w : World} {K : Act → World → Prop} {Q : Exit → Act → World → Prop} (x : Operand) (ho : o.op = .buildSlice 25 1 #[(0, x)])
    (d : List UInt8) (hd : d.length = 32) (hx : a.eval x = dg d)
    (h : K (a.put o.dst (.slice (some ⟨w.heap.size, 0, none⟩) 1 1)) (w.alloc (.cells (cellsOf d).toArray 30))) : o.wp Tryd.prog a w K Q := by
  unfold Oper.wp execOp
  simp [ho, hx, run_build_one d hd w, Sem.run_bind]
  exact h
theorem wp_append_dig {o : Oper} {a : Act} {w : World} {K : Act → World → Prop} {Q : Exit → Act → World → Prop} (hgd : o.guard = none) (s x : Operand) (ho : o.op = .call { callee := .builtin .append, args := #[s, x], argTypes := #[25, 25] })
    (v : Value) (xs : List (List UInt8)) (hs : a.eval s = v) (hb : DBuf w v xs) (g : Nat) (d : List UInt8) (hd : d.length = 32) (hx : a.eval x = .slice (some ⟨g, 0, none⟩) 1 1) (hr : Row w g 30 (cellsOf d)) (hlen : xs.length ≤ 1099511627776)
    (h : ∀ v' w', DBuf w' v' (xs ++ [d]) → Wrote w w' v v' → K (a.put o.dst v') w') : o.wp Tryd.prog a w K Q := by
  have hw : Region.wanted o (yielded #[] a.tmps) = true := by simp [Region.wanted, hgd]
  have := step_append_dig (ops := #[]) (E := True) (Q := Q) hgd s x ho v xs hs hb g d hd hx hr hlen h
  rwa [if_pos hw] at this
end Go.Proofs.YtbceimbcjijfgaaDoor.Dig
