/- settle, as its callers see it. -/
import Derived.Test.YthkmbbgcadfilaaOb
namespace Go.Proofs.Ythkmbbgcadfilaa
open Go.RowKit Go.Shelf

/-- settle found a deal -/
structure Sdl (n m : Nat) (C : List (List Int)) (vc : Value) (w w' : World) (g gu gv gt gr : Nat) (U V TO RW : List Int) : Prop where
  mem : DMem g gu gv gt gr n m vc U V TO RW w'
  ge : w.heap.size ≤ g ∧ w.heap.size ≤ gu ∧ w.heap.size ≤ gv ∧ w.heap.size ≤ gt ∧ w.heap.size ≤ gr
  dis : Dis g gu gv gt gr w'.heap.size
  deal : Deal n m (cst C) (gI U 0) (gI V 0) (gI TO (-1)) (gI RW (-1)) n
def SetQ (n m : Nat) (C : List (List Int)) (vc : Value) (w : World) (e : Ending) (w' : World) : Prop :=
  Below w.heap.size w w' ∧ ∃ q ok, e = .returned (.tuple #[.pointer q, .bool ok]) ∧ ((ok = true ∧ ∃ g gu gv gt gr U V TO RW, q = some ⟨g, 0, none⟩ ∧ Sdl n m C vc w w' g gu gv gt gr U V TO RW) ∨ (ok = false ∧ ∃ R S, Crowd n m (cst C) R S))
theorem settle_law {n m : Nat} (C : List (List Int)) (vc : Value) (w : World) (hM : Mat C n m) (hm : colsN C = m) (hC : NRest w.heap.size w C vc) : Calls Try.prog 31 #[vc] w (SetQ n m C vc w) := by
  refine (settle_call C vc w hM hm hC).mono ?_
  rintro e w' ⟨hb, ⟨g, gu, gv, gt, gr, U, V, TO, RW, rfl, h1, h2, h3, h4⟩ | ⟨rfl, h⟩⟩
  · exact ⟨hb, _, _, rfl, .inl ⟨rfl, g, gu, gv, gt, gr, U, V, TO, RW, rfl, h1, h2, h3, h4⟩⟩
  · exact ⟨hb, _, _, rfl, .inr ⟨rfl, h⟩⟩
theorem Sdl.least {n m : Nat} {C : List (List Int)} {vc : Value} {w w' : World} {g gu gv gt gr : Nat} {U V TO RW : List Int} (h : Sdl n m C vc w w' g gu gv gt gr U V TO RW) : Least n m (cst C) (bnd n m (gI U 0) (gI V 0)) := h.deal.all.least
theorem DMem.on {g gu gv gt gr n m : Nat} {vc : Value} {U V TO RW : List Int} {W W' : World} (h : DMem g gu gv gt gr n m vc U V TO RW W) (hb : Below W.heap.size W W') : DMem g gu gv gt gr n m vc U V TO RW W' :=
  ⟨h.rg.keep hb, h.ru.keep hb, h.rv.keep hb, h.rt.keep hb, h.rr.keep hb, h.lu, h.lv, h.lt, h.lr⟩
theorem DMem.off {gl g gu gv gt gr n m : Nat} {vc : Value} {U V TO RW : List Int} {W W' : World} (h : DMem g gu gv gt gr n m vc U V TO RW W) (hk : Kp2 (fun b => b ≠ gl) W W') (hne : gl ≠ g ∧ gl ≠ gu ∧ gl ≠ gv ∧ gl ≠ gt ∧ gl ≠ gr) : DMem g gu gv gt gr n m vc U V TO RW W' :=
  ⟨row_kp h.rg hk (by omega), row_kp h.ru hk (by omega), row_kp h.rv hk (by omega), row_kp h.rt hk (by omega), row_kp h.rr hk (by omega), h.lu, h.lv, h.lt, h.lr⟩
theorem bound_law {g gu gv gt gr n m : Nat} {vc : Value} {U V TO RW : List Int} {c : Nat → Nat → Int} {tof row : Nat → Int} (w : World) (hd : DMem g gu gv gt gr n m vc U V TO RW w) (hD : Deal n m c (gI U 0) (gI V 0) tof row n) :
    Calls Try.prog 33 #[.pointer (some ⟨g, 0, none⟩)] w fun e w' => e = .returned (.int .i64 (bnd n m (gI U 0) (gI V 0))) ∧ Below w.heap.size w w' := by
  rw [← (deal_bound hd hD).1]
  exact bound_call w hD.n16 hD.m16 hd
theorem TkM.drew {gl cap n m i j : Nat} {C : List (List Int)} {w w' : World} (h : TkM gl cap n m i j C w w') : TkM gl cap n m i j C w w'.drew := ⟨h.mem.keep (Below.refl _ _).drew, h.kp.trans (Kp2.below (Below.refl _ _).drew), h.fresh⟩
theorem TkM.keep {gl cap n m i j : Nat} {C : List (List Int)} {w w' w8 : World} (h : TkM gl cap n m i j C w w') (hb : Below w'.heap.size w' w8) : TkM gl cap n m i j C w w8 := ⟨h.mem.keep hb, h.kp.trans (Kp2.below hb), fun i hi => by rw [cell_same (hb.block gl h.mem.parts.2.2)]; exact h.fresh i hi⟩
end Go.Proofs.Ythkmbbgcadfilaa
