/- Flow is pushed from a vertex: what holds between the rounds. -/
import Derived.Test.YtbmbddapbgnioaaP
namespace Go.Proofs.Ytbmbddapbgnioaa
open Go.RowKit Go.Shelf

/-- the boxes of a call, and the memory of the flow -/
structure RB (c : Ctx) (w : World) (o bx : Nat) (v : Nat) (most q : Int) (e : St) (lf : Nat → Nat → Int) (L F : List Int) (W : World) : Prop where
  pm : PMl c W lf L F
  r0 : Row W o 3 [.int .i64 (v : Int)]
  r1 : Row W (o + 1) 3 [.int .i64 most]
  r2 : Row W (o + 1 + 1) 3 [.int .i64 q]
  rx : Row W bx 72 [.int .i64 (e.1 : Int), .int .i64 (e.2.1 : Int), .int .i64 (e.2.2 : Int)]
  kg : KG c w W
  bo : c.Bp < o ∧ o + 6 ≤ bx ∧ w.heap.size = o
section
variable {c : Ctx} {w : World} {o bx v : Nat} {most q : Int} {e : St} {lf : Nat → Nat → Int} {L F : List Int} {W W' : World}
theorem RB.keep (hc : c.Ok) (h : RB c w o bx v most q e lf L F W) (hb : Below W.heap.size W W') : RB c w o bx v most q e lf L F W' :=
  ⟨h.pm.keep hc hb, h.r0.keep hb, h.r1.keep hb, h.r2.keep hb, h.rx.keep hb, h.kg.trans (KG.below hb), h.bo⟩
theorem RB.store (hc : c.Ok) (h : RB c w o bx v most q e lf L F W) {lf' : Nat → Nat → Int} {L' F' : List Int} (b i : Nat) (x : Value) (hb : b = c.g ∨ b = c.f ∨ b = c.l) (hp : PMl c (W.setCell ⟨b, i, none⟩ x) lf' L' F') : RB c w o bx v most q e lf' L' F' (W.setCell ⟨b, i, none⟩ x) := by
  have h1 := hc.gK; have h2 := hc.Kl; have h3 := hc.lBr; have h4 := hc.BrBl; have h5 := hc.Blf; have h6 := hc.fBf; have h7 := hc.BfBp; have h8 := h.bo
  exact ⟨hp, h.r0.setFar _ _ (by omega), h.r1.setFar _ _ (by omega), h.r2.setFar _ _ (by omega), h.rx.setFar _ _ (by omega), h.kg.trans (KG.set _ _ _ _ hb), h.bo⟩
theorem RB.put (hc : c.Ok) (h : RB c w o bx v most q e lf L F W) (q' : Int) : RB c w o bx v most q' e lf L F (W.setCell ⟨o + 1 + 1, 0, none⟩ (.int .i64 q')) := by
  have h8 := h.bo
  exact ⟨h.pm.same hc (fun b hb => heap_setCell_other W ⟨o + 1 + 1, 0, none⟩ b _ (by simp; omega)), h.r0.setFar _ _ (by omega), h.r1.setFar _ _ (by omega), h.r2.set 0 _ rfl, h.rx.setFar _ _ (by omega), KG.own h.kg _ _ _ (by omega), h.bo⟩
theorem RB.called (hc : c.Ok) (h : RB c w o bx v most q e lf L F W) {lf' : Nat → Nat → Int} {L' F' : List Int} (hp : PMl c W' lf' L' F') (hk : KG c W W') : RB c w o bx v most q e lf' L' F' W' := by
  have h1 := hc.gK; have h2 := hc.Kl; have h3 := hc.lBr; have h4 := hc.BrBl; have h5 := hc.Blf; have h6 := hc.fBf; have h7 := hc.BfBp; have h8 := h.bo
  exact ⟨hp, hk.row h.r0 (by omega), hk.row h.r1 (by omega), hk.row h.r2 (by omega), hk.row h.rx (by omega), h.kg.trans hk, h.bo⟩
end
/-- between two rounds -/
def RI (c : Ctx) (w : World) (o v : Nat) (most : Int) (X L F : List Int) (i : Nat) (W : World) : Prop :=
  ∃ q X1 L1 F1, PM c W X1 L1 F1 ∧ PL c.N c.t c.A X L F v most i q X1 L1 F1 ∧ (Row W o 3 [.int .i64 (v : Int)] ∧ Row W (o + 1) 3 [.int .i64 most] ∧ Row W (o + 1 + 1) 3 [.int .i64 q]) ∧ KG c w W ∧ o + 6 ≤ W.heap.size
/-- in a round -/
def RO (c : Ctx) (w : World) (o v : Nat) (most : Int) (X L F : List Int) (bx i : Nat) (W : World) : Prop :=
  ∃ q X1 L1 F1, RB c w o bx v most q ((stA c.A v).getD i (0, 0, 0)) (lft c.A X1) L1 F1 W ∧ PL c.N c.t c.A X L F v most i q X1 L1 F1 ∧ 0 < lft c.A X1 ((stA c.A v).getD i (0, 0, 0)).1 ((stA c.A v).getD i (0, 0, 0)).2.1
/-- all that could be pushed was pushed -/
def RX (c : Ctx) (w : World) (o v : Nat) (most : Int) (X L F : List Int) (W : World) : Prop :=
  ∃ X1 L1 F1, PM c W X1 L1 F1 ∧ PP c.N c.t c.A X L F v most most X1 L1 F1 ∧ Row W (o + 1 + 1) 3 [.int .i64 most] ∧ KG c w W
section
variable {c : Ctx} {w : World} {o v bx i : Nat} {most : Int} {X L F : List Int} {W W' : World} {row : Option Nat}
theorem grown_same {C : Nat} (hg : W.grownBy W' row) (hr : ∀ r, row = some r → C ≤ r ∧ ∃ o : Obj, W.heap[r]? = some o ∧ o.isCells = false) : ∀ b, b < C → b < W.heap.size → W'.heap[b]? = W.heap[b]? := fun b hb hl => hg.block b hl fun e => by have := (hr b e.symm).1; omega
theorem KG.grown {C : Nat} (h : KG c w W) (hC : w.heap.size ≤ C) (hg : W.grownBy W' row) (hr : ∀ r, row = some r → C ≤ r ∧ ∃ o : Obj, W.heap[r]? = some o ∧ o.isCells = false) : KG c w W' :=
  ⟨Nat.le_trans h.1 hg.size, fun b hb hl => (grown_same hg hr b (by omega) (by have := h.1; omega)).trans (h.2 b hb hl), hg.os.trans h.os, hg.tape.trans h.tape, hg.output.trans h.output⟩
theorem PMl.grown {lf : Nat → Nat → Int} {L1 F1 : List Int} {C : Nat} (hc : c.Ok) (h : PMl c W lf L1 F1) (hC : c.Bp < C) (hg : W.grownBy W' row) (hr : ∀ r, row = some r → C ≤ r ∧ ∃ o : Obj, W.heap[r]? = some o ∧ o.isCells = false) : PMl c W' lf L1 F1 :=
  h.same hc fun b hb => grown_same hg hr b (by omega) (by have := h.lt; omega)
theorem RI.grown (hc : c.Ok) (ho : c.Bp < o ∧ w.heap.size = o) (h : RI c w o v most X L F i W) (hg : W.grownBy W' row) (hr : ∀ r, row = some r → o + 6 ≤ r ∧ ∃ o : Obj, W.heap[r]? = some o ∧ o.isCells = false) : RI c w o v most X L F i W' := by
  obtain ⟨q, X1, L1, F1, h1, h2, ⟨h3, h4, h5⟩, h6, h7⟩ := h
  have hs := hg.size
  exact ⟨q, X1, L1, F1, h1.grown hc (by omega) hg hr, h2, ⟨row_same h3 (grown_same hg hr _ (by omega) h3.lt), row_same h4 (grown_same hg hr _ (by omega) h4.lt), row_same h5 (grown_same hg hr _ (by omega) h5.lt)⟩, h6.grown (by omega) hg hr, by omega⟩
theorem RX.grown (hc : c.Ok) (ho : c.Bp < o ∧ w.heap.size = o) (h : RX c w o v most X L F W) (hg : W.grownBy W' row) (hr : ∀ r, row = some r → o + 6 ≤ r ∧ ∃ o : Obj, W.heap[r]? = some o ∧ o.isCells = false) : RX c w o v most X L F W' := by
  obtain ⟨X1, L1, F1, h1, h2, h5, h6⟩ := h
  exact ⟨X1, L1, F1, h1.grown hc (by omega) hg hr, h2, row_same h5 (grown_same hg hr _ (by omega) h5.lt), h6.grown (by omega) hg hr⟩
theorem RO.grown (hc : c.Ok) (h : RO c w o v most X L F bx i W) (hg : W.grownBy W' row) (hr : ∀ r, row = some r → o + 6 ≤ r ∧ ∃ o : Obj, W.heap[r]? = some o ∧ o.isCells = false) : RO c w o v most X L F bx i W' := by
  obtain ⟨q, X1, L1, F1, h1, h2, h3⟩ := h
  have hs := hg.size
  have hbo := h1.bo
  exact ⟨q, X1, L1, F1, ⟨h1.pm.grown hc (C := o + 6) (by omega) hg hr, row_same h1.r0 (grown_same hg hr _ (by omega) h1.r0.lt), row_same h1.r1 (grown_same hg hr _ (by omega) h1.r1.lt), row_same h1.r2 (grown_same hg hr _ (by omega) h1.r2.lt), row_kept h1.rx hg (fun r e => (hr r e).2), h1.kg.grown (C := o + 6) (by omega) hg hr, h1.bo⟩, h2, h3⟩
/-- a round begins: the step in a box of its own -/
theorem RI.enter (hc : c.Ok) (hv : v < c.N) (ho : c.Bp < o ∧ w.heap.size = o) (h : RI c w o v most X L F i W) (hi : i < (stA c.A v).length) (hop : OpS c.g (stA c.A v) i W) :
    RO c w o v most X L F W.heap.size i (W.alloc (.cells #[.int .i64 (((stA c.A v).getD i (0, 0, 0)).1 : Int), .int .i64 (((stA c.A v).getD i (0, 0, 0)).2.1 : Int), .int .i64 (((stA c.A v).getD i (0, 0, 0)).2.2 : Int)] 72)) := by
  obtain ⟨q, X1, L1, F1, h1, h2, ⟨h3, h4, h5⟩, h6, h7⟩ := h
  have hb := Joins.below_alloc1 W (.cells #[.int .i64 (((stA c.A v).getD i (0, 0, 0)).1 : Int), .int .i64 (((stA c.A v).getD i (0, 0, 0)).2.1 : Int), .int .i64 (((stA c.A v).getD i (0, 0, 0)).2.2 : Int)] 72)
  have hmem : (stA c.A v).getD i (0, 0, 0) ∈ stA c.A v := by
    rw [List.getD_eq_getElem?_getD, List.getElem?_eq_getElem hi]; exact List.getElem_mem hi
  have hs := st_ok hc.inn hmem
  refine ⟨q, X1, L1, F1, ⟨h1.keep hc hb, h3.keep hb, h4.keep hb, h5.keep hb, row_new W 72 _, h6.trans (KG.below hb), by omega⟩, h2, ?_⟩
  obtain ⟨x, hx, hx0⟩ := hop
  have := h1.gm.lf ((stA c.A v).getD i (0, 0, 0)).1 ((stA c.A v).getD i (0, 0, 0)).2.1 (by have := hs.arc; have := hc.few; omega) (by have := hs.way; omega)
  rw [this] at hx
  injection hx with hx
  injection hx with _ hx
  omega
theorem RI.skip (hc : c.Ok) (h : RI c w o v most X L F i W) (hi : i < (stA c.A v).length) (hop : ¬ OpS c.g (stA c.A v) i W) : RI c w o v most X L F (i + 1) W := by
  obtain ⟨q, X1, L1, F1, h1, h2, h3, h6, h7⟩ := h
  have he : (stA c.A v)[i]? = some ((stA c.A v).getD i (0, 0, 0)) := by rw [List.getD_eq_getElem?_getD, List.getElem?_eq_getElem hi]; rfl
  have hs := st_ok hc.inn (List.mem_of_getElem? he)
  refine ⟨q, X1, L1, F1, h1, h2.skip he ?_, h3, h6, h7⟩
  rcases Int.lt_or_le 0 (lft c.A X1 ((stA c.A v).getD i (0, 0, 0)).1 ((stA c.A v).getD i (0, 0, 0)).2.1) with h0 | h0
  · exact absurd ⟨_, h1.gm.lf _ _ (by have := hs.arc; have := hc.few; omega) (by have := hs.way; omega), h0⟩ hop
  · exact h0
end
end Go.Proofs.Ytbmbddapbgnioaa
