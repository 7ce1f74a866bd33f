/- Levels found row by row: what lies in memory. -/
import Derived.Test.YtbmbddapbgnioaaV0
namespace Go.Proofs.Ytbmbddapbgnioaa
open Go.RowKit Go.Shelf

structure Gv where
  g : Nat
  K : Nat
  N : Nat
  s : Nat
  t : Nat
  A : List Ar
  va : Value
  sb : Nat → Option Addr
  sc : Nat → Nat
  X : List Int
structure VM (v : Gv) (w : World) (L : List Int) (ds : List Deferred) (W : World) : Prop where
  net : Net W v.g v.K v.N v.s v.t v.A v.va v.sb v.sc v.X
  br : Row W w.heap.size 56 [.pointer (some ⟨v.g, 0, none⟩)]
  rl : Row W (w.heap.size + 1) 3 (nums L)
  bl : Row W (w.heap.size + 1 + 1) 25 [.slice (some ⟨w.heap.size + 1, 0, none⟩) v.N v.N]
  bw : Below w.heap.size w W
  mks : Marks (w.heap.size + 3) ds W
  kw : v.K ≤ w.heap.size
section
variable {v : Gv} {w : World} {L : List Int} {ds : List Deferred} {W W' : World}
/-- all blocks up to the level's box stay, and the marks -/
structure Stay (C : Nat) (W W' : World) : Prop where
  os : W'.os = W.os
  tape : W'.tape = W.tape
  output : W'.output = W.output
  size : W.heap.size ≤ W'.heap.size
  low : ∀ b, b < C → b < W.heap.size → W'.heap[b]? = W.heap[b]?
  mark : ∀ (D : Nat) (o : Obj), W.heap[D]? = some o → o.isCells = false → W'.heap[D]? = some o
theorem Stay.refl (C : Nat) (W : World) : Stay C W W := ⟨rfl, rfl, rfl, Nat.le_refl _, fun _ _ _ => rfl, fun _ _ h _ => h⟩
theorem Stay.trans {C : Nat} {a b c : World} (h : Stay C a b) (k : Stay C b c) : Stay C a c :=
  ⟨k.os.trans h.os, k.tape.trans h.tape, k.output.trans h.output, Nat.le_trans h.size k.size, fun i hi hl => (k.low i hi (by have := h.size; omega)).trans (h.low i hi hl), fun D o hD ho => k.mark D o (h.mark D o hD ho) ho⟩
theorem Stay.below {C : Nat} {a b : World} (h : Below a.heap.size a b) : Stay C a b :=
  ⟨h.os, h.tape, h.output, h.size, fun i _ hl => h.block i hl, fun D _ hD _ => (h.block D (Array.getElem?_eq_some_iff.1 hD).1).trans hD⟩
theorem Stay.set {C : Nat} {T : Nat} {cs : List Value} (W : World) (b i : Nat) (x : Value) (hb : C ≤ b) (hr : Row W b T cs) : Stay C W (W.setCell ⟨b, i, none⟩ x) :=
  ⟨rfl, by simp, by simp [World.setCell], by simp, fun k hk _ => heap_setCell_other W ⟨b, i, none⟩ k x (by simp; omega), fun D o hD ho => by
    have hne : D ≠ b := fun e => by
      subst e; rw [show W.heap[D]? = _ from hr] at hD; cases hD; cases ho
    exact (heap_setCell_other W ⟨b, i, none⟩ D x hne).trans hD⟩
theorem Stay.mono {C C' : Nat} (h : Stay C W W') (hc : C' ≤ C) : Stay C' W W' := { h with low := fun b hb hl => h.low b (by omega) hl }
theorem Stay.wrote {C : Nat} {u u' : Value} {zs : List Int} (h : Wrote W W' u u') (hi : IBuf W u zs) (hC : ∀ k, u.ownBlock = some k → C ≤ k) : Stay C W W' :=
  ⟨h.grown.os, h.grown.tape, h.grown.output, h.grown.size, fun b hb hl => h.grown.block b hl (fun e => by have := hC b e.symm; omega), fun D o hD ho => by
    refine (h.grown.block D (Array.getElem?_eq_some_iff.1 hD).1 (fun e => ?_)).trans hD
    rcases hi.2 with ⟨h1, _⟩ | ⟨g, cap, cur, h1, _, h3, _⟩
    · rw [h1] at e; simp [Value.ownBlock] at e
    · rw [h1] at e
      simp [Value.ownBlock] at e
      subst e
      rw [h3] at hD; cases hD; cases ho⟩
theorem Marks.stay {C C' : Nat} (h : Marks C ds W) (hs : Stay C' W W') : Marks C ds W' := h.same fun D _ hD => hs.mark D _ hD rfl
theorem VM.stay (h : VM v w L ds W) (hs : Stay (w.heap.size + 3) W W') : VM v w L ds W' := by
  have h1 := h.net.gm.lt
  have h2 := h.net.gK
  have h3 := h.kw
  have h4 := h.bw.size
  have h5 := h.bl.lt
  refine ⟨{ h.net with gm := h.net.gm.same (hs.low _ (by omega) h1), sm := h.net.sm.keep (fun b hk _ => hs.low b (by omega) (by omega)), Kw := Nat.le_trans h.net.Kw hs.size }, row_same h.br (hs.low _ (by omega) h.br.lt), row_same h.rl (hs.low _ (by omega) h.rl.lt), row_same h.bl (hs.low _ (by omega) h.bl.lt), ⟨hs.os.trans h.bw.os, hs.tape.trans h.bw.tape, hs.output.trans h.bw.output, Nat.le_trans h4 hs.size, fun b hb => (hs.low b (by omega) (by omega)).trans (h.bw.block b hb)⟩, h.mks.stay hs, h.kw⟩
theorem VM.keep (h : VM v w L ds W) (hb : Below W.heap.size W W') : VM v w L ds W' := h.stay (Stay.below hb)
/-- a level is stored -/
theorem VM.level (h : VM v w L ds W) (u : Nat) (x : Int) : VM v w (L.set u x) ds (W.setCell ⟨w.heap.size + 1, u, none⟩ (.int .i64 x)) := by
  have h1 := h.net.gm.lt
  have h2 := h.net.gK
  have h3 := h.kw
  have ho : ∀ b, b ≠ w.heap.size + 1 → (W.setCell ⟨w.heap.size + 1, u, none⟩ (.int .i64 x)).heap[b]? = W.heap[b]? := fun b hb => heap_setCell_other W ⟨_, u, none⟩ b _ hb
  refine ⟨{ h.net with gm := h.net.gm.same (ho _ (by omega)), sm := h.net.sm.keep (fun b hk _ => ho b (by omega)), Kw := by have := h.net.Kw; simpa using this }, row_same h.br (ho _ (by omega)), nrow_set h.rl u x, row_same h.bl (ho _ (by omega)), below_setCell h.bw _ _ _ (by omega), h.mks.same fun D hD hDW => ?_, h.kw⟩
  exact (ho D (by omega)).trans hDW
theorem stay_level (h : VM v w L ds W) (C u : Nat) (x : Int) (hC : C ≤ w.heap.size + 1) : Stay C W (W.setCell ⟨w.heap.size + 1, u, none⟩ (.int .i64 x)) := Stay.set W _ _ _ hC h.rl
/-- the row that is looked at -/
structure RwS (w : World) (nb : Nat) (row : List Nat) (vr : Value) (W : World) : Prop where
  shape : ∃ a c, vr = .slice a row.length c
  len : row.length ≤ 64
  at_ : ∀ j, j < row.length → ∃ b off c, vr = .slice (some ⟨b, off, none⟩) row.length c ∧ w.heap.size + 3 ≤ b ∧ b < nb ∧ W.cell? ⟨b, off + j, none⟩ = some (.int .i64 ((row.getD j 0 : Nat) : Int))
theorem RwS.stay {nb : Nat} {row : List Nat} {vr : Value} (h : RwS w nb row vr W) (hs : ∀ b, w.heap.size + 3 ≤ b → b < nb → b < W.heap.size → W'.heap[b]? = W.heap[b]?) : RwS w nb row vr W' :=
  ⟨h.shape, h.len, fun j hj => by
    obtain ⟨b, off, c, h1, h2, h3, h4⟩ := h.at_ j hj
    exact ⟨b, off, c, h1, h2, h3, (cell_same (hs b h2 h3 (lt_of_cell h4))).trans h4⟩⟩
/-- the next row -/
structure NxS (nb : Nat) (next : List Nat) (vn : Value) (W : World) : Prop where
  nx : Row W nb 25 [vn]
  ib : IBuf W vn (List.map (fun u : Nat => (u : Int)) next)
  own : ∀ k, vn.ownBlock = some k → nb < k
theorem NxS.keep {nb : Nat} {next : List Nat} {vn : Value} (h : NxS nb next vn W) (hb : Below W.heap.size W W') : NxS nb next vn W' := ⟨h.nx.keep hb, h.ib.keep hb, h.own⟩
theorem NxS.same {nb : Nat} {next : List Nat} {vn : Value} (h : NxS nb next vn W) (hs : ∀ b, nb ≤ b → b < W.heap.size → (∃ T, ∃ cs : Array Value, ∃ f, W.heap[b]? = some (.cells cs T f)) → W'.heap[b]? = W.heap[b]?) : NxS nb next vn W' := by
  refine ⟨row_same h.nx (hs nb (Nat.le_refl _) h.nx.lt ⟨_, _, _, h.nx⟩), h.ib.same fun k hk => ?_, h.own⟩
  have h1 := h.own k hk
  rcases h.ib.2 with ⟨h2, _⟩ | ⟨g, cap, cur, h2, _, h3, _⟩
  · rw [h2] at hk; cases hk
  · rw [h2] at hk
    injection hk with hk
    subst hk
    exact hs g (by have : nb < g := h1; omega) (Array.getElem?_eq_some_iff.1 h3).1 ⟨_, _, _, h3⟩
end
end Go.Proofs.Ytbmbddapbgnioaa
