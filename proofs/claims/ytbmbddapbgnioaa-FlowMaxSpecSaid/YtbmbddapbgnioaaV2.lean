/- Levels found row by row: what holds between the rounds of the inner loop. -/
import Derived.Test.YtbmbddapbgnioaaV1
namespace Go.Proofs.Ytbmbddapbgnioaa
open Go.RowKit Go.Shelf

theorem wpListIn_of {n r : Nat} {P : Program} {ops : Array Oper} {Q : Exit → Act → World → Prop} (hno : ¬ LetsOut Q) : ∀ (l : List Oper) (a : Act) (w : World), (∀ o, o ∈ l → ∀ c, o.op ≠ .defer c) → wpList P ops Q l a w → wpListIn (Fence.wide.inRound r) n P ops Q l a w
  | [], _, _, _, h => h
  | o :: rest, a, w, hnd, h => by
    have ih := fun a w => wpListIn_of (n := n) (r := r) (P := P) (ops := ops) hno rest a w (fun o' ho => hnd o' (by simp [ho]))
    unfold wpList at h
    unfold wpListIn
    by_cases hw : Region.wanted o (yielded ops a.tmps) = true
    · rw [if_pos hw] at h ⊢
      rcases h with h | h
      · exact wpIn_of_wp (hnd o (by simp)) (Oper.wp_mono (fun a' w' h' => ih a' w' h') h)
      · exact absurd h.2 hno
    · rw [if_neg hw] at h ⊢
      exact ⟨fun _ _ => trivial, ih _ _ h⟩
/-- a region in its written order, in a round as outside -/
theorem wpIn_region_plain {n r id : Nat} {P : Program} {Q : Exit → Act → World → Prop} {a : Act} {w : World} {l : List Oper} (hno : ¬ LetsOut Q) (hnd : (l.toArray.all fun o => match o.op with | .defer _ => false | _ => true) = true) (h : wpList P l.toArray Q l a w) : (Code.region id l.toArray false).wpIn (Fence.wide.inRound r) n P Q a w :=
  wpIn_region_lit (wpListIn_of hno l a w (fun o ho c hc => by
    obtain ⟨i, hi⟩ := List.getElem?_of_mem ho
    exact noDefer hnd i o (by simpa using hi) c hc) h)
/-- all marks lie below C -/
def MB (C : Nat) (ds : List Deferred) : Prop := ∃ l : List Nat, ds = l.map markD ∧ ∀ D, D ∈ l → D < C
theorem Marks.mb {C : Nat} {ds : List Deferred} {W : World} (h : Marks C ds W) : MB W.heap.size ds := by
  obtain ⟨l, h1, _, h3⟩ := h
  exact ⟨l, h1, fun D hD => (Array.getElem?_eq_some_iff.1 (h3 D hD).2).1⟩
section
variable {v : Gv} {w : World} {L : List Int} {ds : List Deferred} {W W' : World}
theorem markD_inj {a b : Nat} (h : markD a = markD b) : a = b := by
  unfold markD at h; injection h with e1 _; injection e1
theorem VM.low {C : Nat} (h : VM v w L ds W) (hC : w.heap.size + 3 ≤ C) (hm : MB C ds) (e1 : W'.os = W.os) (e2 : W'.tape = W.tape) (e3 : W'.output = W.output) (hs : W.heap.size ≤ W'.heap.size) (hb : ∀ b, b < C → b < W.heap.size → W'.heap[b]? = W.heap[b]?) : VM v w L ds W' := by
  have h1 := h.net.gm.lt
  have h2 := h.net.gK
  have h3 := h.kw
  have h4 := h.bw.size
  have h5 := h.bl.lt
  refine ⟨{ h.net with gm := h.net.gm.same (hb _ (by omega) h1), sm := h.net.sm.keep (fun b hk _ => hb b (by omega) (by omega)), Kw := Nat.le_trans h.net.Kw hs }, row_same h.br (hb _ (by omega) h.br.lt), row_same h.rl (hb _ (by omega) h.rl.lt), row_same h.bl (hb _ (by omega) h.bl.lt), ⟨e1.trans h.bw.os, e2.trans h.bw.tape, e3.trans h.bw.output, Nat.le_trans h4 hs, fun b hb2 => (hb b (by omega) (by omega)).trans (h.bw.block b hb2)⟩, ?_, h.kw⟩
  obtain ⟨l, k1, k2, k3⟩ := h.mks
  obtain ⟨l', m1, m2⟩ := hm
  refine ⟨l, k1, k2, fun D hD => ⟨(k3 D hD).1, (hb D ?_ (Array.getElem?_eq_some_iff.1 (k3 D hD).2).1).trans (k3 D hD).2⟩⟩
  have : markD D ∈ l'.map markD := by rw [← m1, k1]; exact List.mem_map.2 ⟨D, hD, rfl⟩
  obtain ⟨D', hD', he⟩ := List.mem_map.1 this
  rw [← markD_inj he]; exact m2 D' hD'
end
/-- in a round, or between two -/
structure RV (v : Gv) (w : World) (L0 : List Int) (ds : List Deferred) (nb : Nat) (row : List Nat) (vr : Value) (j u vb C : Nat) (L2 : List Int) (next : List Nat) (vn : Value) (W : World) : Prop where
  vm : VM v w L2 ds W
  rw : RwS w nb row vr W
  nx : NxS nb next vn W
  own : ∀ k, vn.ownBlock = some k → k < vb ∨ C ≤ k
  rv : Row W vb 3 [.int .i64 (u : Int)]
  lay : w.heap.size + 3 ≤ nb ∧ nb < vb ∧ vb < C ∧ C ≤ W.heap.size
section
variable {v : Gv} {w : World} {L0 L2 : List Int} {ds : List Deferred} {nb j u vb C : Nat} {row next : List Nat} {vr vn : Value} {W W' : World}
theorem RV.keep (h : RV v w L0 ds nb row vr j u vb C L2 next vn W) (hb : Below W.heap.size W W') : RV v w L0 ds nb row vr j u vb C L2 next vn W' :=
  ⟨h.vm.keep hb, h.rw.stay (fun b _ _ hl => hb.block b hl), h.nx.keep hb, h.own, h.rv.keep hb, by have := h.lay; have := hb.size; omega⟩
theorem RV.level (h : RV v w L0 ds nb row vr j u vb C L2 next vn W) (z : Nat) (x : Int) : RV v w L0 ds nb row vr j u vb C (L2.set z x) next vn (W.setCell ⟨w.heap.size + 1, z, none⟩ (.int .i64 x)) := by
  have hl := h.lay
  have ho : ∀ b, b ≠ w.heap.size + 1 → (W.setCell ⟨w.heap.size + 1, z, none⟩ (.int .i64 x)).heap[b]? = W.heap[b]? := fun b hb => heap_setCell_other W ⟨_, z, none⟩ b _ hb
  exact ⟨h.vm.level z x, h.rw.stay (fun b hb _ _ => ho b (by omega)), h.nx.same (fun b hb _ _ => ho b (by omega)), h.own, row_same h.rv (ho _ (by omega)), by simpa using hl⟩
/-- the next row grows: a list appended to, and stored -/
theorem RV.app (h : RV v w L0 ds nb row vr j u vb C L2 next vn W) {vn' : Value} {z : Nat} (hi : IBuf W' vn' (List.map (fun u : Nat => (u : Int)) (next ++ [z]))) (hw : Wrote W W' vn vn') : RV v w L0 ds nb row vr j u vb C L2 (next ++ [z]) vn' (W'.setCell ⟨nb, 0, none⟩ vn') := by
  have hl := h.lay
  have hown := h.nx.own
  have hs := hw.grown.size
  have hst := Stay.wrote (C := w.heap.size + 3) hw h.nx.ib (fun k hk => by have := hown k hk; omega)
  have hrn : Row W' nb 25 [vn] := row_same h.nx.nx (hw.grown.block nb h.nx.nx.lt (fun e => by have := hown nb e.symm; omega))
  have hst2 : Stay (w.heap.size + 3) W' (W'.setCell ⟨nb, 0, none⟩ vn') := Stay.set W' nb 0 vn' (by omega) hrn
  have ho : ∀ b, b ≠ nb → (W'.setCell ⟨nb, 0, none⟩ vn').heap[b]? = W'.heap[b]? := fun b hb => heap_setCell_other W' ⟨nb, 0, none⟩ b _ hb
  have hown' : ∀ k, vn'.ownBlock = some k → nb < k ∧ (k < vb ∨ C ≤ k) := fun k hk => by
    rcases hw.own with e | e
    · rw [e] at hk; exact ⟨hown k hk, h.own k hk⟩
    · have := e k hk; omega
  refine ⟨(h.vm.stay hst).stay hst2, h.rw.stay (fun b hb1 hb2 hb3 => (ho b (by omega)).trans (hw.grown.block b hb3 (fun e => by have := hown b e.symm; omega))), ⟨hrn.set 0 _ rfl, hi.same fun k hk => ho k (by have := (hown' k hk).1; omega), fun k hk => (hown' k hk).1⟩, fun k hk => (hown' k hk).2, row_same h.rv ((ho _ (by omega)).trans (hw.grown.block vb h.rv.lt (fun e => by have := h.own vb e.symm; omega))), by simp; omega⟩
theorem RV.grown {r : Option Nat} (h : RV v w L0 ds nb row vr j u vb C L2 next vn W) (hm : MB C ds) (hg : W.grownBy W' r) (hr : ∀ i, r = some i → C ≤ i ∧ ∃ o : Obj, W.heap[i]? = some o ∧ o.isCells = false) : RV v w L0 ds nb row vr j u vb C L2 next vn W' := by
  have hl := h.lay
  have hlow : ∀ b, b < C → b < W.heap.size → W'.heap[b]? = W.heap[b]? := fun b hb hlt => hg.block b hlt fun e => by have := (hr b e.symm).1; omega
  have hcell : ∀ b, b < W.heap.size → (∃ T, ∃ cs : Array Value, ∃ f, W.heap[b]? = some (.cells cs T f)) → W'.heap[b]? = W.heap[b]? := fun b hlt ⟨T, cs, f, hc⟩ => hg.block b hlt fun e => by
    obtain ⟨_, o, ho, hc2⟩ := hr b e.symm
    rw [hc] at ho; cases ho; cases hc2
  exact ⟨h.vm.low (C := C) (by omega) hm hg.os hg.tape hg.output hg.size hlow, h.rw.stay (fun b _ hb hlt => hlow b (by omega) hlt), h.nx.same (fun b _ hlt hc => hcell b hlt hc), h.own, row_same h.rv (hlow vb (by omega) h.rv.lt), by have := hg.size; omega⟩
end
end Go.Proofs.Ytbmbddapbgnioaa
