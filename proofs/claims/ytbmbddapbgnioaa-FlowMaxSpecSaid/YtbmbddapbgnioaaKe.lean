/- The reference's steps: what its loops keep. -/
import Derived.Test.YtbmbddapbgnioaaKc
namespace Go.Proofs.Ytbmbddapbgnioaa
open Go.RowKit Go.Shelf

theorem Try.infoB2 : (Try.prog.info? 4).map (fun i => (i.zero, i.size, i.bytes)) = some (some (.bool false), 1, 1) := by kernel_rfl
theorem made_bools (n : Nat) : madeCells (Value.bool false).cells (n * 1) = ((List.replicate n false).map Value.bool).toArray := by
  apply Array.ext'
  rw [Nat.mul_one, show (Value.bool false).cells = #[Value.bool false] from rfl, toList_madeCells_one]
  simp
theorem wpList_makeB {ops : Array Oper} {rest : List Oper} {o : Oper} {a : Act} {w : World} {Q : Exit → Act → World → Prop} (hgd : o.guard = none) (x : Operand) (ho : o.op = .makeSlice 26 x x) (n : Nat) (hn : n ≤ 1000000) (hx : a.eval x = .int .i64 (n : Int))
    (h : ∀ g w', g = w.heap.size → Row w' g 4 ((List.replicate n false).map Value.bool) → w'.heap.size = w.heap.size + 1 → Below w.heap.size w w' → wpList Try.prog ops Q rest (a.put o.dst (.slice (some ⟨g, 0, none⟩) n n)) w') : wpList Try.prog ops Q (o :: rest) a w :=
  wpList_plain hgd fun _ hK => by
    obtain ⟨i0, hi, hz⟩ := info_parts Try.infoB2
    simp only [Prod.mk.injEq] at hz
    obtain ⟨hz0, hz1, hz2⟩ := hz
    have hr := run_makeSlice (P := Try.prog) w 26 4 i0 (.bool false) Try.underlying26 hi hz0 .i64 .i64 (n : Int) (n : Int) (by omega) (by omega) (by rw [hz1, Int.toNat_natCast]; omega) (by rw [hz2]; omega) (by omega)
    rw [hz1, Int.toNat_natCast, made_bools] at hr
    have h1 := hK _ _ (h _ _ rfl (row_new w 4 _) (by simp) (Joins.below_alloc1 w _))
    unfold Oper.wp execOp
    have e : ((List.replicate n false).map Value.bool).toArray = Array.replicate n (Value.bool false) := by simp
    rw [e] at h1 hr
    simp [ho, hx, hr, Sem.run_bind]
    exact h1
theorem row_two (W : World) (p q : Addr) (x y : Value) (T : Nat) (cs : List Value) : Row (((W.setCell p x).setCell q y).alloc (.cells cs.toArray T)) W.heap.size T cs := by
  have h := row_new ((W.setCell p x).setCell q y) T cs
  have e : ((W.setCell p x).setCell q y).heap.size = W.heap.size := by simp
  rw [e] at h
  exact h
theorem irest_rowN {w : World} {g : Nat} {xs : List Int} {n : Nat} (h : Row w g 3 (nums xs)) (hn : xs.length = n) (hm : n ≤ maxLen) (hI : ∀ x, x ∈ xs → I64 x) : IRest w.heap.size w xs (.slice (some ⟨g, 0, none⟩) n n) := by
  subst hn
  refine ⟨_, _, rfl, Nat.le_refl _, hm, hI, ?_⟩
  rcases Nat.eq_zero_or_pos xs.length with h0 | h0
  · exact .inl h0
  · refine .inr ⟨g, 0, rfl, h.lt, fun i hi => ?_⟩
    rw [Nat.zero_add]
    exact h.cell (by unfold nums; simp [hi])
theorem brest_rowN {w : World} {g : Nat} {xs : List Bool} {n : Nat} (h : Row w g 4 (xs.map Value.bool)) (hn : xs.length = n) (hm : n ≤ maxLen) : BRest w.heap.size w xs (.slice (some ⟨g, 0, none⟩) n n) := by
  subst hn
  refine ⟨_, _, rfl, Nat.le_refl _, hm, ?_⟩
  rcases Nat.eq_zero_or_pos xs.length with h0 | h0
  · exact .inl h0
  · refine .inr ⟨g, 0, rfl, h.lt, fun i hi => ?_⟩
    rw [Nat.zero_add]
    exact h.cell (by simp [hi])
/-- the search in memory -/
structure StI (w : World) (N s t : Nat) (A : List Ar) (X : List Int) (va : Value) (gb gs : Nat) (by' : List Int) (sd : List Bool) (l : List Int) (vl : Value) (W : World) : Prop where
  bx : Bx w W w.heap.size N s t va
  rb : Row W gb 3 (nums by')
  rs : Row W gs 4 (sd.map Value.bool)
  bl : IBuf W vl l
  own : ∀ b, vl.ownBlock = some b → gs < b
  lt : w.heap.size < gb ∧ gb < gs
  bi : BI N s A X by' sd l
  bz : ∀ x, x ∈ by' → -1000 ≤ x ∧ x ≤ 1000
  nz : ∀ v, v ∈ l → v ≠ (s : Int) → byB by' v ≠ 0
section
variable {w W W' : World} {N s t : Nat} {A : List Ar} {X : List Int} {va : Value} {gb gs : Nat} {by' : List Int} {sd : List Bool} {l : List Int} {vl : Value}
theorem StI.keep (h : StI w N s t A X va gb gs by' sd l vl W) (hb : Below W.heap.size W W') : StI w N s t A X va gb gs by' sd l vl W' :=
  ⟨h.bx.keep hb, h.rb.keep hb, h.rs.keep hb, h.bl.keep hb, h.own, h.lt, h.bi, h.bz, h.nz⟩
/-- a vertex more: what is stored -/
theorem StI.add (h : StI w N s t A X va gb gs by' sd l vl W) {v : Nat} {b : Int} {vl' : Value} {o : Obj}
    (hp : IBuf W' vl' (l ++ [(v : Int)])) (hw : Wrote (((W.setCell ⟨gs, v, none⟩ (.bool true)).setCell ⟨gb, v, none⟩ (.int .i64 b)).alloc o) W' vl vl') (hbi : BI N s A X (by'.set v b) (sd.set v true) (l ++ [(v : Int)])) (hb : -1000 ≤ b ∧ b ≤ 1000) (hn : ¬ (v : Int) ∈ l) (hb0 : b ≠ 0) :
    StI w N s t A X va gb gs (by'.set v b) (sd.set v true) (l ++ [(v : Int)]) vl' W' := by
  have hlt := h.lt
  have hgs := h.rs.lt
  have hgb := h.rb.lt
  have e1 : ((W.setCell ⟨gs, v, none⟩ (.bool true)).setCell ⟨gb, v, none⟩ (.int .i64 b)).heap.size = W.heap.size := by simp
  have hsz : (((W.setCell ⟨gs, v, none⟩ (.bool true)).setCell ⟨gb, v, none⟩ (.int .i64 b)).alloc o).heap.size = W.heap.size + 1 := by simp
  have hrb : Row ((W.setCell ⟨gs, v, none⟩ (.bool true)).setCell ⟨gb, v, none⟩ (.int .i64 b)) gb 3 (nums (by'.set v b)) :=
    (h.rb.setFar v (.bool true) (by omega)).set v (.int .i64 b) (by unfold nums; rw [List.map_set])
  have hrs : Row ((W.setCell ⟨gs, v, none⟩ (.bool true)).setCell ⟨gb, v, none⟩ (.int .i64 b)) gs 4 ((sd.set v true).map Value.bool) :=
    (h.rs.set v (.bool true) (by rw [List.map_set])).setFar v (.int .i64 b) (by omega)
  have hrx : Row ((W.setCell ⟨gs, v, none⟩ (.bool true)).setCell ⟨gb, v, none⟩ (.int .i64 b)) w.heap.size 24 [.int .i64 N, .int .i64 s, .int .i64 t, va] :=
    (h.bx.row.setFar v (.bool true) (by omega)).setFar v (.int .i64 b) (by omega)
  have hbw : Below w.heap.size w ((W.setCell ⟨gs, v, none⟩ (.bool true)).setCell ⟨gb, v, none⟩ (.int .i64 b)) := below_setCell (below_setCell h.bx.bw _ _ _ (by omega)) _ _ _ (by omega)
  have hal := Joins.below_alloc1 ((W.setCell ⟨gs, v, none⟩ (.bool true)).setCell ⟨gb, v, none⟩ (.int .i64 b)) o
  have hold : ∀ k, k ≤ gs → W'.heap[k]? = (((W.setCell ⟨gs, v, none⟩ (.bool true)).setCell ⟨gb, v, none⟩ (.int .i64 b)).alloc o).heap[k]? := fun k hk => hw.grown.block k (by omega) (fun e => by have := h.own k e.symm; omega)
  have hB2 : Below w.heap.size (((W.setCell ⟨gs, v, none⟩ (.bool true)).setCell ⟨gb, v, none⟩ (.int .i64 b)).alloc o) W' := hw.toBelow (by have := h.bx.row.lt; omega) (fun k hk => by have := h.own k hk; omega)
  refine ⟨⟨?_, (hold _ (by omega)).trans (hrx.keep hal)⟩, (hold _ (by omega)).trans (hrb.keep hal), (hold _ (by omega)).trans (hrs.keep hal), hp, fun k hk => ?_, h.lt, hbi, fun x hx => by rcases List.mem_or_eq_of_mem_set hx with h9 | h9; exact h.bz x h9; rw [h9]; exact hb, fun u hu hus => ?_⟩
  · exact (hbw.trans (hal.mono (by rw [e1]; have := h.bx.row.lt; omega))).trans hB2
  · rcases hw.own with e2 | e2
    · rw [e2] at hk; exact h.own k hk
    · have := e2 k hk; omega
  · rcases List.mem_append.1 hu with hu | hu
    · have h1 := h.nz u hu hus
      have h2 := h.bi.inn u hu
      unfold byB at h1 ⊢
      rw [getD_set_ne _ _ _ _ _ (fun e => hn (by rw [show (v : Int) = u by omega]; exact hu))]
      exact h1
    · simp at hu
      subst hu
      have h3 := h.bi.lb
      have h4 := hbi.inn (v : Int) (by simp)
      unfold byB
      rw [Int.toNat_natCast, getD_set_self _ _ _ _ (by omega)]
      exact hb0
/-- a row beside the search stays when a vertex is added -/
theorem StI.beside (h : StI w N s t A X va gb gs by' sd l vl W) {v : Nat} {b : Int} {vl' : Value} {o : Obj} {g T : Nat} {cs : List Value}
    (hw : Wrote (((W.setCell ⟨gs, v, none⟩ (.bool true)).setCell ⟨gb, v, none⟩ (.int .i64 b)).alloc o) W' vl vl') (hr : Row W g T cs) (hg : gs < g) (ho : ∀ k, vl.ownBlock = some k → k ≠ g) : Row W' g T cs ∧ ∀ k, vl'.ownBlock = some k → k ≠ g := by
  have hlt := h.lt
  have hgl := hr.lt
  have hsz : (((W.setCell ⟨gs, v, none⟩ (.bool true)).setCell ⟨gb, v, none⟩ (.int .i64 b)).alloc o).heap.size = W.heap.size + 1 := by simp
  have hr2 : Row (((W.setCell ⟨gs, v, none⟩ (.bool true)).setCell ⟨gb, v, none⟩ (.int .i64 b)).alloc o) g T cs := ((hr.setFar v (.bool true) (by omega)).setFar v (.int .i64 b) (by omega)).keep (Joins.below_alloc1 _ o)
  refine ⟨(hw.grown.block g (by omega) (fun e => ho g e.symm rfl)).trans hr2, fun k hk => ?_⟩
  rcases hw.own with e2 | e2
  · rw [e2] at hk; exact ho k hk
  · have := e2 k hk; omega
/-- the list while the two other lists are stored into -/
theorem StI.blAt (h : StI w N s t A X va gb gs by' sd l vl W) (v : Nat) (b : Int) (o : Obj) : IBuf (((W.setCell ⟨gs, v, none⟩ (.bool true)).setCell ⟨gb, v, none⟩ (.int .i64 b)).alloc o) vl l := by
  have hlt := h.lt
  have h1 : IBuf (W.setCell ⟨gs, v, none⟩ (.bool true)) vl l := h.bl.same (fun k hk => heap_setCell_other W ⟨gs, v, none⟩ k _ (by have := h.own k hk; simp; omega))
  have h2 : IBuf ((W.setCell ⟨gs, v, none⟩ (.bool true)).setCell ⟨gb, v, none⟩ (.int .i64 b)) vl l := h1.same (fun k hk => heap_setCell_other _ ⟨gb, v, none⟩ k _ (by have := h.own k hk; simp; omega))
  exact h2.keep (Joins.below_alloc1 _ o)
end
end Go.Proofs.Ytbmbddapbgnioaa
