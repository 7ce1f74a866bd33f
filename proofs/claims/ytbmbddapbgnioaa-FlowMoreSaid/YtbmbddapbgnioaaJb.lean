/- A list of arcs copied, and a Cap of the copy changed. -/
import Derived.Test.YtbmbddapbgnioaaJa
import Derived.Deep.AppendSrc
namespace Go.Proofs.Ytbmbddapbgnioaa
open Go.RowKit Go.Shelf

theorem src_arcs {w : World} {B : Nat} {A : List Ar} {v : Value} (h : ARest B w A v) : Src Try.prog 3 22 v A.length (arsC A) w := by
  obtain ⟨a, cap, rfl, -, -, -, h5⟩ := h
  rcases h5 with h0 | ⟨b, off, rfl, -, hc⟩
  · have : A = [] := List.eq_nil_of_length_eq_zero h0
    subst this
    cases a with
    | none => exact Src.ofNil w Try.underlying22 cap
    | some ad => exact Src.ofSlice w Try.underlying22 ad 0 cap [] rfl (fun j u h => by simp at h) (fun u h => by cases h)
  · refine Src.ofSlice w Try.underlying22 _ A.length cap _ (arsC_len A) (fun i u hi => ?_) (arsC_one A)
    rw [Addr.add_lit]
    obtain ⟨j, e, he, h⟩ := arsC_in hi
    obtain ⟨hj, rfl⟩ := List.getElem?_eq_some_iff.1 he
    obtain ⟨c0, c1, c2⟩ := hc j hj
    rcases h with ⟨rfl, rfl⟩ | ⟨rfl, rfl⟩ | ⟨rfl, rfl⟩
    · exact c0
    · rw [show off + (j * 3 + 1) = off + j * 3 + 1 by omega]; exact c1
    · rw [show off + (j * 3 + 2) = off + j * 3 + 2 by omega]; exact c2
/-- all arcs of a list appended to an empty list of the call's own -/
theorem wp_copy_arcs {w : World} {o : Oper} {a : Act} {K : Act → World → Prop} {Q : Exit → Act → World → Prop} (s x : Operand)
    (ho : o.op = .call { callee := .builtin .append, args := #[s, x], argTypes := #[22, 22] })
    (b : Nat) (hs : a.eval s = .slice (some ⟨b, 0, none⟩) 0 0) (hb : Row w b 43 []) (A : List Ar) (va : Value) (hx : a.eval x = va) {B : Nat} (hA : ARest B w A va) (hlen : A.length ≤ 100000)
    (h : ∀ v' w', ABuf w' v' A → Wrote w w' (.slice (some ⟨b, 0, none⟩) 0 0) v' → K (a.put o.dst v') w') : o.wp Try.prog a w K Q := by
  obtain ⟨i0, hi, hz⟩ := info_parts Try.infoA
  simp only [Prod.mk.injEq] at hz
  obtain ⟨hz0, hz1, hz2⟩ := hz
  refine wp_append_src w s x 22 22 ho 43 i0 _ 3 24 Try.underlying22 hi hz0 hz1 hz2 rfl _ 0 [] hs ⟨rfl, .inr ⟨b, 0, #[], rfl, Nat.zero_le _, hb, Nat.le_refl _, by unfold maxLen; omega, rfl, rfl⟩⟩ (by simp) va hx A.length (arsC A) (src_arcs hA) (by unfold maxLen; omega) (by omega) fun v' w' h1 h2 => h v' w' ?_ h2
  unfold ABuf
  simpa using h1
/-- the same in a list of operations -/
theorem wpList_copy_arcs {w : World} {ops : Array Oper} {rest : List Oper} {o : Oper} {a : Act} {Q : Exit → Act → World → Prop} (hgd : o.guard = none) (s x : Operand)
    (ho : o.op = .call { callee := .builtin .append, args := #[s, x], argTypes := #[22, 22] })
    (b : Nat) (hs : a.eval s = .slice (some ⟨b, 0, none⟩) 0 0) (hb : Row w b 43 []) (A : List Ar) (va : Value) (hx : a.eval x = va) {B : Nat} (hA : ARest B w A va) (hlen : A.length ≤ 100000)
    (h : ∀ v' w', ABuf w' v' A → Wrote w w' (.slice (some ⟨b, 0, none⟩) 0 0) v' → wpList Try.prog ops Q rest (a.put o.dst v') w') : wpList Try.prog ops Q (o :: rest) a w :=
  wpList_plain hgd fun _ hK => wp_copy_arcs s x ho b hs hb A va hx hA hlen fun v' w' h2 h3 => hK _ _ (h v' w' h2 h3)
theorem arsC_set : ∀ {l : List Ar} {j : Nat} {e : Ar} (x : Int), l[j]? = some e → arsC (l.set j (e.1, e.2.1, x)) = (arsC l).set (j * 3 + 2) (.int .i64 x)
  | [], _, _, _, h => by simp at h
  | a :: l, 0, e, x, h => by
    obtain rfl : a = e := by simpa using h
    simp [arsC, arE]
  | a :: l, j + 1, e, x, h => by
    have := arsC_set (l := l) (j := j) (e := e) x (by simpa using h)
    rw [show (j + 1) * 3 + 2 = j * 3 + 2 + 1 + 1 + 1 by omega]
    simpa [arsC, arE] using this
theorem ABuf.cap {w : World} {v : Value} {l : List Ar} (h : ABuf w v l) {j : Nat} {e : Ar} (hj : l[j]? = some e) {b : Nat} (hb : v.ownBlock = some b) (x : Int) : ABuf (w.setCell ⟨b, j * 3 + 2, none⟩ (.int .i64 x)) v (l.set j (e.1, e.2.1, x)) := by
  obtain ⟨h1, h2⟩ := h
  have hjl : j < l.length := (List.getElem?_eq_some_iff.1 hj).1
  refine ⟨by rw [arsC_len], ?_⟩
  rcases h2 with ⟨rfl, h0⟩ | ⟨g, cap, cur, rfl, hg0, hg, hn, hm, hcs, ht⟩
  · omega
  · obtain rfl : g = b := by simpa [Value.ownBlock] using hb
    right
    refine ⟨g, cap, cur.setIfInBounds (j * 3 + 2) (.int .i64 x), by rw [List.length_set], hg0, ?_, by rw [List.length_set]; exact hn, hm, by simp [hcs], ?_⟩
    · have := heap_setCell_same w g (j * 3 + 2) cur 43 (.int .i64 x) hg
      rw [this]
    · rw [arsC_set x hj, ← ht, List.length_set, Array.toList_setIfInBounds, List.take_set]
/-- a network whose arcs were copied -/
structure CpI (W4 : World) (N s t : Int) (L : List Ar) (v : Value) (wr : World) : Prop where
  kd : Below W4.heap.size W4 wr
  row : Row wr W4.heap.size 24 [.int .i64 N, .int .i64 s, .int .i64 t, v]
  buf : ABuf wr v L
  own : ∀ b, v.ownBlock = some b → W4.heap.size < b
theorem CpI.mid {W4 W5 w' : World} {N s t : Int} {va v' : Value} {o : Obj} (hb : Below W4.heap.size W4 W5) (hq : Row W5 W4.heap.size 24 [.int .i64 N, .int .i64 s, .int .i64 t, va]) (hw : Wrote (W5.alloc o) w' (.slice (some ⟨W5.heap.size, 0, none⟩) 0 0) v') :
    Row w' W4.heap.size 24 [.int .i64 N, .int .i64 s, .int .i64 t, va] := by
  have hg := hq.lt
  refine (hw.grown.block _ (by simp; omega) (fun e => ?_)).trans (hq.keep (Joins.below_alloc1 W5 o))
  simp [Value.ownBlock] at e
  omega
theorem CpI.make {W4 W5 w' : World} {N s t : Int} {L : List Ar} {va v' : Value} {o : Obj} (hb : Below W4.heap.size W4 W5) (hq : Row W5 W4.heap.size 24 [.int .i64 N, .int .i64 s, .int .i64 t, va]) (hp : ABuf w' v' L) (hw : Wrote (W5.alloc o) w' (.slice (some ⟨W5.heap.size, 0, none⟩) 0 0) v') :
    CpI W4 N s t L v' (w'.setCell ⟨W4.heap.size, 3, none⟩ v') := by
  have hg := hq.lt
  have hs := hb.size
  have hown : ∀ b, v'.ownBlock = some b → W4.heap.size < b := fun b hb' => by
    rcases hw.own with e1 | e1
    · rw [e1] at hb'; simp [Value.ownBlock] at hb'; omega
    · have := e1 b hb'; simp at this; omega
  have hb2 : Below W4.heap.size (W5.alloc o) w' := hw.toBelow (by simp; omega) (fun b hb' => by simp [Value.ownBlock] at hb'; omega)
  refine ⟨below_setCell (hb.trans (((Joins.below_alloc1 W5 o).mono hs).trans hb2)) _ _ _ (Nat.le_refl _), (CpI.mid hb hq hw).set 3 v' rfl, ?_, hown⟩
  exact hp.same (fun b hb' => heap_setCell_other w' ⟨_, 3, none⟩ b v' (by have := hown b hb'; simp; omega))
theorem CpI.cap {W4 wr : World} {N s t : Int} {L : List Ar} {v : Value} (h : CpI W4 N s t L v wr) {j : Nat} {e : Ar} (hj : L[j]? = some e) {b : Nat} (hb : v.ownBlock = some b) (x : Int) :
    CpI W4 N s t (L.set j (e.1, e.2.1, x)) v (wr.setCell ⟨b, j * 3 + 2, none⟩ (.int .i64 x)) := by
  have ho := h.own b hb
  exact ⟨below_setCell h.kd _ _ _ (by omega), h.row.setFar _ _ (by omega), h.buf.cap hj hb x, h.own⟩
theorem CpI.drew {W4 wr : World} {N s t : Int} {L : List Ar} {v : Value} (h : CpI W4 N s t L v wr) (n : Nat) : CpI W4 N s t L v (wr.drewN n) :=
  ⟨⟨h.kd.os, h.kd.tape, h.kd.output, h.kd.size, h.kd.block⟩, h.row, h.buf, h.own⟩
/-- the first k arcs have their Caps multiplied -/
def mixA (q : Int) (A : List Ar) (k : Nat) : List Ar := scA q (A.take k) ++ A.drop k
theorem mixA_zero (q : Int) (A : List Ar) : mixA q A 0 = A := by simp [mixA, scA]
theorem mixA_all (q : Int) (A : List Ar) {k : Nat} (h : A.length ≤ k) : mixA q A k = scA q A := by simp [mixA, List.take_of_length_le h, List.drop_eq_nil_of_le h]
theorem mixA_len (q : Int) (A : List Ar) (k : Nat) : (mixA q A k).length = A.length := by simp [mixA, scA]; omega
theorem mixA_at (q : Int) (A : List Ar) {k : Nat} (h : k < A.length) : (mixA q A k)[k]? = some (A.getD k (0, 0, 0)) := by
  unfold mixA scA
  rw [List.getElem?_append_right (by simp; omega)]
  simp [h, Nat.min_eq_left (Nat.le_of_lt h)]
theorem mixA_next (q : Int) (A : List Ar) {k : Nat} (h : k < A.length) : (mixA q A k).set k ((A.getD k (0, 0, 0)).1, (A.getD k (0, 0, 0)).2.1, (A.getD k (0, 0, 0)).2.2 * q) = mixA q A (k + 1) := by
  have hl : (scA q (A.take k)).length = k := by simp [scA]; omega
  have e : A.getD k (0, 0, 0) = A[k] := by simp [h]
  unfold mixA
  rw [List.set_append_right _ _ (by omega), hl, Nat.sub_self, List.drop_eq_getElem_cons h, List.set_cons_zero, List.take_succ_eq_append_getElem h, e]
  simp only [scA, List.map_append, List.map_cons, List.map_nil, List.append_assoc, List.cons_append, List.nil_append]
/-- a network whose Caps were multiplied is one -/
theorem net_sc {N s t q : Int} {A : List Ar} (h : netE N s t A = 0) (hq : ∀ a, a ∈ A → 0 ≤ a.2.2 * q ∧ a.2.2 * q ≤ 1073741824) : netE N s t (scA q A) = 0 := by
  have hn := net_ok h
  have h1 := hn.net
  have h2 := hn.rng
  have h3 := hn.few
  have hN : (N.toNat : Int) = N := Int.toNat_of_nonneg (by omega)
  unfold netE
  rw [if_pos ⟨h2.1, h2.2, ⟨h1.src.1, by have := h1.src.2; omega⟩, ⟨h1.snk.1, by have := h1.snk.2; omega⟩, h1.ne⟩, if_pos (by unfold scA; rw [List.length_map]; exact h3), if_pos]
  unfold scA
  rw [List.all_eq_true]
  intro x hx
  obtain ⟨a, ha, rfl⟩ := List.mem_map.1 hx
  have h4 := h1.inn a ha
  have h5 := hq a ha
  have h6 := hn.loops a ha
  unfold arcB
  exact decide_eq_true (by simp only; omega)
theorem net_mo {N s t q : Int} {A : List Ar} (h : netE N s t A = 0) (j : Nat) (hj : j < A.length) (hq : 0 ≤ q) (hm : (A.getD j (0, 0, 0)).2.2 + q ≤ 1073741824) : netE N s t (moA A j q) = 0 := by
  have hn := net_ok h
  have h1 := hn.net
  have h2 := hn.rng
  have h3 := hn.few
  have hN : (N.toNat : Int) = N := Int.toNat_of_nonneg (by omega)
  have hlen : ∀ (A : List Ar) (j : Nat), (moA A j q).length = A.length := by
    intro A; induction A with
    | nil => intro j; rfl
    | cons a A ih => intro j; cases j <;> simp [moA, ih]
  have hmem : ∀ (A : List Ar) (j : Nat), j < A.length → ∀ x, x ∈ moA A j q → x ∈ A ∨ x = ((A.getD j (0, 0, 0)).1, (A.getD j (0, 0, 0)).2.1, (A.getD j (0, 0, 0)).2.2 + q) := by
    intro A; induction A with
    | nil => intro j h; simp at h
    | cons a A ih =>
      intro j h x hx
      cases j with
      | zero => simp only [moA, List.mem_cons] at hx; rcases hx with rfl | hx
                · right; simp
                · left; simp [hx]
      | succ j => simp only [moA, List.mem_cons] at hx; rcases hx with rfl | hx
                  · left; simp
                  · rcases ih j (by simpa using h) x hx with h9 | h9
                    · left; simp [h9]
                    · right; simpa using h9
  unfold netE
  rw [if_pos ⟨h2.1, h2.2, ⟨h1.src.1, by have := h1.src.2; omega⟩, ⟨h1.snk.1, by have := h1.snk.2; omega⟩, h1.ne⟩, if_pos (by rw [hlen]; exact h3), if_pos]
  rw [List.all_eq_true]
  intro x hx
  have hjm : A.getD j (0, 0, 0) ∈ A := by simp [hj]
  rcases hmem A j hj x hx with ha | rfl
  · have h4 := h1.inn x ha
    have h5 := hn.caps x ha
    have h6 := hn.loops x ha
    unfold arcB
    exact decide_eq_true (by omega)
  · have h4 := h1.inn _ hjm
    have h5 := hn.caps _ hjm
    have h6 := hn.loops _ hjm
    unfold arcB
    exact decide_eq_true (by simp only; omega)
theorem moA_set (q : Int) : ∀ (A : List Ar) (j : Nat), j < A.length → A.set j ((A.getD j (0, 0, 0)).1, (A.getD j (0, 0, 0)).2.1, (A.getD j (0, 0, 0)).2.2 + q) = moA A j q := by
  intro A; induction A with
  | nil => intro j h; simp at h
  | cons a A ih =>
    intro j h
    cases j with
    | zero => simp [moA]
    | succ j => have := ih j (by simpa using h); simpa [moA] using this
/-- the greatest value is small -/
theorem GrI.small {N s t : Int} {A : List Ar} {w w' : World} {e : Ending} {X : List Int} {l : List Bool} {vs : Value} (h : GrI N s t A w e w' X l vs) (hE : netE N s t A = 0) : 0 ≤ surp A X s ∧ surp A X s ≤ 549755813888 := by
  have hn := net_ok hE
  have h1 := h.max.flo.bound hn.net hn.caps
  have h2 := Flo.zero (N := N.toNat) (s := s) (t := t) (A := A) (fun a ha => (hn.caps a ha).1)
  have h3 := h.max.most hn.net h2.1
  rw [h2.2] at h3
  have h4 := hn.few
  refine ⟨h3, Int.le_trans h1 ?_⟩
  have : (A.length : Int) ≤ 512 := by omega
  omega
end Go.Proofs.Ytbmbddapbgnioaa
