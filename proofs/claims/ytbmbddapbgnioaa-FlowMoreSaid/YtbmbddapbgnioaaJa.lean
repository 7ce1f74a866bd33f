/- Lists of arcs of the call's own, and arcs appended to them. -/
import Derived.Test.YtbmbddapbgnioaaJ
namespace Go.Proofs.Ytbmbddapbgnioaa
open Go.RowKit Go.Shelf

def arE (e : Ar) : List Value := [.int .i64 e.1, .int .i64 e.2.1, .int .i64 e.2.2]
def arsC : List Ar → List Value
  | [] => []
  | a :: l => arE a ++ arsC l
theorem arsC_len : ∀ l : List Ar, (arsC l).length = l.length * 3
  | [] => rfl
  | _ :: l => by simp [arsC, arE, arsC_len l]; omega
theorem arsC_app : ∀ a b : List Ar, arsC (a ++ b) = arsC a ++ arsC b
  | [], _ => rfl
  | x :: a, b => by simp [arsC, arsC_app a b]
theorem arsC_at : ∀ {l : List Ar} {j : Nat} {e : Ar}, l[j]? = some e → (arsC l)[j * 3]? = some (.int .i64 e.1) ∧ (arsC l)[j * 3 + 1]? = some (.int .i64 e.2.1) ∧ (arsC l)[j * 3 + 2]? = some (.int .i64 e.2.2)
  | [], _, _, h => by simp at h
  | a :: l, 0, e, h => by
    obtain rfl : a = e := by simpa using h
    simp [arsC, arE]
  | a :: l, j + 1, e, h => by
    have := arsC_at (l := l) (j := j) (e := e) (by simpa using h)
    rw [show (j + 1) * 3 = j * 3 + 1 + 1 + 1 by omega]
    simpa [arsC, arE] using this
/-- what stands at a place of the cells -/
theorem arsC_in {l : List Ar} {i : Nat} {u : Value} (h : (arsC l)[i]? = some u) : ∃ j e, l[j]? = some e ∧ ((i = j * 3 ∧ u = .int .i64 e.1) ∨ (i = j * 3 + 1 ∧ u = .int .i64 e.2.1) ∨ (i = j * 3 + 2 ∧ u = .int .i64 e.2.2)) := by
  have hlt : i < l.length * 3 := by rw [← arsC_len]; exact (List.getElem?_eq_some_iff.1 h).1
  have hj : i / 3 < l.length := by omega
  obtain ⟨e, he⟩ : ∃ e, l[i / 3]? = some e := ⟨_, List.getElem?_eq_getElem hj⟩
  obtain ⟨h0, h1, h2⟩ := arsC_at he
  refine ⟨i / 3, e, he, ?_⟩
  have hm : i % 3 = 0 ∨ i % 3 = 1 ∨ i % 3 = 2 := by omega
  rcases hm with hm | hm | hm
  · left; have : i = i / 3 * 3 := by omega
    refine ⟨this, ?_⟩
    rw [← this, h] at h0; injection h0
  · right; left; have : i = i / 3 * 3 + 1 := by omega
    refine ⟨this, ?_⟩
    rw [← this, h] at h1; injection h1
  · right; right; have : i = i / 3 * 3 + 2 := by omega
    refine ⟨this, ?_⟩
    rw [← this, h] at h2; injection h2
def ABuf (w : World) (v : Value) (l : List Ar) : Prop := w.ownsRow 0 43 3 v l.length (arsC l)
theorem ABuf.keep {w w' : World} {v : Value} {l : List Ar} (h : ABuf w v l) (hb : Below w.heap.size w w') : ABuf w' v l := owns_below h hb
theorem ABuf.same {w w' : World} {v : Value} {l : List Ar} (h : ABuf w v l) (he : ∀ k, v.ownBlock = some k → w'.heap[k]? = w.heap[k]?) : ABuf w' v l := by
  refine ⟨h.1, ?_⟩
  rcases h.2 with h0 | ⟨g, cap, cur, rfl, h2, h3, h4⟩
  · exact .inl h0
  · exact .inr ⟨g, cap, cur, rfl, h2, (he g rfl).trans h3, h4⟩
theorem abuf_nil (w : World) : ABuf w (.slice none 0 0) [] := World.ownsRow_nil _ _ _ _
theorem ABuf.shape {w : World} {v : Value} {l : List Ar} (h : ABuf w v l) : ∃ a cap, v = .slice a l.length cap ∧ l.length ≤ cap ∧ cap ≤ maxLen ∧ ∀ j e, l[j]? = some e → ∃ b, a = some ⟨b, 0, none⟩ ∧ v.ownBlock = some b ∧ w.cell? ⟨b, j * 3, none⟩ = some (.int .i64 e.1) ∧ w.cell? ⟨b, j * 3 + 1, none⟩ = some (.int .i64 e.2.1) ∧ w.cell? ⟨b, j * 3 + 2, none⟩ = some (.int .i64 e.2.2) := by
  rcases h.2 with ⟨rfl, h0⟩ | ⟨g, cap, cur, rfl, _, hg, h1, h2, _, _⟩
  · refine ⟨none, 0, by rw [h0], by omega, by unfold maxLen; omega, fun j e he => ?_⟩
    obtain rfl := List.eq_nil_of_length_eq_zero h0
    simp at he
  · refine ⟨_, cap, rfl, h1, h2, fun j e he => ⟨g, rfl, rfl, ?_⟩⟩
    obtain ⟨k1, k2, k3⟩ := arsC_at he
    have c1 := World.ownsRow.cells h (g := g) rfl _ _ k1
    have c2 := World.ownsRow.cells h (g := g) rfl _ _ k2
    have c3 := World.ownsRow.cells h (g := g) rfl _ _ k3
    rw [Addr.add_lit, Nat.zero_add] at c1 c2 c3
    exact ⟨c1, c2, c3⟩
theorem ABuf.rest {w : World} {v : Value} {l : List Ar} (h : ABuf w v l) (hI : ∀ p, p ∈ l → I64 p.1 ∧ I64 p.2.1 ∧ I64 p.2.2) : ARest w.heap.size w l v := by
  obtain ⟨a, cap, h1, h2, h3, h4⟩ := h.shape
  refine ⟨a, cap, h1, h2, h3, hI, ?_⟩
  rcases Nat.eq_zero_or_pos l.length with h0 | h0
  · exact .inl h0
  · right
    obtain ⟨b, ha, hb, c1, -⟩ := h4 0 l[0] (List.getElem?_eq_getElem h0)
    refine ⟨b, 0, ha, lt_of_cell c1, fun i hi => ?_⟩
    obtain ⟨b', ha', -, e1, e2, e3⟩ := h4 i l[i] (List.getElem?_eq_getElem hi)
    obtain rfl : b = b' := by rw [ha] at ha'; injection ha' with ha'; injection ha'
    rw [show 0 + i * 3 = i * 3 by omega]
    exact ⟨e1, e2, e3⟩
theorem arsC_one (l : List Ar) : ∀ u ∈ arsC l, u.oneCell' = true := fun u hu => by
  obtain ⟨i, hi, rfl⟩ := List.getElem_of_mem hu
  obtain ⟨j, e, -, h⟩ := arsC_in (List.getElem?_eq_getElem hi)
  rcases h with ⟨-, h⟩ | ⟨-, h⟩ | ⟨-, h⟩ <;> rw [h] <;> rfl
/-- one arc appended, out of a row -/
theorem wpList_ar {w : World} {ops : Array Oper} {rest : List Oper} {o : Oper} {a : Act} {Q : Exit → Act → World → Prop} (hgd : o.guard = none) (s x : Operand)
    (ho : o.op = .call { callee := .builtin .append, args := #[s, x], argTypes := #[22, 22] })
    (v : Value) (l : List Ar) (hs : a.eval s = v) (hb : ABuf w v l) (b : Nat) (e : Ar) (hx : a.eval x = .slice (some ⟨b, 0, none⟩) 1 1) (hr : Row w b 43 (arE e)) (hlen : l.length ≤ 100000)
    (h : ∀ v' w', ABuf w' v' (l ++ [e]) → Wrote w w' v v' → wpList Try.prog ops Q rest (a.put o.dst v') w') : wpList Try.prog ops Q (o :: rest) a w := by
  obtain ⟨i0, hi, hz⟩ := info_parts Try.infoA
  simp only [Prod.mk.injEq] at hz
  obtain ⟨hz0, hz1, hz2⟩ := hz
  refine wpList_append_mine w hgd s x 22 ho 43 i0 _ 3 24 Try.underlying22 hi hz0 hz1 hz2 rfl (by decide) v l.length (arsC l) hs hb ⟨b, 0, none⟩ 1 1 (arE e) hx rfl (fun j u hj => ?_) (fun u hu => ?_) (by unfold maxLen; omega) (by omega) fun v' w' h1 h2 => h v' w' ?_ h2
  · rw [Addr.add_lit, Nat.zero_add]; exact hr.cell hj
  · simp [arE] at hu; rcases hu with rfl | rfl | rfl <;> rfl
  · unfold ABuf
    rw [arsC_app, List.length_append]
    simpa [arsC] using h1
/-- a network turned round is one -/
theorem net_tu {N s t : Int} {A : List Ar} (h : netE N s t A = 0) : netE N t s (tuA A) = 0 := by
  have hn := net_ok h
  have h1 := hn.net
  have h2 := hn.rng
  have h3 := hn.few
  have hN : (N.toNat : Int) = N := Int.toNat_of_nonneg (by omega)
  unfold netE
  rw [if_pos ⟨h2.1, h2.2, ⟨h1.snk.1, by have := h1.snk.2; omega⟩, ⟨h1.src.1, by have := h1.src.2; omega⟩, fun e => h1.ne e.symm⟩, if_pos (by unfold tuA; rw [List.length_map]; exact h3), if_pos]
  unfold tuA
  rw [List.all_eq_true]
  intro x hx
  obtain ⟨a, ha, rfl⟩ := List.mem_map.1 hx
  have h4 := h1.inn a ha
  have h5 := hn.caps a ha
  have h6 := hn.loops a ha
  unfold arcB
  exact decide_eq_true (by simp only; omega)
/-- a network whose arcs are appended one by one -/
structure TuI (W4 : World) (N t s : Int) (B : List Ar) (k : Nat) (v : Value) (wr : World) : Prop where
  kd : Below W4.heap.size W4 wr
  row : Row wr W4.heap.size 24 [.int .i64 N, .int .i64 t, .int .i64 s, v]
  buf : ABuf wr v (B.take k)
  own : ∀ b, v.ownBlock = some b → W4.heap.size < b
theorem TuI.first (W4 : World) (N t s : Int) (B : List Ar) : TuI W4 N t s B 0 (.slice none 0 0) (W4.alloc (.cells #[.int .i64 N, .int .i64 t, .int .i64 s, .slice none 0 0] 24)) :=
  ⟨Joins.below_alloc1 W4 _, row_new W4 24 [.int .i64 N, .int .i64 t, .int .i64 s, .slice none 0 0], by rw [List.take_zero]; exact abuf_nil _, fun b h => by cases h⟩
theorem TuI.next {W4 wr W6 w' : World} {N t s : Int} {B : List Ar} {k : Nat} {v v' : Value} {e : Ar} (h : TuI W4 N t s B k v wr) (hb : Below wr.heap.size wr W6) (he : B[k]? = some e) (hp : ABuf w' v' (B.take k ++ [e])) (hw : Wrote W6 w' v v') :
    TuI W4 N t s B (k + 1) v' (w'.setCell ⟨W4.heap.size, 3, none⟩ v') := by
  have hg := h.row.lt
  have hs := hb.size
  have hk := h.kd.size
  have hown' : ∀ b, v'.ownBlock = some b → W4.heap.size < b := fun b hb' => by
    rcases hw.own with e1 | e1
    · rw [e1] at hb'; exact h.own b hb'
    · have := e1 b hb'; omega
  have hrow : Row w' W4.heap.size 24 [.int .i64 N, .int .i64 t, .int .i64 s, v] := (hw.grown.block _ (by omega) (fun e => by have := h.own _ e.symm; omega)).trans (h.row.keep hb)
  have hb2 : Below W4.heap.size W6 w' := hw.toBelow (by omega) (fun b hb' => by have := h.own b hb'; omega)
  refine ⟨below_setCell (h.kd.trans ((hb.mono hk).trans hb2)) _ _ _ (Nat.le_refl _), hrow.set 3 v' rfl, ?_, hown'⟩
  have ht : B.take (k + 1) = B.take k ++ [e] := by rw [List.take_add_one, he]; rfl
  rw [ht]
  exact hp.same (fun b hb' => heap_setCell_other w' ⟨_, 3, none⟩ b v' (by have := hown' b hb'; simp; omega))
theorem TuI.at {W4 wr W6 w' : World} {N t s : Int} {B : List Ar} {k : Nat} {v v' : Value} (h : TuI W4 N t s B k v wr) (hb : Below wr.heap.size wr W6) (hw : Wrote W6 w' v v') : Row w' W4.heap.size 24 [.int .i64 N, .int .i64 t, .int .i64 s, v] := by
  have hg := h.row.lt
  have hs := hb.size
  exact (hw.grown.block _ (by omega) (fun e => by have := h.own _ e.symm; omega)).trans (h.row.keep hb)
theorem tuA_at {A : List Ar} {k : Nat} (h : k < A.length) : (tuA A)[k]? = some ((A.getD k (0, 0, 0)).2.1, (A.getD k (0, 0, 0)).1, (A.getD k (0, 0, 0)).2.2) := by
  unfold tuA; simp [h]
theorem tuA_len (A : List Ar) : (tuA A).length = A.length := by unfold tuA; simp
end Go.Proofs.Ytbmbddapbgnioaa
