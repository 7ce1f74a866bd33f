/- Two sources, one after the other: the law's loop. -/
import Derived.Test.YtilpcchcccbfcaaDoorWr
import Derived.Laws.AppendOwnNone
namespace Go.Proofs.YtilpcchcccbfcaaDoor
open Go.RowKit

theorem at_lt : ∀ p l t, t ∈ (lexL p l).1 → t.at' < ((p + l.length : Nat) : Int) := by
  refine lex_ind (fun p t h => by simp [lexL_nil] at h) (fun p c r hc ih t h => ?_) (fun p l hn ih t h => ?_) (fun p l hb hs t h => ?_) (fun p l k w x m hb hs ih t h => ?_)
  · rw [lexL_space hc] at h
    have := ih t h; rw [List.length_cons]; omega
  · rw [lexL_note hn] at h
    have := ih t h
    have h2 := lineLen_le l
    rw [List.length_drop] at this; omega
  · rw [lexL_bad hb hs] at h; cases h
  · rw [lexL_tok hb hs] at h
    have hp := step_pos hs
    rcases List.mem_cons.1 h with rfl | h
    · show (p : Int) < _; omega
    · have := ih t h
      rw [List.length_drop] at this; omega
theorem toks_le : ∀ p l, (lexL p l).1.length ≤ l.length := by
  refine lex_ind (fun p => by simp [lexL_nil]) (fun p c r hc ih => ?_) (fun p l hn ih => ?_) (fun p l hb hs => ?_) (fun p l k w x m hb hs ih => ?_)
  · rw [lexL_space hc, List.length_cons]; omega
  · rw [lexL_note hn]
    rw [List.length_drop] at ih; omega
  · rw [lexL_bad hb hs]; simp
  · rw [lexL_tok hb hs]
    have hp := step_pos hs
    rw [List.length_drop] at ih
    simp only [List.length_cons]; omega

/-- an empty slice in a new block -/
theorem tnew_none (w : World) : TNew w (w.alloc (.cells #[] 35)) (.slice (some ⟨w.heap.size, 0, none⟩) 0 0) [] :=
  ⟨⟨rfl, .inr ⟨w.heap.size, 0, #[], rfl, Nat.zero_le _, heap_alloc_new w _, Nat.le_refl _, by unfold maxLen; omega, rfl, rfl⟩⟩, Joins.below_alloc1 w _, fun k hk => by simp [Value.ownBlock] at hk; omega⟩
/-- all of a list appended -/
theorem wpList_append_toks {w : World} {ops : Array Oper} {rest : List Oper} {o : Oper} {a : Act} {Q : Exit → Act → World → Prop} (hgd : o.guard = none) (s x : Operand)
    (ho : o.op = .call { callee := .builtin .append, args := #[s, x], argTypes := #[23, 23] })
    (v : Value) (ts : List Tok) (hs : a.eval s = v) (hb : TBuf w v ts) (u : Value) (us : List Tok) (B : Nat) (hx : a.eval x = u) (hr : TRest B w us u) (hlen : ts.length + us.length ≤ 1099511627776)
    (h : ∀ v' w', TBuf w' v' (ts ++ us) → Wrote w w' v v' → wpList Tryd.prog ops Q rest (a.put o.dst v') w') : wpList Tryd.prog ops Q (o :: rest) a w := by
  obtain ⟨i0, hi, hz0, hz1, hz2⟩ := info_parts Tryd.info35
  obtain ⟨ad, cap, rfl, hcap, hcm, hn, hc⟩ := hr
  have hown : w.ownsRow 0 35 4 v ts.length (cellsT ts) := hb
  cases ad with
  | none =>
    obtain ⟨h0, rfl⟩ := hn rfl
    obtain rfl : us = [] := List.eq_nil_of_length_eq_zero h0
    refine wpList_append_own_none hgd s x 23 ho 0 35 i0 4 Tryd.underlying23 hi v ts.length (cellsT ts) hs hown hx ?_
    exact h v w (by rw [List.append_nil]; exact hb) (Wrote.refl w v)
  | some ad =>
    refine wpList_append_mine w hgd s x 23 ho 35 i0 _ 4 40 Tryd.underlying23 hi hz0 hz1 hz2 rfl (by decide) v ts.length (cellsT ts) hs hown ad us.length cap (cellsT us) hx (cellsT_len us) ?_ ?_ (by unfold maxLen; omega) (by omega) ?_
    · intro j q hj
      rcases hc with h0 | ⟨b, off, he, _, hc⟩
      · obtain rfl : us = [] := List.eq_nil_of_length_eq_zero h0
        simp [cellsT] at hj
      · obtain rfl := Option.some.inj he
        have hjl : j < us.length * 4 := by
          have := (List.getElem?_eq_some_iff.1 hj).1
          rwa [cellsT_len] at this
        have hi2 : j / 4 < us.length := by omega
        have h1 := List.getElem?_eq_getElem hi2
        have hj2 : j % 4 < (tokCells us[j / 4]).length := by rw [tokCells_len]; omega
        have h2 := cellsT_get h1 (j % 4) _ (List.getElem?_eq_getElem hj2)
        rw [show j / 4 * 4 + j % 4 = j by omega] at h2
        rw [hj] at h2
        have h3 := hc (j / 4) _ h1 (j % 4) _ (List.getElem?_eq_getElem hj2)
        rw [Addr.add_lit, show off + j = off + j / 4 * 4 + j % 4 by omega, h3, ← h2]
    · intro q hq
      simp only [cellsT, List.mem_flatMap] at hq
      obtain ⟨t, _, ht⟩ := hq
      exact tokCells_one t q ht
    · intro v' w' h1 h2
      refine h v' w' ?_ h2
      unfold TBuf
      rw [List.length_append, cellsT_append]; exact h1
theorem wpList_store_tok2 {ops : Array Oper} {rest : List Oper} {o : Oper} {a : Act} {w : World} {Q : Exit → Act → World → Prop} (hgd : o.guard = none) (x y : Operand) (ho : o.op = .store 35 x y)
    (g : Nat) (t : Tok) (cs : List Value) (hl : cs.length = 4) (hx : a.eval x = .pointer (some ⟨g, 0, none⟩)) (hy : a.eval y = tokOf t) (hg : Row w g 35 cs) {B : Nat} {w0 : World} (hb : Below B w0 w) (hB : B ≤ g)
    (h : ∀ w', Row w' g 35 (tokCells t) → Below B w0 w' → (∀ k, k ≠ g → w'.heap[k]? = w.heap[k]?) → wpList Tryd.prog ops Q rest (a.put o.dst undef) w') : wpList Tryd.prog ops Q (o :: rest) a w :=
  wpList_plain hgd fun _ hK => wp_store_row 35 x y ho g (tokCells t).toArray hx hy 35 cs.toArray hg (by rw [size35]; rfl) (by simp [hl, tokCells_len]) (tokArr_one t) (hK _ _ (h _ (hg.setRow _) (below_setRow hb _ _ hB) fun k hk => setRow_other w g k _ hk))
theorem shift_cells (t : Tok) (n : Nat) : (tokCells t).set 3 (.int .i64 (t.at' + ((n : Int) + 1))) = tokCells (t.shift (n + 1)) := by
  simp [tokCells, Tok.shift]
end Go.Proofs.YtilpcchcccbfcaaDoor
