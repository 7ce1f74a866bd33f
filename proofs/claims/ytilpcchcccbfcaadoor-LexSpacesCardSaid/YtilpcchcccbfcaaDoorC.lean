/- Tokens in memory: read, owned, appended to. -/
import Derived.Test.YtilpcchcccbfcaaDoorB
namespace Go.Proofs.YtilpcchcccbfcaaDoor
open Go.RowKit

/-- a string of bytes -/
def str (l : List UInt8) : Value := .string ⟨l.toArray⟩
/-- the cells of a token -/
def tokCells (t : Tok) : List Value := [.int .i64 t.kind, str t.text, .int .i64 t.n, .int .i64 t.at']
theorem tokCells_len (t : Tok) : (tokCells t).length = 4 := rfl
def cellsT (ts : List Tok) : List Value := ts.flatMap tokCells
theorem cellsT_append (a b : List Tok) : cellsT (a ++ b) = cellsT a ++ cellsT b := by simp [cellsT]
theorem cellsT_len : ∀ (ts : List Tok), (cellsT ts).length = ts.length * 4
  | [] => rfl
  | t :: ts => by
    have h2 := cellsT_len ts
    unfold cellsT at h2 ⊢
    rw [List.flatMap_cons, List.length_append, tokCells_len, h2, List.length_cons]; omega
theorem cellsT_get : ∀ {ts : List Tok} {i : Nat} {t : Tok}, ts[i]? = some t → ∀ j v, (tokCells t)[j]? = some v → (cellsT ts)[i * 4 + j]? = some v
  | [], i, t, h, _, _, _ => by simp at h
  | u :: ts, i, t, h, j, v, hj => by
    have hj4 : j < 4 := by have := (List.getElem?_eq_some_iff.1 hj).1; rwa [tokCells_len] at this
    unfold cellsT
    rw [List.flatMap_cons]
    cases i with
    | zero =>
      simp only [List.getElem?_cons_zero, Option.some.injEq] at h
      subst h
      rw [List.getElem?_append_left (by rw [tokCells_len]; omega), Nat.zero_mul, Nat.zero_add]; exact hj
    | succ i =>
      rw [List.getElem?_append_right (by rw [tokCells_len]; omega), tokCells_len, show (i + 1) * 4 + j - 4 = i * 4 + j by omega]
      exact cellsT_get (ts := ts) (by simpa using h) j v hj
theorem tokCells_one (t : Tok) : ∀ u ∈ tokCells t, u.oneCell' = true := by
  intro u hu
  simp [tokCells, str] at hu
  rcases hu with rfl | rfl | rfl | rfl <;> rfl

/-- In world w the slice v holds the tokens ts, in a block below B. -/
def TRest (B : Nat) (w : World) (ts : List Tok) (v : Value) : Prop :=
  ∃ (a : Option Addr) (cap : Nat), v = .slice a ts.length cap ∧ ts.length ≤ cap ∧ cap ≤ maxLen ∧ (a = none → ts.length = 0 ∧ cap = 0) ∧
    (ts.length = 0 ∨ ∃ b off, a = some ⟨b, off, none⟩ ∧ b < B ∧ ∀ i t, ts[i]? = some t → ∀ j u, (tokCells t)[j]? = some u → w.cell? ⟨b, off + i * 4 + j, none⟩ = some u)
theorem TRest.stays {B : Nat} {w w' : World} {ts : List Tok} {v : Value} (h : TRest B w ts v) (hb : Below B w w') : TRest B w' ts v := by
  obtain ⟨a, cap, h1, h2, h3, h4, h5⟩ := h
  refine ⟨a, cap, h1, h2, h3, h4, ?_⟩
  rcases h5 with h6 | ⟨b, off, ha, hl, hc⟩
  · exact .inl h6
  · exact .inr ⟨b, off, ha, hl, fun i t hi j u hj => (hb.cell (p := ⟨b, off + i * 4 + j, none⟩) hl).trans (hc i t hi j u hj)⟩
theorem TRest.mono {B B' : Nat} {w : World} {ts : List Tok} {v : Value} (h : TRest B w ts v) (hb : B ≤ B') : TRest B' w ts v := by
  obtain ⟨a, cap, h1, h2, h3, h4, h5⟩ := h
  refine ⟨a, cap, h1, h2, h3, h4, ?_⟩
  rcases h5 with h6 | ⟨b, off, ha, hl, hc⟩
  · exact .inl h6
  · exact .inr ⟨b, off, ha, by omega, hc⟩
theorem TRest.keep {w w' : World} {ts : List Tok} {v : Value} (h : TRest w.heap.size w ts v) (hb : Below w.heap.size w w') : TRest w'.heap.size w' ts v := (h.stays hb).mono hb.size
theorem trest_nil (B : Nat) (w : World) : TRest B w [] (.slice none 0 0) := ⟨none, 0, rfl, by simp, by simp [maxLen], fun _ => ⟨rfl, rfl⟩, .inl rfl⟩
/-- the shape of a list that is not empty -/
theorem TRest.some {B : Nat} {w : World} {ts : List Tok} {v : Value} (h : TRest B w ts v) (h0 : 0 < ts.length) : ∃ b off cap, v = .slice (.some ⟨b, off, none⟩) ts.length cap ∧ ts.length ≤ cap ∧ cap ≤ 9223372036854775807 ∧ b < B ∧
    ∀ i t, ts[i]? = some t → w.cell? ⟨b, off + i * 4, none⟩ = .some (.int .i64 t.kind) ∧ w.cell? ⟨b, off + i * 4 + 1, none⟩ = .some (str t.text) ∧ w.cell? ⟨b, off + i * 4 + 2, none⟩ = .some (.int .i64 t.n) ∧ w.cell? ⟨b, off + i * 4 + 3, none⟩ = .some (.int .i64 t.at') := by
  obtain ⟨a, cap, rfl, h2, h3, h4, h5⟩ := h
  rcases h5 with h5 | ⟨b, off, rfl, hb, hc⟩
  · omega
  · exact ⟨b, off, cap, rfl, h2, h3, hb, fun i t hi => ⟨hc i t hi 0 _ rfl, hc i t hi 1 _ rfl, hc i t hi 2 _ rfl, hc i t hi 3 _ rfl⟩⟩

/-- a buffer of the call's own that holds the tokens ts -/
def TBuf (w : World) (v : Value) (ts : List Tok) : Prop := w.ownsRow 0 35 4 v ts.length (cellsT ts)
def TNew (w0 w : World) (v : Value) (ts : List Tok) : Prop := TBuf w v ts ∧ Below w0.heap.size w0 w ∧ ∀ k, v.ownBlock = some k → w0.heap.size ≤ k
theorem tbuf_nil (w : World) : TBuf w (.slice none 0 0) [] := World.ownsRow_nil w 0 35 4
theorem tnew_nil (w : World) : TNew w w (.slice none 0 0) [] := ⟨tbuf_nil w, Below.refl _ _, fun k hk => by cases hk⟩
theorem tbuf_stays {w w' : World} {v : Value} {ts : List Tok} (h : TBuf w v ts) (hb : Below w.heap.size w w') : TBuf w' v ts := owns_below h hb
theorem tbuf_rest {w : World} {v : Value} {ts : List Tok} (h : TBuf w v ts) : TRest w.heap.size w ts v := by
  have hown : w.ownsRow 0 35 4 v ts.length (cellsT ts) := h
  rcases hown.2 with ⟨rfl, h0⟩ | ⟨g, cap, cur, rfl, _, hg, hnc, hcm, hcs, htake⟩
  · exact ⟨none, 0, by rw [h0], by omega, by simp [maxLen], fun _ => ⟨h0, rfl⟩, .inl h0⟩
  · refine ⟨some ⟨g, 0, none⟩, cap, rfl, hnc, hcm, (fun h => by cases h), .inr ⟨g, 0, rfl, (Array.getElem?_eq_some_iff.1 hg).1, fun i t hi j u hj => ?_⟩⟩
    have hc := World.ownsRow.cells hown (g := g) rfl (i * 4 + j) _ (cellsT_get hi j u hj)
    rw [Addr.add_lit] at hc
    rw [← hc]
    congr 2; omega
theorem TNew.keep {w0 w w' : World} {v : Value} {ts : List Tok} (h : TNew w0 w v ts) (hb : Below w.heap.size w w') : TNew w0 w' v ts := ⟨tbuf_stays h.1 hb, below_next h.2.1 hb, h.2.2⟩
theorem TNew.from {w0 w1 w : World} {v : Value} {ts : List Tok} (h : TNew w1 w v ts) (hb : Below w0.heap.size w0 w1) : TNew w0 w v ts := ⟨h.1, below_next hb h.2.1, fun k hk => Nat.le_trans hb.size (h.2.2 k hk)⟩

theorem Tryd.info35 : (Tryd.prog.info? 35).map (fun i => (i.zero, i.size, i.bytes)) = some (some (.agg #[.int .i64 0, .string ⟨#[]⟩, .int .i64 0, .int .i64 0]), 4, 40) := by kernel_rfl

theorem wpList_append_tok {w : World} {ops : Array Oper} {rest : List Oper} {o : Oper} {a : Act} {Q : Exit → Act → World → Prop} (hgd : o.guard = none) (s x : Operand)
    (ho : o.op = .call { callee := .builtin .append, args := #[s, x], argTypes := #[23, 23] })
    (v : Value) (ts : List Tok) (hs : a.eval s = v) (hb : TBuf w v ts) (g : Nat) (t : Tok) (hx : a.eval x = .slice (some ⟨g, 0, none⟩) 1 1) (hr : Row w g 35 (tokCells t)) (hlen : ts.length ≤ 1099511627776)
    (h : ∀ v' w', TBuf w' v' (ts ++ [t]) → Wrote w w' v v' → wpList Tryd.prog ops Q rest (a.put o.dst v') w') : wpList Tryd.prog ops Q (o :: rest) a w := by
  obtain ⟨i0, hi, hz0, hz1, hz2⟩ := info_parts Tryd.info35
  have hlx := cellsT_len ts
  refine wpList_append_mine w hgd s x 23 ho 35 i0 _ 4 40 Tryd.underlying23 hi hz0 hz1 hz2 rfl (by decide) v ts.length (cellsT ts) hs hb ⟨g, 0, none⟩ 1 1 (tokCells t) hx (by rw [tokCells_len]) ?_ (tokCells_one t) (by unfold maxLen; omega) (by omega) ?_
  · intro j u hj
    rw [Addr.add_lit, Nat.zero_add]; exact hr.cell hj
  · intro v' w' h1 h2
    refine h v' w' ?_ h2
    unfold TBuf
    rw [List.length_append, cellsT_append, show cellsT [t] = tokCells t by simp [cellsT]]; exact h1
end Go.Proofs.YtilpcchcccbfcaaDoor
