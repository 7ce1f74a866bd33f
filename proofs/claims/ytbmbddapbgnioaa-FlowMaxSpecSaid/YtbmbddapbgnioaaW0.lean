/- Steps appended to lists of the call's own. -/
import Derived.Test.YtbmbddapbgnioaaV2
namespace Go.Proofs.Ytbmbddapbgnioaa
open Go.RowKit Go.Shelf

section
variable {P : Program} (w : World)

theorem run_append_src (t tx ty e : TypeId) (i : TypeInfo) (z : Value) (size bytes : Nat) (ht : P.underlying t = some (.slice e)) (hi : P.info? e = some i) (hz : i.zero = some z)
    (hsize : i.size = size) (hby : i.bytes = bytes) (hzs : z.cells.size = size)
    (v : Value) (n : Nat) (xs : List Value) (hown : w.ownsRow 0 e size v n xs) (hn0 : v ≠ .slice none 0 0) (x : Value) (m : Nat) (news : List Value) (hs : Src P size tx x m news w)
    (h63 : n + m ≤ maxLen) (hbytes : (n + m) * bytes ≤ 140737488355328) :
    ∃ v' w', (Builtin.append_ #[t, tx] ty #[v, x]).run P w = .ok v' w' ∧ w'.ownsRow 0 e size v' (n + m) (xs ++ news) ∧ Wrote w w' v v' := by
  subst hsize
  subst hby
  have hsmall : ((n + m : Nat) : Int) ≤ 9223372036854775807 := by simp only [maxLen] at h63; omega
  have hlen : (xs ++ news).length = (n + m) * i.size := by rw [List.length_append, hown.1, hs.newsLen, Nat.add_mul]
  rcases hown.2 with ⟨h0, _⟩ | ⟨g, cap, cur, rfl, hbg, hg, hnc, hcm, hcs, htake⟩
  · exact absurd h0 hn0
  · by_cases hroom : n + m ≤ cap
    · have hfit : n * i.size + news.length ≤ cur.size := by rw [hs.newsLen, hcs, ← Nat.add_mul]; exact Nat.mul_le_mul_right _ hroom
      have hst := run_storeCells_at P g (n * i.size) e news 0 cur w hg (by simpa using hfit) hs.one
      simp only [Nat.add_zero] at hst
      have hr : (Builtin.append_ #[t, tx] ty #[.slice (some ⟨g, 0, none⟩) n cap, x]).run P w =
          .ok (.slice (some ⟨g, 0, none⟩) (n + m) cap) (w.setRow g (cur.toList.take (n * i.size) ++ news ++ cur.toList.drop (n * i.size + news.length)).toArray) := by
        rcases hs.kind with ⟨e', hk⟩ | hk <;> simp [Builtin.append_, run_underlying ht, run_underlying hk, sizeOf, typeInfo, hi, hs.len, hroom, hs.cells, Addr.add_lit, hst]
      refine ⟨_, _, hr, ⟨hlen, .inr ⟨g, cap, _, rfl, hbg, setRow_heap w g cur _ e _ hg, hroom, hcm, ?_, ?_⟩⟩, ⟨⟨rfl, rfl, rfl, by simp, fun k _ hk => setRow_other w g k _ (fun e => hk (by simp [Value.ownBlock, e]))⟩, .inl rfl⟩⟩
      · simp only [List.size_toArray, List.length_append, List.length_take, List.length_drop, Array.length_toList]
        omega
      · rw [htake, ← hlen]
        exact List.take_left
    · have holds : ∀ j u, xs[j]? = some u → w.cell? ((⟨g, 0, none⟩ : Addr).add j) = some u := hown.cells (g := g) rfl
      have hold := run_firstCells_some (P := P) w.drew i.size n ⟨g, 0, none⟩ n cap xs hown.1 (by simpa using holds)
      have hfitg : Builtin.nextslicecap (n + m) cap * i.bytes ≤ 281474976710656 := growslice_fits (by omega) hbytes
      have hr := run_append_grow_src (P := P) w t tx ty e i z ht hi hz (some ⟨g, 0, none⟩) n cap xs hold x m news hs (by omega) hsmall hfitg
      have hge := grownCap_ge w (n + m) cap e
      have hcm2 : grownCap w (n + m) cap e ≤ maxLen := grownCap_le_maxLen w (n + m) cap e h63
      refine ⟨_, _, hr, ⟨hlen, .inr ⟨w.heap.size, _, _, rfl, Nat.zero_le _, heap_alloc_new w.drew _, hge, hcm2, ?_, ?_⟩⟩, ⟨⟨rfl, rfl, rfl, by simp, fun k hk _ => Below.heap_alloc w.drew _ k hk⟩, .inr fun k hk => ?_⟩⟩
      · simp only [Array.size_append, List.size_toArray, size_zeroCells, hzs, hlen, ← Nat.add_mul]
        congr 1
        omega
      · simp only [Array.toList_append]
        rw [← hlen]
        exact List.take_left
      · simp [Value.ownBlock] at hk; omega

theorem wp_append_src {o : Oper} {a : Act} {K : Act → World → Prop} {Q : Exit → Act → World → Prop} (s x : Operand) (t tx : TypeId)
    (ho : o.op = .call { callee := .builtin .append, args := #[s, x], argTypes := #[t, tx] })
    (e : TypeId) (i : TypeInfo) (z : Value) (size bytes : Nat) (ht : P.underlying t = some (.slice e)) (hi : P.info? e = some i) (hz : i.zero = some z)
    (hsize : i.size = size) (hby : i.bytes = bytes) (hzs : z.cells.size = size)
    (v : Value) (n : Nat) (xs : List Value) (hv : a.eval s = v) (hown : w.ownsRow 0 e size v n xs) (hn0 : v ≠ .slice none 0 0) (y : Value) (hx : a.eval x = y) (m : Nat) (news : List Value) (hs : Src P size tx y m news w)
    (h63 : n + m ≤ maxLen) (hbytes : (n + m) * bytes ≤ 140737488355328)
    (h : ∀ v' w', w'.ownsRow 0 e size v' (n + m) (xs ++ news) → Wrote w w' v v' → K (a.put o.dst v') w') : o.wp P a w K Q := by
  obtain ⟨v', w', hr, h2, h3⟩ := run_append_src (P := P) w t tx o.type e i z size bytes ht hi hz hsize hby hzs v n xs hown hn0 y m news hs h63 hbytes
  unfold Oper.wp execOp
  simp only [ho, resolve, invoke, builtin, Sem.run_bind, Sem.run_pure, Result.andThen_ok, List.map_toArray, List.map_cons, List.map_nil, hv, hx, hr]
  exact h v' w' h2 h3

theorem step_append_src {ops : Array Oper} {o : Oper} {a : Act} {K : Act → World → Prop} {Q : Exit → Act → World → Prop} {E : Prop} (hgd : o.guard = none) (s x : Operand) (t tx : TypeId)
    (ho : o.op = .call { callee := .builtin .append, args := #[s, x], argTypes := #[t, tx] })
    (e : TypeId) (i : TypeInfo) (z : Value) (size bytes : Nat) (ht : P.underlying t = some (.slice e)) (hi : P.info? e = some i) (hz : i.zero = some z)
    (hsize : i.size = size) (hby : i.bytes = bytes) (hzs : z.cells.size = size)
    (v : Value) (n : Nat) (xs : List Value) (hv : a.eval s = v) (hown : w.ownsRow 0 e size v n xs) (hn0 : v ≠ .slice none 0 0) (y : Value) (hx : a.eval x = y) (m : Nat) (news : List Value) (hs : Src P size tx y m news w)
    (h63 : n + m ≤ maxLen) (hbytes : (n + m) * bytes ≤ 140737488355328)
    (h : ∀ v' w', w'.ownsRow 0 e size v' (n + m) (xs ++ news) → Wrote w w' v v' → K (a.put o.dst v') w') :
    if Region.wanted o (yielded ops a.tmps) = true then Oper.wp P o a w K Q else E := by
  have hw : Region.wanted o (yielded ops a.tmps) = true := by simp [Region.wanted, hgd]
  rw [if_pos hw]
  exact wp_append_src w s x t tx ho e i z size bytes ht hi hz hsize hby hzs v n xs hv hown hn0 y hx m news hs h63 hbytes h

/-- The same, the slice nil or not, the source a slice's cells. -/
theorem step_append_mine {ops : Array Oper} {o : Oper} {a : Act} {K : Act → World → Prop} {Q : Exit → Act → World → Prop} {E : Prop} (hgd : o.guard = none) (s x : Operand) (t : TypeId)
    (ho : o.op = .call { callee := .builtin .append, args := #[s, x], argTypes := #[t, t] })
    (e : TypeId) (i : TypeInfo) (z : Value) (size bytes : Nat) (ht : P.underlying t = some (.slice e)) (hi : P.info? e = some i) (hz : i.zero = some z)
    (hsize : i.size = size) (hby : i.bytes = bytes) (hzs : z.cells.size = size) (hsz : 0 < size)
    (v : Value) (n : Nat) (xs : List Value) (hv : a.eval s = v) (hown : w.ownsRow 0 e size v n xs) (ad : Addr) (m c : Nat) (news : List Value) (hx : a.eval x = .slice (some ad) m c) (hl : news.length = m * size)
    (hnews : ∀ j u, news[j]? = some u → w.cell? (ad.add j) = some u) (h1 : ∀ u ∈ news, u.oneCell' = true)
    (h63 : n + m ≤ maxLen) (hbytes : (n + m) * bytes ≤ 140737488355328)
    (h : ∀ v' w', w'.ownsRow 0 e size v' (n + m) (xs ++ news) → Wrote w w' v v' → K (a.put o.dst v') w') :
    if Region.wanted o (yielded ops a.tmps) = true then Oper.wp P o a w K Q else E := by
  have hw : Region.wanted o (yielded ops a.tmps) = true := by simp [Region.wanted, hgd]
  rw [if_pos hw]
  rcases hown.2 with ⟨rfl, rfl⟩ | ⟨g, cap, cur, rfl, _⟩
  · have hx0 : xs = [] := List.eq_nil_of_length_eq_zero (by simpa using hown.1)
    subst hx0
    refine wp_append_own w s x t ho w.heap.size e i z size bytes ht hi hz hsize hby hzs hsz (.slice none 0 0) 0 [] hv (World.ownsRow_nil w _ e size) ad m c news hx hl hnews h1 h63 hbytes (Nat.le_refl _) fun v' w' h2 h3 _ => ?_
    exact h v' w' (Joins.ownsRow_le h2 (Nat.zero_le _)) ⟨h3, .inr fun k hk => (h2.lt k hk).1⟩
  · exact wp_append_src w s x t t ho e i z size bytes ht hi hz hsize hby hzs _ n xs hv hown (by simp) _ hx m news (Src.ofSlice w ht ad m c news hl hnews h1) h63 hbytes h
end



theorem Try.infoS : (Try.prog.info? 72).map (fun i => (i.zero, i.size, i.bytes)) = some (some (.agg #[.int .i64 0, .int .i64 0, .int .i64 0]), 3, 24) := by kernel_rfl
def stC (e : St) : List Value := [.int .i64 (e.1 : Int), .int .i64 (e.2.1 : Int), .int .i64 (e.2.2 : Int)]
def stsC : List St → List Value
  | [] => []
  | e :: l => .int .i64 (e.1 : Int) :: .int .i64 (e.2.1 : Int) :: .int .i64 (e.2.2 : Int) :: stsC l
theorem stsC_len : ∀ l : List St, (stsC l).length = l.length * 3
  | [] => rfl
  | e :: l => by simp [stsC, stsC_len l]; omega
theorem stsC_app : ∀ a b : List St, stsC (a ++ b) = stsC a ++ stsC b
  | [], _ => rfl
  | e :: a, b => by simp [stsC, stsC_app a b]
theorem stsC_at : ∀ {l : List St} {j : Nat} {e : St}, l[j]? = some e → (stsC l)[j * 3]? = some (.int .i64 (e.1 : Int)) ∧ (stsC l)[j * 3 + 1]? = some (.int .i64 (e.2.1 : Int)) ∧ (stsC l)[j * 3 + 2]? = some (.int .i64 (e.2.2 : Int))
  | [], j, e, h => by simp at h
  | x :: l, 0, e, h => by
    obtain rfl : x = e := by simpa using h
    exact ⟨rfl, rfl, rfl⟩
  | x :: l, j + 1, e, h => by
    have := stsC_at (l := l) (j := j) (e := e) (by simpa using h)
    rw [show (j + 1) * 3 = j * 3 + 1 + 1 + 1 by omega]
    simpa [stsC] using this
def SBuf (w : World) (v : Value) (l : List St) : Prop := w.ownsRow 0 72 3 v l.length (stsC l)
theorem SBuf.keep {w w' : World} {v : Value} {l : List St} (h : SBuf w v l) (hb : Below w.heap.size w w') : SBuf w' v l := owns_below h hb
theorem SBuf.same {w w' : World} {v : Value} {l : List St} (h : SBuf w v l) (he : ∀ k, v.ownBlock = some k → w'.heap[k]? = w.heap[k]?) : SBuf w' v l := by
  refine ⟨h.1, ?_⟩
  rcases h.2 with h0 | ⟨g, cap, cur, rfl, h2, h3, h4⟩
  · exact .inl h0
  · exact .inr ⟨g, cap, cur, rfl, h2, (he g rfl).trans h3, h4⟩
theorem sbuf_nil (w : World) : SBuf w (.slice none 0 0) [] := World.ownsRow_nil _ _ _ _
theorem SBuf.shape {w : World} {v : Value} {l : List St} (h : SBuf w v l) : ∃ a cap, v = .slice a l.length cap ∧ l.length ≤ cap ∧ cap ≤ maxLen ∧ ∀ j e, l[j]? = some e → ∃ b, a = some ⟨b, 0, none⟩ ∧ v.ownBlock = some b ∧ w.cell? ⟨b, j * 3, none⟩ = some (.int .i64 (e.1 : Int)) ∧ w.cell? ⟨b, j * 3 + 1, none⟩ = some (.int .i64 (e.2.1 : Int)) ∧ w.cell? ⟨b, j * 3 + 2, none⟩ = some (.int .i64 (e.2.2 : Int)) := by
  rcases h.2 with ⟨rfl, h0⟩ | ⟨g, cap, cur, rfl, _, hg, h1, h2, _, _⟩
  · refine ⟨none, 0, by rw [h0], by omega, by unfold maxLen; omega, fun j e he => ?_⟩
    obtain rfl := List.eq_nil_of_length_eq_zero h0
    simp at he
  · refine ⟨_, cap, rfl, h1, h2, fun j e he => ⟨g, rfl, rfl, ?_⟩⟩
    obtain ⟨k1, k2, k3⟩ := stsC_at he
    have c1 := World.ownsRow.cells h (g := g) rfl _ _ k1
    have c2 := World.ownsRow.cells h (g := g) rfl _ _ k2
    have c3 := World.ownsRow.cells h (g := g) rfl _ _ k3
    rw [Addr.add_lit, Nat.zero_add] at c1 c2 c3
    exact ⟨c1, c2, c3⟩
theorem step_st {w : World} {ops : Array Oper} {o : Oper} {a : Act} {K : Act → World → Prop} {Q : Exit → Act → World → Prop} {E : Prop} (hgd : o.guard = none) (s x : Operand)
    (ho : o.op = .call { callee := .builtin .append, args := #[s, x], argTypes := #[67, 67] })
    (v : Value) (l : List St) (hs : a.eval s = v) (hb : SBuf w v l) (b : Nat) (e : St) (hx : a.eval x = .slice (some ⟨b, 0, none⟩) 1 1) (hr : Row w b 72 (stC e)) (hlen : l.length ≤ 100000)
    (h : ∀ v' w', SBuf w' v' (l ++ [e]) → Wrote w w' v v' → K (a.put o.dst v') w') : if Region.wanted o (yielded ops a.tmps) = true then Oper.wp Try.prog o a w K Q else E := by
  obtain ⟨i0, hi, hz⟩ := info_parts Try.infoS
  simp only [Prod.mk.injEq] at hz
  obtain ⟨hz0, hz1, hz2⟩ := hz
  refine step_append_mine w hgd s x 67 ho 72 i0 _ 3 24 Try.underlying67 hi hz0 hz1 hz2 rfl (by decide) v l.length (stsC l) hs hb ⟨b, 0, none⟩ 1 1 (stC e) hx rfl (fun j u hj => ?_) (fun u hu => ?_) (by unfold maxLen; omega) (by omega) fun v' w' h1 h2 => h v' w' ?_ h2
  · rw [Addr.add_lit, Nat.zero_add]; exact hr.cell hj
  · simp [stC] at hu; rcases hu with rfl | rfl | rfl <;> rfl
  · unfold SBuf
    rw [stsC_app, List.length_append]
    exact h1
/-- the rest of a network while it is laid -/
structure RMem (w : World) (g N s t : Nat) (va : Value) (lf : Nat → Nat → Int) (SV : Nat → Value) (SL : Nat → List St) (W : World) : Prop where
  n : W.cell? ⟨g, 0, none⟩ = some (.int .i64 (N : Int))
  s : W.cell? ⟨g, 1, none⟩ = some (.int .i64 (s : Int))
  t : W.cell? ⟨g, 2, none⟩ = some (.int .i64 (t : Int))
  a : W.cell? ⟨g, 3, none⟩ = some va
  lf : ∀ k b, k < 512 → b < 2 → W.cell? ⟨g, 4 + k * 2 + b, none⟩ = some (.int .i64 (lf k b))
  st : ∀ v, v < 64 → W.cell? ⟨g, 1028 + v, none⟩ = some (SV v)
  fr : ∀ o, W.frozen? ⟨g, o, none⟩ = false
  buf : ∀ v, v < 64 → SBuf W (SV v) (SL v)
  own : ∀ v, v < 64 → ∀ b, (SV v).ownBlock = some b → g < b
  dis : ∀ v v', v < 64 → v' < 64 → v ≠ v' → ∀ b, (SV v).ownBlock = some b → (SV v').ownBlock ≠ some b
  bw : Below w.heap.size w W
  go : w.heap.size < g
section
variable {w : World} {g N s t : Nat} {va : Value} {lf : Nat → Nat → Int} {SV : Nat → Value} {SL : Nat → List St} {W W' : World}
theorem RMem.lt (h : RMem w g N s t va lf SV SL W) : g < W.heap.size := lt_of_cell h.n
theorem RMem.keep (h : RMem w g N s t va lf SV SL W) (hb : Below W.heap.size W W') : RMem w g N s t va lf SV SL W' := by
  have hg := hb.block g h.lt
  exact ⟨(cell_same hg).trans h.n, (cell_same hg).trans h.s, (cell_same hg).trans h.t, (cell_same hg).trans h.a, fun k b hk hb2 => (cell_same hg).trans (h.lf k b hk hb2), fun v hv => (cell_same hg).trans (h.st v hv), fun o => (frozen_same hg).trans (h.fr o), fun v hv => (h.buf v hv).keep hb, h.own, h.dis, below_next h.bw hb, h.go⟩
theorem RMem.left (h : RMem w g N s t va lf SV SL W) {k b : Nat} (hk : k < 512) (hb : b < 2) (x : Int) : RMem w g N s t va (upd lf k b x) SV SL (W.setCell ⟨g, 4 + k * 2 + b, none⟩ (.int .i64 x)) := by
  have ho : ∀ o, 4 + k * 2 + b ≠ o → (W.setCell ⟨g, 4 + k * 2 + b, none⟩ (.int .i64 x)).cell? ⟨g, o, none⟩ = W.cell? ⟨g, o, none⟩ := fun o h => World.cell?_setCell_other _ _ _ _ (fun e => by injection e with _ e _; exact h e)
  have hgo := h.go
  refine ⟨(ho 0 (by omega)).trans h.n, (ho 1 (by omega)).trans h.s, (ho 2 (by omega)).trans h.t, (ho 3 (by omega)).trans h.a, fun k' b' hk' hb' => ?_, fun v hv => (ho _ (by omega)).trans (h.st v hv), fun o => by simp [h.fr o], fun v hv => (h.buf v hv).same (fun i hi => heap_setCell_other W ⟨g, _, none⟩ i _ (by have := h.own v hv i hi; simp; omega)), h.own, h.dis, below_setCell h.bw _ _ _ (by omega), h.go⟩
  unfold upd
  by_cases e : k' = k ∧ b' = b
  · obtain ⟨rfl, rfl⟩ := e
    rw [if_pos ⟨rfl, rfl⟩]
    exact World.cell?_setCell_same _ _ _ (h.lf k' b' hk' hb')
  · rw [if_neg e, ho _ (by omega)]
    exact h.lf k' b' hk' hb'
/-- a step more from u -/
theorem RMem.app (h : RMem w g N s t va lf SV SL W) {u : Nat} (hu : u < 64) {e : St} {v' : Value} (hi : SBuf W' v' (SL u ++ [e])) (hw : Wrote W W' (SV u) v') :
    RMem w g N s t va lf (fun v => if v = u then v' else SV v) (fun v => if v = u then SL u ++ [e] else SL v) (W'.setCell ⟨g, 1028 + u, none⟩ v') := by
  have hgo := h.go
  have hgl := h.lt
  have hgW : W'.heap[g]? = W.heap[g]? := hw.grown.block g hgl (fun e => by have := h.own u hu g e.symm; omega)
  have hc : ∀ o, W'.cell? ⟨g, o, none⟩ = W.cell? ⟨g, o, none⟩ := fun o => cell_same hgW
  have ho : ∀ o, 1028 + u ≠ o → (W'.setCell ⟨g, 1028 + u, none⟩ v').cell? ⟨g, o, none⟩ = W.cell? ⟨g, o, none⟩ := fun o h => (World.cell?_setCell_other _ _ _ _ (fun e => by injection e with _ e _; exact h e)).trans (hc o)
  have hown' : ∀ b, v'.ownBlock = some b → g < b := fun b hb => by
    rcases hw.own with e1 | e1
    · rw [e1] at hb; exact h.own u hu b hb
    · have := e1 b hb; omega
  have hbe : ∀ i, i ≠ g → (W'.setCell ⟨g, 1028 + u, none⟩ v').heap[i]? = W'.heap[i]? := fun i hi => heap_setCell_other W' ⟨g, _, none⟩ i _ hi
  refine ⟨(ho 0 (by omega)).trans h.n, (ho 1 (by omega)).trans h.s, (ho 2 (by omega)).trans h.t, (ho 3 (by omega)).trans h.a, fun k b hk hb => (ho _ (by omega)).trans (h.lf k b hk hb), fun v hv => ?_, fun o => ?_, fun v hv => ?_, fun v hv b hb => ?_, fun v v2 hv hv2 hne b hb => ?_, ?_, h.go⟩
  · by_cases e : v = u
    · subst e
      simp only [if_true]
      exact World.cell?_setCell_same _ _ _ ((hc _).trans (h.st v hv))
    · simp only [if_neg e]
      exact (ho _ (by omega)).trans (h.st v hv)
  · have := (frozen_same (o := o) hgW).trans (h.fr o)
    simpa using this
  · by_cases e : v = u
    · subst e
      simp only [if_true]
      exact hi.same fun i hi2 => hbe i (by have := hown' i hi2; omega)
    · simp only [if_neg e]
      refine (h.buf v hv).same fun i hi2 => ?_
      have h1 := h.own v hv i hi2
      refine (hbe i (by omega)).trans (hw.grown.block i (owns_lt (h.buf v hv) i hi2) (fun e2 => h.dis v u hv hu e i hi2 e2.symm))
  · by_cases e : v = u
    · simp only [if_pos e] at hb; exact hown' b hb
    · simp only [if_neg e] at hb; exact h.own v hv b hb
  · have hnew : ∀ z, z < 64 → z ≠ u → ∀ b, v'.ownBlock = some b → (SV z).ownBlock ≠ some b := fun z hz hzu b hb hb2 => by
      rcases hw.own with e1 | e1
      · rw [e1] at hb; exact h.dis z u hz hu hzu b hb2 hb
      · have := e1 b hb; have := owns_lt (h.buf z hz) b hb2; omega
    by_cases e : v = u
    · simp only [if_pos e] at hb
      have e2 : v2 ≠ u := fun e2 => hne (e.trans e2.symm)
      simp only [if_neg e2]
      exact hnew v2 hv2 e2 b hb
    · simp only [if_neg e] at hb
      by_cases e2 : v2 = u
      · simp only [if_pos e2]
        exact fun hb2 => hnew v hv e b hb2 hb
      · simp only [if_neg e2]
        exact h.dis v v2 hv hv2 hne b hb
  · have hb1 : Below w.heap.size w W' := h.bw.trans (hw.toBelow h.bw.size fun k hk => by have := h.own u hu k hk; omega)
    exact below_setCell hb1 _ _ _ (by omega)
end
end Go.Proofs.Ytbmbddapbgnioaa
