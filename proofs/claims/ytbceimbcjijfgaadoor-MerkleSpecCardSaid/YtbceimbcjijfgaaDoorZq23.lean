/- A region that draws its order, in a round of a range over a function: walked as outside. -/
import Derived.Deep.RegionHeld3
import Derived.OrdersHeld
import Derived.Test.YtbceimbcjijfgaaDoorZq22
namespace Go.Proofs.YtbceimbcjijfgaaDoor.Dig
open Go.RowKit Go.Shelf

theorem rows_inRound {n l : Nat} {P : Program} {row : String} {args : Array Value} {w : World} {R : Value → World → Prop} (h : Rows P row args w R) : RowsIn (Fence.wide.inRound l) n P row args w R :=
  fun c cs _ => let ⟨v, w', r, s⟩ := h c cs; ⟨v, w', r, stepsIn_wide.2 s⟩
/-- an operation, but for a defer: in a round as outside -/
theorem wpIn_of_wp {n l : Nat} {P : Program} {o : Oper} {a : Act} {w : World} {K : Act → World → Prop} {Q : Exit → Act → World → Prop} (hnd : ∀ c, o.op ≠ .defer c) (h : o.wp P a w K Q) : o.wpIn (Fence.wide.inRound l) n P a w K Q := by
  refine ⟨fun f _ => trivial, ?_⟩
  rw [show (Fence.wide.inRound l).round = some l from rfl, Oper.semAt_some l _ _ hnd]
  unfold Oper.wp at h
  generalize (execOp a.eval o).run P w = r at h
  match r, h with
  | .ok (.value v) w', h => exact h
  | .ok .skip w', h => exact h
  | .ok (.defer d) w', h => exact h
  | .ok (.enter f args) w', h => exact ⟨(fun e => by cases e), CallsIn.inRound l (callsIn_wide.2 h)⟩
  | .ok (.row row args) w', h => exact ⟨(fun e => by cases e), rows_inRound h⟩
  | .halt (.panic v) w', h => exact h
theorem wpAny_inRound {n l : Nat} {P : Program} {md : Region.Mode} {ops : Array Oper} {Q : Exit → Act → World → Prop} (hno : ¬ LetsOut Q) (hnd : ∀ (i : Nat) (o : Oper), ops[i]? = some o → ∀ c, o.op ≠ .defer c) :
    ∀ (fuel : Nat) (listed : Array Bool) (a : Act) (w : World), wpAny P md ops Q fuel listed a w → wpAnyIn (Fence.wide.inRound l) n P md ops Q fuel listed a w
  | 0, _, _, _, h => h
  | fuel + 1, listed, a, w, h => ⟨h.1, fun i hi => by
    have h2 := h.2 i hi
    unfold wpOp at h2
    unfold wpOpIn
    cases ho : ops[i]? with
    | none => rw [ho] at h2; exact wpAny_inRound hno hnd fuel _ a w h2
    | some o =>
      rw [ho] at h2
      dsimp only at h2 ⊢
      by_cases hw : Region.wanted o (yielded ops a.tmps) = true
      · rw [if_pos hw] at h2 ⊢
        rcases h2 with h2 | h2
        · exact wpIn_of_wp (hnd i o ho) (Oper.wp_mono (fun a' w' h' => wpAny_inRound hno hnd fuel _ a' w' h') h2)
        · exact absurd h2.2 hno
      · rw [if_neg hw] at h2 ⊢
        exact ⟨fun _ _ => trivial, wpAny_inRound hno hnd fuel _ _ w h2⟩⟩
theorem toldPost_shut {α : Type} (C : Nat) (B : Nat → Prop) (I : List α → World → Prop) (xs : List α) (W : World) : ¬ LetsOut (toldPost C B I xs W) := fun ⟨_, _, h⟩ => h
/-- a region in a round, by the walk that holds S -/
theorem wpIn_region_round {n l id : Nat} {P : Program} {ops : Array Oper} {Q : Exit → Act → World → Prop} {a : Act} {w : World} (S : World → Prop) (hm : P.follows .mixedOrders = true) (hno : ¬ LetsOut Q) (hnd : (ops.all fun o => match o.op with | .defer _ => false | _ => true) = true)
    (h : wpAnyH P .any ops Q S ops.size (Array.replicate ops.size false) a w.drew) : (Code.region id ops true).wpIn (Fence.wide.inRound l) n P Q a w :=
  wpIn_region_any hm (wpAny_inRound hno (fun i o ho c hc => by
    have h1 := (Array.all_eq_true.1 hnd) i (Array.getElem?_eq_some_iff.1 ho).1
    rw [(Array.getElem?_eq_some_iff.1 ho).2, hc] at h1
    cases h1) _ _ _ _ (wpAny_of_held _ _ _ _ h))
end Go.Proofs.YtbceimbcjijfgaaDoor.Dig

/- The path of a leaf: the program's function. -/
namespace Go.Proofs.YtbceimbcjijfgaaDoor.Dig
open Go.RowKit Go.Shelf
attribute [local go_sem] Oper.semAt_some

/-- a round: the row after the row, and the path -/
def pvS (s : List (List UInt8) × List (List UInt8)) (x : Nat × Nat) : List (List UInt8) × List (List UInt8) := (nxD s.1, if bs x.2 < x.1 then s.2 ++ [s.1.getD (bs x.2) []] else s.2)
def pvF (ds : List (List UInt8)) (L : List (Nat × Nat)) : List (List UInt8) × List (List UInt8) := L.foldl pvS (ds, [])
theorem pvF_snoc (ds : List (List UInt8)) (L : List (Nat × Nat)) (x : Nat × Nat) : pvF ds (L ++ [x]) = pvS (pvF ds L) x := by simp [pvF]
theorem nxD_len (ds : List (List UInt8)) : (nxD ds).length = (ds.length + 1) / 2 := nx_len _ _ _
theorem digs_nx : ∀ {ds : List (List UInt8)}, Digs ds → Digs (nxD ds)
  | [], _ => by unfold nxD; rw [nx_nil]; exact fun d hd => by cases hd
  | [x], h => by unfold nxD; rw [nx_one]; exact h
  | x :: y :: r, h => by
    unfold nxD; rw [nx_two]
    intro d hd
    rcases List.mem_cons.1 hd with rfl | hd
    · exact sha_len _
    · exact digs_nx (ds := r) (fun e he => h e (by simp [he])) d hd
theorem pv_all : ∀ (f n i : Nat) (ds acc : List (List UInt8)), ds.length = n → ((stL f n i).foldl pvS (ds, acc)).2 = acc ++ pth sha Ndd f ds i
  | 0, _, _, _, acc, _ => by simp [stL, pth]
  | f + 1, n, i, ds, acc, h => by
    subst h
    rw [stL, pth]
    by_cases h1 : ds.length ≤ 1
    · rw [if_pos h1, if_pos h1]; simp
    · rw [if_neg h1, if_neg h1, List.foldl_cons]
      show ((stL f ((ds.length + 1) / 2) (i / 2)).foldl pvS (nxD ds, _)).2 = _
      rw [pv_all f _ (i / 2) (nxD ds) _ (nxD_len ds)]
      show (if bs i < ds.length then acc ++ [ds.getD (bs i) []] else acc) ++ _ = _
      by_cases h2 : bs i < ds.length
      · rw [if_pos h2, if_pos h2]; simp [nxD]
      · rw [if_neg h2, if_neg h2]; simp [nxD]
theorem pv_row : ∀ (f n i : Nat) (ds acc : List (List UInt8)) (pre : List (Nat × Nat)) (x : Nat × Nat) (rest : List (Nat × Nat)), ds.length = n → Digs ds → stL f n i = pre ++ x :: rest →
    (pre.foldl pvS (ds, acc)).1.length = x.1 ∧ Digs (pre.foldl pvS (ds, acc)).1
  | 0, _, _, _, _, pre, x, rest, _, _, h => by
    have := congrArg List.length h
    simp [stL] at this
  | f + 1, n, i, ds, acc, pre, x, rest, hn, hD, h => by
    rw [stL] at h
    by_cases h1 : n ≤ 1
    · rw [if_pos h1] at h
      have := congrArg List.length h
      simp at this
    · rw [if_neg h1] at h
      match pre, h with
      | [], h =>
        rw [List.nil_append, List.cons.injEq] at h
        rw [← h.1]
        exact ⟨hn, hD⟩
      | y :: pre, h =>
        rw [List.cons_append, List.cons.injEq] at h
        rw [← h.1, List.foldl_cons]
        exact pv_row f ((n + 1) / 2) (i / 2) (nxD ds) _ pre x rest (by rw [nxD_len, hn]) (digs_nx hD) h.2
theorem pv_plen : ∀ (L : List (Nat × Nat)) (s : List (List UInt8) × List (List UInt8)), (L.foldl pvS s).2.length ≤ s.2.length + L.length
  | [], s => by simp
  | x :: L, s => by
    rw [List.foldl_cons]
    have h := pv_plen L (pvS s x)
    have h2 : (pvS s x).2.length ≤ s.2.length + 1 := by unfold pvS; dsimp only; split <;> simp
    simp only [List.length_cons]; omega
theorem stL_le : ∀ (f n i : Nat) (x : Nat × Nat), x ∈ stL f n i → x.1 ≤ n
  | 0, n, i, x, h => by simp [stL] at h
  | f + 1, n, i, x, h => by
    rw [stL] at h
    split at h
    · simp at h
    · rcases List.mem_cons.1 h with rfl | h
      · exact Nat.le_refl _
      · have := stL_le f _ _ x h; omega
set_option maxHeartbeats 4000000 in
set_option maxRecDepth 100000 in
theorem Prove_bad (ls : List (List UInt8)) (i : Int) (v : Value) (w : World) (hr : LRest w.heap.size w ls v) (hl : isL (ls.length : Int) i = false) :
    Calls Tryd.prog 12 #[v, .int .i64 i] w fun e w' => e = .returned (.tuple #[.slice none 0 0, .int .i64 1]) ∧ Below w.heap.size w w' := by
  obtain ⟨a0, cap0, rfl⟩ : ∃ a cap, v = .slice a ls.length cap := by obtain ⟨a, cap, h, _⟩ := hr; exact ⟨a, cap, h⟩
  have HL := Lib.hid hl
  obtain ⟨n, hn⟩ : ∃ n, n = ls.length := ⟨_, rfl⟩
  rw [← hn] at HL ⊢
  clear hr hl hn
  have HB1 := Lib.hid (Joins.below_alloc1 w (.cells #[.slice none 0 0] 25))
  have c1 : (w.alloc (.cells #[.slice none 0 0] 25)).cell? ⟨w.heap.size, 0, none⟩ = some (.slice none 0 0) := (row_new w 25 [.slice none 0 0]).cell (i := 0) rfl
  go_enter Tryd.func12, Tryd.ntmps12
  go_wp2_with (first
    | (go_at_call 23; refine (isLeaf_call n i _).mono ?_; rintro e w2 ⟨rfl, rfl⟩; rw [HL.out])
    | fail)
  exact bodyPost_ret (v := .tuple #[.slice none 0 0, .int .i64 1]) (by simp [results, Tryd.results12, go_sem, c1]) rfl ⟨rfl, HB1.out⟩
/-- what holds between two rounds -/
def PvI (w : World) (N : Nat) (ds : List (List UInt8)) (gr : Nat) (pre : List (Nat × Nat)) (W : World) : Prop :=
  (∃ vp vr, Row W w.heap.size 25 [vp] ∧ DBuf W vp (pvF ds pre).2 ∧ (∀ k, vp.ownBlock = some k → N ≤ k) ∧ Row W gr 25 [vr] ∧ DBuf W vr (pvF ds pre).1 ∧ ∀ k, vr.ownBlock = some k → k ≠ gr ∧ k ≠ w.heap.size ∧ vp.ownBlock ≠ some k) ∧ N ≤ W.heap.size ∧ Below w.heap.size w W
theorem dbuf_block {w w' : World} {v : Value} {ds : List (List UInt8)} (h : DBuf w v ds) (hb : ∀ k, v.ownBlock = some k → k < w.heap.size → w'.heap[k]? = w.heap[k]?) : DBuf w' v ds := by
  refine ⟨h.1, h.2.1, ?_⟩
  rcases h.2.2 with h3 | ⟨g, cap, cur, h4, h5, h6, h7⟩
  · exact .inl h3
  · exact .inr ⟨g, cap, cur, h4, h5, (hb g (by rw [h4]; rfl) (Array.getElem?_eq_some_iff.1 h6).1).trans h6, h7⟩
theorem dbuf_wrote {w w' : World} {u u' v : Value} {ds : List (List UInt8)} (h : DBuf w v ds) (hw : Wrote w w' u u') (hne : ∀ k, v.ownBlock = some k → u.ownBlock ≠ some k) : DBuf w' v ds :=
  dbuf_block h fun k hk hl => hw.grown.block k hl (fun e => hne k hk e.symm)
theorem dbuf_setCell {w : World} {v : Value} {ds : List (List UInt8)} (h : DBuf w v ds) (g i : Nat) (x : Value) (hne : ∀ k, v.ownBlock = some k → k ≠ g) : DBuf (w.setCell ⟨g, i, none⟩ x) v ds :=
  dbuf_block h fun k hk _ => heap_setCell_other w ⟨g, i, none⟩ k x (hne k hk)
theorem dbuf_lt {w : World} {v : Value} {ds : List (List UInt8)} (h : DBuf w v ds) : ∀ k, v.ownBlock = some k → k < w.heap.size := by
  intro k hk
  rcases h.2.2 with ⟨h3, _⟩ | ⟨g, cap, cur, h4, h5, h6, h7⟩
  · rw [h3] at hk; cases hk
  · rw [h4] at hk
    have : g = k := Option.some.inj hk
    subst this
    exact (Array.getElem?_eq_some_iff.1 h6).1
theorem dbuf_shape {w : World} {v : Value} {ds : List (List UInt8)} (h : DBuf w v ds) : ∃ a c, v = .slice a ds.length c := by
  rcases h.2.2 with ⟨h3, h0⟩ | ⟨g, cap, cur, h4, _⟩
  · exact ⟨none, 0, by rw [h3, h0]⟩
  · exact ⟨_, _, h4⟩
theorem row_wrote {w w' : World} {g T : Nat} {cs : List Value} {u v : Value} (h : Row w g T cs) (hw : Wrote w w' u v) (hne : ∀ k, u.ownBlock = some k → k ≠ g) : Row w' g T cs :=
  (hw.grown.block g h.lt (fun e => hne g e.symm rfl)).trans h
theorem keeps_wrote {w w' : World} {u v : Value} {ds : List (List UInt8)} (h : DBuf w u ds) (hw : Wrote w w' u v) : KeepsOthers w w' :=
  ⟨hw.grown.size, fun k o hk ho => by
    refine (hw.grown.block k (Array.getElem?_eq_some_iff.1 hk).1 fun e => ?_).trans hk
    rcases h.2.2 with ⟨h3, _⟩ | ⟨g, cap, cur, h4, h5, h6, h7⟩
    · rw [h3] at e; cases e
    · rw [h4] at e
      have : k = g := Option.some.inj e
      subst this
      rw [h6] at hk
      cases hk
      cases ho⟩
theorem kps_wrote {S : Nat → Prop} {w w' : World} {u v : Value} (hw : Wrote w w' u v) (hS : ∀ k, u.ownBlock = some k → ¬ S k) : KpS S w w' :=
  ⟨hw.grown.size, fun b hb hl => hw.grown.block b hl fun e => hS b e.symm hb⟩
/-- in a round, behind the path's step: the row is still the old one -/
def PvSt (w : World) (N : Nat) (W W8 : World) (S : Nat → Prop) (gr : Nat) (path row : List (List UInt8)) (vp vr : Value) : Prop :=
  KeepsOthers W W8 ∧ KpS S W W8 ∧ Row W8 w.heap.size 25 [vp] ∧ DBuf W8 vp path ∧ (∀ k, vp.ownBlock = some k → N ≤ k) ∧ Row W8 gr 25 [vr] ∧ DBuf W8 vr row ∧ (∀ k, vr.ownBlock = some k → k ≠ gr ∧ k ≠ w.heap.size ∧ vp.ownBlock ≠ some k) ∧ N ≤ W8.heap.size ∧ Below w.heap.size w W8
theorem pvst_end {w W W8 w9 : World} {N : Nat} {S : Nat → Prop} {gr C : Nat} {path row nrow : List (List UInt8)} {vp vr v9 : Value} (h : PvSt w N W W8 S gr path row vp vr) (h9 : DNew W8 w9 v9 nrow) (hS : ¬ S gr) (hgr : w.heap.size < gr) (hg3 : gr < N) :
    KeepsFrom C W (w9.setCell ⟨gr, 0, none⟩ v9) ∧ KpS S W (w9.setCell ⟨gr, 0, none⟩ v9) ∧ (∃ vp vr, Row (w9.setCell ⟨gr, 0, none⟩ v9) w.heap.size 25 [vp] ∧ DBuf (w9.setCell ⟨gr, 0, none⟩ v9) vp path ∧ (∀ k, vp.ownBlock = some k → N ≤ k) ∧ Row (w9.setCell ⟨gr, 0, none⟩ v9) gr 25 [vr] ∧ DBuf (w9.setCell ⟨gr, 0, none⟩ v9) vr nrow ∧ ∀ k, vr.ownBlock = some k → k ≠ gr ∧ k ≠ w.heap.size ∧ vp.ownBlock ≠ some k) ∧ N ≤ (w9.setCell ⟨gr, 0, none⟩ v9).heap.size ∧ Below w.heap.size w (w9.setCell ⟨gr, 0, none⟩ v9) := by
  obtain ⟨h1, h2, h3, h4, h4n, h5, h6, h7, h8n, h8⟩ := h
  have hb := h9.2.1
  have h48 := dbuf_stays h4 hb
  have hl8 := h5.lt
  have hs9 := hb.size
  refine ⟨((h1.trans (others_below hb)).trans (KeepsOthers.setCell _ _ _)).from _, (h2.trans (.below hb)).trans ⟨by simp, KeepS.setCell _ _ _ _ hS⟩, ⟨vp, v9, (h3.keep hb).setFar 0 _ (by omega), dbuf_setCell h48 gr 0 _ (fun k hk => by have := h4n k hk; omega), h4n, (h5.keep hb).set (cs' := [v9]) 0 _ rfl, dbuf_setCell h9.1 gr 0 _ (fun k hk => by have := h9.2.2 k hk; omega), fun k hk => ?_⟩, by rw [World.size_setCell]; omega, below_setCell (below_next h8 hb) gr 0 _ (by omega)⟩
  have h10 := h9.2.2 k hk
  refine ⟨by omega, by omega, fun e => ?_⟩
  have := dbuf_lt h4 k e
  omega
/-- the path's step -/
theorem pvst_new {w W V w6 w7 : World} {N : Nat} {S : Nat → Prop} {gr : Nat} {path row : List (List UInt8)} {d : List UInt8} {vp vr v7 : Value} (hV : Below W.heap.size W V) (h6 : Below V.heap.size V w6) (h7 : DBuf w7 v7 (path ++ [d])) (hw : Wrote w6 w7 vp v7)
    (h3 : Row V w.heap.size 25 [vp]) (h4 : DBuf V vp path) (h4n : ∀ k, vp.ownBlock = some k → N ≤ k) (h5 : Row V gr 25 [vr]) (h6d : DBuf V vr row) (hsep : ∀ k, vr.ownBlock = some k → k ≠ gr ∧ k ≠ w.heap.size ∧ vp.ownBlock ≠ some k) (hN : N ≤ W.heap.size) (hB : Below w.heap.size w W) (hS : ∀ k, N ≤ k → ¬ S k) (hS2 : ¬ S w.heap.size) (hgr : w.heap.size < gr) (hg3 : gr < N) :
    PvSt w N W (w7.setCell ⟨w.heap.size, 0, none⟩ v7) S gr (path ++ [d]) row v7 vr := by
  have hb := below_next hV h6
  have h46 := dbuf_stays h4 h6
  have hs6 := hb.size
  have hs7 := hw.grown.size
  have hn7 : ∀ k, v7.ownBlock = some k → N ≤ k := fun k hk => by
    rcases hw.own with e | e
    · exact h4n k (e ▸ hk)
    · have := e k hk; omega
  have hr7 := row_wrote (h5.keep h6) hw (fun k hk => by have := h4n k hk; omega)
  have hp7 := row_wrote (h3.keep h6) hw (fun k hk => by have := h4n k hk; omega)
  refine ⟨((others_below hb).trans (keeps_wrote h46 hw)).trans (KeepsOthers.setCell _ _ _), ((KpS.below hb).trans (kps_wrote hw fun k hk => hS k (h4n k hk))).trans ⟨by simp, KeepS.setCell _ _ _ _ hS2⟩, hp7.set (cs' := [v7]) 0 _ rfl, dbuf_setCell h7 _ 0 _ (fun k hk => by have := hn7 k hk; omega), hn7, hr7.setFar 0 _ (by omega), dbuf_setCell (dbuf_wrote (dbuf_stays h6d h6) hw fun k hk => (hsep k hk).2.2) _ 0 _ (fun k hk => (hsep k hk).2.1), fun k hk => ⟨(hsep k hk).1, (hsep k hk).2.1, fun e => ?_⟩, by rw [World.size_setCell]; omega, below_setCell ((below_next hB hb).trans (hw.toBelow (by have := (below_next hB hb).size; omega) fun k hk => by have := h4n k hk; omega)) _ 0 _ (Nat.le_refl _)⟩
  rcases hw.own with e2 | e2
  · exact (hsep k hk).2.2 (e2 ▸ e)
  · have h8 := e2 k e
    have h9 := dbuf_lt (dbuf_stays h6d h6) k hk
    omega
theorem drest_kept {W W' : World} {row : Option Nat} {ds : List (List UInt8)} {v : Value} (h : DRest W.heap.size W ds v) (hg : W.grownBy W' row) (hrow : ∀ r, row = some r → ∃ o : Obj, W.heap[r]? = some o ∧ o.isCells = false) : DRest W'.heap.size W' ds v := by
  obtain ⟨h0, a, cap, h1, h2, h3, h4, h5⟩ := h
  refine ⟨h0, a, cap, h1, h2, h3, h4, ?_⟩
  rcases h5 with h6 | ⟨b, off, ha, hl, hc⟩
  · exact .inl h6
  · exact .inr ⟨b, off, ha, Nat.lt_of_lt_of_le hl hg.size, fun i hi j hj => cell_kept (hc i hi j hj) hg hrow⟩
theorem dbuf_kept {W W' : World} {row : Option Nat} {ds : List (List UInt8)} {v : Value} (h : DBuf W v ds) (hg : W.grownBy W' row) (hrow : ∀ r, row = some r → ∃ o : Obj, W.heap[r]? = some o ∧ o.isCells = false) : DBuf W' v ds := by
  refine ⟨h.1, h.2.1, ?_⟩
  rcases h.2.2 with h3 | ⟨g, cap, cur, h4, h5, h6, h7⟩
  · exact .inl h3
  · have h8 : Row W g 30 cur.toList := by show W.heap[g]? = _; rw [h6]
    have h9 := row_kept h8 hg hrow
    exact .inr ⟨g, cap, cur, h4, h5, by have h10 : W'.heap[g]? = _ := h9; rw [h10], h7⟩
set_option maxHeartbeats 8000000 in
set_option maxRecDepth 100000 in
theorem Prove_ok (ls : List (List UInt8)) (i : Nat) (v : Value) (w : World) (hlp : ∀ p, p ∈ ls → p.length ≤ 1000000) (hr : LRest w.heap.size w ls v) (hl : isL (ls.length : Int) i = true) (hT : Tab w) :
    Calls Tryd.prog 12 #[v, .int .i64 (i : Int)] w fun e w' => ∃ v', e = .returned (.tuple #[v', .int .i64 0]) ∧ DNew w w' v' (pth sha Ndd 17 (ls.map leafD) i) := by
  obtain ⟨hl1, hl2, hl3⟩ := isL_nat hl
  obtain ⟨a0, cap0, rfl⟩ : ∃ a cap, v = .slice a ls.length cap := by obtain ⟨a, cap, h, _⟩ := hr; exact ⟨a, cap, h⟩
  have HFR : Hid (∀ W, LRest W.heap.size W ls (.slice a0 ls.length cap0) → Tab W → Calls Tryd.prog 24 #[.slice a0 ls.length cap0] W fun e w' => ∃ v', e = .returned v' ∧ DNew W w' v' (ls.map leafD)) := Lib.hid (fun W h1 h2 => firstRow_call ls _ W (by omega) (by omega) hlp h1 h2)
  have HL := Lib.hid hl
  have HR := Lib.hid hr
  have HT := Lib.hid hT
  have HDL : Hid ((ls.map leafD).length = ls.length) := Lib.hid (List.length_map ..)
  have HDS : Hid (Digs (ls.map leafD)) := Lib.hid (fun d hd => by obtain ⟨x, _, rfl⟩ := List.mem_map.1 hd; exact leafD_len x)
  generalize ls.map leafD = ds at *
  obtain ⟨n, hn⟩ : ∃ n, n = ls.length := ⟨_, rfl⟩
  rw [← hn] at HL HR HFR HDL ⊢
  have HN : Hid (n ≤ 65536 ∧ i ≤ 65536 ∧ n ≤ 2 ^ 17) := Lib.hid ⟨by omega, by omega, by omega⟩
  have HALL : Hid ((pvF ds (stL 17 n i)).2 = pth sha Ndd 17 ds i) := Lib.hid (by have h := pv_all 17 n i ds [] HDL.out; simpa [pvF] using h)
  clear hl1 hl2 hl3 hr hl hT hlp hn
  have HB1 := Lib.hid (Joins.below_alloc1 w (.cells #[.slice none 0 0] 25))
  have HR1 := Lib.hid (row_new w 25 [.slice none 0 0])
  refine (callsIn_wide (n := 6)).1 ?_
  refine callsIn_of_wp_marks Tryd.func12 rfl trivial ?_ rfl
  simp only [Tryd.ntmps12, List.size_toArray, List.length_cons, List.length_nil, Nat.reduceAdd, Nat.reduceSub, Array.replicate_succ, Array.replicate_zero, List.push_toArray, List.append_toArray, List.nil_append, List.cons_append]
  refine wpIn_wide.2 ?_
  go_upto_region 3 with (first
    | (go_at_call 23; refine (isLeaf_call n i _).mono ?_; rintro e w2 ⟨rfl, rfl⟩; rw [HL.out])
    | fail)
  generalize w.alloc (.cells #[.slice none 0 0] 25) = W1 at *
  go_upto_region 4 with (first
    | (go_at_call 24; refine (HFR.out W1 (HR.out.keep HB1.out) (HT.out.keep HB1.out)).mono ?_; rintro e w2 ⟨v2, rfl, hn2⟩; obtain ⟨ra, rc, hv2⟩ := hn2.shape; rw [HDL.out] at hv2; subst hv2; have HN2 := Lib.hid hn2; clear hn2)
    | fail)
  have HR2 := Lib.hid (HR1.out.keep HN2.out.2.1)
  have HB2 := Lib.hid (below_next HB1.out HN2.out.2.1)
  have HRR := Lib.hid (row_new w2 25 [.slice ra n rc])
  have HB3' := Joins.below_alloc1 w2 (.cells #[.slice ra n rc] 25)
  have HR3 := Lib.hid (HR2.out.keep HB3')
  have HB3 := Lib.hid (below_next HB2.out HB3')
  have HD3 : Hid (DBuf (w2.alloc (.cells #[.slice ra n rc] 25)) (.slice ra n rc) ds) := Lib.hid (dbuf_stays HN2.out.1 HB3')
  have HOR : Hid (∀ k, (Value.slice ra n rc).ownBlock = some k → w.heap.size < k ∧ k < w2.heap.size) := Lib.hid (fun k hk => ⟨by have h8 := HN2.out.2.2 k hk; have h9 := HR1.out.lt; omega, dbuf_lt HN2.out.1 k hk⟩)
  have hgr : w.heap.size < w2.heap.size := HR2.out.lt
  clear HB3' HN2 HR2 HR1
  go_wp2_with (go_at_call 25; generalize w2.alloc (.cells #[.slice ra n rc] 25) = W4 at *; refine (callsIn_wide.1 (steps_in 5 n i _)).mono ?_; rintro e w9 ⟨rfl, rfl⟩)
  generalize w2.heap.size = gr at *
  have hb1 := Joins.below_alloc1 W4 (.cells #[.int .i64 (n : Int)] 3)
  have hb2 := Joins.below_alloc1 (W4.alloc (.cells #[.int .i64 (n : Int)] 3)) (.cells #[.int .i64 (i : Int)] 3)
  have hc1 : Row ((W4.alloc (.cells #[.int .i64 (n : Int)] 3)).alloc (.cells #[.int .i64 (i : Int)] 3)) W4.heap.size 3 [.int .i64 (n : Int)] := (row_new W4 3 _).keep hb2
  have hc2 : Row ((W4.alloc (.cells #[.int .i64 (n : Int)] 3)).alloc (.cells #[.int .i64 (i : Int)] 3)) (W4.alloc (.cells #[.int .i64 (n : Int)] 3)).heap.size 3 [.int .i64 (i : Int)] := row_new _ 3 _
  have hs2 : ((W4.alloc (.cells #[.int .i64 (n : Int)] 3)).alloc (.cells #[.int .i64 (i : Int)] 3)).heap.size = W4.heap.size + 2 := by simp
  have hb3 := below_next hb1 hb2
  rw [World.size_alloc] at hc2
  generalize (W4.alloc (.cells #[.int .i64 (n : Int)] 3)).alloc (.cells #[.int .i64 (i : Int)] 3) = W3 at *
  have hlt8 : gr < W4.heap.size := HRR.out.lt
  have hini : PvI w W3.heap.size ds gr [] W3 := ⟨⟨.slice none 0 0, .slice ra n rc, HR3.out.keep hb3, dbuf_nil W3, (fun k hk => by cases hk), HRR.out.keep hb3, dbuf_stays HD3.out hb3, fun k hk => ⟨by have := HOR.out k hk; omega, by have := HOR.out k hk; omega, by simp [Value.ownBlock]⟩⟩, Nat.le_refl _, below_next HB3.out hb3⟩
  clear hb1 hb2 hb3
  refine (wpIn_wide (n := 6)).1 ?_
  refine range_told (F := Fence.wide) (n := 6) rfl (by omega) (gf := 42) (lb := #[.pointer (some ⟨W4.heap.size, 0, none⟩), .pointer (some ⟨W4.heap.size + 1, 0, none⟩)]) rfl trivial (enters_of Tryd.func42 (by kernel_rfl) rfl)
    (encs := encW) (T := fun _ _ => True) (fun x => ownFrom_pure _ _) (B := fun b => b < W4.heap.size + 2 ∧ b ≠ w.heap.size ∧ b ≠ gr) (fun b hb => by omega) (S := fun ys => ys = stL 17 n i) (G := Goes (stL 17 n i))
    (fun W hW => steps_tells 5 (by omega) W4.heap.size (W4.heap.size + 1) _ 17 n i HN.out.2.2 HN.out.1 HN.out.2.1 W ⟨by omega, by omega, by omega⟩ ⟨by omega, by omega, by omega⟩ (fun b hb => by have := hW.size; omega) ((hW.cell (p := ⟨W4.heap.size, 0, none⟩) (show W4.heap.size < W3.heap.size by omega)).trans (hc1.cell (i := 0) rfl)) ((hW.cell (p := ⟨W4.heap.size + 1, 0, none⟩) (show W4.heap.size + 1 < W3.heap.size by omega)).trans (hc2.cell (i := 0) rfl))) (fun _ => rfl)
    (PvI w W3.heap.size ds gr)
    ?own hini
    (fun x => { tmps := #[.slice a0 n cap0, .int .i64 (i : Int), undef, undef, .pointer (some ⟨w.heap.size, 0, none⟩), .int .i64 0, .pointer (some ⟨gr, 0, none⟩), .int .i64 (x.2 : Int), .bool (decide (x.1 ≤ bs x.2)), .slice a0 n cap0, .int .i64 (n : Int), .int .i64 (i : Int), .bool true, .bool false, .slice a0 n cap0, .slice ra n rc, .slice a0 n cap0, .int .i64 (n : Int), .int .i64 (i : Int), .func (.func 42) #[] #[.pointer (some ⟨W4.heap.size, 0, none⟩), .pointer (some ⟨W4.heap.size + 1, 0, none⟩)], .int .i64 (x.2 : Int), .bool (decide (x.1 ≤ bs x.2)), undef, undef, undef, undef, undef, undef, undef, undef, undef, undef, undef, undef, undef], defers := [] }) ?assign ?body ?done
  case own =>
    rintro pre A B row ⟨⟨vp, vr, h1, h2, h3, h4, h5, h6⟩, h7, h8⟩ hg hr
    have hnc : ∀ r, row = some r → ∃ o : Obj, A.heap[r]? = some o ∧ o.isCells = false := fun r e => (hr r e).2
    exact ⟨⟨vp, vr, row_kept h1 hg hnc, dbuf_kept h2 hg hnc, h3, row_kept h4 hg hnc, dbuf_kept h5 hg hnc, h6⟩, Nat.le_trans h7 hg.size, ownFrom_below (β := Unit) (Nat.le_refl _) (by have := HB3.out.size; omega) () A B row h8 hg hr⟩
  case assign =>
    intro l k W K hK
    unfold encW
    gi_wp2
    exact hK
  case body =>
    rintro l pre x W ⟨⟨vp, vr, hp, hpb, hpn, hr, hrb, hsep⟩, hN, hB⟩ - ⟨rest, hrest⟩
    have hsn := pvF_snoc ds pre x
    obtain ⟨hrl, hrD⟩ := pv_row 17 n i ds [] pre x rest HDL.out HDS.out hrest
    have hple : x.2 ≤ 65536 := by
      have h9 := stL_in 17 n i x (by rw [hrest]; simp)
      have := HN.out.2.1
      omega
    have hxn : x.1 ≤ 65536 := by
      have h9 := stL_le 17 n i x (by rw [hrest]; simp)
      have := HN.out.1
      omega
    have hpl : (pvF ds pre).2.length ≤ 1000 := by
      have h9 := pv_plen pre (ds, [])
      have h10 := congrArg List.length hrest
      have h11 := stL_len 17 n i
      simp at h10 h9
      unfold pvF
      omega
    obtain ⟨⟨row, path⟩, hst⟩ : ∃ st, st = pvF ds pre := ⟨_, rfl⟩
    replace hrl : (pvF ds pre).1.length = x.1 := hrl
    replace hrD : Digs (pvF ds pre).1 := hrD
    rw [← hst] at hpb hrb hsn hrl hrD hpl
    dsimp only at hpb hrb hrl hrD hpl
    obtain ⟨BB, hBB⟩ : ∃ BB : Nat → Prop, BB = fun b => b < W4.heap.size + 2 ∧ b ≠ w.heap.size ∧ b ≠ gr := ⟨_, rfl⟩
    rw [← hBB]
    have HBg : Hid (¬ BB gr) := Lib.hid (by rw [hBB]; exact fun h => h.2.2 rfl)
    have HBw : Hid (¬ BB w.heap.size) := Lib.hid (by rw [hBB]; exact fun h => h.2.1 rfl)
    have HBn : Hid (∀ k, W3.heap.size ≤ k → ¬ BB k) := Lib.hid (fun k hk h => by rw [hBB] at h; omega)
    have hg3 : gr < W3.heap.size := by omega
    clear hBB hc1 hc2
    have HNX : Hid (∀ (W8 : World) (vr : Value), DRest W8.heap.size W8 row vr → Tab W8 → Calls Tryd.prog 27 #[vr] W8 fun e w' => ∃ v', e = .returned v' ∧ DNew W8 w' v' (nxD row)) := Lib.hid (fun W8 vr h1 h2 => nextRow_call row vr W8 (by omega) h1 h2)
    obtain ⟨pa, pc, rfl⟩ := dbuf_shape hpb
    obtain ⟨xa, xc, rfl⟩ := dbuf_shape hrb
    by_cases h2 : bs x.2 < x.1
    · have hd : decide (x.1 ≤ bs x.2) = false := decide_eq_false (by omega)
      rw [hd]
      obtain ⟨q, hq⟩ : ∃ q, q = bs x.2 := ⟨_, rfl⟩
      rw [← hq] at h2
      obtain ⟨dq, hdq⟩ : ∃ dq, dq = row.getD q [] := ⟨_, rfl⟩
      have HSN : Hid (pvF ds (pre ++ [x]) = (nxD row, path ++ [dq])) := Lib.hid (by rw [hsn, hdq]; unfold pvS; dsimp only; rw [← hq, if_pos h2])
      have HDQ : Hid (dq.length = 32) := Lib.hid (by rw [hdq]; exact hrD.get (by omega))
      have HPL : Hid (path.length ≤ 1000) := Lib.hid hpl
      have HPL1 : Hid ((path ++ [dq]).length = path.length + 1) := Lib.hid (by simp)
      have HWV : Hid (Below W.heap.size W W.drew) := Lib.hid (Below.refl _ W).drew
      have HN3 := Lib.hid hN
      have HBW := Lib.hid hB
      have HP0 : Hid (Row W.drew w.heap.size 25 [.slice pa path.length pc]) := Lib.hid hp
      have HG0 : Hid (Row W.drew gr 25 [.slice xa row.length xc]) := Lib.hid hr
      have HPB : Hid (DBuf W.drew (.slice pa path.length pc) path) := Lib.hid (dbuf_stays hpb HWV.out)
      have HRB : Hid (DBuf W.drew (.slice xa row.length xc) row) := Lib.hid (dbuf_stays hrb HWV.out)
      have HPN := Lib.hid hpn
      have HSEP := Lib.hid hsep
      obtain ⟨xb, xo, hxa⟩ : ∃ xb xo, xa = some ⟨xb, xo, none⟩ := by
        obtain ⟨_, a', cap', h1, _, _, _, h4⟩ := dbuf_rest hrb
        injection h1 with e1 _ _
        rcases h4 with h0 | ⟨b, off, h5, _, _⟩
        · omega
        · exact ⟨b, off, by rw [e1, h5]⟩
      subst hxa
      have HXR : Hid (Rest W.drew.heap.size W.drew dq (.slice (some ⟨xb, xo + q * 32, none⟩) 32 32)) := Lib.hid (by rw [hdq]; exact drest_bytes (dbuf_rest HRB.out) q (by omega))
      have HTV : Hid (Tab w) := HT
      obtain ⟨place, hpc⟩ : ∃ place, place = x.2 := ⟨_, rfl⟩
      rw [← hpc] at hq ⊢
      obtain ⟨rl, hrl2⟩ : ∃ rl, rl = row.length := ⟨_, rfl⟩
      obtain ⟨pl, hpl2⟩ : ∃ pl, pl = path.length := ⟨_, rfl⟩
      rw [← hrl2] at HG0 HRB HSEP
      rw [← hpl2] at HP0 HPB HPN HSEP HPL1 HPL
      have HRL2 := Lib.hid hrl2
      have HPL2 := Lib.hid hpl2
      have hql : (q : Int) < (rl : Int) := by omega
      have hqn : q < rl := by omega
      have hplace : place < 4611686018427387904 := by omega
      have HQ := Lib.hid hq
      clear hp hr hpb hrb hpn hsep hsn hrl hrD hple hxn hpl hst hrest hd h2 hdq hpc hrl2 hpl2 hN hB hq hini
      gi_wp2
      refine wpIn_region_round (fun w' => w'.cell? ⟨gr, 0, none⟩ = some (.slice (some ⟨xb, xo, none⟩) rl xc)) (by kernel_rfl) (fun ⟨_, _, h⟩ => h) (by kernel_rfl) ?_
      have HB0 := Lib.hid (Below.refl W.drew.heap.size W.drew)
      have HS : Hid (W.drew.cell? ⟨gr, 0, none⟩ = some (.slice (some ⟨xb, xo, none⟩) rl xc)) := Lib.hid (HG0.out.cell (i := 0) rfl)
      generalize W.drew = V at *
      have HNP := HPB
      have HPV := HP0
      refine wpAnyH_take (i := 1) (oi := { dst := some 25, op := Op.load 25 (Operand.tmp 6), type := 25, pos := "merkle.go:29", after := #[], guard := none }) (v := ?_) rfl (by kernel_rfl) (by kernel_rfl) (by kernel_rfl) (fun _ _ _ h => h) (Or.inl ⟨by rfl, ?_⟩) HS.out ?_
      rotate_left
      · (intro w hSw; (try dsimp only at hSw); go_simp; with_reducible rfl)
      try simp only [Act.put, List.setIfInBounds_toArray, List.set_cons_zero, List.set_cons_succ]
      refine wpAnyH_take (i := 2) (oi := { dst := some 26, op := Op.move (Operand.tmp 7), type := 3, pos := "merkle.go:29", after := #[], guard := none }) (v := ?_) rfl (by kernel_rfl) (by kernel_rfl) (by kernel_rfl) (fun _ _ _ h => h) (Or.inl ⟨by rfl, ?_⟩) HS.out ?_
      rotate_left
      · (intro w hSw; (try dsimp only at hSw); go_simp; with_reducible rfl)
      try simp only [Act.put, List.setIfInBounds_toArray, List.set_cons_zero, List.set_cons_succ]
      refine wpAnyH_ready (rs := [0, 3]) (by kernel_rfl) (by simp) ?_
      refine AllReadyH.cons (o := { dst := some 24, op := Op.load 25 (Operand.tmp 4), type := 25, pos := "merkle.go:29", after := #[], guard := none }) rfl (fun K hK => ?_) ?_
      · rw [if_pos (by rfl)]
        have cp0 := HP0.out.cell (i := 0) rfl
        go_simp
        clear cp0
        refine hK.out _ _ HS.out (fun _ => ?_)
        clear hK K
        try simp only [Act.put, List.setIfInBounds_toArray, List.set_cons_zero, List.set_cons_succ]
        refine wpAnyH_ready (rs := [3]) (by kernel_rfl) (by simp) ?_
        refine AllReadyH.cons (o := { dst := some 27, op := Op.call { callee := Callee.value (Operand.func 26), args := #[Operand.tmp 26], argTypes := #[3] }, type := 3, pos := "merkle.go:29", after := #[{ on := 2, ground := Ground.data }], guard := none }) rfl (fun K hK => ?_) ?_
        · rw [if_pos (by rfl)]
          go_simp
          go_wp2_with (go_at_call 26; refine (beside_call place _ hplace).mono ?_; rintro e w4 ⟨rfl, rfl⟩; rw [← HQ.out])
          refine hK.out _ _ HS.out (fun _ => ?_)
          clear hK K
          try simp only [Act.put, List.setIfInBounds_toArray, List.set_cons_zero, List.set_cons_succ]
          refine wpAnyH_take (i := 4) (oi := { dst := some 28, op := Op.indexAddr 25 (Operand.tmp 25) (Operand.tmp 27), type := 0, pos := "merkle.go:29", after := #[{ on := 1, ground := Ground.data }, { on := 3, ground := Ground.data }], guard := none }) (v := ?_) rfl (by kernel_rfl) (by kernel_rfl) (by kernel_rfl) (fun _ _ _ h => h) (Or.inl ⟨by rfl, ?_⟩) HS.out ?_
          rotate_left
          · (intro w hSw; (try dsimp only at hSw); go_simp; with_reducible rfl)
          try simp only [Act.put, List.setIfInBounds_toArray, List.set_cons_zero, List.set_cons_succ]
          refine wpAnyH_ready (rs := [5]) (by kernel_rfl) (by simp) ?_
          refine AllReadyH.cons (o := { dst := some 29, op := Op.load 30 (Operand.tmp 28), type := 30, pos := "merkle.go:29", after := #[{ on := 4, ground := Ground.data }], guard := none }) rfl (fun K hK => ?_) ?_
          · rw [if_pos (by rfl)]
            (refine wp_load_dig _ rfl _ _ rfl dq HDQ.out (rest_cell32 HXR.out HDQ.out) ?_)
            refine hK.out _ _ HS.out (fun _ => ?_)
            clear hK K
            try simp only [Act.put, List.setIfInBounds_toArray, List.set_cons_zero, List.set_cons_succ]
            refine wpAnyH_ready (rs := [6]) (by kernel_rfl) (by simp) ?_
            refine AllReadyH.cons (o := { dst := some 30, op := Op.buildSlice 25 1 #[(0, Operand.tmp 29)], type := 25, pos := "merkle.go:29", after := #[{ on := 5, ground := Ground.data }], guard := none }) rfl (fun K hK => ?_) ?_
            · rw [if_pos (by rfl)]
              (refine wp_one' _ rfl dq HDQ.out rfl ?_; intro g w6 hrow hg hb; have HG6 := Lib.hid hrow; replace HB0 := Lib.hid (below_next HB0.out hb); replace HP0 := Lib.hid (HP0.out.keep hb); replace HS := Lib.hid ((HG0.out.keep HB0.out).cell (i := 0) rfl); clear hrow hg hb)
              refine hK.out _ _ HS.out (fun _ => ?_)
              clear hK K
              try simp only [Act.put, List.setIfInBounds_toArray, List.set_cons_zero, List.set_cons_succ]
              refine wpAnyH_ready (rs := [7]) (by kernel_rfl) (by simp) ?_
              refine AllReadyH.cons (o := { dst := some 31, op := Op.call { callee := Callee.builtin Builtin.append, args := #[Operand.tmp 24, Operand.tmp 30], argTypes := #[25, 25] }, type := 25, pos := "merkle.go:29", after := #[{ on := 0, ground := Ground.data }, { on := 6, ground := Ground.data }, { on := 3, ground := Ground.chain }], guard := none }) rfl (fun K hK => ?_) ?_
              · rw [if_pos (by rfl)]
                (have HN6 := Lib.hid (dbuf_stays HNP.out HB0.out); refine wp_append_dig rfl _ _ rfl _ path rfl HN6.out g dq HDQ.out rfl HG6.out (by have h8 := HPL.out; have h9 := HPL2.out; omega) ?_; intro v7 w7 hb7 hw7; obtain ⟨pa7, pc7, hv7⟩ := dbuf_shape hb7; rw [HPL1.out] at hv7; subst hv7; have HA := Lib.hid (And.intro hb7 hw7); have HG7 := Lib.hid (row_wrote (HG0.out.keep HB0.out) hw7 (fun k hk => by have h9 := HPN.out k hk; omega)); have HP7 := Lib.hid (row_wrote HP0.out hw7 (fun k hk => by have h9 := HPN.out k hk; omega)); replace HS := Lib.hid (HG7.out.cell (i := 0) rfl); clear hb7 hw7)
                refine hK.out _ _ HS.out (fun _ => ?_)
                clear hK K
                try simp only [Act.put, List.setIfInBounds_toArray, List.set_cons_zero, List.set_cons_succ]
                refine wpAnyH_ready (rs := [8]) (by kernel_rfl) (by simp) ?_
                refine AllReadyH.cons (o := { dst := none, op := Op.store 25 (Operand.tmp 4) (Operand.tmp 31), type := 0, pos := "merkle.go:29", after := #[{ on := 7, ground := Ground.data }, { on := 7, ground := Ground.chain }, { on := 0, ground := Ground.phase }, { on := 1, ground := Ground.phase }, { on := 2, ground := Ground.phase }, { on := 3, ground := Ground.phase }, { on := 4, ground := Ground.phase }, { on := 5, ground := Ground.phase }, { on := 6, ground := Ground.phase }, { on := 7, ground := Ground.phase }], guard := none }) rfl (fun K hK => ?_) ?_
                · rw [if_pos (by rfl)]
                  have cp7 := HP7.out.cell (i := 0) rfl
                  have fp7 := HP7.out.free 0
                  go_simp
                  have HG8 := Lib.hid (HG7.out.setFar (g' := w.heap.size) 0 (.slice pa7 (pl + 1) pc7) (by omega))
                  replace HS := Lib.hid (HG8.out.cell (i := 0) rfl)
                  clear cp7 fp7
                  refine hK.out _ _ HS.out (fun _ => ?_)
                  clear hK K
                  try simp only [Act.put, List.setIfInBounds_toArray, List.set_cons_zero, List.set_cons_succ]
                  refine wpAnyH_done (by kernel_rfl) ?_ _
                  have HST8 := Lib.hid (pvst_new (d := dq) HWV.out HB0.out HA.out.1 HA.out.2 HPV.out HPB.out HPN.out HG0.out HRB.out HSEP.out HN3.out HBW.out HBn.out HBw.out hgr hg3)
                  have cg8 := HG8.out.cell (i := 0) rfl
                  generalize w7.setCell ⟨w.heap.size, 0, none⟩ (.slice pa7 (pl + 1) pc7) = W8 at *
                  clear HA HP7 HG7 HG6 HN6 HB0 HP0 HS
                  gi_wp2
                  refine ⟨trivial, ?_⟩
                  refine (CallsIn.inRound l (callsIn_wide.2 (HNX.out W8 _ (by have h9 := dbuf_rest HST8.out.2.2.2.2.2.2.1; exact h9) (HT.out.keep HST8.out.2.2.2.2.2.2.2.2.2)))).mono ?_
                  rintro e w9 ⟨v9, rfl, hn9⟩
                  obtain ⟨xa9, xc9, rfl⟩ := hn9.shape
                  have HG9 := Lib.hid (HG8.out.keep hn9.2.1)
                  have cg9 := HG9.out.cell (i := 0) rfl
                  have fg9 := HG9.out.free 0
                  have HEND := Lib.hid (pvst_end (C := W3.heap.size) HST8.out hn9 HBg.out hgr hg3)
                  clear hn9
                  gi_wp2
                  exact ⟨HEND.out.1, HEND.out.2.1, by unfold PvI; rw [HSN.out]; exact HEND.out.2.2⟩
                exact AllReadyH.nil
              exact AllReadyH.nil
            exact AllReadyH.nil
          exact AllReadyH.nil
        exact AllReadyH.nil
      refine AllReadyH.cons (o := { dst := some 27, op := Op.call { callee := Callee.value (Operand.func 26), args := #[Operand.tmp 26], argTypes := #[3] }, type := 3, pos := "merkle.go:29", after := #[{ on := 2, ground := Ground.data }], guard := none }) rfl (fun K hK => ?_) ?_
      · rw [if_pos (by rfl)]
        go_simp
        go_wp2_with (go_at_call 26; refine (beside_call place _ hplace).mono ?_; rintro e w4 ⟨rfl, rfl⟩; rw [← HQ.out])
        refine hK.out _ _ HS.out (fun _ => ?_)
        clear hK K
        try simp only [Act.put, List.setIfInBounds_toArray, List.set_cons_zero, List.set_cons_succ]
        refine wpAnyH_take (i := 4) (oi := { dst := some 28, op := Op.indexAddr 25 (Operand.tmp 25) (Operand.tmp 27), type := 0, pos := "merkle.go:29", after := #[{ on := 1, ground := Ground.data }, { on := 3, ground := Ground.data }], guard := none }) (v := ?_) rfl (by kernel_rfl) (by kernel_rfl) (by kernel_rfl) (fun _ _ _ h => h) (Or.inl ⟨by rfl, ?_⟩) HS.out ?_
        rotate_left
        · (intro w hSw; (try dsimp only at hSw); go_simp; with_reducible rfl)
        try simp only [Act.put, List.setIfInBounds_toArray, List.set_cons_zero, List.set_cons_succ]
        refine wpAnyH_ready (rs := [0, 5]) (by kernel_rfl) (by simp) ?_
        refine AllReadyH.cons (o := { dst := some 24, op := Op.load 25 (Operand.tmp 4), type := 25, pos := "merkle.go:29", after := #[], guard := none }) rfl (fun K hK => ?_) ?_
        · rw [if_pos (by rfl)]
          have cp0 := HP0.out.cell (i := 0) rfl
          go_simp
          clear cp0
          refine hK.out _ _ HS.out (fun _ => ?_)
          clear hK K
          try simp only [Act.put, List.setIfInBounds_toArray, List.set_cons_zero, List.set_cons_succ]
          refine wpAnyH_ready (rs := [5]) (by kernel_rfl) (by simp) ?_
          refine AllReadyH.cons (o := { dst := some 29, op := Op.load 30 (Operand.tmp 28), type := 30, pos := "merkle.go:29", after := #[{ on := 4, ground := Ground.data }], guard := none }) rfl (fun K hK => ?_) ?_
          · rw [if_pos (by rfl)]
            (refine wp_load_dig _ rfl _ _ rfl dq HDQ.out (rest_cell32 HXR.out HDQ.out) ?_)
            refine hK.out _ _ HS.out (fun _ => ?_)
            clear hK K
            try simp only [Act.put, List.setIfInBounds_toArray, List.set_cons_zero, List.set_cons_succ]
            refine wpAnyH_ready (rs := [6]) (by kernel_rfl) (by simp) ?_
            refine AllReadyH.cons (o := { dst := some 30, op := Op.buildSlice 25 1 #[(0, Operand.tmp 29)], type := 25, pos := "merkle.go:29", after := #[{ on := 5, ground := Ground.data }], guard := none }) rfl (fun K hK => ?_) ?_
            · rw [if_pos (by rfl)]
              (refine wp_one' _ rfl dq HDQ.out rfl ?_; intro g w6 hrow hg hb; have HG6 := Lib.hid hrow; replace HB0 := Lib.hid (below_next HB0.out hb); replace HP0 := Lib.hid (HP0.out.keep hb); replace HS := Lib.hid ((HG0.out.keep HB0.out).cell (i := 0) rfl); clear hrow hg hb)
              refine hK.out _ _ HS.out (fun _ => ?_)
              clear hK K
              try simp only [Act.put, List.setIfInBounds_toArray, List.set_cons_zero, List.set_cons_succ]
              refine wpAnyH_ready (rs := [7]) (by kernel_rfl) (by simp) ?_
              refine AllReadyH.cons (o := { dst := some 31, op := Op.call { callee := Callee.builtin Builtin.append, args := #[Operand.tmp 24, Operand.tmp 30], argTypes := #[25, 25] }, type := 25, pos := "merkle.go:29", after := #[{ on := 0, ground := Ground.data }, { on := 6, ground := Ground.data }, { on := 3, ground := Ground.chain }], guard := none }) rfl (fun K hK => ?_) ?_
              · rw [if_pos (by rfl)]
                (have HN6 := Lib.hid (dbuf_stays HNP.out HB0.out); refine wp_append_dig rfl _ _ rfl _ path rfl HN6.out g dq HDQ.out rfl HG6.out (by have h8 := HPL.out; have h9 := HPL2.out; omega) ?_; intro v7 w7 hb7 hw7; obtain ⟨pa7, pc7, hv7⟩ := dbuf_shape hb7; rw [HPL1.out] at hv7; subst hv7; have HA := Lib.hid (And.intro hb7 hw7); have HG7 := Lib.hid (row_wrote (HG0.out.keep HB0.out) hw7 (fun k hk => by have h9 := HPN.out k hk; omega)); have HP7 := Lib.hid (row_wrote HP0.out hw7 (fun k hk => by have h9 := HPN.out k hk; omega)); replace HS := Lib.hid (HG7.out.cell (i := 0) rfl); clear hb7 hw7)
                refine hK.out _ _ HS.out (fun _ => ?_)
                clear hK K
                try simp only [Act.put, List.setIfInBounds_toArray, List.set_cons_zero, List.set_cons_succ]
                refine wpAnyH_ready (rs := [8]) (by kernel_rfl) (by simp) ?_
                refine AllReadyH.cons (o := { dst := none, op := Op.store 25 (Operand.tmp 4) (Operand.tmp 31), type := 0, pos := "merkle.go:29", after := #[{ on := 7, ground := Ground.data }, { on := 7, ground := Ground.chain }, { on := 0, ground := Ground.phase }, { on := 1, ground := Ground.phase }, { on := 2, ground := Ground.phase }, { on := 3, ground := Ground.phase }, { on := 4, ground := Ground.phase }, { on := 5, ground := Ground.phase }, { on := 6, ground := Ground.phase }, { on := 7, ground := Ground.phase }], guard := none }) rfl (fun K hK => ?_) ?_
                · rw [if_pos (by rfl)]
                  have cp7 := HP7.out.cell (i := 0) rfl
                  have fp7 := HP7.out.free 0
                  go_simp
                  have HG8 := Lib.hid (HG7.out.setFar (g' := w.heap.size) 0 (.slice pa7 (pl + 1) pc7) (by omega))
                  replace HS := Lib.hid (HG8.out.cell (i := 0) rfl)
                  clear cp7 fp7
                  refine hK.out _ _ HS.out (fun _ => ?_)
                  clear hK K
                  try simp only [Act.put, List.setIfInBounds_toArray, List.set_cons_zero, List.set_cons_succ]
                  refine wpAnyH_done (by kernel_rfl) ?_ _
                  have HST8 := Lib.hid (pvst_new (d := dq) HWV.out HB0.out HA.out.1 HA.out.2 HPV.out HPB.out HPN.out HG0.out HRB.out HSEP.out HN3.out HBW.out HBn.out HBw.out hgr hg3)
                  have cg8 := HG8.out.cell (i := 0) rfl
                  generalize w7.setCell ⟨w.heap.size, 0, none⟩ (.slice pa7 (pl + 1) pc7) = W8 at *
                  clear HA HP7 HG7 HG6 HN6 HB0 HP0 HS
                  gi_wp2
                  refine ⟨trivial, ?_⟩
                  refine (CallsIn.inRound l (callsIn_wide.2 (HNX.out W8 _ (by have h9 := dbuf_rest HST8.out.2.2.2.2.2.2.1; exact h9) (HT.out.keep HST8.out.2.2.2.2.2.2.2.2.2)))).mono ?_
                  rintro e w9 ⟨v9, rfl, hn9⟩
                  obtain ⟨xa9, xc9, rfl⟩ := hn9.shape
                  have HG9 := Lib.hid (HG8.out.keep hn9.2.1)
                  have cg9 := HG9.out.cell (i := 0) rfl
                  have fg9 := HG9.out.free 0
                  have HEND := Lib.hid (pvst_end (C := W3.heap.size) HST8.out hn9 HBg.out hgr hg3)
                  clear hn9
                  gi_wp2
                  exact ⟨HEND.out.1, HEND.out.2.1, by unfold PvI; rw [HSN.out]; exact HEND.out.2.2⟩
                exact AllReadyH.nil
              exact AllReadyH.nil
            exact AllReadyH.nil
          exact AllReadyH.nil
        refine AllReadyH.cons (o := { dst := some 29, op := Op.load 30 (Operand.tmp 28), type := 30, pos := "merkle.go:29", after := #[{ on := 4, ground := Ground.data }], guard := none }) rfl (fun K hK => ?_) ?_
        · rw [if_pos (by rfl)]
          (refine wp_load_dig _ rfl _ _ rfl dq HDQ.out (rest_cell32 HXR.out HDQ.out) ?_)
          refine hK.out _ _ HS.out (fun _ => ?_)
          clear hK K
          try simp only [Act.put, List.setIfInBounds_toArray, List.set_cons_zero, List.set_cons_succ]
          refine wpAnyH_ready (rs := [0, 6]) (by kernel_rfl) (by simp) ?_
          refine AllReadyH.cons (o := { dst := some 24, op := Op.load 25 (Operand.tmp 4), type := 25, pos := "merkle.go:29", after := #[], guard := none }) rfl (fun K hK => ?_) ?_
          · rw [if_pos (by rfl)]
            have cp0 := HP0.out.cell (i := 0) rfl
            go_simp
            clear cp0
            refine hK.out _ _ HS.out (fun _ => ?_)
            clear hK K
            try simp only [Act.put, List.setIfInBounds_toArray, List.set_cons_zero, List.set_cons_succ]
            refine wpAnyH_ready (rs := [6]) (by kernel_rfl) (by simp) ?_
            refine AllReadyH.cons (o := { dst := some 30, op := Op.buildSlice 25 1 #[(0, Operand.tmp 29)], type := 25, pos := "merkle.go:29", after := #[{ on := 5, ground := Ground.data }], guard := none }) rfl (fun K hK => ?_) ?_
            · rw [if_pos (by rfl)]
              (refine wp_one' _ rfl dq HDQ.out rfl ?_; intro g w6 hrow hg hb; have HG6 := Lib.hid hrow; replace HB0 := Lib.hid (below_next HB0.out hb); replace HP0 := Lib.hid (HP0.out.keep hb); replace HS := Lib.hid ((HG0.out.keep HB0.out).cell (i := 0) rfl); clear hrow hg hb)
              refine hK.out _ _ HS.out (fun _ => ?_)
              clear hK K
              try simp only [Act.put, List.setIfInBounds_toArray, List.set_cons_zero, List.set_cons_succ]
              refine wpAnyH_ready (rs := [7]) (by kernel_rfl) (by simp) ?_
              refine AllReadyH.cons (o := { dst := some 31, op := Op.call { callee := Callee.builtin Builtin.append, args := #[Operand.tmp 24, Operand.tmp 30], argTypes := #[25, 25] }, type := 25, pos := "merkle.go:29", after := #[{ on := 0, ground := Ground.data }, { on := 6, ground := Ground.data }, { on := 3, ground := Ground.chain }], guard := none }) rfl (fun K hK => ?_) ?_
              · rw [if_pos (by rfl)]
                (have HN6 := Lib.hid (dbuf_stays HNP.out HB0.out); refine wp_append_dig rfl _ _ rfl _ path rfl HN6.out g dq HDQ.out rfl HG6.out (by have h8 := HPL.out; have h9 := HPL2.out; omega) ?_; intro v7 w7 hb7 hw7; obtain ⟨pa7, pc7, hv7⟩ := dbuf_shape hb7; rw [HPL1.out] at hv7; subst hv7; have HA := Lib.hid (And.intro hb7 hw7); have HG7 := Lib.hid (row_wrote (HG0.out.keep HB0.out) hw7 (fun k hk => by have h9 := HPN.out k hk; omega)); have HP7 := Lib.hid (row_wrote HP0.out hw7 (fun k hk => by have h9 := HPN.out k hk; omega)); replace HS := Lib.hid (HG7.out.cell (i := 0) rfl); clear hb7 hw7)
                refine hK.out _ _ HS.out (fun _ => ?_)
                clear hK K
                try simp only [Act.put, List.setIfInBounds_toArray, List.set_cons_zero, List.set_cons_succ]
                refine wpAnyH_ready (rs := [8]) (by kernel_rfl) (by simp) ?_
                refine AllReadyH.cons (o := { dst := none, op := Op.store 25 (Operand.tmp 4) (Operand.tmp 31), type := 0, pos := "merkle.go:29", after := #[{ on := 7, ground := Ground.data }, { on := 7, ground := Ground.chain }, { on := 0, ground := Ground.phase }, { on := 1, ground := Ground.phase }, { on := 2, ground := Ground.phase }, { on := 3, ground := Ground.phase }, { on := 4, ground := Ground.phase }, { on := 5, ground := Ground.phase }, { on := 6, ground := Ground.phase }, { on := 7, ground := Ground.phase }], guard := none }) rfl (fun K hK => ?_) ?_
                · rw [if_pos (by rfl)]
                  have cp7 := HP7.out.cell (i := 0) rfl
                  have fp7 := HP7.out.free 0
                  go_simp
                  have HG8 := Lib.hid (HG7.out.setFar (g' := w.heap.size) 0 (.slice pa7 (pl + 1) pc7) (by omega))
                  replace HS := Lib.hid (HG8.out.cell (i := 0) rfl)
                  clear cp7 fp7
                  refine hK.out _ _ HS.out (fun _ => ?_)
                  clear hK K
                  try simp only [Act.put, List.setIfInBounds_toArray, List.set_cons_zero, List.set_cons_succ]
                  refine wpAnyH_done (by kernel_rfl) ?_ _
                  have HST8 := Lib.hid (pvst_new (d := dq) HWV.out HB0.out HA.out.1 HA.out.2 HPV.out HPB.out HPN.out HG0.out HRB.out HSEP.out HN3.out HBW.out HBn.out HBw.out hgr hg3)
                  have cg8 := HG8.out.cell (i := 0) rfl
                  generalize w7.setCell ⟨w.heap.size, 0, none⟩ (.slice pa7 (pl + 1) pc7) = W8 at *
                  clear HA HP7 HG7 HG6 HN6 HB0 HP0 HS
                  gi_wp2
                  refine ⟨trivial, ?_⟩
                  refine (CallsIn.inRound l (callsIn_wide.2 (HNX.out W8 _ (by have h9 := dbuf_rest HST8.out.2.2.2.2.2.2.1; exact h9) (HT.out.keep HST8.out.2.2.2.2.2.2.2.2.2)))).mono ?_
                  rintro e w9 ⟨v9, rfl, hn9⟩
                  obtain ⟨xa9, xc9, rfl⟩ := hn9.shape
                  have HG9 := Lib.hid (HG8.out.keep hn9.2.1)
                  have cg9 := HG9.out.cell (i := 0) rfl
                  have fg9 := HG9.out.free 0
                  have HEND := Lib.hid (pvst_end (C := W3.heap.size) HST8.out hn9 HBg.out hgr hg3)
                  clear hn9
                  gi_wp2
                  exact ⟨HEND.out.1, HEND.out.2.1, by unfold PvI; rw [HSN.out]; exact HEND.out.2.2⟩
                exact AllReadyH.nil
              exact AllReadyH.nil
            exact AllReadyH.nil
          refine AllReadyH.cons (o := { dst := some 30, op := Op.buildSlice 25 1 #[(0, Operand.tmp 29)], type := 25, pos := "merkle.go:29", after := #[{ on := 5, ground := Ground.data }], guard := none }) rfl (fun K hK => ?_) ?_
          · rw [if_pos (by rfl)]
            (refine wp_one' _ rfl dq HDQ.out rfl ?_; intro g w6 hrow hg hb; have HG6 := Lib.hid hrow; replace HB0 := Lib.hid (below_next HB0.out hb); replace HP0 := Lib.hid (HP0.out.keep hb); replace HS := Lib.hid ((HG0.out.keep HB0.out).cell (i := 0) rfl); clear hrow hg hb)
            refine hK.out _ _ HS.out (fun _ => ?_)
            clear hK K
            try simp only [Act.put, List.setIfInBounds_toArray, List.set_cons_zero, List.set_cons_succ]
            refine wpAnyH_ready (rs := [0]) (by kernel_rfl) (by simp) ?_
            refine AllReadyH.cons (o := { dst := some 24, op := Op.load 25 (Operand.tmp 4), type := 25, pos := "merkle.go:29", after := #[], guard := none }) rfl (fun K hK => ?_) ?_
            · rw [if_pos (by rfl)]
              have cp0 := HP0.out.cell (i := 0) rfl
              go_simp
              clear cp0
              refine hK.out _ _ HS.out (fun _ => ?_)
              clear hK K
              try simp only [Act.put, List.setIfInBounds_toArray, List.set_cons_zero, List.set_cons_succ]
              refine wpAnyH_ready (rs := [7]) (by kernel_rfl) (by simp) ?_
              refine AllReadyH.cons (o := { dst := some 31, op := Op.call { callee := Callee.builtin Builtin.append, args := #[Operand.tmp 24, Operand.tmp 30], argTypes := #[25, 25] }, type := 25, pos := "merkle.go:29", after := #[{ on := 0, ground := Ground.data }, { on := 6, ground := Ground.data }, { on := 3, ground := Ground.chain }], guard := none }) rfl (fun K hK => ?_) ?_
              · rw [if_pos (by rfl)]
                (have HN6 := Lib.hid (dbuf_stays HNP.out HB0.out); refine wp_append_dig rfl _ _ rfl _ path rfl HN6.out g dq HDQ.out rfl HG6.out (by have h8 := HPL.out; have h9 := HPL2.out; omega) ?_; intro v7 w7 hb7 hw7; obtain ⟨pa7, pc7, hv7⟩ := dbuf_shape hb7; rw [HPL1.out] at hv7; subst hv7; have HA := Lib.hid (And.intro hb7 hw7); have HG7 := Lib.hid (row_wrote (HG0.out.keep HB0.out) hw7 (fun k hk => by have h9 := HPN.out k hk; omega)); have HP7 := Lib.hid (row_wrote HP0.out hw7 (fun k hk => by have h9 := HPN.out k hk; omega)); replace HS := Lib.hid (HG7.out.cell (i := 0) rfl); clear hb7 hw7)
                refine hK.out _ _ HS.out (fun _ => ?_)
                clear hK K
                try simp only [Act.put, List.setIfInBounds_toArray, List.set_cons_zero, List.set_cons_succ]
                refine wpAnyH_ready (rs := [8]) (by kernel_rfl) (by simp) ?_
                refine AllReadyH.cons (o := { dst := none, op := Op.store 25 (Operand.tmp 4) (Operand.tmp 31), type := 0, pos := "merkle.go:29", after := #[{ on := 7, ground := Ground.data }, { on := 7, ground := Ground.chain }, { on := 0, ground := Ground.phase }, { on := 1, ground := Ground.phase }, { on := 2, ground := Ground.phase }, { on := 3, ground := Ground.phase }, { on := 4, ground := Ground.phase }, { on := 5, ground := Ground.phase }, { on := 6, ground := Ground.phase }, { on := 7, ground := Ground.phase }], guard := none }) rfl (fun K hK => ?_) ?_
                · rw [if_pos (by rfl)]
                  have cp7 := HP7.out.cell (i := 0) rfl
                  have fp7 := HP7.out.free 0
                  go_simp
                  have HG8 := Lib.hid (HG7.out.setFar (g' := w.heap.size) 0 (.slice pa7 (pl + 1) pc7) (by omega))
                  replace HS := Lib.hid (HG8.out.cell (i := 0) rfl)
                  clear cp7 fp7
                  refine hK.out _ _ HS.out (fun _ => ?_)
                  clear hK K
                  try simp only [Act.put, List.setIfInBounds_toArray, List.set_cons_zero, List.set_cons_succ]
                  refine wpAnyH_done (by kernel_rfl) ?_ _
                  have HST8 := Lib.hid (pvst_new (d := dq) HWV.out HB0.out HA.out.1 HA.out.2 HPV.out HPB.out HPN.out HG0.out HRB.out HSEP.out HN3.out HBW.out HBn.out HBw.out hgr hg3)
                  have cg8 := HG8.out.cell (i := 0) rfl
                  generalize w7.setCell ⟨w.heap.size, 0, none⟩ (.slice pa7 (pl + 1) pc7) = W8 at *
                  clear HA HP7 HG7 HG6 HN6 HB0 HP0 HS
                  gi_wp2
                  refine ⟨trivial, ?_⟩
                  refine (CallsIn.inRound l (callsIn_wide.2 (HNX.out W8 _ (by have h9 := dbuf_rest HST8.out.2.2.2.2.2.2.1; exact h9) (HT.out.keep HST8.out.2.2.2.2.2.2.2.2.2)))).mono ?_
                  rintro e w9 ⟨v9, rfl, hn9⟩
                  obtain ⟨xa9, xc9, rfl⟩ := hn9.shape
                  have HG9 := Lib.hid (HG8.out.keep hn9.2.1)
                  have cg9 := HG9.out.cell (i := 0) rfl
                  have fg9 := HG9.out.free 0
                  have HEND := Lib.hid (pvst_end (C := W3.heap.size) HST8.out hn9 HBg.out hgr hg3)
                  clear hn9
                  gi_wp2
                  exact ⟨HEND.out.1, HEND.out.2.1, by unfold PvI; rw [HSN.out]; exact HEND.out.2.2⟩
                exact AllReadyH.nil
              exact AllReadyH.nil
            exact AllReadyH.nil
          exact AllReadyH.nil
        exact AllReadyH.nil
      exact AllReadyH.nil
    · have hd : decide (x.1 ≤ bs x.2) = true := decide_eq_true (by omega)
      rw [hd]
      have HSN : Hid (pvF ds (pre ++ [x]) = (nxD row, path)) := Lib.hid (by rw [hsn]; unfold pvS; rw [if_neg h2])
      have HST8 : Hid (PvSt w W3.heap.size W W BB gr path row (.slice pa path.length pc) (.slice xa row.length xc)) := Lib.hid ⟨KeepsOthers.refl W, .refl _ _, hp, hpb, hpn, hr, hrb, hsep, hN, hB⟩
      have HG8 := Lib.hid hr
      obtain ⟨rl, hrl2⟩ : ∃ rl, rl = row.length := ⟨_, rfl⟩
      rw [← hrl2] at HG8 HST8
      have cg8 := HG8.out.cell (i := 0) rfl
      have fg8 := HG8.out.free 0
      clear hp hr hpb hrb hpn hsep hsn hrl hrD hple hxn hpl hst hrest hd h2 hN hB hrl2 hini
      gi_wp2
      refine ⟨trivial, ?_⟩
      refine (CallsIn.inRound l (callsIn_wide.2 (HNX.out W _ (by have h9 := dbuf_rest HST8.out.2.2.2.2.2.2.1; exact h9) (HT.out.keep HST8.out.2.2.2.2.2.2.2.2.2)))).mono ?_
      rintro e w9 ⟨v9, rfl, hn9⟩
      obtain ⟨xa9, xc9, rfl⟩ := hn9.shape
      have HG9 := Lib.hid (HG8.out.keep hn9.2.1)
      have cg9 := HG9.out.cell (i := 0) rfl
      have fg9 := HG9.out.free 0
      have HEND := Lib.hid (pvst_end (C := W3.heap.size) HST8.out hn9 HBg.out hgr hg3)
      clear hn9
      gi_wp2
      exact ⟨HEND.out.1, HEND.out.2.1, by unfold PvI; rw [HSN.out]; exact HEND.out.2.2⟩
  case done =>
    rintro D ys W hD rfl ⟨⟨vp, vr, hp, hpb, hpn, -, -, -⟩, hN, hB⟩ hK
    rw [HALL.out] at hpb
    obtain ⟨path, hpath⟩ : ∃ path, path = pth sha Ndd 17 ds i := ⟨_, rfl⟩
    rw [← hpath] at hpb
    have HPA := Lib.hid hpath
    clear hpath
    obtain ⟨pa, pc, rfl⟩ := dbuf_shape hpb
    obtain ⟨pl, hpl⟩ : ∃ pl, pl = path.length := ⟨_, rfl⟩
    rw [← hpl] at hp hpb hpn
    have c1 := hp.cell (i := 0) rfl
    have f1 := hp.free 0
    have hp2 : Row (W.setCell ⟨w.heap.size, 0, none⟩ (.slice pa pl pc)) w.heap.size 25 [.slice pa pl pc] := hp.set (cs' := [.slice pa pl pc]) 0 _ rfl
    have hB2 := below_setCell hB w.heap.size 0 (.slice pa pl pc) (Nat.le_refl _)
    have hpb2 := dbuf_setCell hpb w.heap.size 0 (.slice pa pl pc) (fun k hk => by have := hpn k hk; omega)
    have hK' : (W.setCell ⟨w.heap.size, 0, none⟩ (.slice pa pl pc)).heap[D]? = some (.deferred (some [])) := (heap_setCell_other W ⟨w.heap.size, 0, none⟩ D _ (by show D ≠ w.heap.size; omega)).trans hK
    have HW5 := Lib.hid (And.intro hp2 (And.intro hB2 (And.intro hpb2 hK')))
    have HPN := Lib.hid hpn
    clear hp hB hK hpb hp2 hB2 hpb2 hK' hini hpl hpn
    go_wp2_with fail
    generalize W.setCell ⟨w.heap.size, 0, none⟩ (.slice pa pl pc) = W5 at *
    obtain ⟨hp2, hB2, hpb2, hK'⟩ := HW5.out
    have c2 : (W5.putObj D (.deferred none)).cell? ⟨w.heap.size, 0, none⟩ = some (.slice pa pl pc) := Row.cell (i := 0) (cs := [.slice pa pl pc]) ((World.putObj_heap_other (by omega)).trans hp2) rfl
    refine ⟨by simp, .inl ⟨_, _, rfl, run_takeDeferred hK', ?_⟩⟩
    exact ⟨.tuple #[.slice pa pl pc, .int .i64 0], by simp [results, Tryd.results12, go_sem, c2], ⟨_, rfl, by rw [← HPA.out]; exact dbuf_kept hpb2 (grownBy_putObj' W5 D _) (fun r e => by cases e; exact ⟨_, hK', rfl⟩), hB2.trans (belowK_b (w := w) (Nat.le_refl _) W5 D _ _ (by omega) hK' rfl rfl), fun k hk => by have := HPN.out k hk; omega⟩⟩
end Go.Proofs.YtbceimbcjijfgaaDoor.Dig

/- The chapter's examples hold. -/
namespace Go.Proofs.YtbceimbcjijfgaaDoor.Dig
open Go.RowKit

theorem leaf_ne : (leafD [5] == leafD [6]) = false := by kernel_rfl
theorem sd1 : climbD 17 1 0 [5] [] = (leafD [5], 0) := by rfl
theorem sd1' : climbD 17 1 0 [6] [] = (leafD [6], 0) := by rfl
theorem sd2 : climbD 17 0 0 [] [] = (zd, 1) := by rfl
theorem sd3 : climbD 17 2 0 [] [] = (zd, 70) := by rfl
theorem sd4 (a b c : List UInt8) : pth sha Ndd 17 [a, b, c] 2 = [sha (nodeX Ndd a b)] := by rfl
theorem sd5 (a : List UInt8) : pth sha Ndd 17 [a] 0 = [] := by rfl
theorem sd6 (a b : List UInt8) : rootR sha Ndd [a, b] = sha (nodeX Ndd a b) := by rfl
theorem sd7 : tagged leafS.data.toList [5] = leafD [5] := by rfl
theorem one_leaf (w : World) (c : UInt8) : Rest (w.alloc (.cells #[.int .u8 (c.toNat : Int)] 5)).heap.size (w.alloc (.cells #[.int .u8 (c.toNat : Int)] 5)) [c] (.slice (some ⟨w.heap.size, 0, none⟩) 1 1) := by
  have h := rest_one w c _ rfl
  simpa using h
theorem sd8 : rootD [[1], [2]] = sha (nodeX Ndd (leafD [1]) (leafD [2])) := by rfl
theorem sd9 : rootD [] = tagged noneS.data.toList [] := by rfl
theorem two_bytes (w : World) : Rest ((w.alloc (.cells #[.int .u8 5] 5)).alloc (.cells #[.int .u8 6] 5)).heap.size ((w.alloc (.cells #[.int .u8 5] 5)).alloc (.cells #[.int .u8 6] 5)) [5] (.slice (some ⟨w.heap.size, 0, none⟩) 1 1) ∧ Rest ((w.alloc (.cells #[.int .u8 5] 5)).alloc (.cells #[.int .u8 6] 5)).heap.size ((w.alloc (.cells #[.int .u8 5] 5)).alloc (.cells #[.int .u8 6] 5)) [6] (.slice (some ⟨w.heap.size + 1, 0, none⟩) 1 1) ∧ Below w.heap.size w ((w.alloc (.cells #[.int .u8 5] 5)).alloc (.cells #[.int .u8 6] 5)) := by
  refine ⟨rest_keep (one_leaf w 5) (Joins.below_alloc1 _ _), ?_, below_next (Joins.below_alloc1 w _) (Joins.below_alloc1 _ _)⟩
  have h := one_leaf (w.alloc (.cells #[.int .u8 5] 5)) 6
  rw [World.size_alloc w] at h
  exact h
theorem lrest_nil (B : Nat) (w : World) : LRest B w [] (.slice none 0 0) := ⟨none, 0, rfl, Nat.zero_le _, by simp [maxLen], .inl rfl⟩
theorem row_push {w : World} {g T : Nat} {cs : List Value} (h : Row w g T cs) (o : Obj) : Row (w.alloc o) g T cs := h.push o
/-- the world behind the list of three leaves -/
def W3L (w : World) : World := (((w.alloc (.cells #[.int .u8 1] 5)).alloc (.cells #[.int .u8 2] 5)).alloc (.cells #[.int .u8 3] 5)).alloc (.cells #[.slice (some ⟨w.heap.size, 0, none⟩) 1 1, .slice (some ⟨w.heap.size + 1, 0, none⟩) 1 1, .slice (some ⟨w.heap.size + 2, 0, none⟩) 1 1] 34)
theorem w3l_below (w : World) : Below w.heap.size w (W3L w) := below_next (below_next (below_next (Joins.below_alloc1 w _) (Joins.below_alloc1 _ _)) (Joins.below_alloc1 _ _)) (Joins.below_alloc1 _ _)
theorem w3l_leaves (w : World) (n : Nat) (hn : 1 ≤ n) (hn3 : n ≤ 3) : LRest (W3L w).heap.size (W3L w) ((([[1], [2], [3]] : List (List UInt8))).take n) (.slice (some ⟨w.heap.size + 3, 0, none⟩) n 3) := by
  have r1 : Rest (W3L w).heap.size (W3L w) [1] (.slice (some ⟨w.heap.size, 0, none⟩) 1 1) := rest_keep (rest_keep (rest_keep (one_leaf w 1) (Joins.below_alloc1 _ _)) (Joins.below_alloc1 _ _)) (Joins.below_alloc1 _ _)
  have r2 : Rest (W3L w).heap.size (W3L w) [2] (.slice (some ⟨w.heap.size + 1, 0, none⟩) 1 1) := by
    have h := rest_keep (rest_keep (one_leaf (w.alloc (.cells #[.int .u8 1] 5)) 2) (Joins.below_alloc1 _ (.cells #[.int .u8 3] 5))) (Joins.below_alloc1 _ (.cells #[.slice (some ⟨w.heap.size, 0, none⟩) 1 1, .slice (some ⟨w.heap.size + 1, 0, none⟩) 1 1, .slice (some ⟨w.heap.size + 2, 0, none⟩) 1 1] 34))
    rw [World.size_alloc w] at h
    exact h
  have r3 : Rest (W3L w).heap.size (W3L w) [3] (.slice (some ⟨w.heap.size + 2, 0, none⟩) 1 1) := by
    have h := rest_keep (one_leaf ((w.alloc (.cells #[.int .u8 1] 5)).alloc (.cells #[.int .u8 2] 5)) 3) (Joins.below_alloc1 _ (.cells #[.slice (some ⟨w.heap.size, 0, none⟩) 1 1, .slice (some ⟨w.heap.size + 1, 0, none⟩) 1 1, .slice (some ⟨w.heap.size + 2, 0, none⟩) 1 1] 34))
    rw [World.size_alloc (w.alloc _), World.size_alloc w] at h
    exact h
  have hg : Row (W3L w) (w.heap.size + 3) 34 [.slice (some ⟨w.heap.size, 0, none⟩) 1 1, .slice (some ⟨w.heap.size + 1, 0, none⟩) 1 1, .slice (some ⟨w.heap.size + 2, 0, none⟩) 1 1] := by
    have h := row_new (((w.alloc (.cells #[.int .u8 1] 5)).alloc (.cells #[.int .u8 2] 5)).alloc (.cells #[.int .u8 3] 5)) 34 [.slice (some ⟨w.heap.size, 0, none⟩) 1 1, .slice (some ⟨w.heap.size + 1, 0, none⟩) 1 1, .slice (some ⟨w.heap.size + 2, 0, none⟩) 1 1]
    rw [World.size_alloc ((w.alloc _).alloc _), World.size_alloc (w.alloc _), World.size_alloc w] at h
    exact h
  have hl : ((([[1], [2], [3]] : List (List UInt8))).take n).length = n := by rw [List.length_take]; simp; omega
  refine ⟨_, 3, by rw [hl], by rw [hl]; exact hn3, by simp [maxLen], .inr ⟨_, 0, rfl, hg.lt, fun i hi => ?_⟩⟩
  rw [hl] at hi
  match n, hn, hn3, i, hi with
  | 1, _, _, 0, _ => exact ⟨_, hg.cell (i := 0) rfl, r1⟩
  | 2, _, _, 0, _ => exact ⟨_, hg.cell (i := 0) rfl, r1⟩
  | 2, _, _, 1, _ => exact ⟨_, hg.cell (i := 1) rfl, r2⟩
  | 3, _, _, 0, _ => exact ⟨_, hg.cell (i := 0) rfl, r1⟩
  | 3, _, _, 1, _ => exact ⟨_, hg.cell (i := 1) rfl, r2⟩
  | 3, _, _, 2, _ => exact ⟨_, hg.cell (i := 2) rfl, r3⟩
set_option maxHeartbeats 8000000 in
set_option maxRecDepth 100000 in
theorem sane_call (w : World) (hT : Tab w) : Calls Tryd.prog 10 #[] w fun e w' => e = .returned (.bool true) ∧ Below w.heap.size w w' := by
  have HT := Lib.hid hT
  have HL5 : Hid ((leafD [5]).length = 32) := Lib.hid (leafD_len _)
  clear hT
  have HBa := Lib.hid (Joins.below_alloc1 w (.cells #[.int .u8 5] 5))
  have HRa := Lib.hid (one_leaf w 5)
  go_enter Tryd.func10, Tryd.ntmps10
  go_upto_region 4 with (first
    | (refine wpList_store_dig rfl (.tmp 5) (.tmp 29) rfl g5 zd zd_len rfl rfl H5.out HB8.out (by have := hg5; have := HB7.out.size; omega) ?_; intro w9 hrow hb hoth; have H19 := Lib.hid (hoth _ _ _ (by have := H17.out.lt; omega) H18.out); have HB9 := Lib.hid hb; clear hrow hb hoth)
    | (refine wpList_alloc_dig rfl 5 rfl rfl ?_; intro g5 w8 hg hrow hb; have hg5 := hg; have H5 := Lib.hid hrow; have H18 := Lib.hid (H17.out.keep hb); have HB8 := Lib.hid (below_next HB7.out hb); clear hg hrow hb)
    | (refine wpList_store_dig rfl (.tmp 3) (.tmp 25) rfl g3 zd zd_len rfl rfl H3.out HB5.out (by have := hg3; have := HB4.out.size; omega) ?_; intro w6 hrow hb hoth; have H16 := Lib.hid (hoth _ _ _ (by have := H14.out.lt; omega) H15.out); have HB6 := Lib.hid hb; clear hrow hb hoth)
    | (refine wpList_alloc_dig rfl 3 rfl rfl ?_; intro g3 w5 hg hrow hb; have hg3 := hg; have H3 := Lib.hid hrow; have H15 := Lib.hid (H14.out.keep hb); have HB5 := Lib.hid (below_next HB4.out hb); clear hg hrow hb)
    | (refine wpList_store_dig rfl (.tmp 1) (.tmp 21) rfl g1 (leafD [5]) HL5.out rfl rfl H1.out HB2.out (by have := hg1; have := HB1.out.size; omega) ?_; intro w3 hrow hb hoth; have H13 := Lib.hid hrow; have HB3 := Lib.hid hb; clear hrow hb hoth)
    | (refine wpList_alloc_dig rfl 1 rfl rfl ?_; intro g1 w2 hg hrow hb; have hg1 := hg; have H1 := Lib.hid hrow; have HB2 := Lib.hid (below_next HB1.out hb); clear hg hrow hb)
    | (go_at_call 17; refine (Climb_call 2 0 [] (.slice none 0 0) [] (.slice none 0 0) w6 (by simp) (rest_nil _ _) (drest_nil _ _) (HT.out.keep HB6.out)).mono ?_; rintro e w7 ⟨he, hb⟩; rw [sd3] at he; subst he; have H17 := Lib.hid (H16.out.keep hb); have HB7 := Lib.hid (below_next HB6.out hb); clear hb)
    | (go_at_call 17; refine (Climb_call 0 0 [] (.slice none 0 0) [] (.slice none 0 0) w3 (by simp) (rest_nil _ _) (drest_nil _ _) (HT.out.keep HB3.out)).mono ?_; rintro e w4 ⟨he, hb⟩; rw [sd2] at he; subst he; have H14 := Lib.hid (H13.out.keep hb); have HB4 := Lib.hid (below_next HB3.out hb); clear hb)
    | (go_at_call 17; refine (Climb_call 1 0 [5] _ [] (.slice none 0 0) _ (by simp) HRa.out (drest_nil _ _) (HT.out.keep HBa.out)).mono ?_; rintro e w1 ⟨he, hb⟩; rw [sd1] at he; subst he; have HB1 := Lib.hid (below_next HBa.out hb); clear hb)
    | fail)
  have HW3 := Lib.hid (And.intro (w3l_below w9) (And.intro (w3l_leaves w9 3 (by omega) (by omega)) (And.intro (w3l_leaves w9 2 (by omega) (by omega)) (w3l_leaves w9 1 (by omega) (by omega)))))
  unfold W3L at HW3
  have HBz := Lib.hid (below_next HB9.out HW3.out.1)
  have H20 := Lib.hid (H19.out.keep HW3.out.1)
  clear HBa HRa HB1 HB2 HB3 HB4 HB5 HB6 HB7 HB8 H1 H3 H5 H13 H14 H15 H16 H17 H18
  go_upto_region 10 with (first
    | (generalize ((((w9.alloc (.cells #[.int .u8 1] 5)).alloc (.cells #[.int .u8 2] 5)).alloc (.cells #[.int .u8 3] 5)).alloc (.cells #[.slice (some ⟨w9.heap.size, 0, none⟩) 1 1, .slice (some ⟨w9.heap.size + 1, 0, none⟩) 1 1, .slice (some ⟨w9.heap.size + 2, 0, none⟩) 1 1] 34)) = wL at *; go_at_call 12; refine (Prove_ok [[1], [2], [3]] 2 _ wL (by simp) HW3.out.2.1 (by rfl) (HT.out.keep HBz.out)).mono ?_; rintro e wM ⟨v1, rfl, hn⟩; replace hn : DNew wL wM v1 [sha (nodeX Ndd (leafD [1]) (leafD [2]))] := (sd4 (leafD [1]) (leafD [2]) (leafD [3])) ▸ hn; obtain ⟨a1, c1, hv1⟩ := hn.shape; rw [List.length_singleton] at hv1; subst hv1; have HM := Lib.hid hn; have HBm := Lib.hid (below_next HBz.out hn.2.1); have H21 := Lib.hid (H20.out.keep hn.2.1); clear hn)
    | (go_at_call 12; refine (Prove_bad [[1], [2], [3]] 3 _ wN ((HW3.out.2.1.keep HM.out.2.1).keep HO.out.2.1) (by rfl)).mono ?_; rintro e wP ⟨rfl, hb⟩; have HBp := Lib.hid (below_next HBn.out hb); have H23 := Lib.hid (H22.out.keep hb); have HbP := Lib.hid hb; clear hb)
    | (go_at_call 12; refine (Prove_ok [[1]] 0 _ wM (by simp) (HW3.out.2.2.2.keep HM.out.2.1) (by rfl) (HT.out.keep HBm.out)).mono ?_; rintro e wN ⟨v2, rfl, hn⟩; replace hn : DNew wM wN v2 [] := (sd5 (leafD [1])) ▸ hn; obtain ⟨a2, c2, hv2⟩ := hn.shape; rw [List.length_nil] at hv2; subst hv2; have HO := Lib.hid hn; have HBn := Lib.hid (below_next HBm.out hn.2.1); have H22 := Lib.hid (H21.out.keep hn.2.1); clear hn)
    | (go_at_call 19; refine (Collide_refuse 1 0 [5] [6] _ _ [] [] (.slice none 0 0) (.slice none 0 0) _ (by simp) (by simp) (two_bytes wP).1 (two_bytes wP).2.1 (drest_nil _ _) (drest_nil _ _) ((HT.out.keep HBp.out).keep (two_bytes wP).2.2) (.inr (.inr (by rw [sd1, sd1']; intro h9; have h8 := leaf_ne; simp at h8; exact h8 h9)))).mono ?_; rintro e wR ⟨rfl, hb⟩; have HbR := Lib.hid (below_next (two_bytes wP).2.2 hb); clear hb)
    | fail)
  have HBr := Lib.hid (below_next HBp.out HbR.out)
  have HTR := Lib.hid (HT.out.keep HBr.out)
  have H24 := Lib.hid (H23.out.keep HbR.out)
  have HLL := Lib.hid ((((HW3.out.2.2.1.keep HM.out.2.1).keep HO.out.2.1).keep HbP.out).keep HbR.out)
  have HPTH := Lib.hid (dbuf_rest ((((HM.out.keep HO.out.2.1).keep HbP.out).keep HbR.out).1))
  obtain ⟨pb, po, ha1⟩ : ∃ pb po, a1 = some ⟨pb, po, none⟩ := by
    obtain ⟨_, a', cap', h1, _, _, _, h4⟩ := HPTH.out
    injection h1 with e1 _ _
    rcases h4 with h0 | ⟨b, off, h5, _, _⟩
    · exact absurd h0 (by decide)
    · exact ⟨b, off, by rw [e1, h5]⟩
  subst ha1
  have HPX : Hid (Rest wR.heap.size wR (sha (nodeX Ndd (leafD [1]) (leafD [2]))) (.slice (some ⟨pb, po, none⟩) 32 32)) := Lib.hid (by have h9 := drest_bytes HPTH.out 0 (by decide); rw [Nat.zero_mul, Nat.add_zero] at h9; exact h9)
  subst hg1
  have HDA : Hid (DigAt (fun w' => Below wR.heap.size wR w') w1.heap.size (leafD [5])) := Lib.hid ⟨HL5.out, fun W' h => range_row (H24.out.keep h)⟩
  (refine wp_region_held_drew (S := fun w' => Below wR.heap.size wR w') (by kernel_rfl) ((Below.refl _ wR).drew) (fun hHeld => ?_))
  (obtain ⟨w0, hw0⟩ : ∃ x, x = wR.drew := ⟨_, rfl⟩; rw [← hw0] at hHeld ⊢; have HS := Lib.hid hHeld; clear hHeld hw0)
  refine wpAnyH_take (i := 0) (oi := { dst := some 84, op := Op.move (Operand.tmp 17), type := 4, pos := "law.go:22", after := #[], guard := none }) (v := ?_) rfl (by kernel_rfl) (by kernel_rfl) (by kernel_rfl) (fun _ _ _ h => h) (Or.inl ⟨by rfl, ?_⟩) HS.out ?_
  rotate_left
  · (intro w hSw; (try dsimp only at hSw); go_simp; with_reducible rfl)
  try simp only [Act.put, List.setIfInBounds_toArray, List.set_cons_zero, List.set_cons_succ]
  refine wpAnyH_take (i := 1) (oi := { dst := some 85, op := Op.move (Operand.tmp 84), type := 4, pos := "law.go:22", after := #[{ on := 0, ground := Ground.data }], guard := none }) (v := ?_) rfl (by kernel_rfl) (by kernel_rfl) (by kernel_rfl) (fun _ _ _ h => h) (Or.inl ⟨by rfl, ?_⟩) HS.out ?_
  rotate_left
  · (intro w hSw; (try dsimp only at hSw); go_simp; with_reducible rfl)
  try simp only [Act.put, List.setIfInBounds_toArray, List.set_cons_zero, List.set_cons_succ]
  refine take_dig (i := 2) (oi := { dst := some 86, op := Op.load 30 (Operand.tmp 1), type := 30, pos := "law.go:22", after := #[{ on := 1, ground := Ground.guard }], guard := some (1, true) }) HDA.out rfl (by kernel_rfl) (by kernel_rfl) (by kernel_rfl) (fun _ _ _ h => h) HS.out rfl rfl (by rfl) ?_
  try simp only [Act.put, List.setIfInBounds_toArray, List.set_cons_zero, List.set_cons_succ]
  refine wpAnyH_ready (rs := [3]) (by kernel_rfl) (by simp) ?_
  refine AllReadyH.cons (o := { dst := some 87, op := Op.buildSlice 34 1 #[(0, Operand.const (Value.int IntKind.u8 5))], type := 34, pos := "law.go:22", after := #[{ on := 1, ground := Ground.guard }], guard := some (1, true) }) rfl (fun K hK => ?_) ?_
  · rw [if_pos (by rfl)]
    go_simp
    have HR5 := Lib.hid (one_leaf w0 5)
    replace HS := Lib.hid (below_next HS.out (Joins.below_alloc1 w0 (.cells #[.int .u8 5] 5)))
    refine hK.out _ _ HS.out (fun _ => ?_)
    clear hK K
    try simp only [Act.put, List.setIfInBounds_toArray, List.set_cons_zero, List.set_cons_succ]
    refine wpAnyH_ready (rs := [4]) (by kernel_rfl) (by simp) ?_
    refine AllReadyH.cons (o := { dst := some 88, op := Op.call { callee := Callee.value (Operand.func 22), args := #[Operand.const (Value.string { data := #[108, 101, 97, 102] }), Operand.tmp 87], argTypes := #[9, 34] }, type := 30, pos := "law.go:22", after := #[{ on := 3, ground := Ground.data }, { on := 1, ground := Ground.chain }, { on := 1, ground := Ground.guard }], guard := some (1, true) }) rfl (fun K hK => ?_) ?_
    · rw [if_pos (by rfl)]
      go_simp
      go_wp2_with (go_at_call 22; refine (tagged_call leafS [5] _ _ (by decide) (by simp) HR5.out (HTR.out.keep HS.out)).mono ?_; rintro e wa ⟨rfl, hb⟩; replace HS := Lib.hid (below_next HS.out hb); clear hb)
      refine hK.out _ _ HS.out (fun _ => ?_)
      clear hK K
      try simp only [Act.put, List.setIfInBounds_toArray, List.set_cons_zero, List.set_cons_succ]
      refine wpAnyH_ready (rs := [5]) (by kernel_rfl) (by simp) ?_
      refine AllReadyH.cons (o := { dst := some 89, op := Op.binOp BinOp.eql 30 (Operand.tmp 86) (Operand.tmp 88) 30, type := 4, pos := "law.go:22", after := #[{ on := 2, ground := Ground.data }, { on := 4, ground := Ground.data }, { on := 1, ground := Ground.guard }], guard := some (1, true) }) rfl (fun K hK => ?_) ?_
      · rw [if_pos (by rfl)]
        (refine wp_eq_dig _ _ rfl (leafD [5]) (tagged leafS.data.toList [5]) HL5.out (sha_len _) rfl rfl ?_; rw [show (leafD [5] == tagged leafS.data.toList [5]) = true by rw [sd7]; simp])
        refine hK.out _ _ HS.out (fun _ => ?_)
        clear hK K
        try simp only [Act.put, List.setIfInBounds_toArray, List.set_cons_zero, List.set_cons_succ]
        refine wpAnyH_take (i := 6) (oi := { dst := some 90, op := Op.pick (Operand.tmp 85) (Operand.tmp 89) (Operand.const (Value.bool false)), type := 4, pos := "law.go:22", after := #[{ on := 1, ground := Ground.data }, { on := 5, ground := Ground.data }], guard := none }) (v := ?_) rfl (by kernel_rfl) (by kernel_rfl) (by kernel_rfl) (fun _ _ _ h => h) (Or.inl ⟨by rfl, ?_⟩) HS.out ?_
        rotate_left
        · (intro w hSw; (try dsimp only at hSw); go_simp; with_reducible rfl)
        try simp only [Act.put, List.setIfInBounds_toArray, List.set_cons_zero, List.set_cons_succ]
        refine wpAnyH_take (i := 7) (oi := { dst := some 91, op := Op.move (Operand.tmp 90), type := 4, pos := "law.go:22", after := #[{ on := 6, ground := Ground.data }, { on := 4, ground := Ground.chain }], guard := none }) (v := ?_) rfl (by kernel_rfl) (by kernel_rfl) (by kernel_rfl) (fun _ _ _ h => h) (Or.inl ⟨by rfl, ?_⟩) HS.out ?_
        rotate_left
        · (intro w hSw; (try dsimp only at hSw); go_simp; with_reducible rfl)
        try simp only [Act.put, List.setIfInBounds_toArray, List.set_cons_zero, List.set_cons_succ]
        refine wpAnyH_take (i := 8) (oi := { dst := some 92, op := Op.move (Operand.tmp 10), type := 25, pos := "law.go:22", after := #[{ on := 7, ground := Ground.guard }], guard := some (7, true) }) (v := ?_) rfl (by kernel_rfl) (by kernel_rfl) (by kernel_rfl) (fun _ _ _ h => h) (Or.inl ⟨by rfl, ?_⟩) HS.out ?_
        rotate_left
        · (intro w hSw; (try dsimp only at hSw); go_simp; with_reducible rfl)
        try simp only [Act.put, List.setIfInBounds_toArray, List.set_cons_zero, List.set_cons_succ]
        refine wpAnyH_take (i := 9) (oi := { dst := some 93, op := Op.call { callee := Callee.builtin Builtin.len, args := #[Operand.tmp 92], argTypes := #[25] }, type := 3, pos := "law.go:22", after := #[{ on := 8, ground := Ground.data }, { on := 7, ground := Ground.guard }], guard := some (7, true) }) (v := ?_) rfl (by kernel_rfl) (by kernel_rfl) (by kernel_rfl) (fun _ _ _ h => h) (Or.inl ⟨by rfl, ?_⟩) HS.out ?_
        rotate_left
        · (intro w hSw; (try dsimp only at hSw); go_simp; with_reducible rfl)
        try simp only [Act.put, List.setIfInBounds_toArray, List.set_cons_zero, List.set_cons_succ]
        refine wpAnyH_take (i := 10) (oi := { dst := some 94, op := Op.binOp BinOp.eql 3 (Operand.tmp 93) (Operand.const (Value.int IntKind.i64 0)) 3, type := 4, pos := "law.go:22", after := #[{ on := 9, ground := Ground.data }, { on := 7, ground := Ground.guard }], guard := some (7, true) }) (v := ?_) rfl (by kernel_rfl) (by kernel_rfl) (by kernel_rfl) (fun _ _ _ h => h) (Or.inl ⟨by rfl, ?_⟩) HS.out ?_
        rotate_left
        · (intro w hSw; (try dsimp only at hSw); go_simp; with_reducible rfl)
        try simp only [Act.put, List.setIfInBounds_toArray, List.set_cons_zero, List.set_cons_succ]
        refine wpAnyH_take (i := 11) (oi := { dst := some 95, op := Op.pick (Operand.tmp 91) (Operand.tmp 94) (Operand.const (Value.bool false)), type := 4, pos := "law.go:22", after := #[{ on := 7, ground := Ground.data }, { on := 10, ground := Ground.data }], guard := none }) (v := ?_) rfl (by kernel_rfl) (by kernel_rfl) (by kernel_rfl) (fun _ _ _ h => h) (Or.inl ⟨by rfl, ?_⟩) HS.out ?_
        rotate_left
        · (intro w hSw; (try dsimp only at hSw); go_simp; with_reducible rfl)
        try simp only [Act.put, List.setIfInBounds_toArray, List.set_cons_zero, List.set_cons_succ]
        refine wpAnyH_take (i := 12) (oi := { dst := some 96, op := Op.move (Operand.tmp 95), type := 4, pos := "law.go:22", after := #[{ on := 11, ground := Ground.data }, { on := 7, ground := Ground.chain }], guard := none }) (v := ?_) rfl (by kernel_rfl) (by kernel_rfl) (by kernel_rfl) (fun _ _ _ h => h) (Or.inl ⟨by rfl, ?_⟩) HS.out ?_
        rotate_left
        · (intro w hSw; (try dsimp only at hSw); go_simp; with_reducible rfl)
        try simp only [Act.put, List.setIfInBounds_toArray, List.set_cons_zero, List.set_cons_succ]
        refine wpAnyH_take (i := 13) (oi := { dst := some 97, op := Op.move (Operand.tmp 8), type := 25, pos := "law.go:22", after := #[{ on := 12, ground := Ground.guard }], guard := some (12, true) }) (v := ?_) rfl (by kernel_rfl) (by kernel_rfl) (by kernel_rfl) (fun _ _ _ h => h) (Or.inl ⟨by rfl, ?_⟩) HS.out ?_
        rotate_left
        · (intro w hSw; (try dsimp only at hSw); go_simp; with_reducible rfl)
        try simp only [Act.put, List.setIfInBounds_toArray, List.set_cons_zero, List.set_cons_succ]
        refine wpAnyH_take (i := 14) (oi := { dst := some 98, op := Op.call { callee := Callee.builtin Builtin.len, args := #[Operand.tmp 97], argTypes := #[25] }, type := 3, pos := "law.go:22", after := #[{ on := 13, ground := Ground.data }, { on := 12, ground := Ground.guard }], guard := some (12, true) }) (v := ?_) rfl (by kernel_rfl) (by kernel_rfl) (by kernel_rfl) (fun _ _ _ h => h) (Or.inl ⟨by rfl, ?_⟩) HS.out ?_
        rotate_left
        · (intro w hSw; (try dsimp only at hSw); go_simp; with_reducible rfl)
        try simp only [Act.put, List.setIfInBounds_toArray, List.set_cons_zero, List.set_cons_succ]
        refine wpAnyH_take (i := 15) (oi := { dst := some 99, op := Op.binOp BinOp.eql 3 (Operand.tmp 98) (Operand.const (Value.int IntKind.i64 1)) 3, type := 4, pos := "law.go:22", after := #[{ on := 14, ground := Ground.data }, { on := 12, ground := Ground.guard }], guard := some (12, true) }) (v := ?_) rfl (by kernel_rfl) (by kernel_rfl) (by kernel_rfl) (fun _ _ _ h => h) (Or.inl ⟨by rfl, ?_⟩) HS.out ?_
        rotate_left
        · (intro w hSw; (try dsimp only at hSw); go_simp; with_reducible rfl)
        try simp only [Act.put, List.setIfInBounds_toArray, List.set_cons_zero, List.set_cons_succ]
        refine wpAnyH_take (i := 16) (oi := { dst := some 100, op := Op.pick (Operand.tmp 96) (Operand.tmp 99) (Operand.const (Value.bool false)), type := 4, pos := "law.go:22", after := #[{ on := 12, ground := Ground.data }, { on := 15, ground := Ground.data }], guard := none }) (v := ?_) rfl (by kernel_rfl) (by kernel_rfl) (by kernel_rfl) (fun _ _ _ h => h) (Or.inl ⟨by rfl, ?_⟩) HS.out ?_
        rotate_left
        · (intro w hSw; (try dsimp only at hSw); go_simp; with_reducible rfl)
        try simp only [Act.put, List.setIfInBounds_toArray, List.set_cons_zero, List.set_cons_succ]
        refine wpAnyH_take (i := 17) (oi := { dst := some 101, op := Op.move (Operand.tmp 100), type := 4, pos := "law.go:22", after := #[{ on := 16, ground := Ground.data }, { on := 12, ground := Ground.chain }], guard := none }) (v := ?_) rfl (by kernel_rfl) (by kernel_rfl) (by kernel_rfl) (fun _ _ _ h => h) (Or.inl ⟨by rfl, ?_⟩) HS.out ?_
        rotate_left
        · (intro w hSw; (try dsimp only at hSw); go_simp; with_reducible rfl)
        try simp only [Act.put, List.setIfInBounds_toArray, List.set_cons_zero, List.set_cons_succ]
        refine wpAnyH_take (i := 18) (oi := { dst := some 102, op := Op.move (Operand.tmp 8), type := 25, pos := "law.go:22", after := #[{ on := 17, ground := Ground.guard }], guard := some (17, true) }) (v := ?_) rfl (by kernel_rfl) (by kernel_rfl) (by kernel_rfl) (fun _ _ _ h => h) (Or.inl ⟨by rfl, ?_⟩) HS.out ?_
        rotate_left
        · (intro w hSw; (try dsimp only at hSw); go_simp; with_reducible rfl)
        try simp only [Act.put, List.setIfInBounds_toArray, List.set_cons_zero, List.set_cons_succ]
        refine wpAnyH_take (i := 19) (oi := { dst := some 103, op := Op.indexAddr 25 (Operand.tmp 102) (Operand.const (Value.int IntKind.i64 0)), type := 0, pos := "law.go:22", after := #[{ on := 18, ground := Ground.data }, { on := 17, ground := Ground.guard }], guard := some (17, true) }) (v := ?_) rfl (by kernel_rfl) (by kernel_rfl) (by kernel_rfl) (fun _ _ _ h => h) (Or.inl ⟨by rfl, ?_⟩) HS.out ?_
        rotate_left
        · (intro w hSw; (try dsimp only at hSw); go_simp; with_reducible rfl)
        try simp only [Act.put, List.setIfInBounds_toArray, List.set_cons_zero, List.set_cons_succ]
        refine wpAnyH_take (i := 21) (oi := { dst := some 105, op := Op.move (Operand.tmp 7), type := 22, pos := "law.go:22", after := #[{ on := 17, ground := Ground.guard }], guard := some (17, true) }) (v := ?_) rfl (by kernel_rfl) (by kernel_rfl) (by kernel_rfl) (fun _ _ _ h => h) (Or.inl ⟨by rfl, ?_⟩) HS.out ?_
        rotate_left
        · (intro w hSw; (try dsimp only at hSw); go_simp; with_reducible rfl)
        try simp only [Act.put, List.setIfInBounds_toArray, List.set_cons_zero, List.set_cons_succ]
        refine wpAnyH_take (i := 22) (oi := { dst := some 106, op := Op.slice 22 (Operand.tmp 105) none (some (Operand.const (Value.int IntKind.i64 2))) none, type := 22, pos := "law.go:22", after := #[{ on := 21, ground := Ground.data }, { on := 17, ground := Ground.guard }], guard := some (17, true) }) (v := ?_) rfl (by kernel_rfl) (by kernel_rfl) (by kernel_rfl) (fun _ _ _ h => h) (Or.inl ⟨by rfl, ?_⟩) HS.out ?_
        rotate_left
        · (intro w hSw; (try dsimp only at hSw); go_simp; with_reducible rfl)
        try simp only [Act.put, List.setIfInBounds_toArray, List.set_cons_zero, List.set_cons_succ]
        refine wpAnyH_ready (rs := [20, 23]) (by kernel_rfl) (by simp) ?_
        refine AllReadyH.cons (o := { dst := some 104, op := Op.load 30 (Operand.tmp 103), type := 30, pos := "law.go:22", after := #[{ on := 19, ground := Ground.data }, { on := 17, ground := Ground.guard }], guard := some (17, true) }) rfl (fun K hK => ?_) ?_
        · rw [if_pos (by rfl)]
          (refine wp_load_dig _ rfl _ _ rfl (sha (nodeX Ndd (leafD [1]) (leafD [2]))) (sha_len _) (rest_cell32 (HPX.out.stays HS.out) (sha_len _)) ?_)
          refine hK.out _ _ HS.out (fun _ => ?_)
          clear hK K
          try simp only [Act.put, List.setIfInBounds_toArray, List.set_cons_zero, List.set_cons_succ]
          refine wpAnyH_ready (rs := [23]) (by kernel_rfl) (by simp) ?_
          refine AllReadyH.cons (o := { dst := some 107, op := Op.call { callee := Callee.value (Operand.func 14), args := #[Operand.tmp 106], argTypes := #[22] }, type := 30, pos := "law.go:22", after := #[{ on := 22, ground := Ground.data }, { on := 17, ground := Ground.chain }, { on := 17, ground := Ground.guard }], guard := some (17, true) }) rfl (fun K hK => ?_) ?_
          · rw [if_pos (by rfl)]
            go_simp
            go_wp2_with (go_at_call 14; refine (Root_call [[1], [2]] _ _ (by simp) (by simp) (HLL.out.keep HS.out) (HTR.out.keep HS.out)).mono ?_; rintro e wb ⟨rfl, hb⟩; replace HS := Lib.hid (below_next HS.out hb); clear hb)
            refine hK.out _ _ HS.out (fun _ => ?_)
            clear hK K
            try simp only [Act.put, List.setIfInBounds_toArray, List.set_cons_zero, List.set_cons_succ]
            refine wpAnyH_ready (rs := [24]) (by kernel_rfl) (by simp) ?_
            refine AllReadyH.cons (o := { dst := some 108, op := Op.binOp BinOp.eql 30 (Operand.tmp 104) (Operand.tmp 107) 30, type := 4, pos := "law.go:22", after := #[{ on := 20, ground := Ground.data }, { on := 23, ground := Ground.data }, { on := 17, ground := Ground.guard }], guard := some (17, true) }) rfl (fun K hK => ?_) ?_
            · rw [if_pos (by rfl)]
              (refine wp_eq_dig _ _ rfl (sha (nodeX Ndd (leafD [1]) (leafD [2]))) (rootD [[1], [2]]) (sha_len _) (sha_len _) rfl rfl ?_; rw [show (sha (nodeX Ndd (leafD [1]) (leafD [2])) == rootD [[1], [2]]) = true by rw [sd8]; simp])
              refine hK.out _ _ HS.out (fun _ => ?_)
              clear hK K
              try simp only [Act.put, List.setIfInBounds_toArray, List.set_cons_zero, List.set_cons_succ]
              refine wpAnyH_take (i := 25) (oi := { dst := some 109, op := Op.pick (Operand.tmp 101) (Operand.tmp 108) (Operand.const (Value.bool false)), type := 4, pos := "law.go:22", after := #[{ on := 17, ground := Ground.data }, { on := 24, ground := Ground.data }], guard := none }) (v := ?_) rfl (by kernel_rfl) (by kernel_rfl) (by kernel_rfl) (fun _ _ _ h => h) (Or.inl ⟨by rfl, ?_⟩) HS.out ?_
              rotate_left
              · (intro w hSw; (try dsimp only at hSw); go_simp; with_reducible rfl)
              try simp only [Act.put, List.setIfInBounds_toArray, List.set_cons_zero, List.set_cons_succ]
              refine wpAnyH_take (i := 26) (oi := { dst := some 110, op := Op.move (Operand.tmp 109), type := 4, pos := "law.go:22", after := #[{ on := 25, ground := Ground.data }, { on := 23, ground := Ground.chain }], guard := none }) (v := ?_) rfl (by kernel_rfl) (by kernel_rfl) (by kernel_rfl) (fun _ _ _ h => h) (Or.inl ⟨by rfl, ?_⟩) HS.out ?_
              rotate_left
              · (intro w hSw; (try dsimp only at hSw); go_simp; with_reducible rfl)
              try simp only [Act.put, List.setIfInBounds_toArray, List.set_cons_zero, List.set_cons_succ]
              refine wpAnyH_ready (rs := [27]) (by kernel_rfl) (by simp) ?_
              refine AllReadyH.cons (o := { dst := some 111, op := Op.call { callee := Callee.value (Operand.func 14), args := #[Operand.const (Value.slice none 0 0)], argTypes := #[22] }, type := 30, pos := "law.go:22", after := #[{ on := 26, ground := Ground.chain }, { on := 26, ground := Ground.guard }], guard := some (26, true) }) rfl (fun K hK => ?_) ?_
              · rw [if_pos (by rfl)]
                go_simp
                go_wp2_with (go_at_call 14; refine (Root_call [] (.slice none 0 0) _ (by simp) (by simp) (lrest_nil _ _) (HTR.out.keep HS.out)).mono ?_; rintro e wc ⟨rfl, hb⟩; replace HS := Lib.hid (below_next HS.out hb); clear hb)
                refine hK.out _ _ HS.out (fun _ => ?_)
                clear hK K
                try simp only [Act.put, List.setIfInBounds_toArray, List.set_cons_zero, List.set_cons_succ]
                refine wpAnyH_ready (rs := [28]) (by kernel_rfl) (by simp) ?_
                refine AllReadyH.cons (o := { dst := some 112, op := Op.call { callee := Callee.value (Operand.func 22), args := #[Operand.const (Value.string { data := #[110, 111, 110, 101] }), Operand.const (Value.slice none 0 0)], argTypes := #[9, 34] }, type := 30, pos := "law.go:22", after := #[{ on := 27, ground := Ground.chain }, { on := 26, ground := Ground.guard }], guard := some (26, true) }) rfl (fun K hK => ?_) ?_
                · rw [if_pos (by rfl)]
                  go_simp
                  go_wp2_with (go_at_call 22; refine (tagged_call noneS [] (.slice none 0 0) _ (by decide) (by simp) (rest_nil _ _) (HTR.out.keep HS.out)).mono ?_; rintro e wd ⟨rfl, hb⟩; replace HS := Lib.hid (below_next HS.out hb); clear hb)
                  refine hK.out _ _ HS.out (fun _ => ?_)
                  clear hK K
                  try simp only [Act.put, List.setIfInBounds_toArray, List.set_cons_zero, List.set_cons_succ]
                  refine wpAnyH_ready (rs := [29]) (by kernel_rfl) (by simp) ?_
                  refine AllReadyH.cons (o := { dst := some 113, op := Op.binOp BinOp.eql 30 (Operand.tmp 111) (Operand.tmp 112) 30, type := 4, pos := "law.go:22", after := #[{ on := 27, ground := Ground.data }, { on := 28, ground := Ground.data }, { on := 26, ground := Ground.guard }], guard := some (26, true) }) rfl (fun K hK => ?_) ?_
                  · rw [if_pos (by rfl)]
                    (refine wp_eq_dig _ _ rfl (rootD []) (tagged noneS.data.toList []) (sha_len _) (sha_len _) rfl rfl ?_; rw [show (rootD [] == tagged noneS.data.toList []) = true by rw [sd9]; simp])
                    refine hK.out _ _ HS.out (fun _ => ?_)
                    clear hK K
                    try simp only [Act.put, List.setIfInBounds_toArray, List.set_cons_zero, List.set_cons_succ]
                    refine wpAnyH_take (i := 30) (oi := { dst := some 114, op := Op.pick (Operand.tmp 110) (Operand.tmp 113) (Operand.const (Value.bool false)), type := 4, pos := "law.go:22", after := #[{ on := 26, ground := Ground.data }, { on := 29, ground := Ground.data }], guard := none }) (v := ?_) rfl (by kernel_rfl) (by kernel_rfl) (by kernel_rfl) (fun _ _ _ h => h) (Or.inl ⟨by rfl, ?_⟩) HS.out ?_
                    rotate_left
                    · (intro w hSw; (try dsimp only at hSw); go_simp; with_reducible rfl)
                    try simp only [Act.put, List.setIfInBounds_toArray, List.set_cons_zero, List.set_cons_succ]
                    refine wpAnyH_take (i := 31) (oi := { dst := some 0, op := Op.assign (Operand.tmp 114), type := 4, pos := "law.go:22", after := #[{ on := 30, ground := Ground.data }, { on := 28, ground := Ground.chain }, { on := 0, ground := Ground.phase }, { on := 1, ground := Ground.phase }, { on := 2, ground := Ground.phase }, { on := 3, ground := Ground.phase }, { on := 4, ground := Ground.phase }, { on := 5, ground := Ground.phase }, { on := 6, ground := Ground.phase }, { on := 7, ground := Ground.phase }, { on := 8, ground := Ground.phase }, { on := 9, ground := Ground.phase }, { on := 10, ground := Ground.phase }, { on := 11, ground := Ground.phase }, { on := 12, ground := Ground.phase }, { on := 13, ground := Ground.phase }, { on := 14, ground := Ground.phase }, { on := 15, ground := Ground.phase }, { on := 16, ground := Ground.phase }, { on := 17, ground := Ground.phase }, { on := 18, ground := Ground.phase }, { on := 19, ground := Ground.phase }, { on := 20, ground := Ground.phase }, { on := 21, ground := Ground.phase }, { on := 22, ground := Ground.phase }, { on := 23, ground := Ground.phase }, { on := 24, ground := Ground.phase }, { on := 25, ground := Ground.phase }, { on := 26, ground := Ground.phase }, { on := 27, ground := Ground.phase }, { on := 28, ground := Ground.phase }, { on := 29, ground := Ground.phase }, { on := 30, ground := Ground.phase }], guard := none }) (v := ?_) rfl (by kernel_rfl) (by kernel_rfl) (by kernel_rfl) (fun _ _ _ h => h) (Or.inl ⟨by rfl, ?_⟩) HS.out ?_
                    rotate_left
                    · (intro w hSw; (try dsimp only at hSw); go_simp; with_reducible rfl)
                    try simp only [Act.put, List.setIfInBounds_toArray, List.set_cons_zero, List.set_cons_succ]
                    refine wpAnyH_done (by kernel_rfl) ?_ _
                    go_wp2_with fail
                    go_ret
                    exact ⟨by rfl, below_next HBr.out HS.out⟩
                  exact AllReadyH.nil
                exact AllReadyH.nil
              exact AllReadyH.nil
            exact AllReadyH.nil
          exact AllReadyH.nil
        refine AllReadyH.cons (o := { dst := some 107, op := Op.call { callee := Callee.value (Operand.func 14), args := #[Operand.tmp 106], argTypes := #[22] }, type := 30, pos := "law.go:22", after := #[{ on := 22, ground := Ground.data }, { on := 17, ground := Ground.chain }, { on := 17, ground := Ground.guard }], guard := some (17, true) }) rfl (fun K hK => ?_) ?_
        · rw [if_pos (by rfl)]
          go_simp
          go_wp2_with (go_at_call 14; refine (Root_call [[1], [2]] _ _ (by simp) (by simp) (HLL.out.keep HS.out) (HTR.out.keep HS.out)).mono ?_; rintro e wb ⟨rfl, hb⟩; replace HS := Lib.hid (below_next HS.out hb); clear hb)
          refine hK.out _ _ HS.out (fun _ => ?_)
          clear hK K
          try simp only [Act.put, List.setIfInBounds_toArray, List.set_cons_zero, List.set_cons_succ]
          refine wpAnyH_ready (rs := [20]) (by kernel_rfl) (by simp) ?_
          refine AllReadyH.cons (o := { dst := some 104, op := Op.load 30 (Operand.tmp 103), type := 30, pos := "law.go:22", after := #[{ on := 19, ground := Ground.data }, { on := 17, ground := Ground.guard }], guard := some (17, true) }) rfl (fun K hK => ?_) ?_
          · rw [if_pos (by rfl)]
            (refine wp_load_dig _ rfl _ _ rfl (sha (nodeX Ndd (leafD [1]) (leafD [2]))) (sha_len _) (rest_cell32 (HPX.out.stays HS.out) (sha_len _)) ?_)
            refine hK.out _ _ HS.out (fun _ => ?_)
            clear hK K
            try simp only [Act.put, List.setIfInBounds_toArray, List.set_cons_zero, List.set_cons_succ]
            refine wpAnyH_ready (rs := [24]) (by kernel_rfl) (by simp) ?_
            refine AllReadyH.cons (o := { dst := some 108, op := Op.binOp BinOp.eql 30 (Operand.tmp 104) (Operand.tmp 107) 30, type := 4, pos := "law.go:22", after := #[{ on := 20, ground := Ground.data }, { on := 23, ground := Ground.data }, { on := 17, ground := Ground.guard }], guard := some (17, true) }) rfl (fun K hK => ?_) ?_
            · rw [if_pos (by rfl)]
              (refine wp_eq_dig _ _ rfl (sha (nodeX Ndd (leafD [1]) (leafD [2]))) (rootD [[1], [2]]) (sha_len _) (sha_len _) rfl rfl ?_; rw [show (sha (nodeX Ndd (leafD [1]) (leafD [2])) == rootD [[1], [2]]) = true by rw [sd8]; simp])
              refine hK.out _ _ HS.out (fun _ => ?_)
              clear hK K
              try simp only [Act.put, List.setIfInBounds_toArray, List.set_cons_zero, List.set_cons_succ]
              refine wpAnyH_take (i := 25) (oi := { dst := some 109, op := Op.pick (Operand.tmp 101) (Operand.tmp 108) (Operand.const (Value.bool false)), type := 4, pos := "law.go:22", after := #[{ on := 17, ground := Ground.data }, { on := 24, ground := Ground.data }], guard := none }) (v := ?_) rfl (by kernel_rfl) (by kernel_rfl) (by kernel_rfl) (fun _ _ _ h => h) (Or.inl ⟨by rfl, ?_⟩) HS.out ?_
              rotate_left
              · (intro w hSw; (try dsimp only at hSw); go_simp; with_reducible rfl)
              try simp only [Act.put, List.setIfInBounds_toArray, List.set_cons_zero, List.set_cons_succ]
              refine wpAnyH_take (i := 26) (oi := { dst := some 110, op := Op.move (Operand.tmp 109), type := 4, pos := "law.go:22", after := #[{ on := 25, ground := Ground.data }, { on := 23, ground := Ground.chain }], guard := none }) (v := ?_) rfl (by kernel_rfl) (by kernel_rfl) (by kernel_rfl) (fun _ _ _ h => h) (Or.inl ⟨by rfl, ?_⟩) HS.out ?_
              rotate_left
              · (intro w hSw; (try dsimp only at hSw); go_simp; with_reducible rfl)
              try simp only [Act.put, List.setIfInBounds_toArray, List.set_cons_zero, List.set_cons_succ]
              refine wpAnyH_ready (rs := [27]) (by kernel_rfl) (by simp) ?_
              refine AllReadyH.cons (o := { dst := some 111, op := Op.call { callee := Callee.value (Operand.func 14), args := #[Operand.const (Value.slice none 0 0)], argTypes := #[22] }, type := 30, pos := "law.go:22", after := #[{ on := 26, ground := Ground.chain }, { on := 26, ground := Ground.guard }], guard := some (26, true) }) rfl (fun K hK => ?_) ?_
              · rw [if_pos (by rfl)]
                go_simp
                go_wp2_with (go_at_call 14; refine (Root_call [] (.slice none 0 0) _ (by simp) (by simp) (lrest_nil _ _) (HTR.out.keep HS.out)).mono ?_; rintro e wc ⟨rfl, hb⟩; replace HS := Lib.hid (below_next HS.out hb); clear hb)
                refine hK.out _ _ HS.out (fun _ => ?_)
                clear hK K
                try simp only [Act.put, List.setIfInBounds_toArray, List.set_cons_zero, List.set_cons_succ]
                refine wpAnyH_ready (rs := [28]) (by kernel_rfl) (by simp) ?_
                refine AllReadyH.cons (o := { dst := some 112, op := Op.call { callee := Callee.value (Operand.func 22), args := #[Operand.const (Value.string { data := #[110, 111, 110, 101] }), Operand.const (Value.slice none 0 0)], argTypes := #[9, 34] }, type := 30, pos := "law.go:22", after := #[{ on := 27, ground := Ground.chain }, { on := 26, ground := Ground.guard }], guard := some (26, true) }) rfl (fun K hK => ?_) ?_
                · rw [if_pos (by rfl)]
                  go_simp
                  go_wp2_with (go_at_call 22; refine (tagged_call noneS [] (.slice none 0 0) _ (by decide) (by simp) (rest_nil _ _) (HTR.out.keep HS.out)).mono ?_; rintro e wd ⟨rfl, hb⟩; replace HS := Lib.hid (below_next HS.out hb); clear hb)
                  refine hK.out _ _ HS.out (fun _ => ?_)
                  clear hK K
                  try simp only [Act.put, List.setIfInBounds_toArray, List.set_cons_zero, List.set_cons_succ]
                  refine wpAnyH_ready (rs := [29]) (by kernel_rfl) (by simp) ?_
                  refine AllReadyH.cons (o := { dst := some 113, op := Op.binOp BinOp.eql 30 (Operand.tmp 111) (Operand.tmp 112) 30, type := 4, pos := "law.go:22", after := #[{ on := 27, ground := Ground.data }, { on := 28, ground := Ground.data }, { on := 26, ground := Ground.guard }], guard := some (26, true) }) rfl (fun K hK => ?_) ?_
                  · rw [if_pos (by rfl)]
                    (refine wp_eq_dig _ _ rfl (rootD []) (tagged noneS.data.toList []) (sha_len _) (sha_len _) rfl rfl ?_; rw [show (rootD [] == tagged noneS.data.toList []) = true by rw [sd9]; simp])
                    refine hK.out _ _ HS.out (fun _ => ?_)
                    clear hK K
                    try simp only [Act.put, List.setIfInBounds_toArray, List.set_cons_zero, List.set_cons_succ]
                    refine wpAnyH_take (i := 30) (oi := { dst := some 114, op := Op.pick (Operand.tmp 110) (Operand.tmp 113) (Operand.const (Value.bool false)), type := 4, pos := "law.go:22", after := #[{ on := 26, ground := Ground.data }, { on := 29, ground := Ground.data }], guard := none }) (v := ?_) rfl (by kernel_rfl) (by kernel_rfl) (by kernel_rfl) (fun _ _ _ h => h) (Or.inl ⟨by rfl, ?_⟩) HS.out ?_
                    rotate_left
                    · (intro w hSw; (try dsimp only at hSw); go_simp; with_reducible rfl)
                    try simp only [Act.put, List.setIfInBounds_toArray, List.set_cons_zero, List.set_cons_succ]
                    refine wpAnyH_take (i := 31) (oi := { dst := some 0, op := Op.assign (Operand.tmp 114), type := 4, pos := "law.go:22", after := #[{ on := 30, ground := Ground.data }, { on := 28, ground := Ground.chain }, { on := 0, ground := Ground.phase }, { on := 1, ground := Ground.phase }, { on := 2, ground := Ground.phase }, { on := 3, ground := Ground.phase }, { on := 4, ground := Ground.phase }, { on := 5, ground := Ground.phase }, { on := 6, ground := Ground.phase }, { on := 7, ground := Ground.phase }, { on := 8, ground := Ground.phase }, { on := 9, ground := Ground.phase }, { on := 10, ground := Ground.phase }, { on := 11, ground := Ground.phase }, { on := 12, ground := Ground.phase }, { on := 13, ground := Ground.phase }, { on := 14, ground := Ground.phase }, { on := 15, ground := Ground.phase }, { on := 16, ground := Ground.phase }, { on := 17, ground := Ground.phase }, { on := 18, ground := Ground.phase }, { on := 19, ground := Ground.phase }, { on := 20, ground := Ground.phase }, { on := 21, ground := Ground.phase }, { on := 22, ground := Ground.phase }, { on := 23, ground := Ground.phase }, { on := 24, ground := Ground.phase }, { on := 25, ground := Ground.phase }, { on := 26, ground := Ground.phase }, { on := 27, ground := Ground.phase }, { on := 28, ground := Ground.phase }, { on := 29, ground := Ground.phase }, { on := 30, ground := Ground.phase }], guard := none }) (v := ?_) rfl (by kernel_rfl) (by kernel_rfl) (by kernel_rfl) (fun _ _ _ h => h) (Or.inl ⟨by rfl, ?_⟩) HS.out ?_
                    rotate_left
                    · (intro w hSw; (try dsimp only at hSw); go_simp; with_reducible rfl)
                    try simp only [Act.put, List.setIfInBounds_toArray, List.set_cons_zero, List.set_cons_succ]
                    refine wpAnyH_done (by kernel_rfl) ?_ _
                    go_wp2_with fail
                    go_ret
                    exact ⟨by rfl, below_next HBr.out HS.out⟩
                  exact AllReadyH.nil
                exact AllReadyH.nil
              exact AllReadyH.nil
            exact AllReadyH.nil
          exact AllReadyH.nil
        exact AllReadyH.nil
      exact AllReadyH.nil
    exact AllReadyH.nil
  exact AllReadyH.nil
end Go.Proofs.YtbceimbcjijfgaaDoor.Dig

/- MerkleLength: the law's walk. -/
namespace Go.Proofs.YtbceimbcjijfgaaDoor.Dig
open Go.RowKit

theorem wpList_eq_want {ops : Array Oper} {rest : List Oper} {o : Oper} {a : Act} {w : World} {Q : Exit → Act → World → Prop} (x y : Operand) (ho : o.op = .binOp .eql 30 x y 30)
    (c d : List UInt8) (hc : c.length = 32) (hd : d.length = 32) (hx : a.eval x = dg c) (hy : a.eval y = dg d) (hw : Region.wanted o (yielded ops a.tmps) = true)
    (h : wpList Tryd.prog ops Q rest (a.put o.dst (.bool (c == d))) w) : wpList Tryd.prog ops Q (o :: rest) a w :=
  wpList_wanted hw fun _ hK => wp_eq_dig x y ho c d hc hd hx hy (hK _ _ h)
theorem bs_lt (k m : Nat) (h : k < m) : bs k < m ↔ m % 2 = 0 ∨ k ≠ m - 1 := by
  unfold bs
  split <;> omega
def LnHead (f n i : Nat) (s11 s12 s13 : Value) : Prop := ∃ (f' m k c : Nat), s11 = .int .i64 (c : Int) ∧ s12 = .int .i64 (m : Int) ∧ s13 = .int .i64 (k : Int) ∧ Hid (plen f n i = c + plen f' m k ∧ c ≤ 1000 ∧ c + f' ≤ 17 ∧ k < m ∧ m ≤ 2 ^ f' ∧ m ≤ 65536)
set_option maxHeartbeats 8000000 in
set_option maxRecDepth 100000 in
theorem length_walk (n i : Int) (b : List UInt8) (bv : Value) (p : List (List UInt8)) (pv : Value) (w : World) (hn : -9223372036854775808 ≤ n ∧ n ≤ 9223372036854775807) (hi : -9223372036854775808 ≤ i ∧ i ≤ 9223372036854775807) (hb : Rest w.heap.size w b bv) (hr : DRest w.heap.size w p pv) (hT : Tab w) :
    Calls Tryd.prog 9 #[.int .i64 n, .int .i64 i, bv, pv] w fun e w' => e = .returned (.bool true) ∧ Below w.heap.size w w' := by
  obtain ⟨pa, pc, rfl⟩ := drest_shape hr
  obtain ⟨ba, bc, rfl⟩ : ∃ a c, bv = .slice a b.length c := by obtain ⟨a, c, h, _⟩ := hb; exact ⟨a, c, h⟩
  have HR := Lib.hid hr
  have HBT := Lib.hid hb
  have HT := Lib.hid hT
  have HLN := Lib.hid (climbD_len 17 n i b p hr.1)
  have HCL := Lib.hid (Climb_call n i b (.slice ba b.length bc) p (.slice pa p.length pc))
  obtain ⟨bl, hbl⟩ : ∃ bl, bl = b.length := ⟨_, rfl⟩
  obtain ⟨pl, hpl⟩ : ∃ pl, pl = p.length := ⟨_, rfl⟩
  have HBL := Lib.hid hbl
  have HPL := Lib.hid hpl
  rw [← hbl, ← hpl] at HCL ⊢
  rw [← hbl] at HBT
  rw [← hpl] at HR
  clear hr hb hT hbl hpl
  rcases Nat.lt_or_ge 200 bl with h200 | h200
  · have hb1 : (200 : Int) < (bl : Int) := by omega
    go_enter Tryd.func9, Tryd.ntmps9
    go_wp2_with (first
      | (go_at_call 10; refine (sane_call w HT.out).mono ?_; rintro e w1 ⟨rfl, hb⟩; have HB1 := Lib.hid hb; clear hb)
      | fail)
    go_ret
    exact ⟨rfl, HB1.out⟩
  have hb1 : ¬ (200 : Int) < (bl : Int) := by omega
  rcases Nat.lt_or_ge 40 pl with h40 | h40
  · have hp1 : (40 : Int) < (pl : Int) := by omega
    go_enter Tryd.func9, Tryd.ntmps9
    go_wp2_with (first
      | (go_at_call 10; refine (sane_call w HT.out).mono ?_; rintro e w1 ⟨rfl, hb⟩; have HB1 := Lib.hid hb; clear hb)
      | fail)
    go_ret
    exact ⟨rfl, HB1.out⟩
  have hp1 : ¬ (40 : Int) < (pl : Int) := by omega
  by_cases hl : isL n i = true
  · obtain ⟨i1, i2, i3⟩ := isL_nat hl
    obtain ⟨m0, rfl⟩ : ∃ m : Nat, n = (m : Int) := ⟨n.toNat, by omega⟩
    obtain ⟨j0, rfl⟩ : ∃ j : Nat, i = (j : Int) := ⟨i.toNat, by omega⟩
    have HST : Hid (plen 17 m0 j0 = 0 + plen 17 m0 j0 ∧ 0 ≤ 1000 ∧ 0 + 17 ≤ 17 ∧ j0 < m0 ∧ m0 ≤ 2 ^ 17 ∧ m0 ≤ 65536) := Lib.hid ⟨by omega, by omega, by omega, by omega, by omega, by omega⟩
    have hx1 : ¬ (m0 : Int) < 1 := by omega
    have hx2 : ¬ (65536 : Int) < (m0 : Int) := by omega
    have hx3 : ¬ (j0 : Int) < 0 := by omega
    have hx4 : ¬ (m0 : Int) ≤ (j0 : Int) := by omega
    by_cases hp : p.length = plen 17 m0 j0
    · have hcd : climbD 17 m0 j0 b p = (clm sha Ndd 17 m0 j0 (leafD b) p, 0) := by unfold climbD; rw [if_neg (by rw [hl]; simp), Int.toNat_natCast, Int.toNat_natCast, if_neg (by omega)]
      rw [hcd] at HCL HLN
      have HPP : Hid (pl = plen 17 m0 j0) := Lib.hid (by rw [HPL.out]; exact hp)
      obtain ⟨dd, hdd⟩ : ∃ dd, dd = clm sha Ndd 17 m0 j0 (leafD b) p := ⟨_, rfl⟩
      rw [← hdd] at HCL HLN
      clear hcd hp hl i1 i2 i3 hdd hn hi
      go_enter Tryd.func9, Tryd.ntmps9
      go_wp2_with (first
        | (refine wpList_store_dig rfl (.tmp 9) (.tmp 30) rfl g9 dd HLN.out rfl rfl H3.out HB3.out (by have := hg9; have := HB2.out.size; omega) ?_; intro w4 hrow hb hoth; have H4 := Lib.hid hrow; have HB4 := Lib.hid hb; clear hrow hb hoth)
        | (refine wpList_alloc_dig rfl 9 rfl rfl ?_; intro g9 w3 hg hrow hb; have hg9 : w2.heap.size ≤ g9 := (by omega); have H3 := Lib.hid hrow; have HB3 := Lib.hid (below_next HB2.out hb); clear hg hrow hb)
        | (go_at_call 17; refine (HCL.out w1 (by omega) (rest_keep HBT.out HB1.out) (HR.out.keep HB1.out) (HT.out.keep HB1.out)).mono ?_; rintro e w2 ⟨rfl, hb⟩; have HB2 := Lib.hid (below_next HB1.out hb); clear hb)
        | (go_at_call 10; refine (sane_call w HT.out).mono ?_; rintro e w1 ⟨rfl, hb⟩; have HB1 := Lib.hid hb; clear hb)
        | fail)
      go_loopw [11, 12, 13] (fun s11 s12 s13 wr => LnHead 17 m0 j0 s11 s12 s13 ∧ wr = w4) (fun _ s12 _ _ => (intOf s12).toNat)
      case atStart => exact ⟨⟨17, m0, j0, 0, rfl, rfl, rfl, HST.out⟩, rfl⟩
      case round =>
        obtain ⟨⟨f', m, k, c, rfl, rfl, rfl, HI⟩, rfl⟩ := hrel
        by_cases hm : (1 : Int) < (m : Int)
        · obtain ⟨g, rfl⟩ : ∃ g, f' = g + 1 := by
            have := HI.out.2.2.2.2.1
            match f', this with
            | 0, h => simp at h; omega
            | g + 1, _ => exact ⟨g, rfl⟩
          have HP1 : Hid (plen (g + 1) m k = (if bs k < m then 1 else 0) + plen g ((m + 1) / 2) (k / 2)) := Lib.hid (by rw [plen, if_neg (by omega)])
          have hmm : (m : Int) ≤ 65536 := by have := HI.out.2.2.2.2.2; omega
          have hkm : (k : Int) < (m : Int) := by have := HI.out.2.2.2.1; omega
          have hcc : (c : Int) ≤ 1000 := by have := HI.out.2.1; omega
          by_cases he : m % 2 = 0
          · have HI2 : Hid (plen 17 m0 j0 = (c + 1) + plen g ((m + 1) / 2) (k / 2) ∧ c + 1 ≤ 1000 ∧ (c + 1) + g ≤ 17 ∧ k / 2 < (m + 1) / 2 ∧ (m + 1) / 2 ≤ 2 ^ g ∧ (m + 1) / 2 ≤ 65536) := Lib.hid (by
              obtain ⟨a1, a2, a3, a4, a5, a6⟩ := HI.out
              have h8 := HP1.out
              rw [if_pos ((bs_lt k m a4).2 (.inl he))] at h8
              rw [Nat.pow_succ] at a5
              refine ⟨by omega, by omega, by omega, by omega, by omega, by omega⟩)
            have hme : ((m : Int).tmod 2) = 0 := by rw [Int.tmod_eq_emod_of_nonneg (by omega)]; omega
            clear he
            go_wp2_with fail
            exact ⟨⟨⟨g, (m + 1) / 2, k / 2, c + 1, by go_num, by go_num, by go_num, HI2⟩, by first | trivial | rfl⟩, by simp [intOf]; omega⟩
          · have hme : ((m : Int).tmod 2) = 1 := by rw [Int.tmod_eq_emod_of_nonneg (by omega)]; omega
            by_cases hk : k = m - 1
            · have HI2 : Hid (plen 17 m0 j0 = c + plen g ((m + 1) / 2) (k / 2) ∧ c ≤ 1000 ∧ c + g ≤ 17 ∧ k / 2 < (m + 1) / 2 ∧ (m + 1) / 2 ≤ 2 ^ g ∧ (m + 1) / 2 ≤ 65536) := Lib.hid (by
                obtain ⟨a1, a2, a3, a4, a5, a6⟩ := HI.out
                have h8 := HP1.out
                rw [if_neg (fun h => by have h9 := (bs_lt k m a4).1 h; omega)] at h8
                rw [Nat.pow_succ] at a5
                refine ⟨by omega, by omega, by omega, by omega, by omega, by omega⟩)
              have hki : (k : Int) = (m : Int) - 1 := by omega
              have hkb : ((k : Int) != (m : Int) - 1) = false := by simp; omega
              clear he hk
              go_wp2_with fail
              exact ⟨⟨⟨g, (m + 1) / 2, k / 2, c, by go_num, by go_num, by go_num, HI2⟩, by first | trivial | rfl⟩, by simp [intOf]; omega⟩
            · have HI2 : Hid (plen 17 m0 j0 = (c + 1) + plen g ((m + 1) / 2) (k / 2) ∧ c + 1 ≤ 1000 ∧ (c + 1) + g ≤ 17 ∧ k / 2 < (m + 1) / 2 ∧ (m + 1) / 2 ≤ 2 ^ g ∧ (m + 1) / 2 ≤ 65536) := Lib.hid (by
                obtain ⟨a1, a2, a3, a4, a5, a6⟩ := HI.out
                have h8 := HP1.out
                rw [if_pos ((bs_lt k m a4).2 (.inr hk))] at h8
                rw [Nat.pow_succ] at a5
                refine ⟨by omega, by omega, by omega, by omega, by omega, by omega⟩)
              have hkb : ((k : Int) != (m : Int) - 1) = true := by simp; omega
              clear he hk
              go_wp2_with fail
              exact ⟨⟨⟨g, (m + 1) / 2, k / 2, c + 1, by go_num, by go_num, by go_num, HI2⟩, by first | trivial | rfl⟩, by simp [intOf]; omega⟩
        · have HC : Hid (c = plen 17 m0 j0) := Lib.hid (by
            obtain ⟨a1, a2, a3, a4, a5, a6⟩ := HI.out
            have h8 : plen f' m k = 0 := by
              match f' with
              | 0 => rfl
              | g + 1 => rw [plen, if_pos (by omega)]
            omega)
          have hpb : ((pl : Int) != (c : Int)) = false := by have h8 := HC.out; have h9 := HPP.out; simp; omega
          go_wp2_with fail
          go_ret
          exact ⟨rfl, HB4.out⟩
  
    · have hcd : climbD 17 m0 j0 b p = (zd, 70) := by unfold climbD; rw [if_neg (by rw [hl]; simp), Int.toNat_natCast, Int.toNat_natCast, if_pos (by omega)]
      rw [hcd] at HCL HLN
      have HPP : Hid (¬ pl = plen 17 m0 j0) := Lib.hid (by rw [HPL.out]; exact hp)
      clear hcd hp hl i1 i2 i3 hn hi
      go_enter Tryd.func9, Tryd.ntmps9
      go_wp2_with (first
        | (refine wpList_store_dig rfl (.tmp 9) (.tmp 30) rfl g9 zd zd_len rfl rfl H3.out HB3.out (by have := hg9; have := HB2.out.size; omega) ?_; intro w4 hrow hb hoth; have H4 := Lib.hid hrow; have HB4 := Lib.hid hb; clear hrow hb hoth)
        | (refine wpList_alloc_dig rfl 9 rfl rfl ?_; intro g9 w3 hg hrow hb; have hg9 : w2.heap.size ≤ g9 := (by omega); have H3 := Lib.hid hrow; have HB3 := Lib.hid (below_next HB2.out hb); clear hg hrow hb)
        | (go_at_call 17; refine (HCL.out w1 (by omega) (rest_keep HBT.out HB1.out) (HR.out.keep HB1.out) (HT.out.keep HB1.out)).mono ?_; rintro e w2 ⟨rfl, hb⟩; have HB2 := Lib.hid (below_next HB1.out hb); clear hb)
        | (go_at_call 10; refine (sane_call w HT.out).mono ?_; rintro e w1 ⟨rfl, hb⟩; have HB1 := Lib.hid hb; clear hb)
        | fail)
      go_loopw [11, 12, 13] (fun s11 s12 s13 wr => LnHead 17 m0 j0 s11 s12 s13 ∧ wr = w4) (fun _ s12 _ _ => (intOf s12).toNat)
      case atStart => exact ⟨⟨17, m0, j0, 0, rfl, rfl, rfl, HST.out⟩, rfl⟩
      case round =>
        obtain ⟨⟨f', m, k, c, rfl, rfl, rfl, HI⟩, rfl⟩ := hrel
        by_cases hm : (1 : Int) < (m : Int)
        · obtain ⟨g, rfl⟩ : ∃ g, f' = g + 1 := by
            have := HI.out.2.2.2.2.1
            match f', this with
            | 0, h => simp at h; omega
            | g + 1, _ => exact ⟨g, rfl⟩
          have HP1 : Hid (plen (g + 1) m k = (if bs k < m then 1 else 0) + plen g ((m + 1) / 2) (k / 2)) := Lib.hid (by rw [plen, if_neg (by omega)])
          have hmm : (m : Int) ≤ 65536 := by have := HI.out.2.2.2.2.2; omega
          have hkm : (k : Int) < (m : Int) := by have := HI.out.2.2.2.1; omega
          have hcc : (c : Int) ≤ 1000 := by have := HI.out.2.1; omega
          by_cases he : m % 2 = 0
          · have HI2 : Hid (plen 17 m0 j0 = (c + 1) + plen g ((m + 1) / 2) (k / 2) ∧ c + 1 ≤ 1000 ∧ (c + 1) + g ≤ 17 ∧ k / 2 < (m + 1) / 2 ∧ (m + 1) / 2 ≤ 2 ^ g ∧ (m + 1) / 2 ≤ 65536) := Lib.hid (by
              obtain ⟨a1, a2, a3, a4, a5, a6⟩ := HI.out
              have h8 := HP1.out
              rw [if_pos ((bs_lt k m a4).2 (.inl he))] at h8
              rw [Nat.pow_succ] at a5
              refine ⟨by omega, by omega, by omega, by omega, by omega, by omega⟩)
            have hme : ((m : Int).tmod 2) = 0 := by rw [Int.tmod_eq_emod_of_nonneg (by omega)]; omega
            clear he
            go_wp2_with fail
            exact ⟨⟨⟨g, (m + 1) / 2, k / 2, c + 1, by go_num, by go_num, by go_num, HI2⟩, by first | trivial | rfl⟩, by simp [intOf]; omega⟩
          · have hme : ((m : Int).tmod 2) = 1 := by rw [Int.tmod_eq_emod_of_nonneg (by omega)]; omega
            by_cases hk : k = m - 1
            · have HI2 : Hid (plen 17 m0 j0 = c + plen g ((m + 1) / 2) (k / 2) ∧ c ≤ 1000 ∧ c + g ≤ 17 ∧ k / 2 < (m + 1) / 2 ∧ (m + 1) / 2 ≤ 2 ^ g ∧ (m + 1) / 2 ≤ 65536) := Lib.hid (by
                obtain ⟨a1, a2, a3, a4, a5, a6⟩ := HI.out
                have h8 := HP1.out
                rw [if_neg (fun h => by have h9 := (bs_lt k m a4).1 h; omega)] at h8
                rw [Nat.pow_succ] at a5
                refine ⟨by omega, by omega, by omega, by omega, by omega, by omega⟩)
              have hki : (k : Int) = (m : Int) - 1 := by omega
              have hkb : ((k : Int) != (m : Int) - 1) = false := by simp; omega
              clear he hk
              go_wp2_with fail
              exact ⟨⟨⟨g, (m + 1) / 2, k / 2, c, by go_num, by go_num, by go_num, HI2⟩, by first | trivial | rfl⟩, by simp [intOf]; omega⟩
            · have HI2 : Hid (plen 17 m0 j0 = (c + 1) + plen g ((m + 1) / 2) (k / 2) ∧ c + 1 ≤ 1000 ∧ (c + 1) + g ≤ 17 ∧ k / 2 < (m + 1) / 2 ∧ (m + 1) / 2 ≤ 2 ^ g ∧ (m + 1) / 2 ≤ 65536) := Lib.hid (by
                obtain ⟨a1, a2, a3, a4, a5, a6⟩ := HI.out
                have h8 := HP1.out
                rw [if_pos ((bs_lt k m a4).2 (.inr hk))] at h8
                rw [Nat.pow_succ] at a5
                refine ⟨by omega, by omega, by omega, by omega, by omega, by omega⟩)
              have hkb : ((k : Int) != (m : Int) - 1) = true := by simp; omega
              clear he hk
              go_wp2_with fail
              exact ⟨⟨⟨g, (m + 1) / 2, k / 2, c + 1, by go_num, by go_num, by go_num, HI2⟩, by first | trivial | rfl⟩, by simp [intOf]; omega⟩
        · have HC : Hid (c = plen 17 m0 j0) := Lib.hid (by
            obtain ⟨a1, a2, a3, a4, a5, a6⟩ := HI.out
            have h8 : plen f' m k = 0 := by
              match f' with
              | 0 => rfl
              | g + 1 => rw [plen, if_pos (by omega)]
            omega)
          have hpb : ((pl : Int) != (c : Int)) = true := by have h8 := HC.out; have h9 := HPP.out; simp; omega
          go_wp2_with (first
            | (refine wpList_row_want (.tmp 9) rfl g9 zd zd_len rfl H4.out (by rfl) ?_)
            | (refine wpList_eq_want _ _ rfl zd zd zd_len zd_len rfl (by rfl) (by rfl) ?_; rw [show (zd == zd) = true by simp])
            | fail)
          go_ret
          exact ⟨rfl, HB4.out⟩
  
  · have hl' : isL n i = false := by cases h : isL n i <;> simp_all
    have hcd : climbD 17 n i b p = (zd, 1) := by unfold climbD; rw [if_pos hl']
    rw [hcd] at HCL HLN
    clear hcd
    have hc : n < 1 ∨ (¬ n < 1 ∧ 65536 < n) ∨ (¬ n < 1 ∧ ¬ 65536 < n ∧ i < 0) ∨ (¬ n < 1 ∧ ¬ 65536 < n ∧ ¬ i < 0 ∧ n ≤ i) := by
      unfold isL at hl'
      simp at hl'
      omega
    clear hl hl'
    rcases hc with h1 | ⟨h1, h2⟩ | ⟨h1, h2, h3⟩ | ⟨h1, h2, h3, h4⟩
    · go_enter Tryd.func9, Tryd.ntmps9
      go_wp2_with (first
        | (refine wpList_row_want (.tmp 9) rfl g9 zd zd_len rfl H4.out (by rfl) ?_)
        | (refine wpList_eq_want (.tmp 50) (.tmp 51) rfl zd zd zd_len zd_len rfl (by rfl) (by rfl) ?_; rw [show (zd == zd) = true by simp])
        | (refine wpList_store_dig rfl (.tmp 9) (.tmp 30) rfl g9 zd zd_len rfl rfl H3.out HB3.out (by have := hg9; have := HB2.out.size; omega) ?_; intro w4 hrow hb hoth; have H4 := Lib.hid hrow; have HB4 := Lib.hid hb; clear hrow hb hoth)
        | (refine wpList_alloc_dig rfl 9 rfl rfl ?_; intro g9 w3 hg hrow hb; have hg9 : w2.heap.size ≤ g9 := (by omega); have H3 := Lib.hid hrow; have HB3 := Lib.hid (below_next HB2.out hb); clear hg hrow hb)
        | (go_at_call 17; refine (HCL.out w1 (by omega) (rest_keep HBT.out HB1.out) (HR.out.keep HB1.out) (HT.out.keep HB1.out)).mono ?_; rintro e w2 ⟨rfl, hb⟩; have HB2 := Lib.hid (below_next HB1.out hb); clear hb)
        | (go_at_call 10; refine (sane_call w HT.out).mono ?_; rintro e w1 ⟨rfl, hb⟩; have HB1 := Lib.hid hb; clear hb)
        | fail)
      go_ret
      exact ⟨rfl, HB4.out⟩
    · go_enter Tryd.func9, Tryd.ntmps9
      go_wp2_with (first
        | (refine wpList_row_want (.tmp 9) rfl g9 zd zd_len rfl H4.out (by rfl) ?_)
        | (refine wpList_eq_want (.tmp 50) (.tmp 51) rfl zd zd zd_len zd_len rfl (by rfl) (by rfl) ?_; rw [show (zd == zd) = true by simp])
        | (refine wpList_store_dig rfl (.tmp 9) (.tmp 30) rfl g9 zd zd_len rfl rfl H3.out HB3.out (by have := hg9; have := HB2.out.size; omega) ?_; intro w4 hrow hb hoth; have H4 := Lib.hid hrow; have HB4 := Lib.hid hb; clear hrow hb hoth)
        | (refine wpList_alloc_dig rfl 9 rfl rfl ?_; intro g9 w3 hg hrow hb; have hg9 : w2.heap.size ≤ g9 := (by omega); have H3 := Lib.hid hrow; have HB3 := Lib.hid (below_next HB2.out hb); clear hg hrow hb)
        | (go_at_call 17; refine (HCL.out w1 (by omega) (rest_keep HBT.out HB1.out) (HR.out.keep HB1.out) (HT.out.keep HB1.out)).mono ?_; rintro e w2 ⟨rfl, hb⟩; have HB2 := Lib.hid (below_next HB1.out hb); clear hb)
        | (go_at_call 10; refine (sane_call w HT.out).mono ?_; rintro e w1 ⟨rfl, hb⟩; have HB1 := Lib.hid hb; clear hb)
        | fail)
      go_ret
      exact ⟨rfl, HB4.out⟩
    · go_enter Tryd.func9, Tryd.ntmps9
      go_wp2_with (first
        | (refine wpList_row_want (.tmp 9) rfl g9 zd zd_len rfl H4.out (by rfl) ?_)
        | (refine wpList_eq_want (.tmp 50) (.tmp 51) rfl zd zd zd_len zd_len rfl (by rfl) (by rfl) ?_; rw [show (zd == zd) = true by simp])
        | (refine wpList_store_dig rfl (.tmp 9) (.tmp 30) rfl g9 zd zd_len rfl rfl H3.out HB3.out (by have := hg9; have := HB2.out.size; omega) ?_; intro w4 hrow hb hoth; have H4 := Lib.hid hrow; have HB4 := Lib.hid hb; clear hrow hb hoth)
        | (refine wpList_alloc_dig rfl 9 rfl rfl ?_; intro g9 w3 hg hrow hb; have hg9 : w2.heap.size ≤ g9 := (by omega); have H3 := Lib.hid hrow; have HB3 := Lib.hid (below_next HB2.out hb); clear hg hrow hb)
        | (go_at_call 17; refine (HCL.out w1 (by omega) (rest_keep HBT.out HB1.out) (HR.out.keep HB1.out) (HT.out.keep HB1.out)).mono ?_; rintro e w2 ⟨rfl, hb⟩; have HB2 := Lib.hid (below_next HB1.out hb); clear hb)
        | (go_at_call 10; refine (sane_call w HT.out).mono ?_; rintro e w1 ⟨rfl, hb⟩; have HB1 := Lib.hid hb; clear hb)
        | fail)
      go_ret
      exact ⟨rfl, HB4.out⟩
    · go_enter Tryd.func9, Tryd.ntmps9
      go_wp2_with (first
        | (refine wpList_row_want (.tmp 9) rfl g9 zd zd_len rfl H4.out (by rfl) ?_)
        | (refine wpList_eq_want (.tmp 50) (.tmp 51) rfl zd zd zd_len zd_len rfl (by rfl) (by rfl) ?_; rw [show (zd == zd) = true by simp])
        | (refine wpList_store_dig rfl (.tmp 9) (.tmp 30) rfl g9 zd zd_len rfl rfl H3.out HB3.out (by have := hg9; have := HB2.out.size; omega) ?_; intro w4 hrow hb hoth; have H4 := Lib.hid hrow; have HB4 := Lib.hid hb; clear hrow hb hoth)
        | (refine wpList_alloc_dig rfl 9 rfl rfl ?_; intro g9 w3 hg hrow hb; have hg9 : w2.heap.size ≤ g9 := (by omega); have H3 := Lib.hid hrow; have HB3 := Lib.hid (below_next HB2.out hb); clear hg hrow hb)
        | (go_at_call 17; refine (HCL.out w1 (by omega) (rest_keep HBT.out HB1.out) (HR.out.keep HB1.out) (HT.out.keep HB1.out)).mono ?_; rintro e w2 ⟨rfl, hb⟩; have HB2 := Lib.hid (below_next HB1.out hb); clear hb)
        | (go_at_call 10; refine (sane_call w HT.out).mono ?_; rintro e w1 ⟨rfl, hb⟩; have HB1 := Lib.hid hb; clear hb)
        | fail)
      go_ret
      exact ⟨rfl, HB4.out⟩
end Go.Proofs.YtbceimbcjijfgaaDoor.Dig
