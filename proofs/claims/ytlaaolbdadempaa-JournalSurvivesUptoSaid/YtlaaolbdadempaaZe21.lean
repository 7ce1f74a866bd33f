/- Collect; Open: the program's functions. -/
import Derived.Test.YtlaaolbdadempaaZe19
import Derived.Test.YtlaaolbdadempaaZe20
import Derived.Test.YtlaaolbdadempaaZe13
namespace Go.Proofs.Ytlaaolbdadempaa
open Go.RowKit Go.Shelf
attribute [local go_sem] Oper.semAt_some

set_option maxRecDepth 100000 in
set_option maxHeartbeats 1000000 in
theorem collect_call (Bs : Nat) (secs : List (List UInt8)) (sv : Value) (w : World) (hBs : w.cell? ⟨Bs, 0, none⟩ = some sv) (h : NRest w.heap.size w secs sv) (hl : ∀ x ∈ secs, x.length = 128) (hn : secs.length ≤ 4096) :
    Calls Try.prog 85 #[.func (.func 80) #[] #[.pointer (some ⟨Bs, 0, none⟩)]] w fun e w' => ∃ v, e = .returned v ∧ NRestS (fun b => w.heap.size ≤ b) w' (recsL secs) v ∧ Below w.heap.size w w' := by
  have HC := Lib.hid (appendSeq_call Bs secs sv w hBs h hl hn)
  clear hBs h hl hn
  go_enter Try.func85, Try.ntmps85
  go_wp2_with (go_at_call 99; refine HC.out.mono ?_; rintro e w2 ⟨v, rfl, hr, hb⟩)
  go_ret
  exact ⟨v, rfl, hr, hb⟩
theorem row_apart {W : World} {base k g T : Nat} {v : Value} {us cs : List Value} (hr : Row W g T cs) (hv : W.ownsRow base 35 1 v k us) (hT : T ≠ 35) : some g ≠ v.ownBlock := own_ne hv hr hT
/-- 'x.f = append(x.f, y)' in a loop over an iterator, x in a block that is known whole -/
theorem row_appended {W w1 : World} {n₀ n1 g T k m : Nat} {v v' : Value} {xs ys cs cs' : List Value} {tmp : Obj} (hr : Row W g T cs) (hT : T ≠ 35) (hrow : W.ownsRow n1 35 1 v k xs) (hn : n₀ ≤ W.heap.size) (hn1 : n₀ ≤ n1) (hg : n₀ ≤ g)
    (hown : w1.ownsRow n1 35 1 v' m ys) (hgrow : (W.alloc tmp).grownBy w1 v.ownBlock) (hcs : cs.set 0 v' = cs') :
    Row w1 g T cs ∧ Row (w1.setCell ⟨g, 0, none⟩ v') g T cs' ∧ (w1.setCell ⟨g, 0, none⟩ v').ownsRow n1 35 1 v' m ys ∧ KeepsOthers W (w1.setCell ⟨g, 0, none⟩ v') ∧ Below n₀ W (w1.setCell ⟨g, 0, none⟩ v') := by
  have hr1 : Row (W.alloc tmp) g T cs := hr.keep (Joins.below_alloc1 W tmp)
  have hr2 : Row w1 g T cs := (hgrow.block g hr1.lt (row_apart hr1 (hrow.alloc tmp) hT)).trans hr1
  refine ⟨hr2, hr2.set 0 v' hcs, hown.kept (grownBy_setCell' w1 g v') (.inr (fun e => row_apart hr2 hown hT (by rw [← e]))), ?_, ?_⟩
  · refine ((KeepsOthers.alloc W tmp).trans (KeepsOthers.of_grownBy hgrow fun j o ej hj => ?_)).trans (KeepsOthers.setCell _ _ _)
    rcases (hrow.alloc tmp).2 with ⟨rfl, _⟩ | ⟨b, cap, cur, rfl, _, hgb, _⟩
    · simp [Value.ownBlock] at ej
    · obtain rfl : b = j := by simpa [Value.ownBlock] using ej
      rw [hgb] at hj; cases hj; rfl
  · have h1 : Below n₀ W (W.alloc tmp) := (Joins.below_alloc1 W tmp).mono hn
    have h2 : Below n₀ (W.alloc tmp) w1 := ⟨hgrow.os, hgrow.tape, hgrow.output, hgrow.size, fun i hi => hgrow.block i (by simp; omega) (fun e => by have := (hrow.lt i e.symm).1; omega)⟩
    exact below_setCell (h1.trans h2) g 0 v' hg
theorem owns_slice {W : World} {base k : Nat} {v : Value} {us : List Value} (h : W.ownsRow base 35 1 v k us) : ∃ a c, v = .slice a k c := by
  rcases h.2 with ⟨rfl, h1⟩ | ⟨g, cap, cur, rfl, _⟩
  · exact ⟨none, 0, by rw [h1]⟩
  · exact ⟨_, _, rfl⟩
theorem valid_secs {d : Dsk} (h : chkD d = 0) : (∀ x ∈ d.secs, x.length = 128) ∧ d.secs.length ≤ 4096 ∧ d.secs ≠ [] := by
  unfold chkD at h
  split at h
  · rename_i hv
    split at h
    · cases h
    · rename_i hs
      have hr := Runs.of (d := d) (by unfold runsB; simp [hv]; simpa using hs)
      exact ⟨hr.secs, hr.most, fun e => by have := hr.pos; rw [e] at this; simp at this⟩
  · cases h
set_option maxRecDepth 100000 in
set_option maxHeartbeats 8000000 in
theorem open_call (S : Nat → Prop) (d : Dsk) (s p : Value) (w : World) (h : DRest w.heap.size w d (dv s p d.left d.stop)) :
    Calls Try.prog 38 #[dv s p d.left d.stop] w (JAnsS S w (openJ d)) := by
  have HCK : Hid (∀ W, Below w.heap.size w W → Calls Try.prog 59 #[dv s p d.left d.stop] W fun e w' => e = .returned (.int .i64 (chkD d)) ∧ Below W.heap.size W w') := Lib.hid (fun W hW => checkDisk_call d s p W (h.keep hW))
  have HOJ : Hid (openJ d = if chkD d = 0 then (⟨recsL d.secs, d.secs.length, (recsL d.secs).length⟩, 0) else (zeroJ, chkD d)) := Lib.hid rfl
  obtain ⟨_, _, ⟨a, c, rfl⟩, ⟨a2, c2, rfl⟩⟩ := drest_left h
  have HS : Hid (NRest w.heap.size w d.secs (.slice a d.secs.length c)) := Lib.hid (by
    obtain ⟨s', p', he, h1, h2⟩ := h
    unfold dv dskOf dskCells at he
    simp at he
    rw [he.1]; exact h1)
  have HVS : Hid (chkD d = 0 → _) := Lib.hid (valid_secs (d := d))
  clear h
  unfold dv at *
  obtain ⟨n, hn⟩ : ∃ n, n = d.secs.length := ⟨_, rfl⟩
  have HN := Lib.hid hn
  rw [← hn] at HCK HS HOJ ⊢
  clear hn
  generalize d.pend.length = m at *
  generalize d.left = lf at *
  generalize d.stop = st at *
  obtain ⟨code, hcode⟩ : ∃ code, code = chkD d := ⟨_, rfl⟩
  rw [← hcode] at HCK HOJ HVS
  clear hcode
  have hsz : (w.alloc (.cells #[.slice a n c, .slice a2 m c2, .int .i64 lf, .bool st] 25)).heap.size = w.heap.size + 1 := by simp
  have HR1 := Lib.hid ((row_new w 25 [.slice a n c, .slice a2 m c2, .int .i64 lf, .bool st]).keep (Joins.below_alloc1 _ (.cells #[.slice none 0 0, .int .i64 0, .int .i64 0] 55)))
  have HR2 := row_new (w.alloc (.cells #[.slice a n c, .slice a2 m c2, .int .i64 lf, .bool st] 25)) 55 [.slice none 0 0, .int .i64 0, .int .i64 0]
  rw [hsz] at HR2
  replace HR2 := Lib.hid HR2
  have HB := Lib.hid (below_two w (.cells #[.slice a n c, .slice a2 m c2, .int .i64 lf, .bool st] 25) (.cells #[.slice none 0 0, .int .i64 0, .int .i64 0] 55))
  by_cases hz : code = 0
  · have HO := Lib.hid (show openJ d = (⟨recsL d.secs, n, (recsL d.secs).length⟩, 0) from by rw [HOJ.out, if_pos hz])
    have hvs := HVS.out hz
    have HVS2 := Lib.hid hvs
    subst hz
    clear HOJ HVS hvs
    refine (callsIn_wide (n := 6)).1 ?_
    refine callsIn_of_wp_marks Try.func38 rfl trivial ?_ rfl
    simp only [Try.ntmps38, List.size_toArray, List.length_cons, List.length_nil, Nat.reduceAdd, Nat.reduceSub, Array.replicate_succ, Array.replicate_zero, List.push_toArray, List.append_toArray, List.nil_append, List.cons_append]
    gi_wp2
    refine ⟨trivial, ?_⟩
    refine (callsIn_wide.2 (HCK.out _ HB.out)).mono ?_
    rintro e w1 ⟨rfl, hb⟩
    have x0 := HR1.out.later hb (i := 0) rfl
    replace HR2 := Lib.hid (HR2.out.keep hb)
    replace HB := Lib.hid (below_next HB.out hb)
    have y1 := HR2.out.cell (i := 1) rfl
    have g1 := HR2.out.free 1
    clear hb
    gi_wp2
    refine ⟨trivial, ?_⟩
    have r2 := HR2.out.set 1 (.int .i64 (n : Int)) (cs' := [.slice none 0 0, .int .i64 (n : Int), .int .i64 0]) rfl
    have rb := below_setCell HB.out (w.heap.size + 1) 1 (.int .i64 (n : Int)) (by omega)
    generalize w1.setCell ⟨w.heap.size + 1, 1, none⟩ (.int .i64 (n : Int)) = w2 at r2 rb ⊢
    refine (records_in 5 a n c w2).mono ?_
    rintro e w3 ⟨rfl, rfl⟩
    gi_wp2
    obtain ⟨W3, hW3⟩ : ∃ W3, W3 = w2.alloc (.cells #[.slice a n c] 22) := ⟨_, rfl⟩
    have hs3 : W3.heap.size = w2.heap.size + 1 := by rw [hW3]; simp
    have hc3 : W3.cell? ⟨w2.heap.size, 0, none⟩ = some (.slice a n c) := by rw [hW3]; exact (row_new w2 22 [.slice a n c]).cell (i := 0) rfl
    have hb3 : Below w2.heap.size w2 W3 := by rw [hW3]; exact Joins.below_alloc1 w2 _
    rw [← hW3]
    clear hW3
    have hlt2 := r2.lt
    have r3 := r2.keep hb3
    have rb3 := below_next rb hb3
    have hN3 : NRestS (fun b => b < W3.heap.size ∧ b ≠ w.heap.size + 1) W3 d.secs (.slice a n c) := (NRestS.of (HS.out.stays rb3)).weak (fun b h1 _ => ⟨by have := rb3.size; omega, by omega⟩)
    obtain ⟨i0, hi, hz0, hz1, hz2⟩ := info_parts Try.info35
    have hlen : d.secs.length ≤ 4096 := HVS2.out.2.1
    refine range_told (F := Fence.wide) (n := 6) rfl (by omega) (gf := 80) (lb := #[.pointer (some ⟨w2.heap.size, 0, none⟩)]) rfl trivial (enters_of Try.func80 (by kernel_rfl) rfl)
      (encs := encY) (T := ToldY W3.heap.size) (fun x => told_own _ _ x) (B := fun b => b < W3.heap.size ∧ b ≠ w.heap.size + 1) (fun b hb => hb.1) (S := Got d.secs) (N := d.secs.length)
      (fun W hW => records_tells 5 (by omega) w2.heap.size W3.heap.size _ d.secs _ W ⟨by omega, by omega⟩ (fun b hb => by have := hW.size; have := hb.1; omega) ((hW.cell (p := ⟨w2.heap.size, 0, none⟩) (by simp; omega)).trans hc3) (hN3.keep (.below hW)) HVS2.out.1 hlen hW.size) (fun _ => rfl)
      (fun pre W => (∃ v, Row W (w.heap.size + 1) 55 [v, .int .i64 (n : Int), .int .i64 0] ∧ W.ownsRow W3.heap.size 35 1 v pre.length (valsY pre)) ∧ ((∀ x ∈ pre, ToldY W3.heap.size x W) ∧ W3.heap.size ≤ W.heap.size) ∧ Below w.heap.size w W)
      ?own ⟨⟨_, r3, World.ownsRow_nil _ _ _ _⟩, ⟨(fun x hx => by cases hx), Nat.le_refl _⟩, rb3⟩
      (fun x => { tmps := #[.agg #[.slice a n c, .slice a2 m c2, .int .i64 lf, .bool st], .pointer (some ⟨w.heap.size, 0, none⟩), .pointer (some ⟨w.heap.size + 1, 0, none⟩), .int .i64 0, x.2, .agg #[.slice a n c, .slice a2 m c2, .int .i64 lf, .bool st], .int .i64 0, .int .i64 0, .bool false, undef, undef, .pointer (some ⟨w.heap.size, 0, none⟩), .slice a n c, .int .i64 (n : Int), .pointer (some ⟨w.heap.size + 1, 1, none⟩), .pointer (some ⟨w.heap.size, 0, none⟩), .slice a n c, .func (.func 80) #[] #[.pointer (some ⟨w2.heap.size, 0, none⟩)], x.2, undef, undef, undef, undef, undef, undef, undef, undef, undef, undef, undef], defers := [] }) ?assign ?body ?done
    case own =>
      intro pre A B row hs hg hr
      obtain ⟨⟨v, h1, h2⟩, h3, h4⟩ := hs
      have hnc : ∀ r, row = some r → ∃ o : Obj, A.heap[r]? = some o ∧ o.isCells = false := fun r e => (hr r e).2
      exact ⟨⟨v, row_kept h1 hg hnc, owns_grown h2 hg hnc⟩, ⟨told_all_own W3.heap.size W3.heap.size pre A B row h3.1 hg hr, Nat.le_trans h3.2 hg.size⟩, ownFrom_below (Nat.le_refl _) (by have := rb3.size; omega) pre A B row h4 hg hr⟩
    case assign =>
      intro l x W K hK
      unfold encY
      gi_wp2
      exact hK
    case body =>
      rintro l pre x W ⟨⟨v, hv, hrow⟩, ⟨hall, hsW⟩, hB⟩ ht hlen
      have hSZ : Hid (W3.heap.size ≤ W.heap.size ∧ True) := Lib.hid ⟨hsW, trivial⟩
      have hc0 := hv.cell (i := 0) rfl
      have hf0 := hv.free 0
      obtain ⟨xb, xv⟩ := x
      obtain ⟨xa, xc, hxv⟩ := buf_len ht.1
      obtain ⟨xn, hxn⟩ : ∃ xn, xn = xb.length := ⟨_, rfl⟩
      simp only at hxv
      rw [← hxn] at hxv
      subst hxv
      clear hxn
      dsimp only
      gi_wp2_with (gi_at_builtin; refine wpListIn_append_own _ rfl (.tmp 20) (.tmp 22) 22 rfl W3.heap.size 35 i0 _ 1 24 Try.underlying22 hi hz0 hz1 hz2 rfl (by decide) v pre.length (valsY pre) rfl (hrow.alloc _) ⟨W.heap.size, 0, none⟩ 1 1 [.slice xa xn xc] rfl rfl (cell_one_new _ _ _) (by intro u hu; simp at hu; subst hu; rfl) (by unfold maxLen; omega) (by omega) (by have := hSZ.out.1 ; simp; omega) ?_; intro v' w1 hown' hgrow _; obtain ⟨g', cap', rfl⟩ := ownsRow_succ hown'; obtain ⟨hv1, hv2, hr2, hk2, hb2⟩ := row_appended hv (by decide) hrow hB.size (by have := rb3.size; omega) (by omega) hown' hgrow (cs' := [.slice (some ⟨g', 0, none⟩) (pre.length + 1) cap', .int .i64 (n : Int), .int .i64 0]) rfl; have hc1 := hv1.cell (i := 0) rfl; have hf1 := hv1.free 0)
      refine ⟨hk2.from _, ⟨hgrow_size hgrow, fun b hb hl => ?_⟩, ⟨_, hv2, ?_⟩, ⟨?_, by have := hb2.size; have := hgrow_size (b := w.heap.size + 1) (v := .slice (some ⟨g', 0, none⟩) (pre.length + 1) cap') hgrow; omega⟩, hB.trans hb2⟩
      · have hvl := fun e => (hrow.lt b e).1
        refine (heap_setCell_other w1 ⟨w.heap.size + 1, 0, none⟩ b _ hb.2).trans ((hgrow.block b (by simp; omega) (fun e => by have := hvl e.symm; have := hb.1; omega)).trans (Below.heap_alloc _ _ _ hl))
      · have e : (pre ++ [((xb, .slice xa xn xc) : Yl)]).length = pre.length + 1 := by simp
        rw [e, show valsY (pre ++ [((xb, .slice xa xn xc) : Yl)]) = valsY pre ++ [.slice xa xn xc] by simp [valsY]]; exact hr2
      · intro y hy
        rcases List.mem_append.1 hy with hy | hy
        · exact told_step (hall y hy) hrow hgrow (by omega)
        · simp at hy; subst hy
          exact told_step ht hrow hgrow (by omega)
    case done =>
      rintro D ys W hD hg ⟨⟨v, hv, hrow⟩, ⟨hall, hsW⟩, hB⟩ hK
      have hyl : ys.length = (recsL d.secs).length := by rw [← hg, List.length_map]
      obtain ⟨va, vc, rfl⟩ := owns_slice hrow
      have hc0 := hv.cell (i := 0) rfl
      have hc1 := hv.cell (i := 1) rfl
      have hc2 := hv.cell (i := 2) rfl
      have hf0 := hv.free 0
      have hf1 := hv.free 1
      have hf2 := hv.free 2
      have hn := got_nrests hg hrow (n₀ := W3.heap.size) (Nat.le_refl _) hall
      rw [hyl] at hn
      gi_wp2
      have r5 := (((hv.set 2 (.int .i64 ((recsL d.secs).length : Int)) rfl).set 0 (.slice va (recsL d.secs).length vc) rfl).set 1 (.int .i64 (n : Int)) rfl).set 2 (.int .i64 ((recsL d.secs).length : Int)) (cs' := [.slice va (recsL d.secs).length vc, .int .i64 (n : Int), .int .i64 ((recsL d.secs).length : Int)]) rfl
      have b5 := below_setCell (below_setCell (below_setCell (below_setCell hB (w.heap.size + 1) 2 (.int .i64 ((recsL d.secs).length : Int)) (by omega)) (w.heap.size + 1) 0 (.slice va (recsL d.secs).length vc) (by omega)) (w.heap.size + 1) 1 (.int .i64 (n : Int)) (by omega)) (w.heap.size + 1) 2 (.int .i64 ((recsL d.secs).length : Int)) (by omega)
      have hK' := ((KeepsOthers.setCell W ⟨w.heap.size + 1, 2, none⟩ (.int .i64 ((recsL d.secs).length : Int))).trans ((KeepsOthers.setCell _ ⟨w.heap.size + 1, 0, none⟩ (.slice va (recsL d.secs).length vc)).trans ((KeepsOthers.setCell _ ⟨w.heap.size + 1, 1, none⟩ (.int .i64 (n : Int))).trans (KeepsOthers.setCell _ ⟨w.heap.size + 1, 2, none⟩ (.int .i64 ((recsL d.secs).length : Int)))))).same D _ hK rfl
      have n5 := hn.keep (.far (w' := (((W.setCell ⟨w.heap.size + 1, 2, none⟩ (.int .i64 ((recsL d.secs).length : Int))).setCell ⟨w.heap.size + 1, 0, none⟩ (.slice va (recsL d.secs).length vc)).setCell ⟨w.heap.size + 1, 1, none⟩ (.int .i64 (n : Int))).setCell ⟨w.heap.size + 1, 2, none⟩ (.int .i64 ((recsL d.secs).length : Int))) (w.heap.size + 1) (by omega) (fun b hb => by
        rw [heap_setCell_other _ ⟨w.heap.size + 1, 2, none⟩ b _ hb, heap_setCell_other _ ⟨w.heap.size + 1, 1, none⟩ b _ hb, heap_setCell_other _ ⟨w.heap.size + 1, 0, none⟩ b _ hb, heap_setCell_other _ ⟨w.heap.size + 1, 2, none⟩ b _ hb]))
      generalize (((W.setCell ⟨w.heap.size + 1, 2, none⟩ (.int .i64 ((recsL d.secs).length : Int))).setCell ⟨w.heap.size + 1, 0, none⟩ (.slice va (recsL d.secs).length vc)).setCell ⟨w.heap.size + 1, 1, none⟩ (.int .i64 (n : Int))).setCell ⟨w.heap.size + 1, 2, none⟩ (.int .i64 ((recsL d.secs).length : Int)) = W5 at r5 b5 hK' n5 ⊢
      refine ⟨by simp, .inl ⟨_, _, rfl, run_takeDeferred hK', ?_⟩⟩
      have r6 := row_kept r5 (grownBy_putObj' W5 D (.deferred none)) (fun r e => by cases e; exact ⟨_, hK', rfl⟩)
      refine ⟨_, results_jn Try.results38 _ _ (w.heap.size + 1) _ rfl rfl (.int .i64 0) rfl r6, ?_⟩
      refine ⟨.slice va (recsL d.secs).length vc, by rw [HO.out]; rfl, ?_, b5.trans (belowK_b (w := w) (Nat.le_refl _) W5 D _ _ (by have := rb3.size; omega) hK' rfl rfl)⟩
      rw [HO.out]
      exact (nrests_put n5 hK').weak (fun b h1 _ => .inr (by have := rb3.size; omega))
  · have hz2 : ¬ code = 0 := hz
    have HO := Lib.hid (show openJ d = (zeroJ, code) from by rw [HOJ.out, if_neg hz])
    clear hz
    go_enter Try.func38, Try.ntmps38
    go_wp2_with (first
      | (go_at_call 59; refine (HCK.out _ HB.out).mono ?_; rintro e w2 ⟨rfl, hb⟩; replace HR2 := Lib.hid (HR2.out.keep hb); replace HB := Lib.hid (below_next HB.out hb); clear hb)
      | (refine wpList_store_ags rfl 55 (.tmp 2) (.tmp 9) rfl (w.heap.size + 1) [.slice none 0 0, .int .i64 0, .int .i64 0] _ size55 (by rfl) rfl rfl HR2.out (by rfl) HB.out (by omega) ?_; intro w9 hr hb hf))
    exact bodyPost_ret (results_jn Try.results38 _ w9 (w.heap.size + 1) _ rfl rfl _ rfl hr) rfl (jans_zero HO.out hb)
end Go.Proofs.Ytlaaolbdadempaa

/- Lists of records compared; the greatest generation: the program's functions. -/
namespace Go.Proofs.Ytlaaolbdadempaa
open Go.RowKit

def EqHead (xs ys : List (List UInt8)) (w : World) (s17 : Value) (wr : World) : Prop := ∃ k : Nat, k ≤ xs.length ∧ s17 = .int .i64 (k : Int) ∧ xs.take k = ys.take k ∧ wr = w
set_option maxHeartbeats 2000000 in
set_option maxRecDepth 100000 in
theorem equalFunc_call (xs ys : List (List UInt8)) (v u : Value) (w : World) (h : NRest w.heap.size w xs v) (h2 : NRest w.heap.size w ys u) :
    Calls Try.prog 84 #[v, u, .func (.func 86) #[] #[]] w fun e w' => e = .returned (.bool (decide (xs = ys))) ∧ w' = w := by
  have HV := Lib.hid h
  have HU := Lib.hid h2
  obtain ⟨a, cap, rfl, hc1, hc2⟩ := h.shape
  obtain ⟨a2, cap2, rfl, hc3, hc4⟩ := h2.shape
  clear h h2
  obtain ⟨n, hn⟩ : ∃ n, n = xs.length := ⟨_, rfl⟩
  obtain ⟨m, hm⟩ : ∃ m, m = ys.length := ⟨_, rfl⟩
  rw [← hn] at HV hc2 ⊢
  rw [← hm] at HU hc4 ⊢
  have HN := Lib.hid hn
  have HM := Lib.hid hm
  clear hn hm
  by_cases hnm : n = m
  · subst hnm
    go_enter Try.func84, Try.ntmps84
    go_wp2_with fail
    go_loopw [17] (fun s17 wr => EqHead xs ys w s17 wr) (fun s17 _ => n - (intOf s17).toNat)
    case atStart => exact ⟨0, Nat.zero_le _, rfl, rfl, rfl⟩
    case round =>
      obtain ⟨k, hk, rfl, htk, rfl⟩ := hrel
      rw [← HN.out] at hk
      have HTK := Lib.hid htk
      clear htk
      rcases Nat.lt_or_ge k n with hlt | hge
      · obtain ⟨x, hx⟩ : ∃ x, xs[k]? = some x := ⟨_, List.getElem?_eq_getElem (by rw [← HN.out]; exact hlt)⟩
        obtain ⟨y, hy⟩ : ∃ y, ys[k]? = some y := ⟨_, List.getElem?_eq_getElem (by rw [← HM.out]; exact hlt)⟩
        obtain ⟨b, off, xv, rfl, hbl, hrx, hcx⟩ := HV.out.at hx
        obtain ⟨b2, off2, yv, rfl, hbl2, hry, hcy⟩ := HU.out.at hy
        have c1 := hcx wr (Below.refl _ _)
        have c2 := hcy wr (Below.refl _ _)
        have HE := Lib.hid (equal_call x y xv yv wr hrx hry)
        obtain ⟨r, hr⟩ : ∃ r, r = decide (x = y) := ⟨_, rfl⟩
        rw [← hr] at HE
        have hkm : (k : Int) < (n : Int) := by omega
        have hk0 : (0 : Int) ≤ (k : Int) := by omega
        cases r
        · have HNE : Hid (xs ≠ ys) := Lib.hid (fun e => by
            subst e; rw [hx] at hy; cases hy; simp at hr)
          clear hrx hry hcx hcy hx hy hr
          go_wp2_with (go_at_call 86; refine HE.out.mono ?_; rintro e w6 ⟨rfl, rfl⟩)
          go_ret
          exact ⟨ret_bool (by simp [HNE.out]), rfl⟩
        · have HEQ : Hid (xs.take (k + 1) = ys.take (k + 1)) := Lib.hid (by
            have e : x = y := by simpa using hr.symm
            subst e
            obtain ⟨h1, h2⟩ := List.getElem?_eq_some_iff.1 hx
            obtain ⟨h3, h4⟩ := List.getElem?_eq_some_iff.1 hy
            rw [List.take_succ_eq_append_getElem h1, List.take_succ_eq_append_getElem h3, h2, h4, HTK.out])
          clear hrx hry hcx hcy hx hy hr
          go_wp2_with (go_at_call 86; refine HE.out.mono ?_; rintro e w6 ⟨rfl, rfl⟩)
          exact ⟨⟨k + 1, by rw [← HN.out]; omega, by go_num, HEQ.out, rfl⟩, by simp [intOf]; omega⟩
      · obtain rfl : k = n := by omega
        have HEQ : Hid (xs = ys) := Lib.hid (by have := HTK.out; rwa [List.take_of_length_le (by rw [← HN.out]; exact Nat.le_refl _), List.take_of_length_le (by rw [← HM.out]; exact Nat.le_refl _)] at this)
        go_wp2_with fail
        go_ret
        exact ⟨ret_bool (by simp [HEQ.out]), rfl⟩
  · have hnm2 : ¬ (n : Int) = (m : Int) := by omega
    have HNE : Hid (xs ≠ ys) := Lib.hid (fun e => hnm (by rw [HN.out, HM.out, e]))
    clear hnm
    go_enter Try.func84, Try.ntmps84
    go_wp2_with fail
    go_ret
    exact ⟨ret_bool (by simp [HNE.out]), rfl⟩

def lgK (l : List (List UInt8)) (k : Nat) : Nat := lastGen (l.take k)
theorem lgK_succ {l : List (List UInt8)} {k : Nat} {x : List UInt8} (h : l[k]? = some x) : lgK l (k + 1) = max (max (lgK l k) (num4 x)) (num4 (x.drop 124)) := by
  obtain ⟨h1, h2⟩ := List.getElem?_eq_some_iff.1 h
  unfold lgK lastGen
  rw [List.take_succ_eq_append_getElem h1, List.foldl_append, h2]; rfl
theorem lgK_lt (l : List (List UInt8)) : ∀ k, lgK l k < 4294967296
  | 0 => by simp [lgK, lastGen]
  | k + 1 => by
    cases hx : l[k]? with
    | none =>
      have : l.take (k + 1) = l.take k := by rw [List.take_of_length_le (by have := List.getElem?_eq_none_iff.1 hx; omega), List.take_of_length_le (List.getElem?_eq_none_iff.1 hx)]
      unfold lgK; rw [this]; exact lgK_lt l k
    | some x =>
      have h1 := lgK_lt l k
      have h2 := num4_lt x
      have h3 := num4_lt (x.drop 124)
      rw [lgK_succ hx]; omega
theorem lastGen_lt (l : List (List UInt8)) : lastGen l < 4294967296 := by have := lgK_lt l l.length; unfold lgK at this; rwa [List.take_length] at this
def LgHead (l : List (List UInt8)) (w : World) (s2 s7 : Value) (wr : World) : Prop := ∃ (k q : Nat), k ≤ l.length ∧ s2 = .int .u32 (lgK l k : Int) ∧ s7 = .int .i64 (k : Int) ∧ wr = w.drewN q
set_option maxHeartbeats 4000000 in
set_option maxRecDepth 100000 in
theorem lastGen_call (l : List (List UInt8)) (v : Value) (w : World) (h : NRest w.heap.size w l v) (hl : ∀ x ∈ l, x.length = 128) :
    Calls Try.prog 69 #[v] w fun e w' => e = .returned (.int .u32 (lastGen l : Int)) ∧ Below w.heap.size w w' := by
  have HV := Lib.hid h
  obtain ⟨a, cap, rfl, hc1, hc2⟩ := h.shape
  clear h
  obtain ⟨m, hm⟩ : ∃ m, m = l.length := ⟨_, rfl⟩
  rw [← hm] at HV hc2 ⊢
  have HM := Lib.hid hm
  have HL := Lib.hid hl
  clear hm hl
  go_enter Try.func69, Try.ntmps69
  go_wp2_with fail
  go_loopw [2, 7] (fun s2 s7 wr => LgHead l w s2 s7 wr) (fun _ s7 _ => m - (intOf s7).toNat)
  case atStart => exact ⟨0, 0, Nat.zero_le _, rfl, rfl, rfl⟩
  case round =>
    obtain ⟨k, q, hk, rfl, rfl, rfl⟩ := hrel
    rw [← HM.out] at hk
    have hbq : Below w.heap.size w (w.drewN q) := below_drewN (Below.refl _ _) q
    rcases Nat.lt_or_ge k m with hlt | hge
    · obtain ⟨x, hx⟩ : ∃ x, l[k]? = some x := ⟨_, List.getElem?_eq_getElem (by rw [← HM.out]; exact hlt)⟩
      obtain ⟨b, off, u, rfl, hbl, hru, hcell⟩ := HV.out.at hx
      have hcu := hcell _ hbq
      have hxl := HL.out x (List.mem_of_getElem? hx)
      obtain ⟨ua, uc, rfl, _, _⟩ := hru.shape
      have HS := Lib.hid (lgK_succ hx)
      have hl1 := lgK_lt l k
      have hl2 := num4_lt x
      have hl3 := num4_lt (x.drop 124)
      obtain ⟨ub, uo, rfl, huc⟩ : ∃ ub uo, ua = some ⟨ub, uo, none⟩ ∧ 128 ≤ uc := by
        obtain ⟨a3, c3, he, h1, h2, h3, h4⟩ := hru
        injection he with he1 he2 he3
        subst he1 he3
        rcases h4 with h4 | ⟨b4, o4, h5, _⟩
        · omega
        · exact ⟨b4, o4, h5, by omega⟩
      rw [hxl] at hcu
      have HC1 : Hid (∀ W, Below w.heap.size w W → Calls Try.prog 87 #[.slice (some ⟨ub, uo, none⟩) 128 uc] W fun e w' => e = .returned (.int .u32 (num4 x : Int)) ∧ w' = W) := Lib.hid (fun W hW => by
        have := number_call x _ _ W (hru.stays hW) (by omega)
        rw [hxl] at this; exact this)
      have HC2 : Hid (∀ W, Below w.heap.size w W → Calls Try.prog 87 #[.slice (some ⟨ub, uo + 124, none⟩) 4 (uc - 124)] W fun e w' => e = .returned (.int .u32 (num4 (x.drop 124) : Int)) ∧ w' = W) := Lib.hid (fun W hW => by
        have h9 := rest_part (hru.stays hW) 124 4 (uc - 124) (by omega) (by omega) (by omega)
        rw [List.take_of_length_le (by rw [List.length_drop]; omega)] at h9
        exact number_call (x.drop 124) _ _ W h9 (by rw [List.length_drop]; omega))
      have hkm : (k : Int) < (m : Int) := by omega
      have hk0 : (0 : Int) ≤ (k : Int) := by omega
      have huci : (128 : Int) ≤ (uc : Int) := by omega
      have hu1 : (124 : Int) ≤ (uc : Int) := by omega
      have hne : ¬ uc = 124 := by omega
      obtain ⟨p, hp⟩ : ∃ p, p = num4 x := ⟨_, rfl⟩
      obtain ⟨p2, hp2⟩ : ∃ p2, p2 = num4 (x.drop 124) := ⟨_, rfl⟩
      obtain ⟨g, hg⟩ : ∃ g, g = lgK l k := ⟨_, rfl⟩
      rw [← hp] at HC1 HS hl2
      rw [← hp2] at HC2 HS hl3
      rw [← hg] at HS hl1 ⊢
      have HQ := Lib.hid hbq
      clear hru hcell hx hxl hp hp2 hg hbq
      go_wp2_with fail
      refine' cut1 (F := fun W => W = w.drewN (q + 1)) _ ?r ?k
      case r =>
        intro K
        go_region_law (first
          | (go_simp; go_at_call 87; with_reducible refine (HC1.out _ (below_drewN (Below.refl w.heap.size w) (q + 1))).mono ?_; rintro e w6 ⟨rfl, rfl⟩)
          | (go_simp; go_at_call 87; with_reducible refine (HC2.out _ (below_drewN (Below.refl w.heap.size w) (q + 1))).mono ?_; rintro e w6 ⟨rfl, rfl⟩))
        all_goals
          obtain ⟨W, hW⟩ : ∃ W, W = w.drewN (q + 1) := ⟨_, rfl⟩
          rw [← hW]
          exact K W hW
      case k =>
        intro W hW
        subst hW
        go_wp2_with fail
        refine ⟨⟨k + 1, q + 1, by rw [← HM.out]; omega, ?_, by go_num, rfl⟩, by simp [intOf]; omega⟩
        rw [HS.out]
        congr 1
        simp only [Nat.max_def]
        repeat' split
        all_goals omega
    · obtain rfl : k = m := by omega
      go_wp2_with fail
      go_ret
      exact ⟨ret_u32 (by unfold lgK; rw [HM.out, List.take_length]), hbq⟩
end Go.Proofs.Ytlaaolbdadempaa
