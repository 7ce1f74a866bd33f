/- The reference's send: the flow after so much more has gone the way back. -/
import Derived.Test.YtbmbddapbgnioaaKg
import Derived.Deep.AppendSrc
namespace Go.Proofs.Ytbmbddapbgnioaa
open Go.RowKit Go.Shelf

theorem src_ints {w : World} {B : Nat} {X : List Int} {v : Value} (h : IRest B w X v) : Src Try.prog 1 25 v X.length (nums X) w := by
  obtain ⟨a, cap, rfl, -, -, -, h5⟩ := h
  rcases h5 with h0 | ⟨b, off, rfl, -, hc⟩
  · have : X = [] := List.eq_nil_of_length_eq_zero h0
    subst this
    cases a with
    | none => exact Src.ofNil w Try.underlying25 cap
    | some ad => exact Src.ofSlice w Try.underlying25 ad 0 cap [] rfl (fun j u h => by simp at h) (fun u h => by cases h)
  · refine Src.ofSlice w Try.underlying25 _ X.length cap _ (by unfold nums; simp) (fun i u hi => ?_) (ints_one X)
    rw [Addr.add_lit]
    unfold nums at hi
    rw [List.getElem?_map] at hi
    cases h9 : X[i]? with
    | none => rw [h9] at hi; cases hi
    | some x =>
      rw [h9] at hi
      injection hi with hi
      subst hi
      obtain ⟨hj, rfl⟩ := List.getElem?_eq_some_iff.1 h9
      exact hc i hj
/-- all numbers of a list appended to an empty list of the call's own -/
theorem wpList_copy_ints {w : World} {ops : Array Oper} {rest : List Oper} {o : Oper} {a : Act} {Q : Exit → Act → World → Prop} (hgd : o.guard = none) (s x : Operand)
    (ho : o.op = .call { callee := .builtin .append, args := #[s, x], argTypes := #[25, 25] })
    (b : Nat) (hs : a.eval s = .slice (some ⟨b, 0, none⟩) 0 0) (hb : Row w b 3 []) (X : List Int) (vx : Value) (hx : a.eval x = vx) {B : Nat} (hX : IRest B w X vx) (hlen : X.length ≤ 100000)
    (h : ∀ v' w', IBuf w' v' X → Wrote w w' (.slice (some ⟨b, 0, none⟩) 0 0) v' → wpList Try.prog ops Q rest (a.put o.dst v') w') : wpList Try.prog ops Q (o :: rest) a w :=
  wpList_plain hgd fun _ hK => by
    obtain ⟨i0, hi, hz⟩ := info_parts Try.infoI
    simp only [Prod.mk.injEq] at hz
    obtain ⟨hz0, hz1, hz2⟩ := hz
    refine wp_append_src w s x 25 25 ho 3 i0 _ 1 8 Try.underlying25 hi hz0 hz1 hz2 rfl _ 0 [] hs ⟨rfl, .inr ⟨b, 0, #[], rfl, Nat.zero_le _, hb, Nat.le_refl _, by unfold maxLen; omega, rfl, rfl⟩⟩ (by simp) vx hx X.length (nums X) (src_ints hX) (by unfold maxLen; omega) (by omega) fun v' w' h1 h2 => hK _ _ (h v' w' ?_ h2)
    unfold IBuf
    simpa [nums] using h1
theorem IBuf.put {w : World} {v : Value} {l : List Int} (h : IBuf w v l) {j : Nat} (hjl : j < l.length) {b : Nat} (hb : v.ownBlock = some b) (x : Int) : IBuf (w.setCell ⟨b, j, none⟩ (.int .i64 x)) v (l.set j x) := by
  obtain ⟨h1, h2⟩ := h
  refine ⟨by simp, ?_⟩
  rcases h2 with ⟨rfl, h0⟩ | ⟨g, cap, cur, rfl, hg0, hg, hn, hm, hcs, ht⟩
  · omega
  · obtain rfl : g = b := by simpa [Value.ownBlock] using hb
    right
    refine ⟨g, cap, cur.setIfInBounds j (.int .i64 x), by rw [List.length_set], hg0, ?_, by rw [List.length_set]; exact hn, hm, by simp [hcs], ?_⟩
    · have := heap_setCell_same w g j cur 3 (.int .i64 x) hg
      rw [this]
    · rw [List.map_set, ← ht, List.length_set, Array.toList_setIfInBounds, List.take_set]
theorem IBuf.free {w : World} {v : Value} {l : List Int} (h : IBuf w v l) {b : Nat} (hb : v.ownBlock = some b) (j : Nat) : w.frozen? ⟨b, j, none⟩ = false := by
  rcases h.2 with ⟨rfl, h0⟩ | ⟨g, cap, cur, rfl, hg0, hg, hn, hm, hcs, ht⟩
  · cases hb
  · obtain rfl : g = b := by simpa [Value.ownBlock] using hb
    exact frozen_of_row w g _ _ _ hg
/-- the copy while it is sent along -/
structure SdI (w : World) (N s t : Int) (va v : Value) (X : List Int) (W : World) : Prop where
  bx : Bx w W w.heap.size N s t va
  buf : IBuf W v X
  own : ∀ b, v.ownBlock = some b → w.heap.size < b
theorem SdI.make {w W w' : World} {N s t : Int} {va v' : Value} {X : List Int} {o : Obj} (h : Bx w W w.heap.size N s t va) (hp : IBuf w' v' X) (hw : Wrote (W.alloc o) w' (.slice (some ⟨W.heap.size, 0, none⟩) 0 0) v') : SdI w N s t va v' X w' := by
  have hg := h.row.lt
  have hal := Joins.below_alloc1 W o
  have hb2 : Below w.heap.size (W.alloc o) w' := hw.toBelow (by simp; omega) (fun b hb' => by simp [Value.ownBlock] at hb'; omega)
  refine ⟨⟨(h.bw.trans (hal.mono (by omega))).trans hb2, (hw.grown.block _ (by simp; omega) (fun e => by simp [Value.ownBlock] at e; omega)).trans (h.row.keep hal)⟩, hp, fun b hb' => ?_⟩
  rcases hw.own with e1 | e1
  · rw [e1] at hb'; simp [Value.ownBlock] at hb'; omega
  · have := e1 b hb'; simp at this; omega
theorem SdI.put {w W : World} {N s t : Int} {va v : Value} {X : List Int} (h : SdI w N s t va v X W) {j : Nat} (hj : j < X.length) {b : Nat} (hb : v.ownBlock = some b) (x : Int) : SdI w N s t va v (X.set j x) (W.setCell ⟨b, j, none⟩ (.int .i64 x)) := by
  have ho := h.own b hb
  exact ⟨⟨below_setCell h.bx.bw _ _ _ (by omega), h.bx.row.setFar _ _ (by omega)⟩, h.buf.put hj hb x, h.own⟩
theorem SdI.drew {w W : World} {N s t : Int} {va v : Value} {X : List Int} (h : SdI w N s t va v X W) (n : Nat) : SdI w N s t va v X (W.drewN n) :=
  ⟨h.bx.keep (Kd.drewN W n).below, h.buf, h.own⟩

set_option maxRecDepth 100000 in
set_option maxHeartbeats 8000000 in
theorem rsend_call (N s t : Nat) (A : List Ar) (X by' : List Int) (sd : List Bool) (l L : List Int) (M : Int) (va vx vb : Value) (w : World) (hA : ARest w.heap.size w A va) (hX : IRest w.heap.size w X vx) (hB : IRest w.heap.size w by' vb) (hE : netE N s t A = 0) (hok : okF A X)
    (hbi : BI N s A X by' sd l) (hbz : ∀ x, x ∈ by' → -1000 ≤ x ∧ x ≤ 1000) (hL : Chn s (parB A by') (t : Int) L) (hLl : ∀ u, u ∈ L → u ∈ l ∧ u ≠ s) (ht : (t : Int) ∈ l) (hnz : ∀ v, v ∈ l → v ≠ (s : Int) → byB by' v ≠ 0) (hM : 0 ≤ M ∧ M ≤ 1073741824) (hLN : L.length ≤ 64) :
    Calls Try.prog 38 #[netV N s t va, vx, vb, .int .i64 M] w fun e w' => ∃ v', e = .returned v' ∧ Kd w w' ∧ IBuf w' v' (sendL (idxB by') (fwB by') M L X) := by
  have hnk := net_ok hE
  have hlenX := ((okF_iff A X).1 hok).1
  have HOK := Lib.hid ((okF_iff A X).1 hok).2
  have HNK := Lib.hid hnk
  have HBI := Lib.hid hbi
  have HBZ := Lib.hid hbz
  have HNZ := Lib.hid hnz
  have HXR := Lib.hid hX
  have hN64 : N ≤ 64 := by have := hnk.rng; omega
  have hsN : s < N := by have := hnk.net.src; omega
  obtain ⟨a, c, rfl, -⟩ := id hA
  obtain ⟨ax, cx, rfl, -⟩ := id hX
  obtain ⟨ab, cb, rfl, -⟩ := id hB
  obtain ⟨-, hac, ham, hat⟩ := arcs_at hA
  obtain ⟨-, hbc, hbm, hbt⟩ := ints_at hB
  have hlb := hbi.lb
  obtain ⟨n, hn⟩ : ∃ n, n = A.length := ⟨_, rfl⟩
  rw [← hn] at hac hat hlenX ⊢
  rw [hlenX] at HXR ⊢
  rw [hlb] at hbc hbt ⊢
  have HAT := Lib.hid hat
  have HBT := Lib.hid hbt
  have HNL := Lib.hid (And.intro hn (And.intro hlenX (And.intro (show n ≤ 512 by have := hnk.few; omega) hlb)))
  have HCH := Lib.hid (And.intro hL (And.intro hLl (And.intro ht hLN)))
  clear hnz hA hX hB hE hok hn hat hbt hlenX hnk hbi hbz hlb hL hLl ht hLN
  unfold netV
  have HX := Lib.hid (bx_new w N s t (.slice a n c))
  obtain ⟨W1, hW1⟩ : ∃ W1, W1 = w.alloc (.cells #[.int .i64 (N : Int), .int .i64 (s : Int), .int .i64 (t : Int), .slice a n c] 24) := ⟨_, rfl⟩
  have HW1 := Lib.hid hW1
  rw [← hW1] at HX
  clear hW1
  go_enter Try.func38, Try.ntmps38
  go_upto_region 1 with (fail)
  rw [← HW1.out]
  go_upto_region 2 with (at_builtin; refine wpList_copy_ints rfl (.tmp 13) (.tmp 14) rfl W1.heap.size rfl (row_new W1 3 []) X (.slice ax n cx) rfl ((Kd.of (HX.out.bw.trans ((Joins.below_alloc1 W1 (.cells #[] 3)).mono HX.out.bw.size))).irest HXR.out) (by have := HNL.out; omega) ?_; intro v' w2 hp hw; have HS := Lib.hid (SdI.make HX.out hp hw); obtain ⟨a9, c9, e9, -⟩ := hp.shape; have e9n : X.length = n := HNL.out.2.1; rw [e9n] at e9; subst e9; clear hp hw e9n)
  have d2 := HS.out.bx.row.cell (i := 2) rfl
  go_upto_region 3 with (fail)
  clear d2
  go_loopg [10] L.length (fun k s10 wr => ∃ (L2 X2 : List Int) (v d : Nat), s10 = .int .i64 (v : Int) ∧ Chn s (parB A by') (v : Int) L2 ∧ (∀ u, u ∈ L2 → u ∈ l ∧ u ≠ s) ∧ (v : Int) ∈ l ∧ sendL (idxB by') (fwB by') M L2 X2 = sendL (idxB by') (fwB by') M L X ∧ k = L2.length ∧ (d + L2.length = L.length ∧ X2.length = n ∧ ∀ x, x ∈ X2 → -(1073741824 * (1 + (d : Int))) ≤ x ∧ x ≤ 1073741824 * (1 + (d : Int))) ∧ SdI w N s t (.slice a n c) (.slice a9 n c9) X2 wr)
  case atStart =>
    refine ⟨L, X, t, 0, rfl, HCH.out.1, HCH.out.2.1, HCH.out.2.2.1, rfl, rfl, ⟨by omega, HNL.out.2.1, fun x hx => ?_⟩, HS.out⟩
    obtain ⟨i, hi, rfl⟩ := List.getElem_of_mem hx
    have hiA : i < A.length := by have := HNL.out; omega
    have h1 := HOK.out i hiA
    have h2 := HNK.out.caps _ (getD_mem hiA)
    rw [show X.getD i 0 = X[i] by simp [hi]] at h1
    omega
  case round =>
    obtain ⟨L2, X2, v, d, rfl, hch, hin, hvl, hro, hgk, hdd, hR⟩ := hrel
    have HR := Lib.hid hR
    have HC2 := Lib.hid (And.intro hch (And.intro hin (And.intro hvl (And.intro hro (And.intro hgk hdd)))))
    have d1 := hR.bx.row.cell (i := 1) rfl
    have d3 := hR.bx.row.cell (i := 3) rfl
    clear hR hch hin hvl hro hgk hdd HX HS
    by_cases hvs : (v : Int) = (s : Int)
    · have hvs2 : ((v : Int) != (s : Int)) = false := by simp [hvs]
      have hz : L2 = [] := by have h9 := HC2.out.1; rw [hvs] at h9; exact h9.last
      have HT : Hid (X2 = sendL (idxB by') (fwB by') M L X) := Lib.hid (by have h9 := HC2.out.2.2.2.1; rw [hz] at h9; exact h9)
      go_wp2_with fail
      go_ret
      exact ⟨_, rfl, Kd.of HR.out.bx.bw, by rw [← HT.out]; exact HR.out.buf⟩
    · have hvs2 : ((v : Int) != (s : Int)) = true := by simp [hvs]
      obtain ⟨L3, hL3, hch3⟩ := HC2.out.1.next hvs
      have hvl := HC2.out.2.2.1
      have hvr := HBI.out.inn _ hvl
      obtain ⟨hst, hpl⟩ := HBI.out.stp _ hvl hvs
      obtain ⟨bb, hbb⟩ : ∃ b, b = by'.getD v 0 := ⟨_, rfl⟩
      have hbz : -1000 ≤ bb ∧ bb ≤ 1000 := HBZ.out bb (by
        have h9 : v < by'.length := by have := HNL.out.2.2.2; omega
        rw [hbb]; simp [h9])
      obtain ⟨-, b1, o1, q1, hb1, f1⟩ := HBT.out v (by have := HNL.out; omega)
      subst q1
      rw [← hbb] at f1
      have cB := (HR.out.bx.bw.cell (p := ⟨b1, o1 + v, none⟩) hb1).trans f1
      have hvN : (v : Int) < (N : Int) := by omega
      have hlt := hst.lt
      have harc := hst.arc
      have hBY : byB by' (v : Int) = bb := by unfold byB; rw [Int.toNat_natCast, hbb]
      have hin : ∀ u, u ∈ L3 → u ∈ l ∧ u ≠ s := fun u hu => HC2.out.2.1 u (by rw [hL3]; simp [hu])
      have hpr := HBI.out.inn _ hpl
      obtain ⟨pv, hpv⟩ : ∃ p : Nat, parB A by' (v : Int) = (p : Int) := ⟨(parB A by' v).toNat, by omega⟩
      rw [hpv] at hch3 hpl
      have hro := HC2.out.2.2.2.1
      rw [hL3] at hro
      have hgk := HC2.out.2.2.2.2.1
      rw [hL3] at hgk
      obtain ⟨hd1, hd2, hd3⟩ := HC2.out.2.2.2.2.2
      rw [hL3] at hd1
      simp only [List.length_cons] at hd1 hgk
      have hd64 : d ≤ 64 := by have := HCH.out.2.2.2; omega
      obtain ⟨i, hi⟩ : ∃ i, i = idxB by' (v : Int) := ⟨_, rfl⟩
      rw [← hi] at hlt harc
      have hin5 : (i : Int) < (n : Int) := by have := HNL.out; omega
      have hi5 : (i : Int) < 512 := by have := HNL.out; omega
      obtain ⟨hI, ba, off, hae, hba, e1, e2, e3⟩ := HAT.out i (by omega)
      subst hae
      obtain ⟨y, hy⟩ : ∃ x, x = X2.getD i 0 := ⟨_, rfl⟩
      have hiX : i < X2.length := by have := HNL.out; omega
      have hyb := hd3 y (by rw [hy]; simp [hiX])
      obtain ⟨a8, c8, h8, hl8, -, hat8⟩ := HR.out.buf.shape
      obtain ⟨g8, hg8, c4⟩ := hat8 i hiX
      injection h8 with q1 q2 q3
      rw [← q1] at hg8
      subst hg8
      rw [Nat.zero_add, ← hy] at c4
      have hown : (Value.slice (some ⟨g8, 0, none⟩) n c9).ownBlock = some g8 := rfl
      have c4f := HR.out.buf.free hown i
      have c1 := (HR.out.bx.bw.cell (p := ⟨ba, off + i * 3, none⟩) hba).trans e1
      have c2 := (HR.out.bx.bw.cell (p := ⟨ba, off + i * 3 + 1, none⟩) hba).trans e2
      have HNX := Lib.hid (And.intro hch3 (And.intro hin (And.intro hpl (And.intro hgk (And.intro hd1 (And.intro hd2 hd3))))))
      have hgw := HR.out.own g8 hown
      have HBA := Lib.hid hba
      have HIX := Lib.hid (And.intro hiX hown)
      by_cases hpos : 0 < bb
      · have hfw : fwB by' (v : Int) = true := by unfold fwB; rw [hBY]; exact decide_eq_true hpos
        rw [hfw, if_pos rfl] at harc
        have hbi2 : bb - 1 = (i : Int) := by rw [hi]; unfold idxB; rw [hBY, if_pos hpos]; omega
        have hx0 : (A.getD i (0, 0, 0)).1 = (pv : Int) := by rw [harc.1, hpv]
        rw [hx0] at c1
        have HT : Hid (sendL (idxB by') (fwB by') M L3 (X2.set i (y + M)) = sendL (idxB by') (fwB by') M L X) := Lib.hid (by
          have h9 : sendL (idxB by') (fwB by') M (↑v :: L3) X2 = sendL (idxB by') (fwB by') M L3 (X2.set (idxB by' v) (X2.getD (idxB by' v) 0 + if fwB by' (v : Int) = true then M else -M)) := rfl
          rw [h9, hfw, if_pos rfl, ← hi, ← hy] at hro; exact hro)
        have HP := Lib.hid (HR.out.put hiX hown (y + M))
        have c1' : (wr.setCell ⟨g8, i, none⟩ (.int .i64 (y + M))).cell? ⟨ba, off + i * 3, none⟩ = some (.int .i64 (pv : Int)) := by
          have h9 := HP.out.bx.bw.cell (p := ⟨ba, off + i * 3, none⟩) hba
          rw [h9, ← HR.out.bx.bw.cell (p := ⟨ba, off + i * 3, none⟩) hba]; exact c1
        have d3' := HP.out.bx.row.cell (i := 3) rfl
        clear hro hch3 hin hpl hgk hi hy hlt harc hI hba e1 e2 e3 hBY hfw hx0 hbb hL3 hvr hst hpr hpv f1 hd1 hd2 hd3 hiX hl8 hat8 hown hvl q1 q2 q3 c1 c2
        go_wp2_with fail
        go_roundg L3.length
        case measure => rw [HNX.out.2.2.2.1]; simp
        case rel =>
          refine ⟨L3, X2.set i (y + M), pv, d + 1, rfl, HNX.out.1, HNX.out.2.1, HNX.out.2.2.1, HT.out, rfl, ⟨by have := HNX.out.2.2.2.2.1; omega, by rw [List.length_set]; exact HNX.out.2.2.2.2.2.1, fun x hx => ?_⟩, by first | exact HP.out | exact HP.out.drew _⟩
          rcases List.mem_or_eq_of_mem_set hx with h9 | h9
          · have := HNX.out.2.2.2.2.2.2 x h9
            omega
          · omega
      · have hfw : fwB by' (v : Int) = false := by unfold fwB; rw [hBY]; exact decide_eq_false hpos
        rw [hfw] at harc
        simp only [Bool.false_eq_true, if_false] at harc
        have hbi2 : -bb - 1 = (i : Int) := by
          have h9 : i = (-bb - 1).toNat := by rw [hi]; unfold idxB; rw [hBY, if_neg hpos]
          have h8 : bb ≠ 0 := fun e => HNZ.out _ hvl hvs (by rw [hBY]; exact e)
          omega
        have hx0 : (A.getD i (0, 0, 0)).2.1 = (pv : Int) := by rw [harc.2.1, hpv]
        rw [hx0] at c2
        have HT : Hid (sendL (idxB by') (fwB by') M L3 (X2.set i (y - M)) = sendL (idxB by') (fwB by') M L X) := Lib.hid (by
          have h9 : sendL (idxB by') (fwB by') M (↑v :: L3) X2 = sendL (idxB by') (fwB by') M L3 (X2.set (idxB by' v) (X2.getD (idxB by' v) 0 + if fwB by' (v : Int) = true then M else -M)) := rfl
          rw [h9, hfw, ← hi, ← hy] at hro
          rw [show y - M = y + -M by omega]
          simpa using hro)
        have HP := Lib.hid (HR.out.put hiX hown (y - M))
        have c2' : (wr.setCell ⟨g8, i, none⟩ (.int .i64 (y - M))).cell? ⟨ba, off + i * 3 + 1, none⟩ = some (.int .i64 (pv : Int)) := by
          have h9 := HP.out.bx.bw.cell (p := ⟨ba, off + i * 3 + 1, none⟩) hba
          rw [h9, ← HR.out.bx.bw.cell (p := ⟨ba, off + i * 3 + 1, none⟩) hba]; exact c2
        have d3' := HP.out.bx.row.cell (i := 3) rfl
        clear hro hch3 hin hpl hgk hi hy hlt harc hI hba e1 e2 e3 hBY hfw hx0 hbb hL3 hvr hst hpr hpv f1 hd1 hd2 hd3 hiX hl8 hat8 hown hvl q1 q2 q3 c1 c2
        go_wp2_with fail
        go_roundg L3.length
        case measure => rw [HNX.out.2.2.2.1]; simp
        case rel =>
          refine ⟨L3, X2.set i (y - M), pv, d + 1, rfl, HNX.out.1, HNX.out.2.1, HNX.out.2.2.1, HT.out, rfl, ⟨by have := HNX.out.2.2.2.2.1; omega, by rw [List.length_set]; exact HNX.out.2.2.2.2.2.1, fun x hx => ?_⟩, by first | exact HP.out | exact HP.out.drew _⟩
          rcases List.mem_or_eq_of_mem_set hx with h9 | h9
          · have := HNX.out.2.2.2.2.2.2 x h9
            omega
          · omega
end Go.Proofs.Ytbmbddapbgnioaa
