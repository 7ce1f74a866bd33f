/- Which days are in the union, the meet and the difference: the law DaysMembers. -/
import Derived.Test.YtiicjmbnkjociaaDoorW
import Derived.Test.YtiicjmbnkjociaaDoorQ
namespace Go.Proofs.YtiicjmbnkjociaaDoor
open Go.RowKit

theorem run_append_nil2 (P : Program) (w : World) (t ty e : TypeId) (i : TypeInfo) (ht : P.underlying t = some (.slice e)) (hi : P.info? e = some i) (c : Nat) : (Builtin.append_ #[t, t] ty #[.slice none 0 0, .slice none 0 c]).run P w = .ok (.slice none 0 0) w := by
  simp [Builtin.append_, run_underlying ht, sizeOf, typeInfo, hi, Builtin.lenOf, Builtin.firstCells, Sem.run_bind]
theorem wp_ptsA {w : World} {o : Oper} {a : Act} {K : Act → World → Prop} {Q : Exit → Act → World → Prop} (hgd : o.guard = none) (s x : Operand)
    (ho : o.op = .call { callee := .builtin .append, args := #[s, x], argTypes := #[32, 32] })
    (v : Value) (l : List Sp) (hs : a.eval s = v) (hb : PBuf 0 w v l) (sv : Value) (B : Nat) (l2 : List Sp) (hx : a.eval x = sv) (hr : PRest B w l2 sv) (hlen : l.length + l2.length ≤ 1000000)
    (h : ∀ v' w', PBuf 0 w' v' (l ++ l2) → Wrote w w' v v' → K (a.put o.dst v') w') : o.wp Tryd.prog a w K Q := by
  obtain ⟨ad, cap, rfl, h1, h2, h3, h4⟩ := id hr
  cases ad with
  | some ad => exact wp_pts hgd s x ho v l hs hb _ B l2 hx hr ⟨_, _, _, rfl⟩ hlen h
  | none =>
    have hl0 : l2 = [] := by
      rcases h4 with h4 | ⟨b, off, h5, _⟩
      · exact List.eq_nil_of_length_eq_zero h4
      · cases h5
    subst hl0
    rw [List.append_nil] at h
    obtain ⟨i0, hi, hz0, hz1, hz2⟩ := info_parts Tryd.info45
    have hb0 := hb
    rcases hb.2 with ⟨rfl, h0⟩ | ⟨g, cap2, cur, rfl, _⟩
    · unfold Oper.wp execOp
      have hrn := run_append_nil2 Tryd.prog w 32 o.type 45 i0 Tryd.underlying32 hi cap
      simp only [ho, resolve, invoke, builtin, Sem.run_bind, Sem.run_pure, Result.andThen_ok, List.map_toArray, List.map_cons, List.map_nil, hs, hx, List.length_nil, hrn]
      exact h _ _ hb0 (Wrote.refl _ _)
    · have hown : w.ownsRow 0 45 2 _ l.length (pc l) := hb0
      exact wp_append_src w s x 32 32 ho 45 i0 _ 2 16 Tryd.underlying32 hi hz0 hz1 hz2 rfl _ l.length (pc l) hs hown (by simp) _ hx 0 [] (Src.ofNil w Tryd.underlying32 cap) (by unfold maxLen; simp at hlen; omega) (by simp at hlen; omega) fun v' w' h8 h9 => h v' w' (by unfold PBuf; simpa using h8) h9
theorem wpList_ptsA {w : World} {ops : Array Oper} {rest : List Oper} {o : Oper} {a : Act} {Q : Exit → Act → World → Prop} (hgd : o.guard = none) (s x : Operand)
    (ho : o.op = .call { callee := .builtin .append, args := #[s, x], argTypes := #[32, 32] })
    (v : Value) (l : List Sp) (hs : a.eval s = v) (hb : PBuf 0 w v l) (sv : Value) (B : Nat) (l2 : List Sp) (hx : a.eval x = sv) (hr : PRest B w l2 sv) (hlen : l.length + l2.length ≤ 1000000)
    (h : ∀ v' w', PBuf 0 w' v' (l ++ l2) → Wrote w w' v v' → wpList Tryd.prog ops Q rest (a.put o.dst v') w') : wpList Tryd.prog ops Q (o :: rest) a w :=
  wpList_plain hgd fun _ hK => wp_ptsA hgd s x ho v l hs hb sv B l2 hx hr hlen fun v' w' h1 h2 => hK _ _ (h v' w' h1 h2)
theorem pbuf_made {w : World} {b : Nat} (hr : Row w b 45 []) : PBuf 0 w (.slice (some ⟨b, 0, none⟩) 0 0) [] :=
  ⟨rfl, .inr ⟨b, 0, #[], rfl, Nat.zero_le _, hr, Nat.le_refl _, by unfold maxLen; omega, rfl, rfl⟩⟩
/-- a list of numbers of the call's own -/
def IBuf (w : World) (v : Value) (zs : List Int) : Prop := w.ownsRow 0 3 1 v zs.length (zs.map (.int .i64 ·))
theorem IBuf.keep {w w' : World} {v : Value} {zs : List Int} (h : IBuf w v zs) (hb : Below w.heap.size w w') : IBuf w' v zs := owns_below h hb
theorem IBuf.same {w w' : World} {v : Value} {zs : List Int} (h : IBuf w v zs) (he : ∀ k, v.ownBlock = some k → w'.heap[k]? = w.heap[k]?) : IBuf w' v zs := by
  refine ⟨h.1, ?_⟩
  rcases h.2 with h0 | ⟨g, cap, cur, rfl, h2, h3, h4⟩
  · exact .inl h0
  · exact .inr ⟨g, cap, cur, rfl, h2, (he g rfl).trans h3, h4⟩
theorem IBuf.shape {w : World} {v : Value} {zs : List Int} (h : IBuf w v zs) : ∃ a cap, v = .slice a zs.length cap ∧ zs.length ≤ maxLen ∧ (∀ k, v.ownBlock = some k → k < w.heap.size) ∧ ∀ k, k < zs.length → ∃ g, a = some ⟨g, 0, none⟩ ∧ w.cell? ⟨g, 0 + k, none⟩ = some (.int .i64 (zs.getD k 0)) := by
  rcases h.2 with ⟨rfl, h0⟩ | ⟨g, cap, cur, rfl, _, hg, h1, h2, _, _⟩
  · exact ⟨none, 0, by rw [h0], by unfold maxLen; omega, fun k hk => (by cases hk), fun k hk => by omega⟩
  · refine ⟨_, cap, rfl, by omega, fun k hk => (World.ownsRow.lt h k hk).2, fun k hk => ⟨g, rfl, ?_⟩⟩
    have := World.ownsRow.cells h (g := g) rfl k (.int .i64 (zs.getD k 0)) (by simp [hk])
    rw [Addr.add_lit] at this
    exact this
theorem Tryd.infoI : (Tryd.prog.info? 3).map (fun i => (i.zero, i.size, i.bytes)) = some (some (.int .i64 0), 1, 8) := by kernel_rfl
theorem wpList_ints4 {w : World} {ops : Array Oper} {rest : List Oper} {o : Oper} {a : Act} {Q : Exit → Act → World → Prop} (hgd : o.guard = none) (s x : Operand)
    (ho : o.op = .call { callee := .builtin .append, args := #[s, x], argTypes := #[43, 43] })
    (v : Value) (zs : List Int) (hs : a.eval s = v) (hb : IBuf w v zs) (g : Nat) (y0 y1 y2 y3 : Int) (hx : a.eval x = .slice (some ⟨g, 0, none⟩) 4 4) (hr : Row w g 3 [.int .i64 y0, .int .i64 y1, .int .i64 y2, .int .i64 y3]) (hlen : zs.length + 4 ≤ 1000000)
    (h : ∀ v' w', IBuf w' v' (zs ++ [y0, y1, y2, y3]) → Wrote w w' v v' → wpList Tryd.prog ops Q rest (a.put o.dst v') w') : wpList Tryd.prog ops Q (o :: rest) a w := by
  obtain ⟨i0, hi, hz0, hz1, hz2⟩ := info_parts Tryd.infoI
  refine wpList_append_mine w hgd s x 43 ho 3 i0 _ 1 8 Tryd.underlying43 hi hz0 hz1 hz2 rfl (by decide) v zs.length _ hs hb ⟨g, 0, none⟩ 4 4 [.int .i64 y0, .int .i64 y1, .int .i64 y2, .int .i64 y3] hx rfl (fun j u hj => ?_) (fun u hu => ?_) (by unfold maxLen; omega) (by omega) fun v' w' h1 h2 => h v' w' ?_ h2
  · rw [Addr.add_lit, Nat.zero_add]; exact hr.cell hj
  · simp at hu; rcases hu with rfl | rfl | rfl | rfl <;> rfl
  · unfold IBuf; simpa using h1
/-- the state of the first loop -/
structure MbI (w9 : World) (N1 : Nat) (L : List Sp) (vl : Value) (v : Value) (zs : List Int) (W : World) : Prop where
  ib : IBuf W v zs
  own : ∀ k, v.ownBlock = some k → k = w9.heap.size ∨ N1 ≤ k
  pb : PBuf 0 W vl L
  pown : ∀ k, vl.ownBlock = some k → w9.heap.size < k ∧ k < N1
  b0 : Below w9.heap.size w9 W
  big : N1 ≤ W.heap.size
  n1 : w9.heap.size ≤ N1
theorem MbI.keep {w9 : World} {N1 : Nat} {L : List Sp} {vl v : Value} {zs : List Int} {W W' : World} (h : MbI w9 N1 L vl v zs W) (hb : Below W.heap.size W W') : MbI w9 N1 L vl v zs W' :=
  ⟨h.ib.keep hb, h.own, h.pb.keep hb, h.pown, h.b0.trans (hb.mono h.b0.size), Nat.le_trans h.big hb.size, h.n1⟩
theorem MbI.wrote {w9 : World} {N1 : Nat} {L : List Sp} {vl v v' : Value} {zs zs' : List Int} {W W' : World} (h : MbI w9 N1 L vl v zs W) (hi : IBuf W' v' zs') (hw : Wrote W W' v v') : MbI w9 N1 L vl v' zs' W' := by
  have hs := hw.grown.size
  refine ⟨hi, fun k hk => ?_, h.pb.same fun k hk => hw.grown.block k (by have := (h.pown k hk).2; have := h.big; omega) (fun e => ?_), h.pown, h.b0.trans (hw.toBelow h.b0.size fun k hk => ?_), Nat.le_trans h.big hs, h.n1⟩
  · rcases hw.own with e | e
    · exact h.own k (e ▸ hk)
    · exact .inr (Nat.le_trans h.big (e k hk))
  · have h1 := h.pown k hk
    rcases h.own k e.symm with h2 | h2 <;> omega
  · rcases h.own k hk with h2 | h2
    · omega
    · have := h.n1; omega
set_option maxHeartbeats 40000000 in
set_option maxRecDepth 100000 in
theorem members_walk (la lb : List Sp) (va vb : Value) (q : Int) (w : World) (ha : PRest w.heap.size w la va) (hb : PRest w.heap.size w lb vb) (hT : Tab w) (hq : I64 q) :
    Calls Tryd.prog 7 #[va, vb, .int .i64 q] w fun e w' => e = .returned (.bool true) ∧ Below w.heap.size w w' := by
  have BW := Lib.hid (Below.refl w.heap.size w)
  have CSA := Lib.hid (sane_call w hT)
  have PA := Lib.hid ha
  have PB := Lib.hid hb
  have CKA := Lib.hid (fun W va (h : PRest W.heap.size W la va) => Check_call la va _ W h (Nat.le_refl _))
  have CKB := Lib.hid (fun W vb (h : PRest W.heap.size W lb vb) => Check_call lb vb _ W h (Nat.le_refl _))
  obtain ⟨a1, c1, rfl, -, hm1, -⟩ := id ha
  obtain ⟨a2, c2, rfl, -, hm2, -⟩ := id hb
  have hka := fun h0 => chk_ok (l := la) h0
  have hkb := fun h0 => chk_ok (l := lb) h0
  have hml1 : la.length ≤ 9223372036854775807 := by obtain ⟨_, _, e, h1, h2, _⟩ := ha; injection e with _ e2 e3; unfold maxLen at h2; omega
  have hml2 : lb.length ≤ 9223372036854775807 := by obtain ⟨_, _, e, h1, h2, _⟩ := hb; injection e with _ e2 e3; unfold maxLen at h2; omega
  clear ha hb hm1 hm2 hT
  obtain ⟨na, hna⟩ : ∃ n, n = la.length := ⟨_, rfl⟩
  obtain ⟨nb, hnb⟩ : ∃ n, n = lb.length := ⟨_, rfl⟩
  rw [← hna] at PA hml1 ⊢
  rw [← hnb] at PB hml2 ⊢
  have HNA := Lib.hid hna
  have HNB := Lib.hid hnb
  clear hna hnb
  by_cases r0 : 128 < na
  · have e0 : decide ((128 : Int) < (na : Int)) = true := by simp; omega
    clear r0
    go_enter Tryd.func7, Tryd.ntmps7
    go_wp2_with fail
    refine (CSA.out).mono ?_
    rintro e w1 ⟨rfl, hb⟩
    replace BW := Lib.hid (below_next BW.out hb)
    clear hb
    go_wp2_with fail
    go_ret
    exact ⟨rfl, BW.out⟩
  · have e0 : decide ((128 : Int) < (na : Int)) = false := by simp; omega
    by_cases r1 : 128 < nb
    · have e1 : decide ((128 : Int) < (nb : Int)) = true := by simp; omega
      clear r0 r1
      go_enter Tryd.func7, Tryd.ntmps7
      go_wp2_with fail
      refine (CSA.out).mono ?_
      rintro e w1 ⟨rfl, hb⟩
      replace BW := Lib.hid (below_next BW.out hb)
      clear hb
      go_wp2_with fail
      go_ret
      exact ⟨rfl, BW.out⟩
    · have e1 : decide ((128 : Int) < (nb : Int)) = false := by simp; omega
      obtain ⟨ka, hka2⟩ : ∃ c, c = chk la := ⟨_, rfl⟩
      obtain ⟨kb, hkb2⟩ : ∃ c, c = chk lb := ⟨_, rfl⟩
      rw [← hka2] at CKA hka
      rw [← hkb2] at CKB hkb
      by_cases r2 : ka = 0
      · skip
        by_cases r3 : kb = 0
        · skip
          subst r2
          subst r3
          obtain ⟨hla, hca⟩ := hka rfl
          obtain ⟨hlb, hcb⟩ := hkb rfl
          have hna := HNA.out
          have hnb := HNB.out
          have hu := combR_set (Wf := fun p q => p || q) hca hcb rfl
          have hm := combR_set (Wf := fun p q => p && q) hca hcb rfl
          have hx := combR_set (Wf := fun p q => p && !q) hca hcb rfl
          have hul := combR_len (Wf := fun p q => p || q) hca hcb rfl
          have hml := combR_len (Wf := fun p q => p && q) hca hcb rfl
          have hxl := combR_len (Wf := fun p q => p && !q) hca hcb rfl
          have hcu := comb_ok (Wf := fun p q => p || q) hka2.symm hkb2.symm (by omega)
          have hcm := comb_ok (Wf := fun p q => p && q) hka2.symm hkb2.symm (by omega)
          have hcx := comb_ok (Wf := fun p q => p && !q) hka2.symm hkb2.symm (by omega)
          have CUN := Lib.hid (fun W va vb (ha : PRest W.heap.size W la va) (hb : PRest W.heap.size W lb vb) => Union_call la lb va vb _ W ha hb (Nat.le_refl _))
          have CME := Lib.hid (fun W va vb (ha : PRest W.heap.size W la va) (hb : PRest W.heap.size W lb vb) => Meet_call la lb va vb _ W ha hb (Nat.le_refl _))
          have CWO := Lib.hid (fun W va vb (ha : PRest W.heap.size W la va) (hb : PRest W.heap.size W lb vb) => Without_call la lb va vb _ W ha hb (Nat.le_refl _))
          rw [hcu.1, hcu.2] at CUN
          rw [hcm.1, hcm.2] at CME
          rw [hcx.1, hcx.2] at CWO
          have hua := chk_of (show (combR (fun p q => p || q) la lb).length ≤ 256 by omega) hu.can
          have hma := chk_of (show (combR (fun p q => p && q) la lb).length ≤ 256 by omega) hm.can
          have hxa := chk_of (show (combR (fun p q => p && !q) la lb).length ≤ 256 by omega) hx.can
          have HU : Hid (∀ d, hasB (combR (fun p q => p || q) la lb) d = (hasB la d || hasB lb d)) := Lib.hid (fun d => hasB_set hu d)
          have HM : Hid (∀ d, hasB (combR (fun p q => p && q) la lb) d = (hasB la d && hasB lb d)) := Lib.hid (fun d => hasB_set hm d)
          have HX : Hid (∀ d, hasB (combR (fun p q => p && !q) la lb) d = (hasB la d && !hasB lb d)) := Lib.hid (fun d => hasB_set hx d)
          have hag := again hca hcb
          have hag2 := comb_ok (Wf := fun p q => p || q) hma hxa (by rw [hag]; omega)
          rw [hag] at hag2
          have CAG := Lib.hid (fun W v v' (h : PRest W.heap.size W (combR (fun p q => p && q) la lb) v) (h' : PRest W.heap.size W (combR (fun p q => p && !q) la lb) v') => Union_call _ _ v v' _ W h h' (Nat.le_refl _))
          rw [hag2.1, hag2.2] at CAG
          have HRG : Hid (∀ i, i < (la ++ lb).length → 0 ≤ ((la ++ lb).getD i (0, 0)).1 ∧ ((la ++ lb).getD i (0, 0)).1 ≤ ((la ++ lb).getD i (0, 0)).2 ∧ ((la ++ lb).getD i (0, 0)).2 ≤ 73048) := Lib.hid (fun i hi => by
            rcases Nat.lt_or_ge i la.length with h | h
            · have := span_rng hca i h
              have e : (la ++ lb).getD i (0, 0) = la.getD i (0, 0) := by simp [List.getElem?_append_left h]
              rw [e]; exact this
            · have := span_rng hcb (i - la.length) (by simp at hi; omega)
              have e : (la ++ lb).getD i (0, 0) = lb.getD (i - la.length) (0, 0) := by simp [List.getElem?_append_right h]
              rw [e]; exact this)
          have HI64 : Hid (∀ p, p ∈ (la ++ lb) → I64 p.1 ∧ I64 p.2) := Lib.hid (fun p hp => by
            obtain ⟨j, hj, rfl⟩ := List.mem_iff_getElem.1 hp
            have h := HRG.out j hj
            have e : (la ++ lb).getD j (0, 0) = (la ++ lb)[j] := by rw [List.getD_eq_getElem?_getD, List.getElem?_eq_getElem hj]; rfl
            rw [e] at h
            exact ⟨⟨by omega, by omega⟩, ⟨by omega, by omega⟩⟩)
          have HLN : Hid ((la ++ lb).length ≤ 256) := Lib.hid (by simp; omega)
          have HLA : Hid (([] : List Sp).length + la.length ≤ 1000000) := Lib.hid (by simp; omega)
          have HLB : Hid (([] ++ la : List Sp).length + lb.length ≤ 1000000) := Lib.hid (by simp; omega)
          clear hcu hcm hcx hul hml hxl hu hm hx hka hkb hag hag2
          generalize combR (fun p q => p || q) la lb = U at *
          generalize combR (fun p q => p && q) la lb = M at *
          generalize combR (fun p q => p && !q) la lb = X at *
          have CKU := Lib.hid (fun W v (h : PRest W.heap.size W U v) => Check_call U v _ W h (Nat.le_refl _))
          have CKM := Lib.hid (fun W v (h : PRest W.heap.size W M v) => Check_call M v _ W h (Nat.le_refl _))
          have CKX := Lib.hid (fun W v (h : PRest W.heap.size W X v) => Check_call X v _ W h (Nat.le_refl _))
          rw [hua] at CKU
          rw [hma] at CKM
          rw [hxa] at CKX
          have CSM := Lib.hid (fun W v v' (h : PRest W.heap.size W la v) (h' : PRest W.heap.size W la v') => Same_call la la v v' _ W h h' (Nat.le_refl _))
          simp only [decide_true] at CSM
          have CHL := Lib.hid (fun L d W v (h : PRest W.heap.size W L v) => has_call L v d _ W h (Nat.le_refl _))
          clear hua hma hxa hka2 hkb2 hla hlb hca hcb hna hnb r0 r1
          go_enter Tryd.func7, Tryd.ntmps7
          go_wp2_with fail
          refine (CSA.out).mono ?_
          rintro e w1 ⟨rfl, hb⟩
          replace BW := Lib.hid (below_next BW.out hb)
          replace PA := Lib.hid (PA.out.keep hb)
          replace PB := Lib.hid (PB.out.keep hb)
          clear hb
          go_wp2_with fail
          refine (CKA.out _ _ PA.out).mono ?_
          rintro e w2 ⟨rfl, hb⟩
          replace BW := Lib.hid (below_next BW.out hb)
          replace PA := Lib.hid (PA.out.keep hb)
          replace PB := Lib.hid (PB.out.keep hb)
          clear hb
          go_wp2_with fail
          refine (CKB.out _ _ PB.out).mono ?_
          rintro e w3 ⟨rfl, hb⟩
          replace BW := Lib.hid (below_next BW.out hb)
          replace PA := Lib.hid (PA.out.keep hb)
          replace PB := Lib.hid (PB.out.keep hb)
          clear hb
          go_wp2_with fail
          refine (CUN.out _ _ _ PA.out PB.out).mono ?_
          rintro e w4 ⟨vU, rfl, hU, hb⟩
          replace BW := Lib.hid (below_next BW.out hb)
          replace PA := Lib.hid (PA.out.keep hb)
          replace PB := Lib.hid (PB.out.keep hb)
          obtain ⟨aU, cU, rfl, -⟩ := id hU
          have PU := Lib.hid hU
          clear hU
          clear hb
          go_wp2_with fail
          refine (CME.out _ _ _ PA.out PB.out).mono ?_
          rintro e w5 ⟨vM, rfl, hM, hb⟩
          replace BW := Lib.hid (below_next BW.out hb)
          replace PA := Lib.hid (PA.out.keep hb)
          replace PB := Lib.hid (PB.out.keep hb)
          replace PU := Lib.hid (PU.out.keep hb)
          obtain ⟨aM, cM, rfl, -⟩ := id hM
          have PM := Lib.hid hM
          clear hM
          clear hb
          go_wp2_with fail
          refine (CWO.out _ _ _ PA.out PB.out).mono ?_
          rintro e w6 ⟨vX, rfl, hX, hb⟩
          replace BW := Lib.hid (below_next BW.out hb)
          replace PA := Lib.hid (PA.out.keep hb)
          replace PB := Lib.hid (PB.out.keep hb)
          replace PU := Lib.hid (PU.out.keep hb)
          replace PM := Lib.hid (PM.out.keep hb)
          obtain ⟨aX, cX, rfl, -⟩ := id hX
          have PX := Lib.hid hX
          clear hX
          clear hb
          go_wp2_with fail
          refine (CKU.out _ _ PU.out).mono ?_
          rintro e w7 ⟨rfl, hb⟩
          replace BW := Lib.hid (below_next BW.out hb)
          replace PA := Lib.hid (PA.out.keep hb)
          replace PB := Lib.hid (PB.out.keep hb)
          replace PU := Lib.hid (PU.out.keep hb)
          replace PM := Lib.hid (PM.out.keep hb)
          replace PX := Lib.hid (PX.out.keep hb)
          clear hb
          go_wp2_with fail
          refine (CKM.out _ _ PM.out).mono ?_
          rintro e w8 ⟨rfl, hb⟩
          replace BW := Lib.hid (below_next BW.out hb)
          replace PA := Lib.hid (PA.out.keep hb)
          replace PB := Lib.hid (PB.out.keep hb)
          replace PU := Lib.hid (PU.out.keep hb)
          replace PM := Lib.hid (PM.out.keep hb)
          replace PX := Lib.hid (PX.out.keep hb)
          clear hb
          go_wp2_with fail
          refine (CKX.out _ _ PX.out).mono ?_
          rintro e w9 ⟨rfl, hb⟩
          replace BW := Lib.hid (below_next BW.out hb)
          replace PA := Lib.hid (PA.out.keep hb)
          replace PB := Lib.hid (PB.out.keep hb)
          replace PU := Lib.hid (PU.out.keep hb)
          replace PM := Lib.hid (PM.out.keep hb)
          replace PX := Lib.hid (PX.out.keep hb)
          clear hb
          have R1 := Lib.hid ((row_new w9 3 [.int .i64 q]).keep (Joins.below_alloc1 _ (.cells #[] 45)))
          have R2 := Lib.hid (row_new (w9.alloc (.cells #[.int .i64 q] 3)) 45 [])
          rw [World.size_alloc] at R2
          have B9 := Lib.hid (below_alloc2 w9 (.cells #[.int .i64 q] 3) (.cells #[] 45))
          have IB9 : Hid (IBuf ((w9.alloc (.cells #[.int .i64 q] 3)).alloc (.cells #[] 45)) (.slice (some ⟨w9.heap.size, 0, none⟩) 1 1) [q]) := Lib.hid ⟨rfl, .inr ⟨w9.heap.size, 1, #[.int .i64 q], rfl, Nat.zero_le _, R1.out, Nat.le_refl _, by unfold maxLen; omega, rfl, rfl⟩⟩
          have S9 : Hid (((w9.alloc (.cells #[.int .i64 q] 3)).alloc (.cells #[] 45)).heap.size = w9.heap.size + 2) := Lib.hid (by simp)
          go_wp2_with (first
            | (at_builtin; refine wpList_ptsA rfl (.tmp 87) (.tmp 88) rfl (.slice (some ⟨w9.heap.size + 1, 0, none⟩) 0 0) [] rfl (pbuf_made R2.out) _ _ la rfl (PA.out.stays B9.out) HLA.out ?_; intro vc wc hpc hwc
               have OWc : Hid (∀ k, vc.ownBlock = some k → w9.heap.size < k) := Lib.hid (fun k hk => by
                 rcases hwc.own with e | e
                 · have e2 : (Value.slice (some ⟨w9.heap.size + 1, 0, none⟩) 0 0).ownBlock = some k := e ▸ hk
                   simp only [Value.ownBlock, Option.some.injEq] at e2
                   omega
                 · have := e k hk; have := S9.out; omega)
               have Bc := Lib.hid (B9.out.trans (hwc.toBelow B9.out.size (fun k hk => by simp only [Value.ownBlock, Option.some.injEq] at hk; omega)))
               have IBc : Hid (IBuf wc (.slice (some ⟨w9.heap.size, 0, none⟩) 1 1) [q]) := Lib.hid ⟨rfl, .inr ⟨w9.heap.size, 1, #[.int .i64 q], rfl, Nat.zero_le _, R1.out.wrote hwc (fun k hk => by simp only [Value.ownBlock, Option.some.injEq] at hk; omega), Nat.le_refl _, by unfold maxLen; omega, rfl, rfl⟩⟩
               have Sc := Lib.hid (show w9.heap.size + 2 ≤ wc.heap.size by have := hwc.grown.size; have := S9.out; omega)
               have PCc := Lib.hid hpc
               clear hpc hwc)
            | (at_builtin; refine wpList_ptsA rfl (.tmp 89) (.tmp 90) rfl vc ([] ++ la) rfl PCc.out _ _ lb rfl (PB.out.stays Bc.out) HLB.out ?_; intro vd wd hpd hwd
               have OWd : Hid (∀ k, vd.ownBlock = some k → w9.heap.size < k ∧ k < wd.heap.size) := Lib.hid (fun k hk => ⟨by
                 rcases hwd.own with e | e
                 · exact OWc.out k (e ▸ hk)
                 · have := e k hk; have := Sc.out; omega, (hpd.lt k hk).2⟩)
               have Bd := Lib.hid (Bc.out.trans (hwd.toBelow Bc.out.size (fun k hk => by have := OWc.out k hk; omega)))
               have IBd : Hid (IBuf wd (.slice (some ⟨w9.heap.size, 0, none⟩) 1 1) [q]) := Lib.hid (IBc.out.same fun k hk => hwd.grown.block k (by simp only [Value.ownBlock, Option.some.injEq] at hk; have := Sc.out; omega) (fun e => by simp only [Value.ownBlock, Option.some.injEq] at hk; have := OWc.out k e.symm; omega))
               have Sd := Lib.hid (show w9.heap.size ≤ wd.heap.size by have := Bd.out.size; omega)
               rw [List.nil_append] at hpd
               obtain ⟨ad, cd, rfl⟩ := hpd.shape
               obtain ⟨n, hn⟩ : ∃ n, n = (la ++ lb).length := ⟨_, rfl⟩
               rw [← hn] at hpd OWd ⊢
               have HNL := Lib.hid hn
               clear hn
               have PCd := Lib.hid hpd
               clear hpd hwd)
            | fail)
          have HST : Hid (MbI w9 wd.heap.size (la ++ lb) (.slice ad n cd) (.slice (some ⟨w9.heap.size, 0, none⟩) [q].length 1) [q] wd) := Lib.hid ⟨IBd.out, fun k hk => by simp only [Value.ownBlock, Option.some.injEq] at hk; exact .inl hk.symm, PCd.out, OWd.out, Bd.out, Nat.le_refl _, Sd.out⟩
          clear IBd IBc PCd PCc OWd OWc Bc Bd Sc Sd S9 B9 R1 R2 IB9
          obtain ⟨N1, hN1⟩ : ∃ n, n = wd.heap.size := ⟨_, rfl⟩
          rw [← hN1] at HST
          clear hN1
          rw [← HNL.out] at HLN HRG
          generalize la ++ lb = L at *
          have hn256 : n ≤ 256 := HLN.out
          go_loopw [13, 93] (fun s13 s93 wr => ∃ (k : Nat) (zs : List Int) (a : Option Addr) (c : Nat), (k ≤ n ∧ zs.length ≤ 1 + 4 * k) ∧ s13 = .slice a zs.length c ∧ s93 = .int .i64 (k : Int) ∧ MbI w9 N1 L (.slice ad n cd) (.slice a zs.length c) zs wr) (fun _ s93 _ => n - (intOf s93).toNat)
          case atStart => exact ⟨0, [q], _, _, ⟨by omega, by simp⟩, rfl, rfl, HST.out⟩
          case round =>
            obtain ⟨k, zs, a, c, hk, rfl, rfl, hS⟩ := hrel
            have HK := Lib.hid hk
            have HS := Lib.hid hS
            rcases Nat.lt_or_ge k n with hlt | hge
            · have hpr := hS.pb.rest HI64.out
              obtain ⟨-, -, -, hcc⟩ := spans_at hpr
              obtain ⟨-, b, off, rfl, -, hd1, hd2⟩ := hcc k (by rw [← HNL.out]; exact hlt)
              have hrk := HRG.out k hlt
              have hki : (k : Int) < (n : Int) := by omega
              have hwk : IntKind.i64.wrap ((k : Int) + 1) = ((k + 1 : Nat) : Int) := by rw [IntKind.wrap_i64]; omega
              have HLT := Lib.hid hlt
              generalize (L.getD k (0, 0)).1 = x1 at *
              generalize (L.getD k (0, 0)).2 = x2 at *
              have hw1 : IntKind.i64.wrap (x1 - 1) = x1 - 1 := by rw [IntKind.wrap_i64]; omega
              have hw2 : IntKind.i64.wrap (x2 + 1) = x2 + 1 := by rw [IntKind.wrap_i64]; omega
              have BA := Lib.hid (below_alloc2 wr (.cells #[.int .i64 x1, .int .i64 x2] 45) (.cells #[.int .i64 (x1 - 1), .int .i64 x1, .int .i64 x2, .int .i64 (x2 + 1)] 3))
              have RA := Lib.hid (row_new (wr.alloc (.cells #[.int .i64 x1, .int .i64 x2] 45)) 3 [.int .i64 (x1 - 1), .int .i64 x1, .int .i64 x2, .int .i64 (x2 + 1)])
              rw [World.size_alloc] at RA
              have HS2 := Lib.hid (HS.out.keep BA.out)
              have HZL : Hid (zs.length + 4 ≤ 1000000) := Lib.hid (by omega)
              clear hS hpr hcc hrk hlt hk
              go_wp2_with (first
                | (at_builtin; refine wpList_ints4 rfl (.tmp 97) (.tmp 108) rfl (.slice a zs.length c) zs rfl HS2.out.ib (wr.heap.size + 1) (x1 - 1) x1 x2 (x2 + 1) rfl RA.out HZL.out ?_; intro v' w' hi hw
                   obtain ⟨a', c', rfl, -⟩ := hi.shape
                   have HE := Lib.hid (HS2.out.wrote hi hw)
                   clear hi hw)
                | fail)
              exact ⟨⟨k + 1, _, a', c', ⟨by have := HLT.out; omega, by have := HK.out; simp; omega⟩, by rw [List.length_append]; rfl, by first | rfl | trivial, HE.out⟩, by have := HLT.out; simp [intOf]; omega⟩
            · obtain rfl : k = n := by omega
              have hIB := hS.ib
              obtain ⟨a', c', he, hzl, -, hzc⟩ := hIB.shape
              injection he with he1 he2 he3
              subst he1 he3
              clear he2
              have QA := Lib.hid ((PA.out.stays hS.b0).mono hS.b0.size)
              have QB := Lib.hid ((PB.out.stays hS.b0).mono hS.b0.size)
              have QU := Lib.hid ((PU.out.stays hS.b0).mono hS.b0.size)
              have QM := Lib.hid ((PM.out.stays hS.b0).mono hS.b0.size)
              have QX := Lib.hid ((PX.out.stays hS.b0).mono hS.b0.size)
              have BZ := Lib.hid (below_next BW.out hS.b0)
              have hzl2 : zs.length ≤ 1000000 := by have := hk.1; have := hk.2; omega
              have HZC := Lib.hid hzc
              obtain ⟨nz, hnz⟩ : ∃ n, n = zs.length := ⟨_, rfl⟩
              rw [← hnz] at hzl2 HZC ⊢
              clear hk hS HS HK HST hIB hzl hzc PA PB PU PM PX BW HRG HI64 HLA HLB hnz
              go_wp2_with fail
              go_loopw [113] (fun s113 wq => ∃ j : Nat, j ≤ nz ∧ s113 = .int .i64 (j : Int) ∧ Below wr.heap.size wr wq) (fun s113 _ => nz - (intOf s113).toNat)
              case atStart => exact ⟨0, by omega, rfl, Below.refl _ _⟩
              case round =>
                obtain ⟨j, hj, rfl, hbq⟩ := hrel
                have RA := Lib.hid (QA.out.keep hbq)
                have RB := Lib.hid (QB.out.keep hbq)
                have RU := Lib.hid (QU.out.keep hbq)
                have RM := Lib.hid (QM.out.keep hbq)
                have RX := Lib.hid (QX.out.keep hbq)
                have BQ := Lib.hid hbq
                rcases Nat.lt_or_ge j nz with hlt | hge
                · obtain ⟨gz, rfl, hcz⟩ := HZC.out j hlt
                  have hdz := (hbq.cell (p := ⟨gz, 0 + j, none⟩) (lt_of_cell hcz)).trans hcz
                  have hji : (j : Int) < (nz : Int) := by omega
                  have hwj : IntKind.i64.wrap ((j : Int) + 1) = ((j + 1 : Nat) : Int) := by rw [IntKind.wrap_i64]; omega
                  have HLJ := Lib.hid hlt
                  generalize zs.getD j 0 = d at *
                  have H1 := Lib.hid (CHL.out la d)
                  have H2 := Lib.hid (CHL.out lb d)
                  have H3 := Lib.hid (CHL.out U d)
                  have H4 := Lib.hid (CHL.out M d)
                  have H5 := Lib.hid (CHL.out X d)
                  rw [HU.out d] at H3
                  rw [HM.out d] at H4
                  rw [HX.out d] at H5
                  generalize hasB la d = bp at *
                  generalize hasB lb d = bq at *
                  clear hj hbq hcz hlt
                  rw [Nat.zero_add] at hdz
                  cases bp <;> cases bq
                  all_goals simp only [Bool.or_false, Bool.or_true, Bool.and_false, Bool.and_true, Bool.not_false, Bool.not_true, Bool.or_self, Bool.and_self, Bool.false_or, Bool.true_or, Bool.false_and, Bool.true_and] at H3 H4 H5
                  all_goals
                    go_wp2_with fail
                    refine (H1.out _ _ RA.out).mono ?_
                    rintro e wa ⟨rfl, hb⟩
                    replace BQ := Lib.hid (below_next BQ.out hb)
                    replace RB := Lib.hid (RB.out.keep hb)
                    replace RU := Lib.hid (RU.out.keep hb)
                    replace RM := Lib.hid (RM.out.keep hb)
                    replace RX := Lib.hid (RX.out.keep hb)
                    clear hb
                    go_wp2_with fail
                    refine (H2.out _ _ RB.out).mono ?_
                    rintro e wb ⟨rfl, hb⟩
                    replace BQ := Lib.hid (below_next BQ.out hb)
                    replace RU := Lib.hid (RU.out.keep hb)
                    replace RM := Lib.hid (RM.out.keep hb)
                    replace RX := Lib.hid (RX.out.keep hb)
                    clear hb
                    go_wp2_with fail
                    refine (H3.out _ _ RU.out).mono ?_
                    rintro e wc ⟨rfl, hb⟩
                    replace BQ := Lib.hid (below_next BQ.out hb)
                    replace RM := Lib.hid (RM.out.keep hb)
                    replace RX := Lib.hid (RX.out.keep hb)
                    clear hb
                    go_wp2_with fail
                    refine (H4.out _ _ RM.out).mono ?_
                    rintro e wd2 ⟨rfl, hb⟩
                    replace BQ := Lib.hid (below_next BQ.out hb)
                    replace RX := Lib.hid (RX.out.keep hb)
                    clear hb
                    go_wp2_with fail
                    refine (H5.out _ _ RX.out).mono ?_
                    rintro e we ⟨rfl, hb⟩
                    replace BQ := Lib.hid (below_next BQ.out hb)
                    clear hb
                    go_wp2_with fail
                    exact ⟨⟨j + 1, by have := HLJ.out; omega, by first | rfl | trivial, BQ.out⟩, by have := HLJ.out; simp [intOf]; omega⟩
                · obtain rfl : j = nz := by omega
                  clear hj hbq
                  go_wp2_with fail
                  refine (CAG.out _ _ _ RM.out RX.out).mono ?_
                  rintro e wa ⟨vg, rfl, hvg, hb⟩
                  obtain ⟨ag, cg, rfl, -⟩ := id hvg
                  have RG := Lib.hid hvg
                  replace BQ := Lib.hid (below_next BQ.out hb)
                  replace RA := Lib.hid (RA.out.keep hb)
                  clear hb hvg
                  go_wp2_with fail
                  refine (CSM.out _ _ _ RG.out RA.out).mono ?_
                  rintro e wb ⟨rfl, hb⟩
                  replace BQ := Lib.hid (below_next BQ.out hb)
                  clear hb
                  go_wp2_with fail
                  go_ret
                  exact ⟨by simp, below_next BZ.out BQ.out⟩
        · have e3 : (kb != 0) = true := by simpa using r3
          subst r2
          clear r0 r1 r3 hka hkb hka2 hkb2
          go_enter Tryd.func7, Tryd.ntmps7
          go_wp2_with fail
          refine (CSA.out).mono ?_
          rintro e w1 ⟨rfl, hb⟩
          replace BW := Lib.hid (below_next BW.out hb)
          replace PA := Lib.hid (PA.out.keep hb)
          replace PB := Lib.hid (PB.out.keep hb)
          clear hb
          go_wp2_with fail
          refine (CKA.out _ _ PA.out).mono ?_
          rintro e w2 ⟨rfl, hb⟩
          replace BW := Lib.hid (below_next BW.out hb)
          replace PA := Lib.hid (PA.out.keep hb)
          replace PB := Lib.hid (PB.out.keep hb)
          clear hb
          go_wp2_with fail
          refine (CKB.out _ _ PB.out).mono ?_
          rintro e w3 ⟨rfl, hb⟩
          replace BW := Lib.hid (below_next BW.out hb)
          replace PA := Lib.hid (PA.out.keep hb)
          replace PB := Lib.hid (PB.out.keep hb)
          clear hb
          go_wp2_with fail
          go_ret
          exact ⟨rfl, BW.out⟩
      · have e2 : (ka != 0) = true := by simpa using r2
        clear r0 r1 r2 hka hkb hka2 hkb2
        go_enter Tryd.func7, Tryd.ntmps7
        go_wp2_with fail
        refine (CSA.out).mono ?_
        rintro e w1 ⟨rfl, hb⟩
        replace BW := Lib.hid (below_next BW.out hb)
        replace PA := Lib.hid (PA.out.keep hb)
        replace PB := Lib.hid (PB.out.keep hb)
        clear hb
        go_wp2_with fail
        refine (CKA.out _ _ PA.out).mono ?_
        rintro e w2 ⟨rfl, hb⟩
        replace BW := Lib.hid (below_next BW.out hb)
        replace PA := Lib.hid (PA.out.keep hb)
        replace PB := Lib.hid (PB.out.keep hb)
        clear hb
        go_wp2_with fail
        go_ret
        exact ⟨rfl, BW.out⟩
end Go.Proofs.YtiicjmbnkjociaaDoor
