/- add. -/
import Derived.Test.YthkmbbgcadfilaaJa
namespace Go.Proofs.Ythkmbbgcadfilaa
open Go.RowKit Go.Shelf

theorem gI_rep (k : Nat) (x d : Int) (j : Nat) : gI (List.replicate k x) d j = if j < k then x else d := by
  unfold gI
  by_cases h : j < k
  · simp [h]
  · rw [if_neg h]; simp [h]
theorem gB_rep (k : Nat) : gB (List.replicate k false) = fun _ => false := by
  funext j
  unfold gB
  by_cases hj : j < k
  · simp [hj]
  · simp [hj]
theorem DMem.below {g gu gv gt gr n m B : Nat} {vc : Value} {U V TO RW : List Int} {W W' : World} (h : DMem g gu gv gt gr n m vc U V TO RW W) (hb : Below B W W') (hB : g < B ∧ gu < B ∧ gv < B ∧ gt < B ∧ gr < B) : DMem g gu gv gt gr n m vc U V TO RW W' :=
  ⟨h.rg.stays hb (by omega), h.ru.stays hb (by omega), h.rv.stays hb (by omega), h.rt.stays hb (by omega), h.rr.stays hb (by omega), h.lu, h.lv, h.lt, h.lr⟩
theorem kp_below {gp : Nat} {W W' : World} (h : Kp2 (fun b => b ≠ gp) W W') (hg : gp ≤ W.heap.size) : Below gp W W' := ⟨h.os, h.tape, h.output, h.size, fun b hb => h.keep b (by omega) (by omega)⟩
theorem PMem.lt {gp : Nat} {LN FR : List Int} {SU : List Bool} {W : World} (h : PMem gp LN FR SU W) : gp < W.heap.size := h.row.lt
theorem Imp.congr {n m : Nat} {c : Nat → Nat → Int} {tt row frm : Nat → Int} {r : Nat} {S : List Nat} {e : Nat} {u v u' v' : Nat → Int} (h : Imp n m c tt row frm r S e u v) (hu : ∀ i, i < n → u' i = u i) (hv : ∀ j, j < m → v' j = v j) (hf : ∀ j, j = e ∨ j ∈ S → j < m ∧ ∀ i : Nat, frm j = (i : Int) → i < n) : Imp n m c tt row frm r S e u' v' :=
  ⟨⟨fun i j hi hj hc => by rw [hu i hi, hv j hj]; exact h.fit.le i j hi hj hc, fun j hj => by rw [hv j hj]; exact h.fit.neg j hj⟩, fun i j hi hj ht => by rw [hu i hi, hv j hj]; exact h.old i j hi hj ht,
   fun j hj i hi => by rw [hu i ((hf j hj).2 i hi), hv j (hf j hj).1]; exact h.path j hj i hi, fun j hj hr => by rw [hv j hj]; exact h.free j hj hr, fun i h1 h2 => by rw [hu i h2]; exact h.rest i h1 h2, fun i hi => by rw [hu i hi]; exact h.ub i hi, fun j hj => by rw [hv j hj]; exact h.vb j hj⟩
theorem len_le {S : List Nat} {m : Nat} (h : S.Nodup) (hm : ∀ j, j ∈ S → j < m) : S.length ≤ m := by
  have := nodup_le h (S := List.range m) (fun x hx => List.mem_range.2 (hm x hx))
  simpa using this
theorem extL_all {m : Nat} {c : Nat → Nat → Int} {u v len : Nat → Int} {sure : Nat → Bool} {i : Nat} {D : Int} {f : Nat → Int} (h : ∀ j, f j = if j < m then extL m c u v len sure i D j else len j) : f = extL m c u v len sure i D := by
  funext j
  rw [h j]
  by_cases hj : j < m
  · rw [if_pos hj]
  · rw [if_neg hj]; unfold extL; rw [if_neg (fun hh => hj hh.1)]
theorem extF_all {m : Nat} {c : Nat → Nat → Int} {u v len frm : Nat → Int} {sure : Nat → Bool} {i : Nat} {D : Int} {f : Nat → Int} (h : ∀ j, f j = if j < m then extF m c u v len frm sure i D j else frm j) : f = extF m c u v len frm sure i D := by
  funext j
  rw [h j]
  by_cases hj : j < m
  · rw [if_pos hj]
  · rw [if_neg hj]; unfold extF; rw [if_neg (fun hh => hj hh.1)]
theorem gB_set {L : List Bool} {i : Nat} (h : i < L.length) : gB (L.set i true) = fun j => if j = i then true else gB L j := by
  funext j
  unfold gB
  by_cases e : j = i
  · subst e; simp [h]
  · rw [if_neg e]
    simp [List.getD_eq_getElem?_getD, List.getElem?_set_ne (Ne.symm e)]
set_option maxRecDepth 100000 in
set_option maxHeartbeats 8000000 in
theorem add_call {g gu gv gt gr n m r B : Nat} {C : List (List Int)} {vc : Value} {U V TO RW : List Int} (w : World) (hM : Mat C n m) (hC : NRest B w C vc) (hB : B ≤ w.heap.size) (hd : DMem g gu gv gt gr n m vc U V TO RW w) (hx : Dis g gu gv gt gr w.heap.size)
    (hg : B ≤ g ∧ B ≤ gu ∧ B ≤ gv ∧ B ≤ gt ∧ B ≤ gr) (hrn : r < n) (hDl : Deal n m (cst C) (gI U 0) (gI V 0) (gI TO (-1)) (gI RW (-1)) r) :
    Calls Try.prog 48 #[.pointer (some ⟨g, 0, none⟩), .int .i64 (r : Int)] w fun en w' => Kp2 (fun b => b < w.heap.size ∧ b ≠ gu ∧ b ≠ gv ∧ b ≠ gt ∧ b ≠ gr) w w' ∧
      ((en = .returned (.bool true) ∧ ∃ U' V' TO' RW', DMem g gu gv gt gr n m vc U' V' TO' RW' w' ∧ Deal n m (cst C) (gI U' 0) (gI V' 0) (gI TO' (-1)) (gI RW' (-1)) (r + 1)) ∨ (en = .returned (.bool false) ∧ ∃ R S, Crowd n m (cst C) R S)) := by
  have HM := Lib.hid hM
  have HC0 := Lib.hid hC
  have HD0 := Lib.hid hd
  have HX := Lib.hid hx
  have HDL := Lib.hid hDl
  have HG := Lib.hid (And.intro hB hg)
  have hm16 := hM.m16
  have hn16 := hM.n16
  have hri : (r : Int) < (n : Int) := by omega
  clear hM hC hB hd hx hg hDl
  go_enter Try.func48, Try.ntmps48
  go_wp2_with fail
  go_step3
  go_upto_region 2 with (first
    | (refine wpList_build_p rfl rfl ?_; intro cs hcs; have HCS := Lib.hid hcs; clear hcs)
    | (refine wpList_alloc_p rfl rfl ?_; intro Wa hra hba; have HRA := Lib.hid (And.intro hra hba); clear hra hba)
    | (refine wpList_store_p rfl (.tmp 5) (.tmp 10) rfl w.heap.size cs HCS.out rfl rfl HRA.out.1 HRA.out.2 (Nat.le_refl _) ?_; intro Wb hpb hbb; have HPB := Lib.hid (And.intro hpb hbb); clear hpb hbb))
  obtain ⟨gp, hgp⟩ : ∃ gp, gp = w.heap.size := ⟨_, rfl⟩
  have HGP := Lib.hid hgp
  rw [← hgp] at HPB HX ⊢
  clear hgp HRA HCS
  go_upto_region 3 with (fail)
  go_loopw [11] (fun s11 wr => ∃ (j : Nat) (LN : List Int), j ≤ 16 ∧ s11 = .int .i64 (j : Int) ∧ PMem gp LN (List.replicate 16 0) (List.replicate 16 false) wr ∧ Below gp w wr ∧ ∀ k, k < j → gI LN farI k = farI) (fun s11 _ => 16 - (intOf s11).toNat)
  case atStart => exact ⟨0, _, by omega, rfl, HPB.out.1, HPB.out.2, fun k hk => by omega⟩
  case round =>
    obtain ⟨j, LN, hj, rfl, hp, hb, hall⟩ := hrel
    have HP := Lib.hid (And.intro hp (And.intro hb hall))
    have HJ := Lib.hid hj
    clear hp hb hall hj
    by_cases hlt : j < 16
    · have hji : (j : Int) < 16 := by omega
      have HLT := Lib.hid hlt
      have k1 := HP.out.1.at_len hlt farI
      have k1f := HP.out.1.row.free j
      have HN : Hid (PMem gp (LN.set j 1152921504606846976) (List.replicate 16 0) (List.replicate 16 false) (wr.setCell ⟨gp, j, none⟩ (.int .i64 1152921504606846976)) ∧ Below gp w (wr.setCell ⟨gp, j, none⟩ (.int .i64 1152921504606846976)) ∧ ∀ k, k < j + 1 → gI (LN.set j 1152921504606846976) farI k = farI) := Lib.hid (by
        refine ⟨HP.out.1.put_len HLT.out _, below_setCell HP.out.2.1 _ _ _ (Nat.le_refl _), fun k hk => ?_⟩
        have hl := HP.out.1.ll
        rw [gI_set (by have := HLT.out; omega)]
        by_cases e : k = j
        · rw [if_pos e]; rfl
        · rw [if_neg e]; exact HP.out.2.2 k (by omega))
      clear hlt
      go_wp2_with fail
      exact ⟨⟨j + 1, _, by have := HLT.out; omega, by go_num, HN.out.1, HN.out.2.1, HN.out.2.2⟩, by have := HLT.out; simp [intOf]; omega⟩
    · obtain rfl : j = 16 := by have := HJ.out; omega
      have HF : Hid (gI LN farI = fun _ => farI) := Lib.hid (by
        funext k
        by_cases hk : k < 16
        · exact HP.out.2.2 k hk
        · have hl := HP.out.1.ll
          unfold gI
          have : ¬ k < LN.length := by omega
          simp [this])
      have hrt := HDL.out.rest r (Nat.le_refl _) hrn
      have HRT := Lib.hid hrt
      have HT0 : Hid (Tree n m (cst C) (gI U 0) (gI V 0) (gI TO (-1)) (gI RW (-1)) r [] (gI LN farI) (gI (List.replicate 16 0) 0) (gB (List.replicate 16 false)) (fun i => i = r) 0 ((0 : Nat) : Int)) := Lib.hid (by
        rw [HF.out]
        rw [gB_rep]
        exact Tree.first _ _ _ _ _ _)
      have HP16 := Lib.hid (And.intro HP.out.1 HP.out.2.1)
      clear HPB HP HJ hlt hrt
      go_upto_region 8 with (fail)
      go_step3
      go_upto_region 8 with (fail)
      go_loopg [8, 9] m (fun k s8 s9 wr => ∃ (S : List Nat) (LN FR : List Int) (SU : List Bool) (a0 : Nat) (D : Int), s8 = .int .i64 (a0 : Int) ∧ s9 = .int .i64 D ∧ PMem gp LN FR SU wr ∧ Below gp w wr ∧ (∀ j, m ≤ j → gI LN farI j = farI) ∧
        Tree n m (cst C) (gI U 0) (gI V 0) (gI TO (-1)) (gI RW (-1)) r S (gI LN farI) (gI FR 0) (gB SU) (fun i => i = a0) D (S.length : Int) ∧ inT (gI RW (-1)) r S a0 ∧ dst (gI TO (-1)) (gI LN farI) r a0 = D ∧ (a0 = r → D = 0) ∧ k = m - S.length)
      case atStart => exact ⟨[], LN, _, _, r, 0, rfl, rfl, HP16.out.1, HP16.out.2, fun j _ => by rw [HF.out], HT0.out, .inl rfl, by unfold dst; rw [if_pos rfl], fun _ => rfl, rfl⟩
      case round =>
        obtain ⟨S, LN1, FR1, SU1, a0, D, rfl, rfl, hp1, hb1, hfar, ht1, hin1, hds1, ha1, hgk⟩ := hrel
        have HP1 := Lib.hid (And.intro hp1 (And.intro hb1 hfar))
        have HT1 := Lib.hid (And.intro ht1 (And.intro hin1 (And.intro hds1 (And.intro ha1 hgk))))
        have hgpw := hp1.lt
        have hdl : g < gp ∧ gu < gp ∧ gv < gp ∧ gt < gp ∧ gr < gp := by
          rw [HGP.out]
          exact ⟨HD0.out.rg.lt, HD0.out.ru.lt, HD0.out.rv.lt, HD0.out.rt.lt, HD0.out.rr.lt⟩
        have HDLT := Lib.hid hdl
        have hd1 := HD0.out.below hb1 hdl
        have HD1 := Lib.hid hd1
        have hSm : S.length ≤ m := len_le ht1.nd (fun j hj => (ht1.sin j hj).1)
        have HSM := Lib.hid hSm
        have hDb : 0 ≤ D ∧ D ≤ 1152921504606846976 := by
          refine ⟨ht1.dn, ?_⟩
          rcases hin1 with e | ⟨j, hj, he⟩
          · rw [ha1 e]; omega
          · have h1 := (ht1.dst_row HDL.out HRT.out.1 hj he).1
            have h2 := ht1.lt j hj
            have h3 : farI = 1152921504606846976 := rfl
            omega
        have HEX : Hid (Calls Try.prog 59 #[.pointer (some ⟨g, 0, none⟩), .pointer (some ⟨gp, 0, none⟩), .int .i64 (a0 : Int), .int .i64 D] wr fun e w' => (∃ r, e = .returned r) ∧ ∃ LN' FR', PMem gp LN' FR' SU1 w' ∧ Below gp w w' ∧ (∀ j, m ≤ j → gI LN' farI j = farI) ∧
            Tree n m (cst C) (gI U 0) (gI V 0) (gI TO (-1)) (gI RW (-1)) r S (gI LN' farI) (gI FR' 0) (gB SU1) (fun _ => False) D ((S.length : Int) + 1)) := Lib.hid (by
          have hsz := hb1.size
          have hCw : NRest B wr C vc := HC0.out.stays (hb1.mono (by have := HG.out.1; rw [HGP.out]; exact this))
          have hbnd : (∀ j, -1099511627776 ≤ gI U 0 j ∧ gI U 0 j ≤ 1099511627776) ∧ (∀ j, -1099511627776 ≤ gI V 0 j ∧ gI V 0 j ≤ 1099511627776) := by
            refine ⟨fun j => ?_, fun j => ?_⟩
            · by_cases hj : j < n
              · have := HDL.out.ub j hj; omega
              · have h9 : gI U 0 j = 0 := by
                  unfold gI
                  have : ¬ j < U.length := by have := HD0.out.lu; omega
                  simp [this]
                omega
            · by_cases hj : j < m
              · have := HDL.out.vb j hj
                have := HDL.out.fit.neg j hj
                omega
              · have h9 : gI V 0 j = 0 := by
                  unfold gI
                  have : ¬ j < V.length := by have := HD0.out.lv; omega
                  simp [this]
                omega
          refine (extend_call wr HM.out hCw ⟨by have := HG.out.1; rw [HGP.out]; exact this, by have := HG.out.1; omega⟩ hd1 hp1 HX.out (ht1.in_lt HDL.out hrn hin1) hbnd.1 hbnd.2 hDb).mono fun e w' h => ?_
          obtain ⟨hr, LN', FR', k1, k2, k3, k4⟩ := h
          have e1 := extL_all k3
          have e2 := extF_all k4
          refine ⟨hr, LN', FR', k1, hb1.trans (kp_below k2 (by omega)), fun j hj => ?_, ?_⟩
          · rw [e1]; unfold extL; rw [if_neg (fun hh => by have := hh.1; omega)]; exact hfar j hj
          · rw [e1, e2]
            exact ht1.extend HDL.out hrn HRT.out.1 HRT.out.2 hin1 hds1 (by omega) ha1)
        clear hp1 hb1 hfar ht1 hin1 hds1 ha1 hgk hgpw hdl hd1 hSm hDb
        go_upto_region 9 with (go_at_call 59; refine HEX.out.mono ?_; rintro e w6 ⟨⟨x6, rfl⟩, LN2, FR2, hp2, hb2, hf2, ht2⟩; have HP2 := Lib.hid (And.intro hp2 (And.intro hb2 hf2)); have HT2 := Lib.hid ht2; clear hp2 hb2 hf2 ht2)
        have HNE := Lib.hid (nearest_call w6 HP2.out.1)
        go_upto_region 10 with (go_at_call 60; refine HNE.out.mono ?_; rintro e w7 ⟨k7, l7, rfl, rfl, hn7⟩; have HN7 := Lib.hid hn7; clear hn7)
        rcases HN7.out with ⟨hk, hl, hno⟩ | ⟨en, hen, hk, hl, hs, hlt, hmin⟩
        · subst hk
          have HCR : Hid (∃ R S, Crowd n m (cst C) R S) := Lib.hid ⟨_, _, HT2.out.crowd HDL.out hrn HRT.out.1 (by omega) (by have := HSM.out; omega) (fun j hj hs => hno j (by omega) hs)⟩
          clear hno hl
          go_wp2_with fail
          rw [Exit.noGoto_ret]
          go_ret
          exact ⟨⟨HP2.out.2.1.size, fun b hb _ => HP2.out.2.1.block b (by rw [HGP.out]; exact hb.1), HP2.out.2.1.os, HP2.out.2.1.tape, HP2.out.2.1.output⟩, .inr ⟨rfl, HCR.out⟩⟩
        · subst hk
          have hem : en < m := by
            rcases Nat.lt_or_ge en m with h9 | h9
            · exact h9
            · have := HP2.out.2.2 en h9; omega
          have hen16 : (en : Int) < 16 := by omega
          have hemi : (en : Int) < (m : Int) := by omega
          have hmin' : ∀ j, j < m → gB SU1 j = false → gI LN2 farI en ≤ gI LN2 farI j := fun j hj hs2 => hmin j (by omega) hs2
          have hd7 := HD0.out.below HP2.out.2.1 HDLT.out
          have HD7 := Lib.hid hd7
          have d4 := hd7.rg.cell (i := 4) rfl
          obtain ⟨y, hy⟩ : ∃ y, y = gI RW (-1) en := ⟨_, rfl⟩
          have cR := gI_cell hd7.rr (show en < RW.length by have := hd7.lr; omega) (-1)
          rw [← hy] at cR
          have HY := Lib.hid (And.intro hy (And.intro hem (And.intro hs (And.intro hlt hmin'))))
          have cL := HP2.out.1.at_len hen farI
          rw [show LN2.getD en farI = gI LN2 farI en from rfl] at cL
          obtain ⟨le, hle⟩ : ∃ x, x = gI LN2 farI en := ⟨_, rfl⟩
          rw [← hle] at cL
          have HLE := Lib.hid hle
          clear hl hs hlt hmin hmin' hle hy hd7
          have hne : ((en : Int) == -1) = false := by first | (simp; done) | (simp; omega)
          by_cases hy1 : y = -1
          · have hy2 : (y == -1) = true := by simp [hy1]
            have hrow : gI RW (-1) en = -1 := by rw [← HY.out.1]; exact hy1
            have hes : ¬ en ∈ S := fun h9 => (HT2.out.sin en h9).2 hrow
            have hv0 := HDL.out.free en hem hrow
            have hb0 := HT2.out.bd en hem HY.out.2.2.2.1
            have hg0 := HT2.out.ge en hem hes
            have hd0 := HT2.out.dn
            have hL : 0 ≤ gI LN2 farI en ∧ gI LN2 farI en ≤ 34359738368 := by have := HSM.out; omega
            have HIM := Lib.hid (improve_call w7 HD7.out HP2.out.1 HX.out hrn hem HDL.out HT2.out hL (fun j hj => by have := HT2.out.le j hj; omega))
            rw [← HLE.out] at HIM
            have HIMP := Lib.hid (HT2.out.improve HDL.out hrn (by have := HSM.out; omega) hem hrow HY.out.2.2.2.1 HY.out.2.2.2.2)
            rw [← HLE.out] at HIMP
            have HROW := Lib.hid hrow
            clear hy1 hrow hes hv0 hb0 hg0 hd0 hL
            go_upto_region 16 with (go_at_call 61; refine HIM.out.mono ?_; rintro e w8 ⟨⟨x8, rfl⟩, U8, V8, hd8, hp8, hk8, hu8, hv8⟩; have H8 := Lib.hid (And.intro hd8 (And.intro hp8 (And.intro hk8 (And.intro hu8 hv8)))); clear hd8 hp8 hk8 hu8 hv8)
            have HI8 : Hid (Imp n m (cst C) (gI TO (-1)) (gI RW (-1)) (gI FR2 0) r S en (gI U8 0) (gI V8 0)) := Lib.hid (HIMP.out.congr H8.out.2.2.2.1 H8.out.2.2.2.2 (fun j hj => by
              have hjm : j < m := by rcases hj with rfl | hj; exact hem; exact (HT2.out.sin j hj).1
              have hjl : gI LN2 farI j < farI := by rcases hj with rfl | hj; exact HY.out.2.2.2.1; exact HT2.out.lt j hj
              refine ⟨hjm, fun i hi => ?_⟩
              obtain ⟨i2, k1, k2, -⟩ := HT2.out.src j hjm hjl
              have : i = i2 := by omega
              subst this
              exact HT2.out.in_lt HDL.out hrn k1))
            have HEC := Lib.hid (exchange_call w8 H8.out.1 H8.out.2.1 HX.out hm16 (HT2.out.exchange HDL.out hrn hem HROW.out HY.out.2.2.2.1 HI8.out))
            clear HIM
            go_wp2_with (go_at_call 62; refine HEC.out.mono ?_; rintro e w9 ⟨⟨x9, rfl⟩, T9, R9, hd9, hk9, hf9⟩; have H9 := Lib.hid (And.intro hd9 (And.intro hk9 hf9)); clear hd9 hk9 hf9)
            rw [Exit.noGoto_ret]
            go_ret
            refine ⟨⟨?_, fun b hb hbl => ?_, ?_, ?_, ?_⟩, .inl ⟨rfl, U8, V8, T9, R9, H9.out.1, HI8.out.deal HDL.out H9.out.2.2⟩⟩
            · exact Nat.le_trans HP2.out.2.1.size (Nat.le_trans H8.out.2.2.1.size H9.out.2.1.size)
            · have h1 := HP2.out.2.1.size
              have h2 := H8.out.2.2.1.size
              have h3 := HP2.out.2.1.block b (by rw [HGP.out]; exact hb.1)
              have h4 := H8.out.2.2.1.keep b ⟨hb.2.1, hb.2.2.1⟩ (by omega)
              have h5 := H9.out.2.1.keep b ⟨hb.2.2.2.1, hb.2.2.2.2⟩ (by omega)
              exact h5.trans (h4.trans h3)
            · exact H9.out.2.1.os.trans (H8.out.2.2.1.os.trans HP2.out.2.1.os)
            · exact H9.out.2.1.tape.trans (H8.out.2.2.1.tape.trans HP2.out.2.1.tape)
            · exact H9.out.2.1.output.trans (H8.out.2.2.1.output.trans HP2.out.2.1.output)
          · have hy2 : (y == -1) = false := by simp [hy1]
            obtain ⟨i1, hi1, hyi, -⟩ := HDL.out.row1 en hem (by rw [← HY.out.1]; exact hy1)
            rw [← HY.out.1] at hyi
            subst hyi
            have hjn := HT2.out.join HDL.out HRT.out.1 hem HY.out.2.2.1 HY.out.2.2.2.1 HY.out.2.2.2.2 HY.out.1.symm
            have HJN := Lib.hid hjn
            have k3 := HP2.out.1.at_sure hen
            have k3f := HP2.out.1.row.free (32 + en)
            have HP3 : Hid (PMem gp LN2 FR2 (SU1.set en true) (w7.setCell ⟨gp, 32 + en, none⟩ (.bool true)) ∧ Below gp w (w7.setCell ⟨gp, 32 + en, none⟩ (.bool true))) := Lib.hid ⟨HP2.out.1.put_sure hen true, below_setCell HP2.out.2.1 _ _ _ (Nat.le_refl _)⟩
            clear hy1 hi1 hjn
            go_upto_region 14 with (fail)
            obtain ⟨W8, hW8⟩ : ∃ W8, W8 = w7.setCell ⟨gp, 32 + en, none⟩ (.bool true) := ⟨_, rfl⟩
            rw [← hW8] at HP3 ⊢
            clear hW8 k3 k3f d4 cR cL
            have hd8 := HD0.out.below HP3.out.2 HDLT.out
            have d4 := hd8.rg.cell (i := 4) rfl
            have cR := gI_cell hd8.rr (show en < RW.length by have := hd8.lr; omega) (-1)
            rw [← HY.out.1] at cR
            have cL := HP3.out.1.at_len hen farI
            rw [show LN2.getD en farI = gI LN2 farI en from rfl, ← HLE.out] at cL
            clear hd8
            go_wp2_with (go_quiet (fail))
            have hls := HP2.out.1.ls
            go_roundg (m - (S.length + 1))
            case measure =>
              have h1 := HT1.out.2.2.2.2
              have h2 := len_le HJN.out.1.nd (fun j hj => (HJN.out.1.sin j hj).1)
              simp only [List.length_cons] at h2
              omega
            case rel =>
              refine ⟨en :: S, LN2, FR2, SU1.set en true, i1, le, rfl, rfl, HP3.out.1.drew _, ⟨HP3.out.2.os, HP3.out.2.tape, HP3.out.2.output, HP3.out.2.size, HP3.out.2.block⟩, HP2.out.2.2, ?_, HJN.out.2.1, by rw [HJN.out.2.2.1, HLE.out], fun h => absurd h HJN.out.2.2.2, by simp⟩
              rw [gB_set (by omega), HLE.out]
              have h9 := HJN.out.1
              rw [List.length_cons, Int.natCast_succ]
              exact h9
end Go.Proofs.Ythkmbbgcadfilaa
