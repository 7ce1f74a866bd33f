/- extend. -/
import Derived.Test.YthkmbbgcadfilaaE
namespace Go.Proofs.Ythkmbbgcadfilaa
open Go.RowKit Go.Shelf

set_option maxRecDepth 100000 in
set_option maxHeartbeats 8000000 in
theorem extend_call {g gu gv gt gr n m gp B i : Nat} {C : List (List Int)} {vc : Value} {U V TO RW LN FR : List Int} {SU : List Bool} {D : Int} (w : World) (hM : Mat C n m) (hC : NRest B w C vc) (hB : B ≤ gp ∧ B ≤ w.heap.size) (hd : DMem g gu gv gt gr n m vc U V TO RW w) (hp : PMem gp LN FR SU w) (hx : Dis g gu gv gt gr gp)
    (hi : i < n) (hU : ∀ j, -1099511627776 ≤ gI U 0 j ∧ gI U 0 j ≤ 1099511627776) (hV : ∀ j, -1099511627776 ≤ gI V 0 j ∧ gI V 0 j ≤ 1099511627776) (hD : 0 ≤ D ∧ D ≤ 1152921504606846976) :
    Calls Try.prog 59 #[.pointer (some ⟨g, 0, none⟩), .pointer (some ⟨gp, 0, none⟩), .int .i64 (i : Int), .int .i64 D] w fun e w' => (∃ r, e = .returned r) ∧ ∃ LN' FR', PMem gp LN' FR' SU w' ∧ Kp2 (fun b => b ≠ gp) w w' ∧
      (∀ j, gI LN' farI j = if j < m then extL m (cst C) (gI U 0) (gI V 0) (gI LN farI) (gB SU) i D j else gI LN farI j) ∧ (∀ j, gI FR' 0 j = if j < m then extF m (cst C) (gI U 0) (gI V 0) (gI LN farI) (gI FR 0) (gB SU) i D j else gI FR 0 j) := by
  have HM := Lib.hid hM
  have HD0 := Lib.hid hd
  have HP0 := Lib.hid hp
  have HX := Lib.hid hx
  have HC0 := Lib.hid hC
  have HBB := Lib.hid hB
  have HUV := Lib.hid (And.intro hU hV)
  obtain ⟨a, c, rfl⟩ := nrest_shape hC
  obtain ⟨-, hac, ham, hat⟩ := rows_at hC
  have hn : C.length = n := hM.len
  rw [hn] at hac hat hd
  rw [hn] at HD0
  obtain ⟨bC, offC, ra, rc, q1, hbC, f1, hrow⟩ := hat i hi
  subst q1
  rw [hM.row i hi] at f1 hrow
  obtain ⟨-, hrc, hrm, hrt⟩ := ints_at hrow
  rw [hM.row i hi] at hrc hrt
  have HRT := Lib.hid hrt
  have c0 := hd.rg.cell (i := 0) rfl
  have hin : (i : Int) < (n : Int) := by omega
  have hm16 := hM.m16
  clear hU hV hd hp hx hC hat hrt hrow hB hbC
  go_enter Try.func59, Try.ntmps59
  go_upto_region 1 with (fail)
  clear c0 f1
  go_loopw [19] (fun s19 wr => ∃ (j : Nat) (LN2 FR2 : List Int), j ≤ m ∧ s19 = .int .i64 (j : Int) ∧ PMem gp LN2 FR2 SU wr ∧ Kp2 (fun b => b ≠ gp) w wr ∧
    (∀ k, gI LN2 farI k = if k < j then extL m (cst C) (gI U 0) (gI V 0) (gI LN farI) (gB SU) i D k else gI LN farI k) ∧ (∀ k, gI FR2 0 k = if k < j then extF m (cst C) (gI U 0) (gI V 0) (gI LN farI) (gI FR 0) (gB SU) i D k else gI FR 0 k)) (fun s19 _ => m - (intOf s19).toNat)
  case atStart => exact ⟨0, LN, FR, by omega, rfl, HP0.out, Kp2.refl _ _, fun k => by rw [if_neg (by omega)], fun k => by rw [if_neg (by omega)]⟩
  case round =>
    obtain ⟨j, LN2, FR2, hj, rfl, hp2, hk2, hln, hfr⟩ := hrel
    have HP := Lib.hid hp2
    have HK := Lib.hid hk2
    have HE := Lib.hid (And.intro hln hfr)
    have HJ := Lib.hid hj
    clear hp2 hk2 hln hfr hj
    by_cases hlt : j < m
    · have hji : (j : Int) < (m : Int) := by omega
      have HLT := Lib.hid hlt
      have hj16 : j < 16 := by omega
      have hj16i : (j : Int) < 16 := by omega
      have HWK := Lib.hid (wrap_succ hlt (show m ≤ maxLen by unfold maxLen; omega))
      have hdw := HD0.out.kp HX.out HK.out
      have hCw := HC0.out.kp HK.out (fun b hb => by have := HBB.out; omega) HBB.out.2
      obtain ⟨-, -, -, hatw⟩ := rows_at hCw
      obtain ⟨-, b2, off2, q2, hb2, f2⟩ := HRT.out j (by omega)
      subst q2
      have f2w : wr.cell? ⟨b2, off2 + j, none⟩ = some (.int .i64 ((C.getD i []).getD j 0)) := (cell_same (HK.out.keep b2 (by have := HBB.out; omega) (by have := HBB.out; omega))).trans f2
      obtain ⟨x, hx⟩ : ∃ x, x = cst C i j := ⟨_, rfl⟩
      have hx0 : (C.getD i []).getD j 0 = x := by
        have h9 : j < (C.getD i []).length := by rw [HM.out.row i hi]; exact hlt
        rw [hx]
        unfold cst
        generalize C.getD i [] = r at h9
        simp [h9]
      rw [hx0] at f2w
      have hxb := HM.out.el i j hi hlt
      rw [← hx] at hxb
      have HXE := Lib.hid hx
      obtain ⟨z, hz⟩ : ∃ z, z = SU.getD j false := ⟨_, rfl⟩
      obtain ⟨y, hy⟩ : ∃ y, y = gI LN farI j := ⟨_, rfl⟩
      have hy2 : gI LN2 farI j = y := by rw [HE.out.1 j, if_neg (by omega), hy]
      obtain ⟨ui, hui⟩ : ∃ y, y = gI U 0 i := ⟨_, rfl⟩
      obtain ⟨vj, hvj⟩ : ∃ y, y = gI V 0 j := ⟨_, rfl⟩
      have hub := HUV.out.1 i
      have hvb := HUV.out.2 j
      rw [← hui] at hub
      rw [← hvj] at hvb
      have cS := HP.out.at_sure hj16
      have cL := HP.out.at_len hj16 farI
      have d1 := hdw.rg.cell (i := 1) rfl
      have d2 := hdw.rg.cell (i := 2) rfl
      have dU : wr.cell? ⟨gu, i, none⟩ = some (.int .i64 ui) := by
        have h9 := hdw.lu
        rw [hui]; exact nrow_cell hdw.ru (by omega)
      have dV : wr.cell? ⟨gv, j, none⟩ = some (.int .i64 vj) := by
        have h9 := hdw.lv
        rw [hvj]; exact nrow_cell hdw.rv (by omega)
      rw [← hz] at cS
      rw [show LN2.getD j farI = y from hy2] at cL
      have HV : Hid (hitB m (cst C) (gI U 0) (gI V 0) (gI LN farI) (gB SU) i D j ↔ (x ≠ -1 ∧ z = false ∧ D + x - ui - vj < y)) := Lib.hid (by
        unfold hitB
        rw [← hx, ← hui, ← hvj, ← hy, show gB SU j = z from hz.symm]
        exact ⟨fun h => h.2, fun h => ⟨hlt, h⟩⟩)
      have HST : Hid ((∀ k, gI LN2 farI k = if k < j then extL m (cst C) (gI U 0) (gI V 0) (gI LN farI) (gB SU) i D k else gI LN farI k) ∧ (∀ k, gI FR2 0 k = if k < j then extF m (cst C) (gI U 0) (gI V 0) (gI LN farI) (gI FR 0) (gB SU) i D k else gI FR 0 k)) := HE
      have HSKIP : Hid (¬ hitB m (cst C) (gI U 0) (gI V 0) (gI LN farI) (gB SU) i D j → (∀ k, gI LN2 farI k = if k < j + 1 then extL m (cst C) (gI U 0) (gI V 0) (gI LN farI) (gB SU) i D k else gI LN farI k) ∧ (∀ k, gI FR2 0 k = if k < j + 1 then extF m (cst C) (gI U 0) (gI V 0) (gI LN farI) (gI FR 0) (gB SU) i D k else gI FR 0 k)) := Lib.hid (fun hh => by
        refine ⟨fun k => ?_, fun k => ?_⟩
        · rw [HE.out.1 k]
          by_cases e : k = j
          · subst e; rw [if_neg (by omega), if_pos (by omega)]; unfold extL; rw [if_neg hh]
          · by_cases e2 : k < j
            · rw [if_pos e2, if_pos (by omega)]
            · rw [if_neg e2, if_neg (by omega)]
        · rw [HE.out.2 k]
          by_cases e : k = j
          · subst e; rw [if_neg (by omega), if_pos (by omega)]; unfold extF; rw [if_neg hh]
          · by_cases e2 : k < j
            · rw [if_pos e2, if_pos (by omega)]
            · rw [if_neg e2, if_neg (by omega)])
      have HYE := Lib.hid hy2
      have HUE := Lib.hid (And.intro hui hvj)
      clear hdw hCw hatw hx hx0 hz hy hy2 hui hvj f2 hlt hb2
      by_cases x1 : x = -1
      · have g1 : (x == -1) = true := by simp [x1]
        have HN := Lib.hid (HSKIP.out (fun h => ((HV.out.1 h).1) x1))
        clear x1
        go_wp2_with fail
        exact ⟨⟨j + 1, LN2, FR2, by have := HLT.out; omega, by first | rw [HWK.out, Int.natCast_succ] | go_num, HP.out, HK.out, HN.out.1, HN.out.2⟩, by have := HLT.out; first | exact back_less this HWK.out | (simp [intOf]; omega)⟩
      · have g1 : (x == -1) = false := by simp [x1]
        cases z with
        | true =>
          have HN := Lib.hid (HSKIP.out (fun h => by have h9 := (HV.out.1 h).2.1; cases h9))
          clear x1
          go_wp2_with fail
          exact ⟨⟨j + 1, LN2, FR2, by have := HLT.out; omega, by first | rw [HWK.out, Int.natCast_succ] | go_num, HP.out, HK.out, HN.out.1, HN.out.2⟩, by have := HLT.out; first | exact back_less this HWK.out | (simp [intOf]; omega)⟩
        | false =>
          have hxn : 0 ≤ x := by omega
          have HX1 := Lib.hid x1
          clear x1
          go_upto_region 5 with (go_quiet (fail))
          have hpd : PMem gp LN2 FR2 SU (wr.drewN nq) := ⟨HP.out.row, HP.out.ll, HP.out.lf, HP.out.ls⟩
          have hkd : Kp2 (fun b => b ≠ gp) w (wr.drewN nq) := ⟨HK.out.size, HK.out.keep, HK.out.os, HK.out.tape, HK.out.output⟩
          have HPD := Lib.hid (And.intro hpd hkd)
          obtain ⟨W2, hW2⟩ : ∃ W2, W2 = wr.drewN nq := ⟨_, rfl⟩
          have cL2 := hpd.at_len hj16 farI
          rw [← hW2] at HPD ⊢
          rw [← hW2, show LN2.getD j farI = gI LN2 farI j from rfl, HYE.out] at cL2
          clear hW2 hpd hkd cS cL d1 d2 dU dV f2w
          by_cases hlt : D + x - ui - vj < y
          · have HIT : Hid (hitB m (cst C) (gI U 0) (gI V 0) (gI LN farI) (gB SU) i D j) := Lib.hid (HV.out.2 ⟨HX1.out, rfl, hlt⟩)
            have HN : Hid ((∀ k, gI (LN2.set j (D + x - ui - vj)) farI k = if k < j + 1 then extL m (cst C) (gI U 0) (gI V 0) (gI LN farI) (gB SU) i D k else gI LN farI k) ∧ (∀ k, gI (FR2.set j (i : Int)) 0 k = if k < j + 1 then extF m (cst C) (gI U 0) (gI V 0) (gI LN farI) (gI FR 0) (gB SU) i D k else gI FR 0 k)) := Lib.hid (by
              have hl1 := HPD.out.1.ll
              have hl2 := HPD.out.1.lf
              refine ⟨fun k => ?_, fun k => ?_⟩
              · rw [gI_set (by omega)]
                by_cases e : k = j
                · subst e; rw [if_pos rfl, if_pos (by omega)]; unfold extL; rw [if_pos HIT.out, ← HXE.out, ← HUE.out.1, ← HUE.out.2]
                · rw [if_neg e, HE.out.1 k]
                  by_cases e2 : k < j
                  · rw [if_pos e2, if_pos (by omega)]
                  · rw [if_neg e2, if_neg (by omega)]
              · rw [gI_set (by omega)]
                by_cases e : k = j
                · subst e; rw [if_pos rfl, if_pos (by omega)]; unfold extF; rw [if_pos HIT.out]
                · rw [if_neg e, HE.out.2 k]
                  by_cases e2 : k < j
                  · rw [if_pos e2, if_pos (by omega)]
                  · rw [if_neg e2, if_neg (by omega)])
            go_upto_region 6 with (fail)
            have k1 := HPD.out.1.at_len hj16 farI
            have k1f := HPD.out.1.row.free j
            have k2 := HPD.out.1.at_frm hj16 0
            have k2f := HPD.out.1.row.free (16 + j)
            have HQ := Lib.hid ((HPD.out.1.put_len hj16 (D + x - ui - vj)).put_frm hj16 (i : Int))
            have HQK : Hid (Kp2 (fun b => b ≠ gp) w ((W2.setCell ⟨gp, j, none⟩ (.int .i64 (D + x - ui - vj))).setCell ⟨gp, 16 + j, none⟩ (.int .i64 (i : Int)))) := Lib.hid ((HPD.out.2.trans (kp_cell _ _ _ _)).trans (kp_cell _ _ _ _))
            go_region
            all_goals
              go_wp2_with fail
              exact ⟨⟨j + 1, _, _, by have := HLT.out; omega, by first | rw [HWK.out, Int.natCast_succ] | go_num, ⟨HQ.out.row, HQ.out.ll, HQ.out.lf, HQ.out.ls⟩, ⟨HQK.out.size, HQK.out.keep, HQK.out.os, HQK.out.tape, HQK.out.output⟩, HN.out.1, HN.out.2⟩, by have := HLT.out; first | exact back_less this HWK.out | (simp [intOf]; omega)⟩
          · have HN := Lib.hid (HSKIP.out (fun h => hlt (HV.out.1 h).2.2))
            go_wp2_with fail
            exact ⟨⟨j + 1, LN2, FR2, by have := HLT.out; omega, by first | rw [HWK.out, Int.natCast_succ] | go_num, HPD.out.1, HPD.out.2, HN.out.1, HN.out.2⟩, by have := HLT.out; first | exact back_less this HWK.out | (simp [intOf]; omega)⟩
    · obtain rfl : j = m := by have := HJ.out; omega
      go_wp2_with fail
      go_end0
      exact ⟨⟨_, rfl⟩, LN2, FR2, HP.out, HK.out, HE.out.1, HE.out.2⟩
end Go.Proofs.Ythkmbbgcadfilaa
