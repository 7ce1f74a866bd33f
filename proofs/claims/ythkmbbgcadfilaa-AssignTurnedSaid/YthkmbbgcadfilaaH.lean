/- improve. -/
import Derived.Test.YthkmbbgcadfilaaG
namespace Go.Proofs.Ythkmbbgcadfilaa
open Go.RowKit Go.Shelf

section
variable {g gu gv gt gr n m gp : Nat} {vc : Value} {U V TO RW LN FR : List Int} {SU : List Bool} {W W' : World}
theorem DMem.put_u (h : DMem g gu gv gt gr n m vc U V TO RW W) (hd : Dis g gu gv gt gr gp) (i : Nat) (x : Int) : DMem g gu gv gt gr n m vc (U.set i x) V TO RW (W.setCell ⟨gu, i, none⟩ (.int .i64 x)) := by
  unfold Dis at hd
  exact ⟨h.rg.setFar _ _ (by omega), nrow_set h.ru i x, h.rv.setFar _ _ (by omega), h.rt.setFar _ _ (by omega), h.rr.setFar _ _ (by omega), by simp [h.lu], h.lv, h.lt, h.lr⟩
theorem DMem.put_v (h : DMem g gu gv gt gr n m vc U V TO RW W) (hd : Dis g gu gv gt gr gp) (i : Nat) (x : Int) : DMem g gu gv gt gr n m vc U (V.set i x) TO RW (W.setCell ⟨gv, i, none⟩ (.int .i64 x)) := by
  unfold Dis at hd
  exact ⟨h.rg.setFar _ _ (by omega), h.ru.setFar _ _ (by omega), nrow_set h.rv i x, h.rt.setFar _ _ (by omega), h.rr.setFar _ _ (by omega), h.lu, by simp [h.lv], h.lt, h.lr⟩
theorem DMem.put_t (h : DMem g gu gv gt gr n m vc U V TO RW W) (hd : Dis g gu gv gt gr gp) (i : Nat) (x : Int) : DMem g gu gv gt gr n m vc U V (TO.set i x) RW (W.setCell ⟨gt, i, none⟩ (.int .i64 x)) := by
  unfold Dis at hd
  exact ⟨h.rg.setFar _ _ (by omega), h.ru.setFar _ _ (by omega), h.rv.setFar _ _ (by omega), nrow_set h.rt i x, h.rr.setFar _ _ (by omega), h.lu, h.lv, by simp [h.lt], h.lr⟩
theorem DMem.put_r (h : DMem g gu gv gt gr n m vc U V TO RW W) (hd : Dis g gu gv gt gr gp) (i : Nat) (x : Int) : DMem g gu gv gt gr n m vc U V TO (RW.set i x) (W.setCell ⟨gr, i, none⟩ (.int .i64 x)) := by
  unfold Dis at hd
  exact ⟨h.rg.setFar _ _ (by omega), h.ru.setFar _ _ (by omega), h.rv.setFar _ _ (by omega), h.rt.setFar _ _ (by omega), nrow_set h.rr i x, h.lu, h.lv, h.lt, by simp [h.lr]⟩
theorem PMem.far (h : PMem gp LN FR SU W) (g o : Nat) (x : Value) (hg : gp ≠ g) : PMem gp LN FR SU (W.setCell ⟨g, o, none⟩ x) := ⟨h.row.setFar _ _ hg, h.ll, h.lf, h.ls⟩
theorem DMem.drew (h : DMem g gu gv gt gr n m vc U V TO RW W) (k : Nat) : DMem g gu gv gt gr n m vc U V TO RW (W.drewN k) := ⟨h.rg, h.ru, h.rv, h.rt, h.rr, h.lu, h.lv, h.lt, h.lr⟩
theorem PMem.drew (h : PMem gp LN FR SU W) (k : Nat) : PMem gp LN FR SU (W.drewN k) := ⟨h.row, h.ll, h.lf, h.ls⟩
theorem Kp2.drewN {S : Nat → Prop} (h : Kp2 S W W') (k : Nat) : Kp2 S W (W'.drewN k) := ⟨h.size, h.keep, h.os, h.tape, h.output⟩
theorem Kp2.cell {S : Nat → Prop} (h : Kp2 S W W') (g o : Nat) (x : Value) (hs : ¬ S g) : Kp2 S W (W'.setCell ⟨g, o, none⟩ x) := ⟨by simpa using h.size, fun b hb hl => (heap_setCell_other W' ⟨g, o, none⟩ b x (fun e => hs (by rw [← show b = g from e]; exact hb))).trans (h.keep b hb hl), h.os, h.tape, h.output⟩
end
/-- the prices of rows while the first j columns are looked at -/
def upU (tt len : Nat → Int) (sure : Nat → Bool) (r : Nat) (L : Int) (u : Nat → Int) (j i : Nat) : Int := if i = r then u i + L else if tt i ≠ -1 ∧ (tt i).toNat < j ∧ sure (tt i).toNat = true then u i + (L - len (tt i).toNat) else u i
def upV (len : Nat → Int) (sure : Nat → Bool) (L : Int) (v : Nat → Int) (j k : Nat) : Int := if k < j ∧ sure k = true then v k - (L - len k) else v k
set_option maxRecDepth 100000 in
set_option maxHeartbeats 8000000 in
theorem improve_call {g gu gv gt gr n m gp r e : Nat} {c : Nat → Nat → Int} {vc : Value} {U V TO RW LN FR : List Int} {SU : List Bool} {S : List Nat} {D q : Int} (w : World) (hd : DMem g gu gv gt gr n m vc U V TO RW w) (hp : PMem gp LN FR SU w) (hx : Dis g gu gv gt gr gp)
    (hrn : r < n) (he : e < m) (hDl : Deal n m c (gI U 0) (gI V 0) (gI TO (-1)) (gI RW (-1)) r) (ht : Tree n m c (gI U 0) (gI V 0) (gI TO (-1)) (gI RW (-1)) r S (gI LN farI) (gI FR 0) (gB SU) (fun _ => False) D q) (hL : 0 ≤ gI LN farI e ∧ gI LN farI e ≤ 34359738368) (hle : ∀ j, j ∈ S → gI LN farI j ≤ gI LN farI e) :
    Calls Try.prog 61 #[.pointer (some ⟨g, 0, none⟩), .pointer (some ⟨gp, 0, none⟩), .int .i64 (r : Int), .int .i64 (gI LN farI e)] w fun en w' => (∃ x, en = .returned x) ∧ ∃ U' V', DMem g gu gv gt gr n m vc U' V' TO RW w' ∧ PMem gp LN FR SU w' ∧ Kp2 (fun b => b ≠ gu ∧ b ≠ gv) w w' ∧
      (∀ i, i < n → gI U' 0 i = impU (gI TO (-1)) (gI LN farI) (gB SU) r (gI LN farI e) (gI U 0) i) ∧ (∀ j, j < m → gI V' 0 j = impV (gI LN farI) (gB SU) (gI LN farI e) (gI V 0) j) := by
  have HD0 := Lib.hid hd
  have HP0 := Lib.hid hp
  have HX := Lib.hid hx
  have HDL := Lib.hid hDl
  have HT := Lib.hid ht
  have HLE := Lib.hid hle
  obtain ⟨L, hLd⟩ : ∃ L, L = gI LN farI e := ⟨_, rfl⟩
  rw [← hLd] at hL HLE ⊢
  have HLD := Lib.hid hLd
  have hm16 := hDl.m16
  have hn16 := hDl.n16
  have c1 := hd.rg.cell (i := 1) rfl
  have hri : (r : Int) < (n : Int) := by omega
  have hub := hDl.ub r hrn
  obtain ⟨ur, hur⟩ : ∃ x, x = gI U 0 r := ⟨_, rfl⟩
  rw [← hur] at hub
  have cU : w.cell? ⟨gu, r, none⟩ = some (.int .i64 ur) := by
    have h9 := hd.lu
    rw [hur]; exact nrow_cell hd.ru (by omega)
  have cUf := hd.ru.free r
  have HUR := Lib.hid hur
  clear hur hd hp hx hDl ht hle hLd
  go_enter Try.func61, Try.ntmps61
  go_upto_region 1 with (fail)
  have HD1 : Hid (DMem g gu gv gt gr n m vc (U.set r (ur + L)) V TO RW (w.setCell ⟨gu, r, none⟩ (.int .i64 (ur + L)))) := Lib.hid (HD0.out.put_u HX.out r _)
  have HP1 : Hid (PMem gp LN FR SU (w.setCell ⟨gu, r, none⟩ (.int .i64 (ur + L)))) := Lib.hid (HP0.out.far _ _ _ (by have := HX.out; unfold Dis at this; omega))
  have HK1 : Hid (Kp2 (fun b => b ≠ gu ∧ b ≠ gv) w (w.setCell ⟨gu, r, none⟩ (.int .i64 (ur + L)))) := Lib.hid ((Kp2.refl _ w).cell _ _ _ (fun h => h.1 rfl))
  obtain ⟨W1, hW1⟩ : ∃ W1, W1 = w.setCell ⟨gu, r, none⟩ (.int .i64 (ur + L)) := ⟨_, rfl⟩
  rw [← hW1] at HD1 HP1 HK1 ⊢
  clear hW1 c1 cU cUf
  have c4 := HD1.out.rg.cell (i := 4) rfl
  go_upto_region 2 with (fail)
  clear c4
  go_loopw [25] (fun s25 wr => ∃ (j : Nat) (U2 V2 : List Int), j ≤ m ∧ s25 = .int .i64 (j : Int) ∧ DMem g gu gv gt gr n m vc U2 V2 TO RW wr ∧ PMem gp LN FR SU wr ∧ Kp2 (fun b => b ≠ gu ∧ b ≠ gv) w wr ∧
    (∀ i, i < n → gI U2 0 i = upU (gI TO (-1)) (gI LN farI) (gB SU) r L (gI U 0) j i) ∧ (∀ k, k < m → gI V2 0 k = upV (gI LN farI) (gB SU) L (gI V 0) j k)) (fun s25 _ => m - (intOf s25).toNat)
  case atStart =>
    refine ⟨0, _, V, by omega, rfl, HD1.out, HP1.out, HK1.out, fun i hi => ?_, fun k hk => ?_⟩
    · have h9 := HD0.out.lu
      rw [gI_set (by omega)]
      unfold upU
      by_cases e9 : i = r
      · rw [if_pos e9, if_pos e9, e9, HUR.out]
      · rw [if_neg e9, if_neg e9, if_neg (by omega)]
    · unfold upV; rw [if_neg (by omega)]
  case round =>
    obtain ⟨j, U2, V2, hj, rfl, hd2, hp2, hk2, hu2, hv2⟩ := hrel
    have HD := Lib.hid hd2
    have HP := Lib.hid hp2
    have HK := Lib.hid hk2
    have HE := Lib.hid (And.intro hu2 hv2)
    have HJ := Lib.hid hj
    clear hd2 hp2 hk2 hu2 hv2 hj
    by_cases hlt : j < m
    · have hji : (j : Int) < (m : Int) := by omega
      have HLT := Lib.hid hlt
      have hj16 : j < 16 := by omega
      have hj16i : (j : Int) < 16 := by omega
      have HWK := Lib.hid (wrap_succ hlt (show m ≤ maxLen by unfold maxLen; omega))
      obtain ⟨x, hxr⟩ : ∃ x, x = gI RW (-1) j := ⟨_, rfl⟩
      have cR : wr.cell? ⟨gr, j, none⟩ = some (.int .i64 x) := by
        have h9 := HD.out.lr
        have h8 := nrow_cell HD.out.rr (show j < RW.length by omega)
        rw [hxr, h8]
        unfold gI
        have h7 : j < RW.length := by omega
        simp [h7]
      obtain ⟨z, hz⟩ : ∃ z, z = gB SU j := ⟨_, rfl⟩
      have cS := HP.out.at_sure hj16
      rw [show SU.getD j false = z from hz.symm] at cS
      have HZ := Lib.hid (And.intro hxr hz)
      have d4 := HD.out.rg.cell (i := 4) rfl
      clear hxr hz hlt
      cases z with
      | false =>
        have HN : Hid ((∀ i, i < n → gI U2 0 i = upU (gI TO (-1)) (gI LN farI) (gB SU) r L (gI U 0) (j + 1) i) ∧ (∀ k, k < m → gI V2 0 k = upV (gI LN farI) (gB SU) L (gI V 0) (j + 1) k)) := Lib.hid (by
          have hs : gB SU j = false := HZ.out.2.symm
          refine ⟨fun i hi => ?_, fun k hk => ?_⟩
          · rw [HE.out.1 i hi]
            unfold upU
            by_cases e9 : i = r
            · rw [if_pos e9, if_pos e9]
            · rw [if_neg e9, if_neg e9]
              by_cases e8 : (gI TO (-1) i).toNat = j
              · rw [if_neg (by omega), if_neg (fun h => by rw [e8, hs] at h; exact absurd h.2.2 (by simp))]
              · by_cases e7 : gI TO (-1) i ≠ -1 ∧ (gI TO (-1) i).toNat < j ∧ gB SU (gI TO (-1) i).toNat = true
                · rw [if_pos e7, if_pos ⟨e7.1, by omega, e7.2.2⟩]
                · rw [if_neg e7, if_neg (fun h => e7 ⟨h.1, by omega, h.2.2⟩)]
          · rw [HE.out.2 k hk]
            unfold upV
            by_cases e9 : k = j
            · subst e9; rw [if_neg (by omega), if_neg (fun h => by rw [hs] at h; exact absurd h.2 (by simp))]
            · by_cases e8 : k < j ∧ gB SU k = true
              · rw [if_pos e8, if_pos ⟨by omega, e8.2⟩]
              · rw [if_neg e8, if_neg (fun h => e8 ⟨by omega, h.2⟩)])
        go_wp2_with fail
        exact ⟨⟨j + 1, U2, V2, by have := HLT.out; omega, by first | rw [HWK.out, Int.natCast_succ] | go_num, HD.out, HP.out, HK.out, HN.out.1, HN.out.2⟩, by have := HLT.out; first | exact back_less this HWK.out | (simp [intOf]; omega)⟩
      | true =>
        have hjS : j ∈ S := (HT.out.sm j).1 HZ.out.2.symm
        obtain ⟨i, hin, hxi, hti⟩ := HDL.out.row1 j HLT.out (HT.out.sin j hjS).2
        rw [← HZ.out.1] at hxi
        subst hxi
        have hrt : gI TO (-1) r = -1 := (HDL.out.rest r (Nat.le_refl _) hrn).1
        have hir : i ≠ r := fun e9 => by rw [e9, hrt] at hti; omega
        have hxin : (i : Int) < (n : Int) := by omega
        obtain ⟨lj, hlj⟩ : ∃ x, x = gI LN farI j := ⟨_, rfl⟩
        have hljb := HT.out.nn j hjS
        have hljL := HLE.out j hjS
        rw [← hlj] at hljb hljL
        have cL := HP.out.at_len hj16 farI
        rw [show LN.getD j farI = lj from hlj.symm] at cL
        obtain ⟨ui, hui⟩ : ∃ x, x = gI U 0 i := ⟨_, rfl⟩
        obtain ⟨vj, hvj⟩ : ∃ x, x = gI V 0 j := ⟨_, rfl⟩
        have hu2 : gI U2 0 i = ui := by
          rw [HE.out.1 i hin]
          unfold upU
          rw [if_neg hir, if_neg (fun h => by rw [hti, Int.toNat_natCast] at h; omega), hui]
        have hv2 : gI V2 0 j = vj := by
          rw [HE.out.2 j HLT.out]
          unfold upV
          rw [if_neg (by omega), hvj]
        have hub := HDL.out.ub i hin
        have hvb := HDL.out.vb j HLT.out
        have hvn := HDL.out.fit.neg j HLT.out
        rw [← hui] at hub
        rw [← hvj] at hvb hvn
        have cUi : wr.cell? ⟨gu, i, none⟩ = some (.int .i64 ui) := by
          have h9 := HD.out.lu
          rw [← hu2]; exact nrow_cell HD.out.ru (by omega)
        have cUif := HD.out.ru.free i
        have d1 := HD.out.rg.cell (i := 1) rfl
        have hr16 : r ≤ 16 := by omega
        have HN : Hid ((∀ i2, i2 < n → gI (U2.set i (ui + (L - lj))) 0 i2 = upU (gI TO (-1)) (gI LN farI) (gB SU) r L (gI U 0) (j + 1) i2) ∧ (∀ k, k < m → gI (V2.set j (vj - (L - lj))) 0 k = upV (gI LN farI) (gB SU) L (gI V 0) (j + 1) k)) := Lib.hid (by
          have hs : gB SU j = true := HZ.out.2.symm
          have hl1 := HD.out.lu
          have hl2 := HD.out.lv
          have hlt := HLT.out
          refine ⟨fun i2 hi2 => ?_, fun k hk => ?_⟩
          · rw [gI_set (by omega)]
            by_cases e9 : i2 = i
            · subst e9
              rw [if_pos rfl]
              unfold upU
              rw [if_neg hir, if_pos ⟨by omega, by rw [hti, Int.toNat_natCast]; omega, by rw [hti, Int.toNat_natCast]; exact hs⟩, hti, Int.toNat_natCast, hui, hlj]
            · rw [if_neg e9, HE.out.1 i2 hi2]
              unfold upU
              by_cases e8 : i2 = r
              · rw [if_pos e8, if_pos e8]
              · rw [if_neg e8, if_neg e8]
                have e6 : gI TO (-1) i2 ≠ -1 → (gI TO (-1) i2).toNat ≠ j := fun h1 h2 => by
                  obtain ⟨j3, k1, k2, k3, -⟩ := HDL.out.to1 i2 hi2 h1
                  have : j3 = j := by omega
                  subst this
                  have := HZ.out.1
                  omega
                by_cases e7 : gI TO (-1) i2 ≠ -1 ∧ (gI TO (-1) i2).toNat < j ∧ gB SU (gI TO (-1) i2).toNat = true
                · rw [if_pos e7, if_pos ⟨e7.1, by omega, e7.2.2⟩]
                · rw [if_neg e7, if_neg (fun h => e7 ⟨h.1, by have := e6 h.1; omega, h.2.2⟩)]
          · rw [gI_set (by omega)]
            by_cases e9 : k = j
            · subst e9
              rw [if_pos rfl]
              unfold upV
              rw [if_pos ⟨by omega, hs⟩, hvj, hlj]
            · rw [if_neg e9, HE.out.2 k hk]
              unfold upV
              by_cases e8 : k < j ∧ gB SU k = true
              · rw [if_pos e8, if_pos ⟨by omega, e8.2⟩]
              · rw [if_neg e8, if_neg (fun h => e8 ⟨by omega, h.2⟩)])
        have HV2 := Lib.hid (And.intro hv2 (And.intro hin hvj))
        have HLJ := Lib.hid hlj
        clear hjS hti hrt hir hlj hui hvj hu2 hv2 hin
        go_upto_region 5 with (fail)
        go_still_tail 17, (by kernel_rfl)
        go_upto_region 6 with (fail)
        have HDa : Hid (DMem g gu gv gt gr n m vc (U2.set i (ui + (L - lj))) V2 TO RW ((wr.setCell ⟨gu, i, none⟩ (.int .i64 (ui + (L - lj)))).drew)) := Lib.hid ((HD.out.put_u HX.out i (ui + (L - lj))).drew 1)
        have HPa : Hid (PMem gp LN FR SU ((wr.setCell ⟨gu, i, none⟩ (.int .i64 (ui + (L - lj)))).drew)) := Lib.hid ((HP.out.far _ _ _ (by have := HX.out; unfold Dis at this; omega)).drew 1)
        have HKa : Hid (Kp2 (fun b => b ≠ gu ∧ b ≠ gv) w ((wr.setCell ⟨gu, i, none⟩ (.int .i64 (ui + (L - lj)))).drew)) := Lib.hid ((HK.out.cell _ _ _ (fun h => h.1 rfl)).drewN 1)
        obtain ⟨Wa, hWa⟩ : ∃ Wa, Wa = (wr.setCell ⟨gu, i, none⟩ (.int .i64 (ui + (L - lj)))).drew := ⟨_, rfl⟩
        rw [← hWa] at HDa HPa HKa ⊢
        clear hWa cUi cUif d1 d4 cL cS cR
        have d2 := HDa.out.rg.cell (i := 2) rfl
        have cL := HPa.out.at_len hj16 farI
        rw [show LN.getD j farI = lj from HLJ.out.symm] at cL
        have cV : Wa.cell? ⟨gv, j, none⟩ = some (.int .i64 vj) := by
          have h9 := HDa.out.lv
          have h8 := HLT.out
          rw [← HV2.out.1]; exact nrow_cell HDa.out.rv (by omega)
        have cVf := HDa.out.rv.free j
        go_still_tail 17, (by kernel_rfl)
        go_wp2_with fail
        exact ⟨⟨j + 1, _, _, by have := HLT.out; omega, by first | rw [HWK.out, Int.natCast_succ] | go_num, (HDa.out.put_v HX.out j _).drew 1, (HPa.out.far _ _ _ (by have := HX.out; unfold Dis at this; omega)).drew 1, (HKa.out.cell _ _ _ (fun h => h.2 rfl)).drewN 1, HN.out.1, HN.out.2⟩, by have := HLT.out; first | exact back_less this HWK.out | (simp [intOf]; omega)⟩
    · obtain rfl : j = m := by have := HJ.out; omega
      go_wp2_with fail
      go_end0
      refine ⟨⟨_, rfl⟩, U2, V2, HD.out, HP.out, HK.out, fun i hi => ?_, fun k hk => ?_⟩
      · rw [HE.out.1 i hi]
        unfold upU impU
        by_cases e9 : i = r
        · rw [if_pos e9, if_pos e9]
        · rw [if_neg e9, if_neg e9]
          by_cases e7 : gI TO (-1) i ≠ -1
          · obtain ⟨j3, k1, k2, -⟩ := HDL.out.to1 i hi e7
            have h9 : (gI TO (-1) i).toNat < j := by omega
            by_cases e8 : gB SU (gI TO (-1) i).toNat = true
            · rw [if_pos ⟨e7, h9, e8⟩, if_pos ⟨e7, e8⟩]
            · rw [if_neg (fun h => e8 h.2.2), if_neg (fun h => e8 h.2)]
          · rw [if_neg (fun h => e7 h.1), if_neg (fun h => e7 h.1)]
      · rw [HE.out.2 k hk]
        unfold upV impV
        by_cases e8 : gB SU k = true
        · rw [if_pos ⟨hk, e8⟩, if_pos e8]
        · rw [if_neg (fun h => e8 h.2), if_neg e8]
end Go.Proofs.Ythkmbbgcadfilaa
