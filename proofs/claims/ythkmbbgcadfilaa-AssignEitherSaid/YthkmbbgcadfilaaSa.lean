/- AssignBound: its walk. -/
import Derived.Test.YthkmbbgcadfilaaRd
namespace Go.Proofs.Ythkmbbgcadfilaa
open Go.RowKit Go.Shelf

theorem FitL.fit {C : List (List Int)} {n m : Nat} {U V : List Int} (h : FitL C n m U V) : Fit n m (cst C) (fun i => U.getD i 0) (fun j => V.getD j 0) :=
  ⟨h.2.2.2.2, fun j hj => (bet_at h.2.2.2.1 (by rw [h.2.1]; exact hj)).2⟩
theorem FitL.bnd {C : List (List Int)} {n m : Nat} {U V : List Int} (h : FitL C n m U V) : bnd n m (fun i => U.getD i 0) (fun j => V.getD j 0) = lsum U + lsum V := by
  unfold lsum Go.Proofs.Ythkmbbgcadfilaa.bnd
  rw [h.1, h.2.1]
theorem FitL.below {C : List (List Int)} {n m : Nat} {U V : List Int} (h : FitL C n m U V) {t : Nat → Nat} (ha : Asg n m (cst C) t) : lsum U + lsum V ≤ costOf n (cst C) t := by
  rw [← h.bnd]; exact h.fit.weak ha
set_option maxRecDepth 100000 in
set_option maxHeartbeats 16000000 in
theorem bound_walk (C : List (List Int)) (T U V : List Int) (vc vt vu vv : Value) (w : World) (hC : NRest w.heap.size w C vc) (hT : IRest w.heap.size w T vt) (hU : IRest w.heap.size w U vu) (hV : IRest w.heap.size w V vv) :
    Calls Try.prog 6 #[vc, vt, vu, vv] w fun e w' => e = .returned (.bool true) ∧ Below w.heap.size w w' := by
  have HSN := Lib.hid (sane_call w)
  have HRT : Hid (∀ W, Below w.heap.size w W → Calls Try.prog 26 #[vc] W fun e w' => e = .returned (.bool (decide (chkE C = 0))) ∧ Below W.heap.size W w') := Lib.hid (fun W hW => rightL_call C vc W (hC.keep hW))
  have HPR : Hid (∀ W, Below w.heap.size w W → Calls Try.prog 20 #[vc, vu, vv] W fun e w' => e = .returned (.tuple #[.int .i64 (prvR C U V).1, .bool (prvR C U V).2.1, .int .i64 (prvR C U V).2.2]) ∧ Below W.heap.size W w') := Lib.hid (fun W hW => proves_call C U V vc vu vv W (hC.keep hW) (hU.keep hW) (hV.keep hW))
  have HCO : Hid (∀ W, Below w.heap.size w W → Calls Try.prog 13 #[vc, vt] W fun e w' => e = .returned (.tuple #[.int .i64 (costR C T).1, .int .i64 (costR C T).2]) ∧ Below W.heap.size W w') := Lib.hid (fun W hW => cost_call C T vc vt W (hC.keep hW) (hT.keep hW))
  have HBE : Hid (∀ W, Below w.heap.size w W → Calls Try.prog 15 #[vc] W (BestQ C W)) := Lib.hid (fun W hW => best_call C vc W (hC.keep hW))
  obtain ⟨a, c, rfl⟩ := nrest_shape hC
  obtain ⟨a1, c1, rfl⟩ := irest_shape hT
  obtain ⟨a2, c2, rfl⟩ := irest_shape hU
  obtain ⟨a3, c3, rfl⟩ := irest_shape hV
  obtain ⟨-, hac, ham, hat⟩ := rows_at hC
  obtain ⟨-, huc, hum, hut⟩ := ints_at hU
  obtain ⟨-, hvc, hvm, hvt⟩ := ints_at hV
  have HAT := Lib.hid hat
  have HUT := Lib.hid hut
  have HVT := Lib.hid hvt
  obtain ⟨n, hn⟩ : ∃ n, n = C.length := ⟨_, rfl⟩
  obtain ⟨nt, hnt⟩ : ∃ n, n = T.length := ⟨_, rfl⟩
  obtain ⟨nu, hnu⟩ : ∃ n, n = U.length := ⟨_, rfl⟩
  obtain ⟨nv, hnv⟩ : ∃ n, n = V.length := ⟨_, rfl⟩
  rw [← hn] at HRT HPR HCO HBE hac ⊢
  rw [← hnt] at HCO ⊢
  rw [← hnu] at HPR huc ⊢
  rw [← hnv] at HPR hvc ⊢
  have HN := Lib.hid (And.intro hn (And.intro hnu hnv))
  clear hat hut hvt hn hnt hnu hnv hC hT hU hV
  go_enter Try.func6, Try.ntmps6
  go_upto_region 3 with (go_at_call 11; refine HSN.out.mono ?_; rintro e w2 ⟨rfl, hb⟩; have HB2 := Lib.hid hb; clear hb)
  have HR2 := Lib.hid (HRT.out w2 HB2.out)
  clear HSN HRT
  by_cases h0 : chkE C = 0
  · rw [decide_eq_true h0] at HR2
    have hM := chk_ok h0
    obtain ⟨m, hm⟩ : ∃ m, m = colsN C := ⟨_, rfl⟩
    rw [← HN.out.1, ← hm] at hM
    have HM := Lib.hid hM
    have HMC := Lib.hid hm
    have H0 := Lib.hid h0
    have hn16 := hM.n16
    have hm16 := hM.m16
    clear hM hm h0
    by_cases h1 : 20 < nt
    · have h1i : (20 : Int) < (nt : Int) := by omega
      go_wp2_with (go_at_call 26; refine HR2.out.mono ?_; rintro e w3 ⟨rfl, hb⟩; have HB3 := Lib.hid (below_next HB2.out hb); clear hb)
      go_ret
      exact ⟨rfl, HB3.out⟩
    · have h1i : (nt : Int) ≤ 20 := by omega
      clear h1
      by_cases h2 : 20 < nu
      · have h2i : (20 : Int) < (nu : Int) := by omega
        go_wp2_with (go_at_call 26; refine HR2.out.mono ?_; rintro e w3 ⟨rfl, hb⟩; have HB3 := Lib.hid (below_next HB2.out hb); clear hb)
        go_ret
        exact ⟨rfl, HB3.out⟩
      · have h2i : (nu : Int) ≤ 20 := by omega
        clear h2
        by_cases h3 : 20 < nv
        · have h3i : (20 : Int) < (nv : Int) := by omega
          go_wp2_with (go_at_call 26; refine HR2.out.mono ?_; rintro e w3 ⟨rfl, hb⟩; have HB3 := Lib.hid (below_next HB2.out hb); clear hb)
          go_ret
          exact ⟨rfl, HB3.out⟩
        · have h3i : (nv : Int) ≤ 20 := by omega
          clear h3
          go_upto_region 5 with (go_at_call 26; refine HR2.out.mono ?_; rintro e w3 ⟨rfl, hb⟩; have HB3 := Lib.hid (below_next HB2.out hb); clear hb)
          have HP3 := Lib.hid (HPR.out w3 HB3.out)
          clear HPR HR2
          by_cases hf : FitL C n m U V
          · obtain ⟨bd, hbd⟩ : ∃ b, b = lsum U + lsum V := ⟨_, rfl⟩
            have hpr : prvR C U V = (bd, true, 0) := by
              unfold prvR
              rw [if_pos H0.out, if_pos (by rw [← HN.out.1, ← HMC.out]; exact hf), hbd]
            rw [hpr] at HP3
            have HF := Lib.hid hf
            have HBD := Lib.hid hbd
            have e1 : nu = n := HN.out.2.1.trans hf.1
            have e2 : nv = m := HN.out.2.2.trans hf.2.1
            subst e1 e2
            clear hpr hf hbd
            go_upto_region 10 with (go_at_call 20; refine HP3.out.mono ?_; rintro e w4 ⟨rfl, hb⟩; have HB4 := Lib.hid (below_next HB3.out hb); clear hb)
            have HBU : Hid (∀ i, i < nu → -1099511627776 ≤ U.getD i 0 ∧ U.getD i 0 ≤ 1099511627776) := Lib.hid (fun i hi => bet_at HF.out.2.2.1 (by have := HN.out; omega))
            have HBV : Hid (∀ i, i < nv → -1099511627776 ≤ V.getD i 0 ∧ V.getD i 0 ≤ 0) := Lib.hid (fun i hi => bet_at HF.out.2.2.2.1 (by have := HN.out; omega))
            clear HP3
            go_cut [77] (fun s77 wr => s77 = .bool false ∧ w4 = wr)
            case first =>
              by_cases h4 : 0 < nu
              · have h4i : (0 : Int) < (nu : Int) := by omega
                obtain ⟨b, off, ra, rc, q1, hbl, f1, -⟩ := HAT.out 0 (by have := HN.out; omega)
                subst q1
                rw [show (C.getD 0 []).length = nv from HM.out.row 0 h4] at f1
                have d1 := (HB4.out.cell (p := ⟨b, off + 0, none⟩) hbl).trans f1
                have d1' : w4.cell? ⟨b, off, none⟩ = some (.slice ra nv rc) := by simpa using d1
                clear f1 hbl
                go_wp2_with fail
                go_meet
                exact ⟨rfl, rfl⟩
              · have h4i : ¬ (0 : Int) < (nu : Int) := by omega
                have h5i : decide ((0 : Int) < (nu : Int)) = false := decide_eq_false h4i
                clear h4
                go_wp2_with fail
                go_meet
                exact ⟨by simp, rfl⟩
            case rest =>
              obtain ⟨rfl, rfl⟩ := hcut
              go_upto_region 14 with (fail)
              go_loopw [12, 80] (fun s12 s80 wr => ∃ (k : Nat), k ≤ nv ∧ s12 = .int .i64 (sm k (fun j => V.getD j 0)) ∧ s80 = .int .i64 (k : Int) ∧ w4 = wr) (fun _ s80 _ => nv - (intOf s80).toNat)
              case atStart => exact ⟨0, by omega, rfl, rfl, rfl⟩
              case round =>
                obtain ⟨k, hk, rfl, rfl, rfl⟩ := hrel
                have HK := Lib.hid hk
                clear hk
                by_cases hlt : k < nv
                · have hki : (k : Int) < (nv : Int) := by omega
                  have HLT := Lib.hid hlt
                  have HWK := Lib.hid (wrap_succ hlt (show nv ≤ maxLen by unfold maxLen; omega))
                  obtain ⟨-, b, off, q1, hbl, f1⟩ := HVT.out k (by have := HN.out; omega)
                  subst q1
                  have hb := HBV.out k hlt
                  have hs1 := sm_below (n := k) (f := fun j => V.getD j 0) (b := -1099511627776) (fun i hi => (HBV.out i (by omega)).1)
                  have hs2 := sm_bound (n := k) (f := fun j => V.getD j 0) (b := 0) (fun i hi => (HBV.out i (by omega)).2)
                  obtain ⟨x, hx⟩ : ∃ x, x = V.getD k 0 := ⟨_, rfl⟩
                  obtain ⟨sk, hsk⟩ : ∃ x, x = sm k (fun j => V.getD j 0) := ⟨_, rfl⟩
                  have HSS : Hid (sm (k + 1) (fun j => V.getD j 0) = sk + x) := Lib.hid (by rw [hx, hsk]; rfl)
                  rw [← hx] at f1 hb
                  rw [← hsk] at hs1 hs2 ⊢
                  have hw : wrap64 (sk + x) = sk + x := by unfold wrap64; omega
                  have hx0 : ¬ (0 : Int) < x := by omega
                  have hx1 : decide ((0 : Int) < x) = false := decide_eq_false hx0
                  have d1 := (HB4.out.cell (p := ⟨b, off + k, none⟩) hbl).trans f1
                  have HW := Lib.hid hw
                  clear hx hsk hlt hbl f1 hb hs1 hs2 hw
                  go_wp2_with fail
                  exact ⟨⟨k + 1, by have := HLT.out; omega, by rw [HSS.out, HW.out], by first | rw [HWK.out, Int.natCast_succ] | go_num, by first | rfl | trivial⟩, by have := HLT.out; first | exact back_less this HWK.out | (simp [intOf]; omega)⟩
                · obtain rfl : k = nv := by have := HK.out; omega
                  have hv1 := sm_below (n := k) (f := fun j => V.getD j 0) (b := -1099511627776) (fun i hi => (HBV.out i hi).1)
                  have hv2 := sm_bound (n := k) (f := fun j => V.getD j 0) (b := 0) (fun i hi => (HBV.out i hi).2)
                  have HLV : Hid (lsum V = sm k (fun j => V.getD j 0)) := Lib.hid (by unfold lsum; rw [← HN.out.2.2])
                  obtain ⟨sv, hsv⟩ : ∃ x, x = sm k (fun j => V.getD j 0) := ⟨_, rfl⟩
                  rw [← hsv] at hv1 hv2 HLV ⊢
                  have HV12 : Hid (-17592186044416 ≤ sv ∧ sv ≤ 0) := Lib.hid (by omega)
                  clear hsv hlt hv1 hv2
                  go_upto_region 21 with (fail)
                  go_loopw [12, 92] (fun s12 s92 wr => ∃ (i : Nat), i ≤ nu ∧ s12 = .int .i64 (sv + sm i (fun j => U.getD j 0)) ∧ s92 = .int .i64 (i : Int) ∧ w4 = wr) (fun _ s92 _ => nu - (intOf s92).toNat)
                  case atStart => exact ⟨0, by omega, by show _ = Value.int .i64 (sv + 0); rw [Int.add_zero], rfl, rfl⟩
                  case round =>
                    obtain ⟨i, hi, rfl, rfl, rfl⟩ := hrel
                    have HI := Lib.hid hi
                    clear hi
                    by_cases hil : i < nu
                    · have hii : (i : Int) < (nu : Int) := by omega
                      have HIL := Lib.hid hil
                      have HWI := Lib.hid (wrap_succ hil (show nu ≤ maxLen by unfold maxLen; omega))
                      obtain ⟨-, b, off, q1, hbl, f1⟩ := HUT.out i (by have := HN.out; omega)
                      subst q1
                      obtain ⟨b9, off9, ra, rc, q2, hb9, f9, hrow⟩ := HAT.out i (by have := HN.out; omega)
                      subst q2
                      have hrl := HM.out.row i hil
                      obtain ⟨-, hrc, hrm, hrt⟩ := ints_at hrow
                      rw [hrl] at f9 hrc hrt
                      have HRTW := Lib.hid hrt
                      have hb := HBU.out i hil
                      have hs1 := sm_below (n := i) (f := fun j => U.getD j 0) (b := -1099511627776) (fun q hq => (HBU.out q (by omega)).1)
                      have hs2 := sm_bound (n := i) (f := fun j => U.getD j 0) (b := 1099511627776) (fun q hq => (HBU.out q (by omega)).2)
                      obtain ⟨x, hx⟩ : ∃ x, x = U.getD i 0 := ⟨_, rfl⟩
                      obtain ⟨si, hsi⟩ : ∃ x, x = sv + sm i (fun j => U.getD j 0) := ⟨_, rfl⟩
                      have HSS : Hid (sv + sm (i + 1) (fun j => U.getD j 0) = si + x) := Lib.hid (by
                        rw [hx, hsi]
                        show sv + (sm i (fun j => U.getD j 0) + U.getD i 0) = _
                        omega)
                      rw [← hx] at f1 hb
                      rw [← hsi]
                      have hw : wrap64 (si + x) = si + x := by have := HV12.out; unfold wrap64; omega
                      have d1 := (HB4.out.cell (p := ⟨b, off + i, none⟩) hbl).trans f1
                      have d9 := (HB4.out.cell (p := ⟨b9, off9 + i, none⟩) hb9).trans f9
                      have HW := Lib.hid hw
                      have HX := Lib.hid (And.intro hx hb)
                      clear hx hsi hil hbl f1 hb hs1 hs2 hw hb9 f9 hrow hrt hrl
                      go_upto_region 25 with (fail)
                      rw [HW.out]
                      clear d1 d9
                      go_loopw [105] (fun s105 wr => ∃ (j : Nat), j ≤ k ∧ s105 = .int .i64 (j : Int) ∧ w4 = wr) (fun s105 _ => k - (intOf s105).toNat)
                      case atStart => exact ⟨0, by omega, rfl, rfl⟩
                      case round =>
                        obtain ⟨j, hj, rfl, rfl⟩ := hrel
                        have HJ := Lib.hid hj
                        clear hj
                        by_cases hjl : j < k
                        · have hji : (j : Int) < (k : Int) := by omega
                          have HJL := Lib.hid hjl
                          have HWJ := Lib.hid (wrap_succ hjl (show k ≤ maxLen by unfold maxLen; omega))
                          obtain ⟨-, b2, off2, q3, hb2, f2⟩ := HRTW.out j (by have := HM.out.row i HIL.out; omega)
                          obtain ⟨-, b3, off3, q4, hb3, f3⟩ := HVT.out j (by have := HN.out; omega)
                          subst q3 q4
                          rw [getDD HM.out HIL.out hjl] at f2
                          have hvj := HBV.out j hjl
                          have hfit := HF.out.2.2.2.2 i j HIL.out hjl
                          have hel := HM.out.el i j HIL.out hjl
                          obtain ⟨y, hy⟩ : ∃ y, y = cst C i j := ⟨_, rfl⟩
                          obtain ⟨z, hz⟩ : ∃ y, y = V.getD j 0 := ⟨_, rfl⟩
                          rw [← hy] at f2 hfit hel
                          rw [← hz] at f3 hfit hvj
                          rw [← HX.out.1] at hfit
                          have hxb := HX.out.2
                          have hw2 : wrap64 (x + z) = x + z := by unfold wrap64; omega
                          have d2 := (HB4.out.cell (p := ⟨b2, off2 + j, none⟩) hb2).trans f2
                          have d3 := (HB4.out.cell (p := ⟨b3, off3 + j, none⟩) hb3).trans f3
                          by_cases y0 : 0 ≤ y
                          · have g1 : decide (0 ≤ y) = true := decide_eq_true y0
                            have g2 : ¬ y < x + z := by have := hfit (by omega); omega
                            have g3 : decide (y < x + z) = false := decide_eq_false g2
                            clear hy hz f2 f3 hfit hel hvj hxb hb2 hb3 hjl
                            go_wp2_with fail
                            exact ⟨⟨j + 1, by have := HJL.out; omega, by first | rw [HWJ.out, Int.natCast_succ] | go_num, by first | rfl | trivial⟩, by have := HJL.out; first | exact back_less this HWJ.out | (simp [intOf]; omega)⟩
                          · have g1 : decide (0 ≤ y) = false := decide_eq_false y0
                            clear hy hz f2 f3 hfit hel hvj hxb hb2 hb3 hjl hw2
                            go_wp2_with fail
                            exact ⟨⟨j + 1, by have := HJL.out; omega, by first | rw [HWJ.out, Int.natCast_succ] | go_num, by first | rfl | trivial⟩, by have := HJL.out; first | exact back_less this HWJ.out | (simp [intOf]; omega)⟩
                        · obtain rfl : j = k := by have := HJ.out; omega
                          go_wp2_with fail
                          exact ⟨⟨i + 1, by have := HIL.out; omega, by rw [HSS.out], by first | rw [HWI.out, Int.natCast_succ] | go_num, by first | rfl | trivial⟩, by have := HIL.out; first | exact back_less this HWI.out | (simp [intOf]; omega)⟩
                    · obtain rfl : i = nu := by have := HI.out; omega
                      have HTOT : Hid (sv + sm i (fun j => U.getD j 0) = bd) := Lib.hid (by
                        rw [HBD.out, HLV.out]
                        unfold lsum
                        rw [← HN.out.2.1]; omega)
                      rw [HTOT.out]
                      have HCO4 := Lib.hid (HCO.out w4 HB4.out)
                      obtain ⟨cr, hcr⟩ : ∃ x, x = costR C T := ⟨_, rfl⟩
                      rw [← hcr] at HCO4
                      have HCR : Hid ((cr.2 = 0 ∧ bd ≤ cr.1) ∨ cr.2 = 140) := Lib.hid (by
                        rw [hcr]
                        unfold costR
                        rw [if_pos H0.out]
                        by_cases hA : AsgL C C.length (colsN C) T
                        · rw [if_pos hA]
                          left
                          refine ⟨rfl, ?_⟩
                          rw [HBD.out]
                          have hf9 := HF.out
                          rw [HN.out.1, HMC.out] at hf9
                          exact hf9.below hA.asg
                        · rw [if_neg hA]; exact .inr rfl)
                      obtain ⟨cn, ce⟩ := cr
                      simp only at HCO4 HCR
                      clear hcr hil HCO
                      go_upto_region 32 with (go_at_call 13; refine HCO4.out.mono ?_; rintro e w5 ⟨rfl, hb⟩; have HB5 := Lib.hid (below_next HB4.out hb); clear hb)
                      have HBE5 := Lib.hid (HBE.out w5 HB5.out)
                      go_upto_region 33 with (go_at_call 15; refine HBE5.out.mono ?_; rintro e w6 ⟨hb, vb, cb, okb, rfl, hp⟩; rw [H0.out]; have HB6 := Lib.hid (below_next HB5.out hb); have HBP := Lib.hid hp; clear hb hp)
                      have HOK : Hid (okb = true → bd ≤ cb) := Lib.hid (fun h => by
                        rcases HBP.out with ⟨-, -, p, -, -, hl⟩ | ⟨h1, -⟩
                        · have h2 := hl.bst.2
                          have hf9 := HF.out
                          rw [HN.out.1, HMC.out] at hf9
                          have h3 := hf9.below hl.bst.1
                          have := HBD.out
                          omega
                        · rw [h] at h1; cases h1)
                      clear HBE HBE5 HCO4
                      rcases HCR.out with ⟨h1, h2⟩ | h1
                      · subst h1
                        cases okb with
                        | true =>
                          have h3 := HOK.out rfl
                          go_wp2_with fail
                          refine bodyPost_ret (results_tmp rfl _ _ _) rfl ?_
                          exact ⟨by simp, HB6.out⟩
                        | false =>
                          go_wp2_with fail
                          refine bodyPost_ret (results_tmp rfl _ _ _) rfl ?_
                          exact ⟨by simp, HB6.out⟩
                      · subst h1
                        cases okb with
                        | true =>
                          have h3 := HOK.out rfl
                          go_wp2_with fail
                          refine bodyPost_ret (results_tmp rfl _ _ _) rfl ?_
                          exact ⟨by simp, HB6.out⟩
                        | false =>
                          go_wp2_with fail
                          refine bodyPost_ret (results_tmp rfl _ _ _) rfl ?_
                          exact ⟨by simp, HB6.out⟩
          · have hpr : prvR C U V = (0, false, 0) := by
              unfold prvR
              rw [if_pos H0.out, if_neg (by rw [← HN.out.1, ← HMC.out]; exact hf)]
            rw [hpr] at HP3
            clear hpr hf
            go_wp2_with (go_at_call 20; refine HP3.out.mono ?_; rintro e w4 ⟨rfl, hb⟩; have HB4 := Lib.hid (below_next HB3.out hb); clear hb)
            refine bodyPost_ret (results_tmp rfl _ _ _) rfl ?_
            exact ⟨rfl, HB4.out⟩
  · rw [decide_eq_false h0] at HR2
    clear h0
    go_wp2_with (go_at_call 26; refine HR2.out.mono ?_; rintro e w3 ⟨rfl, hb⟩; have HB3 := Lib.hid (below_next HB2.out hb); clear hb)
    go_ret
    exact ⟨rfl, HB3.out⟩
end Go.Proofs.Ythkmbbgcadfilaa
