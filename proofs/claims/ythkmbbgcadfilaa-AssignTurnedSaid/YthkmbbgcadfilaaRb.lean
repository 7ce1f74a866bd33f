/- The reference's Check; right. -/
import Derived.Test.YthkmbbgcadfilaaRa
namespace Go.Proofs.Ythkmbbgcadfilaa
open Go.RowKit Go.Shelf

theorem chk_len {C : List (List Int)} (h : 16 < C.length) : chkE C = 2 := by
  unfold chkE smallB
  rw [decide_eq_false (by omega)]; rfl
theorem chk_row {C : List (List Int)} {k : Nat} (hk : k < C.length) (h : 16 < (C.getD k []).length) : chkE C = 2 := by
  unfold chkE smallB smallR
  rw [all_at (k := k) (d := []) hk (decide_eq_false (by omega))]; simp
theorem small_yes {C : List (List Int)} (h : C.length ≤ 16) (h2 : ∀ i, i < C.length → decide ((C.getD i []).length ≤ 16) = true) : smallB C = true := by
  unfold smallB smallR
  rw [decide_eq_true h, all_upto (d := []) (Nat.le_refl _) h2]; rfl
theorem chk_bad {C : List (List Int)} (hs : smallB C = true) {k : Nat} (hk : k < C.length) (h : rowB (colsN C) (C.getD k []) = false) : chkE C = 140 := by
  unfold chkE
  rw [if_pos hs, if_neg]
  unfold rightB
  rw [all_at (k := k) (d := []) hk h]; simp
theorem chk_good {C : List (List Int)} (hs : smallB C = true) (h : ∀ i, i < C.length → rowB (colsN C) (C.getD i []) = true) : chkE C = 0 := by
  unfold chkE
  rw [if_pos hs, if_pos]
  unfold rightB
  exact all_upto (d := []) (Nat.le_refl _) h
set_option maxRecDepth 100000 in
set_option maxHeartbeats 8000000 in
theorem rcheck_call (C : List (List Int)) (vc : Value) (w : World) (hC : NRest w.heap.size w C vc) :
    Calls Try.prog 18 #[vc] w fun e w' => e = .returned (.int .i64 (chkE C)) ∧ Below w.heap.size w w' := by
  obtain ⟨a, c, rfl⟩ := nrest_shape hC
  obtain ⟨-, hac, ham, hat⟩ := rows_at hC
  obtain ⟨n, hn⟩ : ∃ n, n = C.length := ⟨_, rfl⟩
  rw [← hn] at hac hat ⊢
  have HAT := Lib.hid hat
  have HN := Lib.hid hn
  clear hat hn hC
  go_enter Try.func18, Try.ntmps18
  by_cases hb : 16 < n
  · have hbi : (16 : Int) < (n : Int) := by omega
    have HV : Hid (chkE C = 2) := Lib.hid (chk_len (by have := HN.out; omega))
    go_wp2_with fail
    go_ret
    exact ⟨by rw [HV.out]; rfl, Below.refl _ _⟩
  · have hbi : (n : Int) ≤ 16 := by omega
    have HB := Lib.hid hb
    clear hb
    go_upto_region 4 with (fail)
    go_loopw [3] (fun s3 wr => ∃ (k : Nat), k ≤ n ∧ s3 = .int .i64 (k : Int) ∧ w = wr ∧ ∀ i, i < k → decide ((C.getD i []).length ≤ 16) = true) (fun s3 _ => n - (intOf s3).toNat)
    case atStart => exact ⟨0, by omega, rfl, rfl, fun i hi => by omega⟩
    case round =>
      obtain ⟨k, hk, rfl, rfl, hall⟩ := hrel
      have HALL := Lib.hid hall
      have HK := Lib.hid hk
      clear hall hk
      by_cases hlt : k < n
      · have hki : (k : Int) < (n : Int) := by omega
        have HLT := Lib.hid hlt
        have HWK := Lib.hid (wrap_succ hlt (show n ≤ maxLen by unfold maxLen; omega))
        obtain ⟨b, off, ra, rc, q1, hb, f1, -⟩ := HAT.out k (by have := HN.out; omega)
        subst q1
        obtain ⟨m, hm⟩ : ∃ m, m = (C.getD k []).length := ⟨_, rfl⟩
        rw [← hm] at f1
        have HM := Lib.hid hm
        clear hlt hm hb
        by_cases hg : 16 < m
        · have hgi : (16 : Int) < (m : Int) := by omega
          have HV : Hid (chkE C = 2) := Lib.hid (chk_row (k := k) (by have := HN.out; have := HLT.out; omega) (by rw [← HM.out]; omega))
          go_wp2_with fail
          go_ret
          exact ⟨by rw [HV.out]; rfl, Below.refl _ _⟩
        · have hgi : (m : Int) ≤ 16 := by omega
          have HG := Lib.hid hg
          clear hg
          go_wp2_with fail
          refine ⟨⟨k + 1, by have := HLT.out; omega, by first | rw [HWK.out, Int.natCast_succ] | go_num, by first | rfl | trivial, fun i hi => ?_⟩, by have := HLT.out; first | exact back_less this HWK.out | (simp [intOf]; omega)⟩
          rcases Nat.lt_or_ge i k with h9 | h9
          · exact HALL.out i h9
          · obtain rfl : i = k := by omega
            exact decide_eq_true (by rw [← HM.out]; have := HG.out; omega)
      · obtain rfl : k = n := by have := HK.out; omega
        have HSM : Hid (smallB C = true) := Lib.hid (small_yes (by have := HN.out; have := HB.out; omega) (fun i hi => HALL.out i (by have := HN.out; omega)))
        have HK16 : Hid (k ≤ 16) := Lib.hid (by have := HB.out; omega)
        obtain ⟨mc, hmc⟩ : ∃ m, m = colsN C := ⟨_, rfl⟩
        have HMC := Lib.hid hmc
        clear hmc HALL hlt
        go_upto_region 9 with (fail)
        go_loopw [4] (fun s4 wi => ∃ (i : Nat), i ≤ k ∧ s4 = .int .i64 (i : Int) ∧ Below w.heap.size w wi ∧ ∀ i', i' < i → rowB mc (C.getD i' []) = true) (fun s4 _ => k - (intOf s4).toNat)
        case atStart => exact ⟨0, by omega, rfl, Below.refl _ _, fun i hi => by omega⟩
        case round =>
          obtain ⟨i, hi, rfl, hbw, hall⟩ := hrel
          have HALL := Lib.hid hall
          have HI := Lib.hid hi
          have HBW := Lib.hid hbw
          clear hall hi hbw
          by_cases hil : i < k
          · have hii : (i : Int) < (k : Int) := by omega
            have hk0 : (0 : Int) < (k : Int) := by omega
            have HIL := Lib.hid hil
            have HWI := Lib.hid (wrap_succ hil (show k ≤ maxLen by unfold maxLen; have := HK16.out; omega))
            obtain ⟨b, off, ra, rc, q1, hb, f1, hrow⟩ := HAT.out i (by have := HN.out; omega)
            obtain ⟨b0, off0, ra0, rc0, q0, hb0, f0, -⟩ := HAT.out 0 (by have := HN.out; omega)
            subst q1
            injection q0 with q0
            injection q0 with q01 q02
            subst q01 q02
            obtain ⟨r, hr⟩ : ∃ r, r = C.getD i [] := ⟨_, rfl⟩
            rw [← hr] at f1 hrow
            obtain ⟨-, hrc, hrm, hrt⟩ := ints_at hrow
            obtain ⟨m, hm⟩ : ∃ m, m = r.length := ⟨_, rfl⟩
            rw [← hm] at f1 hrc hrt
            rw [show (C.getD 0 []).length = mc from HMC.out.symm] at f0
            have HR := Lib.hid (And.intro hr hm)
            have HRT := Lib.hid hrt
            have HBAD : Hid (rowB mc r = false → chkE C = 140) := Lib.hid (fun h => chk_bad HSM.out (k := i) (by have := HN.out; omega) (by rw [← HMC.out, ← hr]; exact h))
            have d1 := (HBW.out.cell (p := ⟨b, off + i, none⟩) hb).trans f1
            have d0 := (HBW.out.cell (p := ⟨b, off + 0, none⟩) hb).trans f0
            have d0' : wr.cell? ⟨b, off, none⟩ = some (.slice ra0 mc rc0) := by simpa using d0
            clear hr hm hrow hrt hb hb0 f1 f0 hil
            go_upto_region 11 with (fail)
            by_cases hmm : m = mc
            · subst hmm
              have hne : ((m : Int) != (m : Int)) = false := by simp
              go_upto_region 13 with (go_quiet (fail))
              obtain ⟨w2, hw2⟩ : ∃ w2, w2 = wr.drewN nq := ⟨_, rfl⟩
              have HB2 : Hid (Below w.heap.size w w2) := Lib.hid (by rw [hw2]; exact below_drewN HBW.out nq)
              rw [← hw2]
              have HD1 : Hid (∀ W, Below w2.heap.size w2 W → W.cell? ⟨b, off + i, none⟩ = some (.slice ra m rc)) := Lib.hid (fun W hW => (hW.cell (p := ⟨b, off + i, none⟩) (by rw [hw2]; exact lt_of_cell d1)).trans (by rw [hw2]; exact d1))
              clear hw2 d1 d0 d0'
              go_upto_region 14 with (fail)
              go_loopw [5] (fun s5 wj => ∃ (j : Nat), j ≤ m ∧ s5 = .int .i64 (j : Int) ∧ w2 = wj ∧ ∀ i, i < j → elB (r.getD i 0) = true) (fun s5 _ => m - (intOf s5).toNat)
              case atStart => exact ⟨0, by omega, rfl, rfl, fun i hi => by omega⟩
              case round =>
                obtain ⟨j, hj, rfl, rfl, hall2⟩ := hrel
                have HALL2 := Lib.hid hall2
                have HJ := Lib.hid hj
                have d1 := HD1.out _ (Below.refl _ _)
                clear hall2 hj
                by_cases hjlt : j < m
                · have hji : (j : Int) < (m : Int) := by omega
                  have HJL := Lib.hid hjlt
                  have HWJ := Lib.hid (wrap_succ hjlt (show m ≤ maxLen by omega))
                  obtain ⟨-, b2, off2, q2, hb2, f2⟩ := HRT.out j (by have := HR.out; omega)
                  subst q2
                  obtain ⟨x, hx⟩ : ∃ x, x = r.getD j 0 := ⟨_, rfl⟩
                  rw [← hx] at f2
                  have d2 := (HB2.out.cell (p := ⟨b2, off2 + j, none⟩) hb2).trans f2
                  have HX := Lib.hid hx
                  have HBAD2 : Hid (elB x = false → chkE C = 140) := Lib.hid (fun h => HBAD.out (by
                    unfold rowB
                    rw [all_at (k := j) (d := 0) (by have := HR.out; have := HJL.out; omega) (by rw [← HX.out]; exact h)]; simp))
                  clear hx hjlt hb2 f2
                  by_cases x2 : x < -1
                  · have g2 : decide (x < -1) = true := decide_eq_true x2
                    have HV := Lib.hid (HBAD2.out (decide_eq_false (by omega)))
                    go_wp2_with fail
                    go_ret
                    exact ⟨by rw [HV.out]; rfl, HB2.out⟩
                  · have g2 : decide (x < -1) = false := decide_eq_false x2
                    by_cases x3 : 1073741824 < x
                    · have g3 : decide (1073741824 < x) = true := decide_eq_true x3
                      have HV := Lib.hid (HBAD2.out (decide_eq_false (by omega)))
                      go_wp2_with fail
                      go_ret
                      exact ⟨by rw [HV.out]; rfl, HB2.out⟩
                    · have g3 : decide (1073741824 < x) = false := decide_eq_false x3
                      have HOK : Hid (elB x = true) := Lib.hid (decide_eq_true (by omega))
                      clear x2 x3
                      go_wp2_with fail
                      refine ⟨⟨j + 1, by have := HJL.out; omega, by first | rw [HWJ.out, Int.natCast_succ] | go_num, by first | rfl | trivial, fun i hi => ?_⟩, by have := HJL.out; first | exact back_less this HWJ.out | (simp [intOf]; omega)⟩
                      rcases Nat.lt_or_ge i j with h9 | h9
                      · exact HALL2.out i h9
                      · obtain rfl : i = j := by omega
                        rw [← HX.out]; exact HOK.out
                · obtain rfl : j = m := by have := HJ.out; omega
                  have HOK : Hid (rowB j r = true) := Lib.hid (by
                    unfold rowB
                    rw [decide_eq_true (by have := HR.out; omega), all_upto (d := 0) (by have := HR.out; omega) HALL2.out]; rfl)
                  go_wp2_with fail
                  refine ⟨⟨i + 1, by have := HIL.out; omega, by first | rw [HWI.out, Int.natCast_succ] | go_num, HB2.out, fun i' hi' => ?_⟩, by have := HIL.out; first | exact back_less this HWI.out | (simp [intOf]; omega)⟩
                  rcases Nat.lt_or_ge i' i with h9 | h9
                  · exact HALL.out i' h9
                  · obtain rfl : i' = i := by omega
                    rw [← HR.out.1]; exact HOK.out
            · have hne : ((m : Int) != (mc : Int)) = true := by simp; omega
              have HV := Lib.hid (HBAD.out (by unfold rowB; rw [decide_eq_false (by have := HR.out; omega)]; rfl))
              clear hmm
              go_quiet (fail)
              go_wp2_with fail
              go_ret
              exact ⟨by rw [HV.out]; rfl, below_drewN HBW.out _⟩
          · obtain rfl : i = k := by have := HI.out; omega
            have HV : Hid (chkE C = 0) := Lib.hid (chk_good HSM.out (fun i' hi' => by rw [← HMC.out]; exact HALL.out i' (by have := HN.out; omega)))
            go_wp2_with fail
            go_ret
            exact ⟨by rw [HV.out]; rfl, HBW.out⟩
/-- costs that the laws look at -/
theorem few_of_chk {C : List (List Int)} (h : chkE C = 0) : fewB C = true := by
  have hM := chk_ok h
  unfold fewB
  rw [decide_eq_true (by have := hM.n16; omega), all_upto (d := []) (Nat.le_refl _) (fun i hi => decide_eq_true (by rw [hM.row i hi]; have := hM.m16; omega))]; rfl
set_option maxRecDepth 100000 in
set_option maxHeartbeats 8000000 in
theorem rightL_call (C : List (List Int)) (vc : Value) (w : World) (hC : NRest w.heap.size w C vc) :
    Calls Try.prog 26 #[vc] w fun e w' => e = .returned (.bool (decide (chkE C = 0))) ∧ Below w.heap.size w w' := by
  have HF := Lib.hid (few_call C vc w hC)
  have HC := Lib.hid (rcheck_call C vc w hC)
  obtain ⟨a, c, rfl⟩ := nrest_shape hC
  obtain ⟨n, hn⟩ : ∃ n, n = C.length := ⟨_, rfl⟩
  rw [← hn] at HF HC ⊢
  clear hC hn
  go_enter Try.func26, Try.ntmps26
  cases hf : fewB C with
  | false =>
    rw [hf] at HF
    have HV : Hid (decide (chkE C = 0) = false) := Lib.hid (decide_eq_false (fun h => by rw [few_of_chk h] at hf; cases hf))
    clear hf
    go_wp2_with (go_at_call 12; refine HF.out.mono ?_; rintro e w5 ⟨rfl, rfl⟩)
    go_ret
    exact ⟨by rw [HV.out]; rfl, Below.refl _ _⟩
  | true =>
    rw [hf] at HF
    clear hf
    by_cases h0 : chkE C = 0
    · have HV : Hid (decide (chkE C = 0) = true) := Lib.hid (decide_eq_true h0)
      rw [h0] at HC
      clear h0
      go_wp2_with (first | (go_at_call 18; refine HC.out.mono ?_; rintro e w6 ⟨rfl, hb6⟩; have HB6 := Lib.hid hb6; clear hb6) | (go_at_call 12; refine HF.out.mono ?_; rintro e w5 ⟨rfl, rfl⟩))
      go_ret
      exact ⟨by rw [HV.out]; rfl, HB6.out⟩
    · have HV : Hid (decide (chkE C = 0) = false) := Lib.hid (decide_eq_false h0)
      obtain ⟨ce, hce⟩ : ∃ x, x = chkE C := ⟨_, rfl⟩
      rw [← hce] at HC h0
      have g1 : (ce == 0) = false := by simp [h0]
      clear h0 hce
      go_wp2_with (first | (go_at_call 18; refine HC.out.mono ?_; rintro e w6 ⟨rfl, hb6⟩; have HB6 := Lib.hid hb6; clear hb6) | (go_at_call 12; refine HF.out.mono ?_; rintro e w5 ⟨rfl, rfl⟩))
      go_ret
      exact ⟨by rw [HV.out]; rfl, HB6.out⟩
end Go.Proofs.Ythkmbbgcadfilaa
