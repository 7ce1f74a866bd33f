/- Cost. -/
import Derived.Test.YthkmbbgcadfilaaNc
namespace Go.Proofs.Ythkmbbgcadfilaa
open Go.RowKit Go.Shelf

open Classical in
/-- what Cost answers -/
noncomputable def costR (C : List (List Int)) (T : List Int) : Int × Int :=
  if chkE C = 0 then (if AsgL C C.length (colsN C) T then (costOf C.length (cst C) (toF T), 0) else (0, 140)) else (0, chkE C)
theorem chk_ok {C : List (List Int)} (h : chkE C = 0) : Mat C C.length (colsN C) := by
  unfold chkE at h
  by_cases h1 : smallB C = true
  · rw [if_pos h1] at h
    by_cases h2 : rightB C = true
    · exact mat_of h1 h2
    · rw [if_neg h2] at h; omega
  · rw [if_neg h1] at h; omega
theorem chk_vals (C : List (List Int)) : chkE C = 0 ∨ chkE C = 2 ∨ chkE C = 140 := by
  unfold chkE
  split
  · split
    · exact .inl rfl
    · exact .inr (.inr rfl)
  · exact .inr (.inl rfl)
theorem cost_small {C : List (List Int)} {n m : Nat} {T : List Int} (hM : Mat C n m) (h : AsgL C n m T) {k : Nat} (hk : k ≤ n) : 0 ≤ costOf k (cst C) (toF T) ∧ costOf k (cst C) (toF T) ≤ (k : Int) * 1073741824 := by
  have hA := h.asg
  have h2 : ∀ i, i < k → 0 ≤ cst C i (toF T i) ∧ cst C i (toF T i) ≤ 1073741824 := fun i hi => by
    have h3 := hM.el i (toF T i) (by omega) (hA.inj.1 i (by omega))
    have h4 := hA.may i (by omega)
    omega
  have h5 := sm_below (n := k) (f := fun i => cst C i (toF T i)) (b := 0) (fun i hi => (h2 i hi).1)
  have h6 := sm_bound (n := k) (f := fun i => cst C i (toF T i)) (b := 1073741824) (fun i hi => (h2 i hi).2)
  unfold costOf
  exact ⟨by simpa using h5, h6⟩
set_option maxRecDepth 100000 in
set_option maxHeartbeats 8000000 in
theorem cost_call (C : List (List Int)) (T : List Int) (vc vt : Value) (w : World) (hC : NRest w.heap.size w C vc) (hT : IRest w.heap.size w T vt) :
    Calls Try.prog 13 #[vc, vt] w fun e w' => e = .returned (.tuple #[.int .i64 (costR C T).1, .int .i64 (costR C T).2]) ∧ Below w.heap.size w w' := by
  have HCH := Lib.hid (check_call C vc w hC)
  have hAS : Mat C C.length (colsN C) → Calls Try.prog 29 #[vc, vt] w fun e w' => e = .returned (.bool (asgB C C.length (colsN C) T)) ∧ Below w.heap.size w w' := fun h => assigns_call C T vc vt w h rfl hC hT
  obtain ⟨a, c, rfl⟩ := nrest_shape hC
  obtain ⟨au, cu, rfl⟩ := irest_shape hT
  by_cases h0 : chkE C = 0
  · have hM := chk_ok h0
    have HAS := Lib.hid (hAS hM)
    rw [h0] at HCH
    obtain ⟨m, hm⟩ : ∃ m, m = colsN C := ⟨_, rfl⟩
    obtain ⟨n, hn⟩ : ∃ n, n = C.length := ⟨_, rfl⟩
    have hCR : (AsgL C n m T → costR C T = (costOf n (cst C) (toF T), 0)) ∧ (¬ AsgL C n m T → costR C T = (0, 140)) := by
      unfold costR
      rw [if_pos h0, ← hm, ← hn]
      exact ⟨fun h => if_pos h, fun h => if_neg h⟩
    have HCR := Lib.hid hCR
    obtain ⟨-, hac, ham, hat⟩ := rows_at hC
    obtain ⟨-, huc, hum, hut⟩ := ints_at hT
    rw [← hm, ← hn] at hM HAS
    rw [← hn] at hac hat HCH ⊢
    have HM := Lib.hid hM
    have hn16 := hM.n16
    have hm16 := hM.m16
    have HAT := Lib.hid hat
    have HUT := Lib.hid hut
    obtain ⟨nu, hnu⟩ : ∃ x, x = T.length := ⟨_, rfl⟩
    rw [← hnu] at huc HAS ⊢
    have HNU := Lib.hid hnu
    clear hat hut hM hC hT hm hn hnu hCR hAS h0
    go_enter Try.func13, Try.ntmps13
    by_cases hA : AsgL C n m T
    · have HA := Lib.hid hA
      have hb1 := asgB_yes hA
      rw [hb1] at HAS
      obtain rfl : nu = n := HNU.out.trans HA.out.1
      clear hb1 hA
      go_upto_region 6 with (first | (go_at_call 29; refine HAS.out.mono ?_; rintro e w6 ⟨rfl, hb6⟩; have HB6 := Lib.hid hb6; clear hb6) | (go_at_call 17; refine HCH.out.mono ?_; rintro e w5 ⟨rfl, rfl⟩))
      clear HAS HCH
      go_upto_region 7 with (fail)
      go_loopw [4, 19] (fun s4 s19 wr => ∃ (k : Nat), k ≤ nu ∧ s4 = .int .i64 (costOf k (cst C) (toF T)) ∧ s19 = .int .i64 (k : Int) ∧ wr = w6) (fun _ s19 _ => nu - (intOf s19).toNat)
      case atStart => exact ⟨0, by omega, rfl, rfl, rfl⟩
      case round =>
        obtain ⟨k, hk, rfl, rfl, rfl⟩ := hrel
        have HK := Lib.hid hk
        clear hk
        by_cases hlt : k < nu
        · have hki : (k : Int) < (nu : Int) := by omega
          have HLT := Lib.hid hlt
          have HWK := Lib.hid (wrap_succ hlt (show nu ≤ maxLen by unfold maxLen; omega))
          obtain ⟨b, off, ra, rc, q1, hbl, f1, hrow⟩ := HAT.out k hlt
          obtain ⟨-, bu, offu, q2, hbu, f2⟩ := HUT.out k (by have := HNU.out; omega)
          subst q1 q2
          have hrl := HM.out.row k hlt
          obtain ⟨-, hrc, hrm, hrt⟩ := ints_at hrow
          rw [hrl] at f1 hrc hrt
          have hz0 := (HA.out.2.1 k hlt).1
          obtain ⟨zN, hzN⟩ : ∃ zN : Nat, T.getD k 0 = (zN : Int) := ⟨(T.getD k 0).toNat, by omega⟩
          rw [hzN] at f2 hz0
          have hzm : zN < m := by omega
          have hzi : (zN : Int) < (m : Int) := by omega
          obtain ⟨-, b2, off2, q3, hb2l, f3⟩ := hrt zN (by omega)
          subst q3
          rw [getDD HM.out hlt hzm] at f3
          have hstep : costOf (k + 1) (cst C) (toF T) = costOf k (cst C) (toF T) + cst C k zN := by
            show costOf k (cst C) (toF T) + cst C k (toF T k) = _
            unfold toF
            rw [hzN, Int.toNat_natCast]
          have hsm := cost_small HM.out HA.out (k := k + 1) (by omega)
          rw [hstep] at hsm
          obtain ⟨x, hx⟩ : ∃ x, x = cst C k zN := ⟨_, rfl⟩
          obtain ⟨s, hs⟩ : ∃ s, s = costOf k (cst C) (toF T) := ⟨_, rfl⟩
          rw [← hx] at f3 hstep hsm
          rw [← hs] at hstep hsm ⊢
          have hw : wrap64 (s + x) = s + x := by unfold wrap64; omega
          have HST := Lib.hid hstep
          have HW := Lib.hid hw
          have d1 := (HB6.out.cell (p := ⟨b, off + k, none⟩) hbl).trans f1
          have d2 := (HB6.out.cell (p := ⟨bu, offu + k, none⟩) hbu).trans f2
          have d3 := (HB6.out.cell (p := ⟨b2, off2 + zN, none⟩) hb2l).trans f3
          clear hw hx hs hrow hrt hlt hbl f1 hbu f2 hrl hz0 hzN hzm hb2l f3 hstep hsm
          go_wp2_with fail
          refine ⟨⟨k + 1, by have := HLT.out; omega, by rw [HST.out, HW.out], by first | rw [HWK.out, Int.natCast_succ] | go_num, by first | rfl | trivial⟩, by have := HLT.out; first | exact back_less this HWK.out | (simp [intOf]; omega)⟩
        · obtain rfl : k = nu := by have := HK.out; omega
          have HV := Lib.hid (HCR.out.1 HA.out)
          go_wp2_with fail
          refine bodyPost_ret (results_tmp2 rfl _ _ _) rfl ?_
          exact ⟨by rw [HV.out]; rfl, HB6.out⟩
    · have HV := Lib.hid (HCR.out.2 hA)
      have hb1 := asgB_no hA
      rw [hb1] at HAS
      clear hb1 hA
      go_wp2_with (first | (go_at_call 29; refine HAS.out.mono ?_; rintro e w6 ⟨rfl, hb6⟩; have HB6 := Lib.hid hb6; clear hb6) | (go_at_call 17; refine HCH.out.mono ?_; rintro e w5 ⟨rfl, rfl⟩))
      refine bodyPost_ret (results_tmp2 rfl _ _ _) rfl ?_
      exact ⟨by rw [HV.out]; rfl, HB6.out⟩
  · have HV : Hid (costR C T = (0, chkE C)) := Lib.hid (by unfold costR; rw [if_neg h0])
    obtain ⟨n, hn⟩ : ∃ n, n = C.length := ⟨_, rfl⟩
    obtain ⟨nu, hnu⟩ : ∃ n, n = T.length := ⟨_, rfl⟩
    obtain ⟨ce, hce⟩ : ∃ x, x = chkE C := ⟨_, rfl⟩
    rw [← hce] at HCH h0
    rw [← hn] at HCH ⊢
    rw [← hnu]
    rw [← hce] at HV
    have h1 : (ce != 0) = true := by simp [h0]
    clear hn hnu hce h0 hC hT hAS
    go_enter Try.func13, Try.ntmps13
    go_wp2_with (go_at_call 17; refine HCH.out.mono ?_; rintro e w5 ⟨rfl, rfl⟩)
    refine bodyPost_ret (results_tmp2 rfl _ _ _) rfl ?_
    exact ⟨by rw [HV.out]; rfl, Below.refl _ _⟩
end Go.Proofs.Ythkmbbgcadfilaa
