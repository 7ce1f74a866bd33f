/- right, Check. -/
import Derived.Test.YthkmbbgcadfilaaC
namespace Go.Proofs.Ythkmbbgcadfilaa
open Go.RowKit Go.Shelf

set_option maxRecDepth 100000 in
set_option maxHeartbeats 4000000 in
theorem right_call (C : List (List Int)) (vc : Value) (w : World) (hC : NRest w.heap.size w C vc) :
    Calls Try.prog 36 #[vc] w fun e w' => e = .returned (.bool (rightB C)) ∧ w' = w := by
  obtain ⟨a, c, rfl⟩ := nrest_shape hC
  have HCO := Lib.hid (columns_call C _ w hC)
  obtain ⟨-, hac, ham, hat⟩ := rows_at hC
  obtain ⟨n, hn⟩ : ∃ n, n = C.length := ⟨_, rfl⟩
  rw [← hn] at hac hat HCO ⊢
  have HAT := Lib.hid hat
  have HN := Lib.hid hn
  have HNM : Hid (n ≤ maxLen) := Lib.hid (by omega)
  obtain ⟨mc, hmc⟩ : ∃ m, m = colsN C := ⟨_, rfl⟩
  rw [← hmc] at HCO
  have HMC := Lib.hid hmc
  clear hat hn hC hmc
  go_enter Try.func36, Try.ntmps36
  go_upto_region 2 with (fail)
  go_loopw [9] (fun s9 wr => ∃ (k : Nat), k ≤ n ∧ s9 = .int .i64 (k : Int) ∧ wr = w ∧ ∀ i, i < k → rowB mc (C.getD i []) = true) (fun s9 _ => n - (intOf s9).toNat)
  case atStart => exact ⟨0, by omega, rfl, rfl, fun i hi => by omega⟩
  case round =>
    obtain ⟨k, hk, rfl, rfl, hall⟩ := hrel
    have HALL := Lib.hid hall
    have HK := Lib.hid hk
    clear hall hk
    by_cases hlt : k < n
    · have hki : (k : Int) < (n : Int) := by omega
      have HLT := Lib.hid hlt
      have HWK := Lib.hid (wrap_succ hlt HNM.out)
      obtain ⟨b, off, ra, rc, q1, hb, f1, hrow⟩ := HAT.out k (by have := HN.out; omega)
      subst q1
      obtain ⟨r, hr⟩ : ∃ r, r = C.getD k [] := ⟨_, rfl⟩
      rw [← hr] at f1 hrow
      obtain ⟨-, hrc, hrm, hrt⟩ := ints_at hrow
      obtain ⟨m, hm⟩ : ∃ m, m = r.length := ⟨_, rfl⟩
      rw [← hm] at f1 hrc hrt
      have HR := Lib.hid (And.intro hr hm)
      have HRT := Lib.hid hrt
      have HBAD : Hid (rowB mc r = false → rightB C = false) := Lib.hid (fun h => by
        unfold rightB
        exact all_at (k := k) (d := []) (by have := HN.out; omega) (by rw [← HMC.out, ← HR.out.1]; exact h))
      clear hr hm hrow hrt hlt hb
      by_cases hmm : m = mc
      · subst hmm
        have hne : ((m : Int) != (m : Int)) = false := by simp
        go_upto_region 7 with (go_at_call 46; refine HCO.out.mono ?_; rintro e w5 ⟨rfl, rfl⟩)
        go_loopw [20] (fun s20 wr2 => ∃ (j : Nat), j ≤ m ∧ s20 = .int .i64 (j : Int) ∧ wr2 = w5 ∧ ∀ i, i < j → elB (r.getD i 0) = true) (fun s20 _ => m - (intOf s20).toNat)
        case atStart => exact ⟨0, by omega, rfl, rfl, fun i hi => by omega⟩
        case round =>
          obtain ⟨j, hj, rfl, rfl, hall2⟩ := hrel
          have HALL2 := Lib.hid hall2
          have HJ := Lib.hid hj
          clear hall2 hj
          by_cases hjlt : j < m
          · have hji : (j : Int) < (m : Int) := by omega
            have HJL := Lib.hid hjlt
            have HWJ := Lib.hid (wrap_succ hjlt (show m ≤ maxLen by omega))
            obtain ⟨hxI, b2, off2, q2, -, f2⟩ := HRT.out j (by have := HR.out; omega)
            subst q2
            obtain ⟨x, hx⟩ : ∃ x, x = r.getD j 0 := ⟨_, rfl⟩
            rw [← hx] at f2 hxI
            have HX := Lib.hid hx
            have HBAD2 : Hid (elB x = false → rightB C = false) := Lib.hid (fun h => HBAD.out (by
              unfold rowB
              rw [all_at (k := j) (d := 0) (by have := HR.out; have := HJL.out; omega) (by rw [← HX.out]; exact h)]; simp))
            clear hx hjlt
            by_cases x1 : x = -1
            · have g1 : (x != -1) = false := by simp [x1]
              have HOK : Hid (elB x = true) := Lib.hid (decide_eq_true (by omega))
              clear x1
              go_wp2_with fail
              refine ⟨⟨j + 1, by have := HJL.out; omega, by first | rw [HWJ.out, Int.natCast_succ] | go_num, by first | rfl | trivial, fun i hi => ?_⟩, by have := HJL.out; first | exact back_less this HWJ.out | (simp [intOf]; omega)⟩
              rcases Nat.lt_or_ge i j with h9 | h9
              · exact HALL2.out i h9
              · obtain rfl : i = j := by omega
                rw [← HX.out]; exact HOK.out
            · have g1 : (x != -1) = true := by simp [x1]
              by_cases x2 : x < 0
              · have g2 : decide (x < 0) = true := decide_eq_true x2
                have HV := Lib.hid (HBAD2.out (decide_eq_false (by omega)))
                clear x1
                go_wp2_with fail
                go_ret
                exact ⟨by rw [HV.out]; rfl, by first | rfl | trivial⟩
              · have g2 : decide (x < 0) = false := decide_eq_false x2
                by_cases x3 : 1073741824 < x
                · have g3 : decide (1073741824 < x) = true := decide_eq_true x3
                  have HV := Lib.hid (HBAD2.out (decide_eq_false (by omega)))
                  clear x1
                  go_wp2_with fail
                  go_ret
                  exact ⟨by rw [HV.out]; rfl, by first | rfl | trivial⟩
                · have g3 : decide (1073741824 < x) = false := decide_eq_false x3
                  have HOK : Hid (elB x = true) := Lib.hid (decide_eq_true (by omega))
                  clear x1 x2 x3
                  go_wp2_with fail
                  refine ⟨⟨j + 1, by have := HJL.out; omega, by first | rw [HWJ.out, Int.natCast_succ] | go_num, by first | rfl | trivial, fun i hi => ?_⟩, by have := HJL.out; first | exact back_less this HWJ.out | (simp [intOf]; omega)⟩
                  rcases Nat.lt_or_ge i j with h9 | h9
                  · exact HALL2.out i h9
                  · obtain rfl : i = j := by omega
                    rw [← HX.out]; exact HOK.out
          · obtain rfl : j = m := by have := HJ.out; omega
            have HOK : Hid (rowB j r = true) := Lib.hid (by
              unfold rowB
              rw [decide_eq_true (by have := HR.out; omega), all_upto (d := 0) (by have := HR.out; omega) HALL2.out]; rfl)
            go_wp2_with fail
            refine ⟨⟨k + 1, by have := HLT.out; omega, by first | rw [HWK.out, Int.natCast_succ] | go_num, by first | rfl | trivial, fun i hi => ?_⟩, by have := HLT.out; first | exact back_less this HWK.out | (simp [intOf]; omega)⟩
            rcases Nat.lt_or_ge i k with h9 | h9
            · exact HALL.out i h9
            · obtain rfl : i = k := by omega
              rw [← HR.out.1]; exact HOK.out
      · have hne : ((m : Int) != (mc : Int)) = true := by simp; omega
        have HV := Lib.hid (HBAD.out (by unfold rowB; rw [decide_eq_false (by have := HR.out; omega)]; rfl))
        clear hmm
        go_wp2_with (go_at_call 46; refine HCO.out.mono ?_; rintro e w5 ⟨rfl, rfl⟩)
        go_ret
        exact ⟨by rw [HV.out]; rfl, by first | rfl | trivial⟩
    · obtain rfl : k = n := by have := HK.out; omega
      have HV : Hid (rightB C = true) := Lib.hid (by
        unfold rightB
        exact all_upto (k := k) (d := []) (by have := HN.out; omega) (fun i hi => by rw [← HMC.out]; exact HALL.out i hi))
      go_wp2_with fail
      go_ret
      exact ⟨by rw [HV.out]; rfl, by first | rfl | trivial⟩
set_option maxRecDepth 100000 in
set_option maxHeartbeats 4000000 in
theorem check_call (C : List (List Int)) (vc : Value) (w : World) (hC : NRest w.heap.size w C vc) :
    Calls Try.prog 17 #[vc] w fun e w' => e = .returned (.int .i64 (chkE C)) ∧ w' = w := by
  have HS := Lib.hid (small_call C vc w hC)
  have HR := Lib.hid (right_call C vc w hC)
  obtain ⟨a, c, rfl⟩ := nrest_shape hC
  clear hC
  obtain ⟨n, hn⟩ : ∃ n, n = C.length := ⟨_, rfl⟩
  rw [← hn] at HS HR ⊢
  clear hn
  go_enter Try.func17, Try.ntmps17
  cases hs : smallB C with
  | false =>
    rw [hs] at HS
    have HV : Hid (chkE C = 2) := Lib.hid (by unfold chkE; rw [hs]; rfl)
    clear hs
    go_wp2_with (go_at_call 35; refine HS.out.mono ?_; rintro e w5 ⟨rfl, rfl⟩)
    go_ret
    exact ⟨by rw [HV.out]; rfl, by first | rfl | trivial⟩
  | true =>
    rw [hs] at HS
    cases hr : rightB C with
    | false =>
      rw [hr] at HR
      have HV : Hid (chkE C = 140) := Lib.hid (by unfold chkE; rw [hs, hr]; rfl)
      clear hs hr
      go_wp2_with (first | (go_at_call 35; refine HS.out.mono ?_; rintro e w5 ⟨rfl, rfl⟩) | (go_at_call 36; refine HR.out.mono ?_; rintro e w6 ⟨rfl, rfl⟩))
      go_ret
      exact ⟨by rw [HV.out]; rfl, by first | rfl | trivial⟩
    | true =>
      rw [hr] at HR
      have HV : Hid (chkE C = 0) := Lib.hid (by unfold chkE; rw [hs, hr]; rfl)
      clear hs hr
      go_wp2_with (first | (go_at_call 35; refine HS.out.mono ?_; rintro e w5 ⟨rfl, rfl⟩) | (go_at_call 36; refine HR.out.mono ?_; rintro e w6 ⟨rfl, rfl⟩))
      go_ret
      exact ⟨by rw [HV.out]; rfl, by first | rfl | trivial⟩
end Go.Proofs.Ythkmbbgcadfilaa
