/- fit: do prices fit right costs? -/
import Derived.Test.YthkmbbgcadfilaaNa
import Derived.BigQuiet
namespace Go.Proofs.Ythkmbbgcadfilaa
open Go.RowKit Go.Shelf

theorem below_drewN {B : Nat} {a w : World} (h : Below B a w) (n : Nat) : Below B a (w.drewN n) := ⟨h.os, h.tape, h.output, h.size, h.block⟩
theorem getDD {C : List (List Int)} {n m : Nat} (hM : Mat C n m) {i j : Nat} (hi : i < n) (hj : j < m) : (C.getD i []).getD j 0 = cst C i j := by
  unfold cst
  have hjl : j < (C.getD i []).length := by rw [hM.row i hi]; exact hj
  rw [List.getD_eq_getElem?_getD (l := C.getD i []), List.getD_eq_getElem?_getD (l := C.getD i []), List.getElem?_eq_getElem hjl]; rfl
/-- what fit asks -/
def FitL (C : List (List Int)) (n m : Nat) (U V : List Int) : Prop :=
  U.length = n ∧ V.length = m ∧ betB U 1099511627776 = true ∧ betB V 0 = true ∧ ∀ i j, i < n → j < m → cst C i j ≠ -1 → U.getD i 0 + V.getD j 0 ≤ cst C i j
open Classical in
noncomputable def fitB (C : List (List Int)) (n m : Nat) (U V : List Int) : Bool := if FitL C n m U V then true else false
theorem fitB_yes {C : List (List Int)} {n m : Nat} {U V : List Int} (h : FitL C n m U V) : fitB C n m U V = true := if_pos h
theorem fitB_no {C : List (List Int)} {n m : Nat} {U V : List Int} (h : ¬ FitL C n m U V) : fitB C n m U V = false := if_neg h
theorem bet_at {L : List Int} {top : Int} {i : Nat} (h : betB L top = true) (hi : i < L.length) : -1099511627776 ≤ L.getD i 0 ∧ L.getD i 0 ≤ top := by
  have := all_get (d := 0) h hi
  exact of_decide_eq_true this
set_option maxRecDepth 100000 in
set_option maxHeartbeats 8000000 in
theorem fit_call {n m : Nat} (C : List (List Int)) (U V : List Int) (vc vu vv : Value) (w : World) (hM : Mat C n m) (hm : colsN C = m) (hC : NRest w.heap.size w C vc) (hU : IRest w.heap.size w U vu) (hV : IRest w.heap.size w V vv) :
    Calls Try.prog 37 #[vc, vu, vv] w fun e w' => e = .returned (.bool (fitB C n m U V)) ∧ Below w.heap.size w w' := by
  obtain ⟨a, c, rfl⟩ := nrest_shape hC
  obtain ⟨au, cu, rfl⟩ := irest_shape hU
  obtain ⟨av, cv, rfl⟩ := irest_shape hV
  have HCC := Lib.hid (columns_call C (.slice a C.length c) w hC)
  have HBU := Lib.hid (between_call U (.slice au U.length cu) 1099511627776 w hU)
  have HBV := Lib.hid (between_call V (.slice av V.length cv) 0 w hV)
  have HM := Lib.hid hM
  have hn := hM.len
  have hn16 := hM.n16
  have hm16 := hM.m16
  obtain ⟨-, hac, ham, hat⟩ := rows_at hC
  obtain ⟨-, huc, hum, hut⟩ := ints_at hU
  obtain ⟨-, hvc, hvm, hvt⟩ := ints_at hV
  have HAT := Lib.hid hat
  have HUT := Lib.hid hut
  have HVT := Lib.hid hvt
  have HN := Lib.hid hn
  rw [hn] at HCC hac ⊢
  rw [hm] at HCC
  obtain ⟨nu, hnu⟩ : ∃ x, x = U.length := ⟨_, rfl⟩
  obtain ⟨nv, hnv⟩ : ∃ x, x = V.length := ⟨_, rfl⟩
  rw [← hnu] at HBU huc ⊢
  rw [← hnv] at HBV hvc ⊢
  have HNU := Lib.hid hnu
  have HNV := Lib.hid hnv
  clear hat hut hvt hM hC hU hV hm hn hnu hnv
  go_enter Try.func37, Try.ntmps37
  by_cases h1 : nu = n
  · subst h1
    have g1 : ((nu : Int) != (nu : Int)) = false := by simp
    by_cases h2 : nv = m
    · subst h2
      have g2 : ((nv : Int) != (nv : Int)) = false := by simp
      cases h3 : betB U 1099511627776 with
      | false =>
        rw [h3] at HBU
        have HV : Hid (fitB C nu nv U V = false) := Lib.hid (fitB_no (fun h => by have := h.2.2.1; rw [h3] at this; cases this))
        clear h3
        go_wp2_with (first | (go_at_call 52; with_reducible refine HBU.out.mono ?_; rintro e w5 ⟨rfl, rfl⟩) | (go_at_call 46; refine HCC.out.mono ?_; rintro e w5 ⟨rfl, rfl⟩))
        go_ret
        exact ⟨by rw [HV.out]; rfl, Below.refl _ _⟩
      | true =>
        rw [h3] at HBU
        cases h4 : betB V 0 with
        | false =>
          rw [h4] at HBV
          have HV : Hid (fitB C nu nv U V = false) := Lib.hid (fitB_no (fun h => by have := h.2.2.2.1; rw [h4] at this; cases this))
          clear h3 h4
          go_wp2_with (first | (go_at_call 52; with_reducible refine HBV.out.mono ?_; rintro e w5 ⟨rfl, rfl⟩) | (go_at_call 52; with_reducible refine HBU.out.mono ?_; rintro e w5 ⟨rfl, rfl⟩) | (go_at_call 46; refine HCC.out.mono ?_; rintro e w5 ⟨rfl, rfl⟩))
          go_ret
          exact ⟨by rw [HV.out]; rfl, Below.refl _ _⟩
        | true =>
          rw [h4] at HBV
          have H3 := Lib.hid h3
          have H4 := Lib.hid h4
          clear h3 h4
          go_upto_region 2 with (first | (go_at_call 52; with_reducible refine HBV.out.mono ?_; rintro e w5 ⟨rfl, rfl⟩) | (go_at_call 52; with_reducible refine HBU.out.mono ?_; rintro e w5 ⟨rfl, rfl⟩) | (go_at_call 46; refine HCC.out.mono ?_; rintro e w5 ⟨rfl, rfl⟩))
          clear HBU HBV HCC
          go_upto_region 4 with (fail)
          obtain ⟨w0, hw0⟩ : ∃ w0, w0 = w5 := ⟨_, rfl⟩
          have hk0 : Below w0.heap.size w0 w5 := by rw [hw0]; exact Below.refl _ _
          rw [← hw0] at HAT HUT HVT
          have HK0 := Lib.hid hk0
          have HR0 : Hid (∀ W, Below w0.heap.size w0 W → Below w5.heap.size w5 W) := Lib.hid (by rw [hw0]; exact fun _ h => h)
          clear hk0 hw0
          go_loopw [35] (fun s35 wr => ∃ (k : Nat), k ≤ nu ∧ s35 = .int .i64 (k : Int) ∧ Below w0.heap.size w0 wr ∧ ∀ i j, i < k → j < nv → cst C i j ≠ -1 → U.getD i 0 + V.getD j 0 ≤ cst C i j) (fun s35 _ => nu - (intOf s35).toNat)
          case atStart => exact ⟨0, by omega, rfl, HK0.out, fun i j hi => by omega⟩
          case round =>
            obtain ⟨k, hk, rfl, hb, hall⟩ := hrel
            have HALL := Lib.hid hall
            have HK := Lib.hid hk
            have HB := Lib.hid hb
            clear hall hk hb HK0
            by_cases hlt : k < nu
            · have hki : (k : Int) < (nu : Int) := by omega
              have HLT := Lib.hid hlt
              have HWK := Lib.hid (wrap_succ hlt (show nu ≤ maxLen by unfold maxLen; omega))
              obtain ⟨b, off, ra, rc, q1, hbl, f1, hrow⟩ := HAT.out k (by have := HN.out; omega)
              obtain ⟨-, bu, offu, q2, hbu, f2⟩ := HUT.out k (by have := HNU.out; omega)
              subst q1 q2
              have hrl := HM.out.row k hlt
              obtain ⟨-, hrc, hrm, hrt⟩ := ints_at hrow
              rw [hrl] at f1 hrc hrt
              obtain ⟨u, hu⟩ : ∃ u, u = U.getD k 0 := ⟨_, rfl⟩
              rw [← hu] at f2
              have HU := Lib.hid hu
              have HUB : Hid (-1099511627776 ≤ u ∧ u ≤ 1099511627776) := Lib.hid (by rw [hu]; exact bet_at H3.out (by have := HNU.out; omega))
              have HRT := Lib.hid hrt
              have d1 := (HB.out.cell (p := ⟨b, off + k, none⟩) hbl).trans f1
              have HD2 := Lib.hid (And.intro hbu f2)
              clear hu hrow hrt hlt hbl f1 hbu f2 hrl
              go_upto_region 6 with (fail)
              go_upto_region 7 with (fail)
              have d2 := (HB.out.cell (p := ⟨bu, offu + k, none⟩) HD2.out.1).trans HD2.out.2
              go_loopw [42] (fun s42 wr2 => ∃ (j : Nat), j ≤ nv ∧ s42 = .int .i64 (j : Int) ∧ Below w0.heap.size w0 wr2 ∧ ∀ i, i < j → cst C k i ≠ -1 → u + V.getD i 0 ≤ cst C k i) (fun s42 _ => nv - (intOf s42).toNat)
              case atStart => exact ⟨0, by omega, rfl, HB.out, fun i hi => by omega⟩
              case round =>
                obtain ⟨j, hj, rfl, hb2, hall2⟩ := hrel
                have HALL2 := Lib.hid hall2
                have HJ := Lib.hid hj
                have HB2 := Lib.hid hb2
                clear hall2 hj hb2 d1 d2
                by_cases hjlt : j < nv
                · have hji : (j : Int) < (nv : Int) := by omega
                  have HJL := Lib.hid hjlt
                  have HWJ := Lib.hid (wrap_succ hjlt (show nv ≤ maxLen by unfold maxLen; omega))
                  obtain ⟨-, b2, off2, q3, hb2l, f3⟩ := HRT.out j (by have := HM.out.row k HLT.out; omega)
                  obtain ⟨-, bv, offv, q4, hbv, f4⟩ := HVT.out j (by have := HNV.out; omega)
                  subst q3 q4
                  obtain ⟨x, hx⟩ : ∃ x, x = (C.getD k []).getD j 0 := ⟨_, rfl⟩
                  obtain ⟨v, hv⟩ : ∃ v, v = V.getD j 0 := ⟨_, rfl⟩
                  rw [← hx] at f3
                  rw [← hv] at f4
                  have hxc : x = cst C k j := by
                    rw [hx]; unfold cst
                    have hjl : j < (C.getD k []).length := by rw [HM.out.row k HLT.out]; exact hjlt
                    rw [List.getD_eq_getElem?_getD (l := C.getD k []), List.getD_eq_getElem?_getD (l := C.getD k []), List.getElem?_eq_getElem hjl]; rfl
                  have hel := HM.out.el k j HLT.out hjlt
                  rw [← hxc] at hel
                  have hvb : -1099511627776 ≤ v ∧ v ≤ 0 := by rw [hv]; exact bet_at H4.out (by have := HNV.out; omega)
                  have HXV := Lib.hid (And.intro hxc hv)
                  have d3 := (HB2.out.cell (p := ⟨b2, off2 + j, none⟩) hb2l).trans f3
                  have HD1 : Hid (∀ W, Below w0.heap.size w0 W → W.cell? ⟨bu, offu + k, none⟩ = some (.int .i64 u)) := Lib.hid (fun W h => (h.cell (p := ⟨bu, offu + k, none⟩) HD2.out.1).trans HD2.out.2)
                  have HD4 : Hid (∀ W, Below w0.heap.size w0 W → W.cell? ⟨bv, offv + j, none⟩ = some (.int .i64 v)) := Lib.hid (fun W h => (h.cell (p := ⟨bv, offv + j, none⟩) hbv).trans f4)
                  have hw : IntKind.i64.wrap (u + v) = u + v := by have := HUB.out; rw [IntKind.wrap_i64]; omega
                  clear hx hv hxc hjlt hb2l f3 hbv f4
                  go_upto_region 9 with (fail)
                  have e1 := HD1.out _ HB2.out
                  have e2 := HD4.out _ HB2.out
                  clear d3
                  by_cases x1 : x = -1
                  · have g1 : (x != -1) = false := by simp [x1]
                    have HX1 := Lib.hid x1
                    clear x1 hw
                    go_quiet (fail)
                    go_wp2_with fail
                    refine ⟨⟨j + 1, by have := HJL.out; omega, by first | rw [HWJ.out, Int.natCast_succ] | go_num, below_drewN HB2.out _, fun i hi hne => ?_⟩, by have := HJL.out; first | exact back_less this HWJ.out | (simp [intOf]; omega)⟩
                    rcases Nat.lt_or_ge i j with h9 | h9
                    · exact HALL2.out i h9 hne
                    · obtain rfl : i = j := by omega
                      exact absurd (by rw [← HXV.out.1]; exact HX1.out) hne
                  · have g1 : (x != -1) = true := by simp [x1]
                    have HX1 := Lib.hid x1
                    clear x1
                    by_cases x2 : x < u + v
                    · have g2 : decide (x < u + v) = true := decide_eq_true x2
                      have HV : Hid (fitB C nu nv U V = false) := Lib.hid (fitB_no (fun h => by
                        have := h.2.2.2.2 k j HLT.out HJL.out (by rw [← HXV.out.1]; exact HX1.out)
                        have := HXV.out
                        have := HU.out
                        omega))
                      clear x2
                      go_quiet (fail)
                      go_wp2_with fail
                      go_ret
                      exact ⟨by rw [HV.out]; rfl, HR0.out _ (below_drewN HB2.out _)⟩
                    · have g2 : decide (x < u + v) = false := decide_eq_false x2
                      have HX2 := Lib.hid x2
                      clear x2
                      go_quiet (fail)
                      go_wp2_with fail
                      refine ⟨⟨j + 1, by have := HJL.out; omega, by first | rw [HWJ.out, Int.natCast_succ] | go_num, below_drewN HB2.out _, fun i hi hne => ?_⟩, by have := HJL.out; first | exact back_less this HWJ.out | (simp [intOf]; omega)⟩
                      rcases Nat.lt_or_ge i j with h9 | h9
                      · exact HALL2.out i h9 hne
                      · obtain rfl : i = j := by omega
                        have := HX2.out
                        have := HXV.out
                        omega
                · obtain rfl : j = nv := by have := HJ.out; omega
                  go_wp2_with fail
                  refine ⟨⟨k + 1, by have := HLT.out; omega, by first | rw [HWK.out, Int.natCast_succ] | go_num, HB2.out, fun i j2 hi hj2 hne => ?_⟩, by have := HLT.out; first | exact back_less this HWK.out | (simp [intOf]; omega)⟩
                  rcases Nat.lt_or_ge i k with h9 | h9
                  · exact HALL.out i j2 h9 hj2 hne
                  · obtain rfl : i = k := by omega
                    have := HALL2.out j2 hj2 hne
                    have := HU.out
                    omega
            · obtain rfl : k = nu := by have := HK.out; omega
              have HV : Hid (fitB C k nv U V = true) := Lib.hid (fitB_yes ⟨HNU.out.symm, HNV.out.symm, H3.out, H4.out, HALL.out⟩)
              go_wp2_with fail
              go_ret
              exact ⟨by rw [HV.out]; rfl, HR0.out _ HB.out⟩
    · have g2 : ((nv : Int) != (m : Int)) = true := by simp; omega
      have HV : Hid (fitB C nu m U V = false) := Lib.hid (fitB_no (fun h => h2 (by rw [HNV.out]; exact h.2.1)))
      clear h2
      go_wp2_with (first | (go_at_call 46; refine HCC.out.mono ?_; rintro e w5 ⟨rfl, rfl⟩))
      go_ret
      exact ⟨by rw [HV.out]; rfl, Below.refl _ _⟩
  · have g1 : ((nu : Int) != (n : Int)) = true := by simp; omega
    have HV : Hid (fitB C n m U V = false) := Lib.hid (fitB_no (fun h => h1 (by rw [HNU.out]; exact h.1)))
    clear h1
    go_wp2_with fail
    go_ret
    exact ⟨by rw [HV.out]; rfl, Below.refl _ _⟩
end Go.Proofs.Ythkmbbgcadfilaa
