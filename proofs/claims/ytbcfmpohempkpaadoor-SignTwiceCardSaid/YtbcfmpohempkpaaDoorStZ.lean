/- SignTwice: the law's walk. -/
import Derived.Test.YtbcfmpohempkpaaDoorSqZ
namespace Go.Proofs.YtbcfmpohempkpaaDoor.Dig
open Go.RowKit

theorem verR_parts {key : Int} {b : List UInt8} {E S : Int} (h : verR key b E S = true) : valid key = true ∧ Rq E ∧ Rq S := by
  unfold verR at h
  rw [Bool.and_eq_true, Bool.and_eq_true, Bool.and_eq_true] at h
  exact ⟨h.1, inE_rng h.2.1, inE_rng h.2.2.1⟩
theorem row2_first (w : World) (E S E' S' : Int) : Row ((w.alloc (.cells #[.int .i64 E, .int .i64 S] 24)).alloc (.cells #[.int .i64 E', .int .i64 S'] 24)) w.heap.size 24 [.int .i64 E, .int .i64 S] :=
  (row_new w 24 [.int .i64 E, .int .i64 S]).push _
theorem row2_second (w : World) (E S E' S' : Int) : Row ((w.alloc (.cells #[.int .i64 E, .int .i64 S] 24)).alloc (.cells #[.int .i64 E', .int .i64 S'] 24)) (w.heap.size + 1) 24 [.int .i64 E', .int .i64 S'] :=
  row_at (w := w.alloc (.cells #[.int .i64 E, .int .i64 S] 24)) 24 [.int .i64 E', .int .i64 S'] _ (by simp)
theorem rest_len {w : World} {b : List UInt8} {v : Value} (h : Rest w.heap.size w b v) : ∃ a cap, v = .slice a b.length cap ∧ (b.length : Int) ≤ 9223372036854775807 := by
  obtain ⟨a, cap, rfl, h1, h2, _⟩ := h
  unfold maxLen at h2
  exact ⟨a, cap, rfl, by omega⟩
set_option maxHeartbeats 40000000 in
set_option maxRecDepth 100000 in
theorem twice_walk (key : Int) (b c d : List UInt8) (vb vc vd : Value) (E S E' S' : Int) (w : World) (hk : I64 key) (hE : I64 E) (hS : I64 S) (hE' : I64 E') (hS' : I64 S') (hb : Rest w.heap.size w b vb) (hc : Rest w.heap.size w c vc) (hd : Rest w.heap.size w d vd) (hT : Tab w) :
    Calls Tryd.prog 6 #[.int .i64 key, vb, vc, vd, sgV E S, sgV E' S'] w fun e w' => e = .returned (.bool true) ∧ Below w.heap.size w w' := by
  obtain ⟨W0, hW0⟩ : ∃ W, W = (w.alloc (.cells #[.int .i64 E, .int .i64 S] 24)).alloc (.cells #[.int .i64 E', .int .i64 S'] 24) := ⟨_, rfl⟩
  have HB0 : Hid (Below w.heap.size w W0) := Lib.hid (by rw [hW0]; exact below_next (Joins.below_alloc1 _ _) (Joins.below_alloc1 _ _))
  have R0 : Hid (Row W0 w.heap.size 24 [.int .i64 E, .int .i64 S]) := Lib.hid (by rw [hW0]; exact row2_first w E S E' S')
  have Q0 : Hid (Row W0 (w.heap.size + 1) 24 [.int .i64 E', .int .i64 S']) := Lib.hid (by rw [hW0]; exact row2_second w E S E' S')
  have HT := Lib.hid (hT.keep HB0.out)
  have HS := Lib.hid (sane_call _ HT.out)
  obtain ⟨ba, bc, rfl, hbm⟩ := rest_len hb
  obtain ⟨ca, cc, rfl, hcm⟩ := rest_len hc
  obtain ⟨da, dc, rfl, hdm⟩ := rest_len hd
  have HRB := Lib.hid (rest_keep hb HB0.out)
  have HRC := Lib.hid (rest_keep hc HB0.out)
  have HRD := Lib.hid (rest_keep hd HB0.out)
  obtain ⟨l1, hl1⟩ : ∃ l, l = b.length := ⟨_, rfl⟩
  obtain ⟨l2, hl2⟩ : ∃ l, l = c.length := ⟨_, rfl⟩
  obtain ⟨l3, hl3⟩ : ∃ l, l = d.length := ⟨_, rfl⟩
  have HL1 := Lib.hid hl1
  have HL2 := Lib.hid hl2
  have HL3 := Lib.hid hl3
  rw [← hl1] at hbm
  rw [← hl2] at hcm
  rw [← hl3] at hdm
  rw [← hl1, ← hl2, ← hl3]
  clear hb hc hd hT hl1 hl2 hl3
  by_cases h1 : (600 : Int) < (l1 : Int)
  · go_enter Tryd.func6, Tryd.ntmps6
    go_wp2_with fail
    rw [← hW0]
    clear hW0
    refine HS.out.mono ?_
    rintro e w1 ⟨rfl, hx⟩
    have HB1 := Lib.hid hx
    clear hx
    go_wp2_with fail
    go_ret
    exact ⟨rfl, below_next HB0.out HB1.out⟩
  · skip
    by_cases h2 : (600 : Int) < (l2 : Int)
    · go_enter Tryd.func6, Tryd.ntmps6
      go_wp2_with fail
      rw [← hW0]
      clear hW0
      refine HS.out.mono ?_
      rintro e w1 ⟨rfl, hx⟩
      have HB1 := Lib.hid hx
      clear hx
      go_wp2_with fail
      go_ret
      exact ⟨rfl, below_next HB0.out HB1.out⟩
    · skip
      by_cases h3 : (600 : Int) < (l3 : Int)
      · go_enter Tryd.func6, Tryd.ntmps6
        go_wp2_with fail
        rw [← hW0]
        clear hW0
        refine HS.out.mono ?_
        rintro e w1 ⟨rfl, hx⟩
        have HB1 := Lib.hid hx
        clear hx
        go_wp2_with fail
        go_ret
        exact ⟨rfl, below_next HB0.out HB1.out⟩
      · have HVB : Hid (∀ W, Below W0.heap.size W0 W → Calls Tryd.prog 10 #[.int .i64 key, .slice ba l1 bc, sgV E S] W fun e w' => e = .returned (.bool (verR key b E S)) ∧ Below W.heap.size W w') := Lib.hid (fun W hW => by
          have := Verify_call key b (.slice ba b.length bc) E S W hk (by rw [← HL1.out]; omega) (rest_keep HRB.out hW) (HT.out.keep hW)
          rwa [← HL1.out] at this)
        have HVC : Hid (∀ W, Below W0.heap.size W0 W → Calls Tryd.prog 10 #[.int .i64 key, .slice ca l2 cc, sgV E' S'] W fun e w' => e = .returned (.bool (verR key c E' S')) ∧ Below W.heap.size W w') := Lib.hid (fun W hW => by
          have := Verify_call key c (.slice ca c.length cc) E' S' W hk (by rw [← HL2.out]; omega) (rest_keep HRC.out hW) (HT.out.keep hW)
          rwa [← HL2.out] at this)
        by_cases hv1 : verR key b E S = true
        · have V1 := Lib.hid hv1
          by_cases hv2 : verR key c E' S' = true
          · have V2 := Lib.hid hv2
            obtain ⟨kv, ⟨e0, e1⟩, s0, s1⟩ := verR_parts hv1
            obtain ⟨-, ⟨f0, f1⟩, t0, t1⟩ := verR_parts hv2
            have HP1 := Lib.hid (fun W => lawpoint_call key E S W kv ⟨e0, e1⟩ ⟨s0, s1⟩)
            have HP2 := Lib.hid (fun W => lawpoint_call key E' S' W kv ⟨f0, f1⟩ ⟨t0, t1⟩)
            have hw1 : wrap64 (E - E') = E - E' := by unfold wrap64; omega
            have hw2 : wrap64 (S - S') = S - S' := by unfold wrap64; omega
            have HMD := Lib.hid (fun W => mod_call (E - E') W ⟨by omega, by omega⟩)
            have HTK : Hid (pt key E S = pt key E' S' → (E - E') % 1073741789 ≠ 0 → powQ 4 (quoQ (S - S') (E - E')) = key) := Lib.hid (twice_key kv)
            have HQ := Lib.hid (fun W => Quotient_call (S - S') (E - E') W ⟨by omega, by omega⟩ ⟨by omega, by omega⟩)
            have hzr := quoQ_rng (S - S') (E - E')
            obtain ⟨z, hz⟩ : ∃ z, z = quoQ (S - S') (E - E') := ⟨_, rfl⟩
            rw [← hz] at HTK HQ hzr
            obtain ⟨z0, z1⟩ := hzr
            obtain ⟨x, hxp⟩ : ∃ x, x = pt key E S := ⟨_, rfl⟩
            obtain ⟨y, hyp⟩ : ∃ y, y = pt key E' S' := ⟨_, rfl⟩
            rw [← hxp] at HP1 HTK
            rw [← hyp] at HP2 HTK
            obtain ⟨m, hm⟩ : ∃ m, m = (E - E') % 1073741789 := ⟨_, rfl⟩
            rw [← hm] at HMD HTK
            have HPW := Lib.hid (fun W => Pow_call 4 z W ⟨by omega, by omega⟩ ⟨by omega, by omega⟩)
            rw [powT_ok valid_4 rfl] at HPW
            have HSG : Hid (∀ W, Below W0.heap.size W0 W → Calls Tryd.prog 8 #[.int .i64 z, .slice da l3 dc] W fun e w' => e = .returned (signT z d) ∧ Below W.heap.size W w') := Lib.hid (fun W hW => by
              have := Sign_call z d (.slice da d.length dc) W ⟨by omega, by omega⟩ (by rw [← HL3.out]; omega) (rest_keep HRD.out hW) (HT.out.keep hW)
              rwa [← HL3.out] at this)
            have HVD : Hid (∀ A B W, Below W0.heap.size W0 W → Calls Tryd.prog 10 #[.int .i64 key, .slice da l3 dc, sgV A B] W fun e w' => e = .returned (.bool (verR key d A B)) ∧ Below W.heap.size W w') := Lib.hid (fun A B W hW => by
              have := Verify_call key d (.slice da d.length dc) A B W hk (by rw [← HL3.out]; omega) (rest_keep HRD.out hW) (HT.out.keep hW)
              rwa [← HL3.out] at this)
            clear hv1 hv2 hz hxp hyp hm kv
            go_enter Tryd.func6, Tryd.ntmps6
            go_wp2_with fail
            rw [← hW0]
            clear hW0
            refine HS.out.mono ?_
            rintro e w1 ⟨rfl, hx⟩
            have HB1 := Lib.hid hx
            clear hx
            have R1 := Lib.hid (R0.out.keep HB1.out)
            have Q1 := Lib.hid (Q0.out.keep HB1.out)
            have c0 := R1.out.cell (i := 0) rfl
            have c1 := R1.out.cell (i := 1) rfl
            go_wp2_with fail
            refine (HVB.out _ HB1.out).mono ?_
            rintro e w2 ⟨he, hx⟩
            rw [V1.out] at he
            subst he
            have HB2 := Lib.hid (below_next HB1.out hx)
            have R2 := Lib.hid (R1.out.keep hx)
            have Q2 := Lib.hid (Q1.out.keep hx)
            clear hx c0 c1
            have d0 := Q2.out.cell (i := 0) rfl
            have d1 := Q2.out.cell (i := 1) rfl
            go_wp2_with fail
            refine (HVC.out _ HB2.out).mono ?_
            rintro e w3 ⟨he, hx⟩
            rw [V2.out] at he
            subst he
            have HB3 := Lib.hid (below_next HB2.out hx)
            have R3 := Lib.hid (R2.out.keep hx)
            have Q3 := Lib.hid (Q2.out.keep hx)
            clear hx d0 d1
            have c0 := R3.out.cell (i := 0) rfl
            have c1 := R3.out.cell (i := 1) rfl
            go_wp2_with fail
            refine (HP1.out _).mono ?_
            rintro e w4 ⟨rfl, hx⟩
            have HB4 := Lib.hid (below_next HB3.out hx)
            have R4 := Lib.hid (R3.out.keep hx)
            have Q4 := Lib.hid (Q3.out.keep hx)
            clear hx c0 c1
            have d0 := Q4.out.cell (i := 0) rfl
            have d1 := Q4.out.cell (i := 1) rfl
            go_wp2_with fail
            refine (HP2.out _).mono ?_
            rintro e w5 ⟨rfl, hx⟩
            have HB5 := Lib.hid (below_next HB4.out hx)
            have R5 := Lib.hid (R4.out.keep hx)
            have Q5 := Lib.hid (Q4.out.keep hx)
            clear hx d0 d1
            have c0 := R5.out.cell (i := 0) rfl
            have c1 := R5.out.cell (i := 1) rfl
            have d0 := Q5.out.cell (i := 0) rfl
            have d1 := Q5.out.cell (i := 1) rfl
            by_cases hxy : x = y
            · have HKEY0 := Lib.hid (HTK.out hxy)
              clear HTK
              subst hxy
              go_wp2_with fail
              refine (HMD.out _).mono ?_
              rintro e w6 ⟨rfl, rfl⟩
              by_cases hm0 : m = 0
              · go_wp2_with fail
                go_ret
                exact ⟨rfl, below_next HB0.out HB5.out⟩
              · have HKEY := Lib.hid (HKEY0.out hm0)
                rw [HKEY.out] at HPW
                go_wp2_with fail
                refine (HQ.out _).mono ?_
                rintro e w7 ⟨rfl, rfl⟩
                go_wp2_with fail
                refine (HPW.out _).mono ?_
                rintro e w8 ⟨rfl, hx⟩
                have HB8 := Lib.hid (below_next HB5.out hx)
                clear hx c0 c1 d0 d1
                by_cases hz0 : z = 0
                · subst hz0
                  rw [sign_F d (by omega)] at HSG
                  go_wp2_with fail
                  refine (HSG.out _ HB8.out).mono ?_
                  rintro e w9 ⟨rfl, hx⟩
                  have HB9 := Lib.hid (below_next (below_next HB8.out hx) (Joins.below_alloc1 w9 (.cells #[.int .i64 0, .int .i64 0] 24)))
                  clear hx
                  go_wp2_with fail
                  go_ret
                  exact ⟨rfl, below_next HB0.out HB9.out⟩
                · rw [sign_T d (by omega)] at HSG
                  have HVR := Lib.hid (sign_right z d)
                  rw [HKEY.out] at HVR
                  obtain ⟨A, hA⟩ : ∃ A, A = sgE z d := ⟨_, rfl⟩
                  obtain ⟨B, hB⟩ : ∃ B, B = sgS z d := ⟨_, rfl⟩
                  rw [← hA, ← hB] at HSG HVR
                  clear hA hB
                  go_wp2_with fail
                  refine (HSG.out _ HB8.out).mono ?_
                  rintro e w9 ⟨rfl, hx⟩
                  have HB9 := Lib.hid (below_next (below_next HB8.out hx) (Joins.below_alloc1 w9 (.cells #[.int .i64 A, .int .i64 B] 24)))
                  clear hx
                  go_wp2_with fail
                  refine (HVD.out A B _ HB9.out).mono ?_
                  rintro e w10 ⟨he, hx⟩
                  rw [HVR.out] at he
                  subst he
                  go_wp2_with fail
                  go_ret
                  exact ⟨rfl, below_next HB0.out (below_next HB9.out hx)⟩
            · have hxb : (x == y) = false := by simpa using hxy
              go_wp2_with fail
              go_ret
              exact ⟨rfl, below_next HB0.out HB5.out⟩
          · have V2 : Hid (verR key c E' S' = false) := Lib.hid (by simpa using hv2)
            clear hv1 hv2
            go_enter Tryd.func6, Tryd.ntmps6
            go_wp2_with fail
            rw [← hW0]
            clear hW0
            refine HS.out.mono ?_
            rintro e w1 ⟨rfl, hx⟩
            have HB1 := Lib.hid hx
            clear hx
            have R1 := Lib.hid (R0.out.keep HB1.out)
            have Q1 := Lib.hid (Q0.out.keep HB1.out)
            have c0 := R1.out.cell (i := 0) rfl
            have c1 := R1.out.cell (i := 1) rfl
            go_wp2_with fail
            refine (HVB.out _ HB1.out).mono ?_
            rintro e w2 ⟨he, hx⟩
            rw [V1.out] at he
            subst he
            have HB2 := Lib.hid (below_next HB1.out hx)
            have R2 := Lib.hid (R1.out.keep hx)
            have Q2 := Lib.hid (Q1.out.keep hx)
            clear hx c0 c1
            have d0 := Q2.out.cell (i := 0) rfl
            have d1 := Q2.out.cell (i := 1) rfl
            go_wp2_with fail
            refine (HVC.out _ HB2.out).mono ?_
            rintro e w3 ⟨he, hx⟩
            rw [V2.out] at he
            subst he
            have HB3 := Lib.hid (below_next HB2.out hx)
            have R3 := Lib.hid (R2.out.keep hx)
            have Q3 := Lib.hid (Q2.out.keep hx)
            clear hx d0 d1
            go_wp2_with fail
            go_ret
            exact ⟨rfl, below_next HB0.out HB3.out⟩
        · have V1 : Hid (verR key b E S = false) := Lib.hid (by simpa using hv1)
          clear hv1
          go_enter Tryd.func6, Tryd.ntmps6
          go_wp2_with fail
          rw [← hW0]
          clear hW0
          refine HS.out.mono ?_
          rintro e w1 ⟨rfl, hx⟩
          have HB1 := Lib.hid hx
          clear hx
          have R1 := Lib.hid (R0.out.keep HB1.out)
          have Q1 := Lib.hid (Q0.out.keep HB1.out)
          have c0 := R1.out.cell (i := 0) rfl
          have c1 := R1.out.cell (i := 1) rfl
          go_wp2_with fail
          refine (HVB.out _ HB1.out).mono ?_
          rintro e w2 ⟨he, hx⟩
          rw [V1.out] at he
          subst he
          have HB2 := Lib.hid (below_next HB1.out hx)
          have R2 := Lib.hid (R1.out.keep hx)
          have Q2 := Lib.hid (Q1.out.keep hx)
          clear hx c0 c1
          go_wp2_with fail
          go_ret
          exact ⟨rfl, below_next HB0.out HB2.out⟩
end Go.Proofs.YtbcfmpohempkpaaDoor.Dig
