/- How many days sets have, and which one has which index: the law DaysCounted. -/
import Derived.Test.YtiicjmbnkjociaaDoorW
import Derived.Test.YtiicjmbnkjociaaDoorQ
namespace Go.Proofs.YtiicjmbnkjociaaDoor
open Go.RowKit

def arrV (x0 x1 x2 x3 x4 : Int) : Nat → List Value
  | 0 => [.int .i64 0, .int .i64 0, .int .i64 0, .int .i64 0, .int .i64 0]
  | 1 => [.int .i64 x0, .int .i64 0, .int .i64 0, .int .i64 0, .int .i64 0]
  | 2 => [.int .i64 x0, .int .i64 x1, .int .i64 0, .int .i64 0, .int .i64 0]
  | 3 => [.int .i64 x0, .int .i64 x1, .int .i64 x2, .int .i64 0, .int .i64 0]
  | 4 => [.int .i64 x0, .int .i64 x1, .int .i64 x2, .int .i64 x3, .int .i64 0]
  | _ + 5 => [.int .i64 x0, .int .i64 x1, .int .i64 x2, .int .i64 x3, .int .i64 x4]
theorem chk_cnt {l : List Sp} (h : chk l = 0) : countN l = cnt l := by unfold countN; rw [if_pos h]
set_option maxHeartbeats 40000000 in
set_option maxRecDepth 100000 in
theorem counted_walk (la lb : List Sp) (va vb : Value) (q : Int) (w : World) (ha : PRest w.heap.size w la va) (hb : PRest w.heap.size w lb vb) (hT : Tab w) (hq : I64 q) :
    Calls Tryd.prog 8 #[va, vb, .int .i64 q] w fun e w' => e = .returned (.bool true) ∧ Below w.heap.size w w' := by
  have BW := Lib.hid (Below.refl w.heap.size w)
  have CSA := Lib.hid (sane_call w hT)
  have PA := Lib.hid ha
  have PB := Lib.hid hb
  have CKA := Lib.hid (fun W va (h : PRest W.heap.size W la va) => Check_call la va _ W h (Nat.le_refl _))
  have CKB := Lib.hid (fun W vb (h : PRest W.heap.size W lb vb) => Check_call lb vb _ W h (Nat.le_refl _))
  obtain ⟨a1, c1, rfl, -, hm1, -⟩ := id ha
  obtain ⟨a2, c2, rfl, -, hm2, -⟩ := id hb
  have hka := fun h0 => chk_ok (l := la) h0
  have hkb := fun h0 => chk_ok (l := lb) h0
  have hml1 : la.length ≤ 9223372036854775807 := by obtain ⟨_, _, e, h1, h2, _⟩ := ha; injection e with _ e2 e3; unfold maxLen at h2; omega
  have hml2 : lb.length ≤ 9223372036854775807 := by obtain ⟨_, _, e, h1, h2, _⟩ := hb; injection e with _ e2 e3; unfold maxLen at h2; omega
  clear ha hb hm1 hm2 hT
  obtain ⟨na, hna⟩ : ∃ n, n = la.length := ⟨_, rfl⟩
  obtain ⟨nb, hnb⟩ : ∃ n, n = lb.length := ⟨_, rfl⟩
  rw [← hna] at PA hml1 ⊢
  rw [← hnb] at PB hml2 ⊢
  have HNA := Lib.hid hna
  have HNB := Lib.hid hnb
  clear hna hnb
  by_cases r0 : 128 < na
  · have e0 : decide ((128 : Int) < (na : Int)) = true := by simp; omega
    clear r0
    go_enter Tryd.func8, Tryd.ntmps8
    go_wp2_with fail
    refine (CSA.out).mono ?_
    rintro e w1 ⟨rfl, hb⟩
    replace BW := Lib.hid (below_next BW.out hb)
    clear hb
    go_wp2_with fail
    go_ret
    exact ⟨rfl, BW.out⟩
  · have e0 : decide ((128 : Int) < (na : Int)) = false := by simp; omega
    by_cases r1 : 128 < nb
    · have e1 : decide ((128 : Int) < (nb : Int)) = true := by simp; omega
      clear r0 r1
      go_enter Tryd.func8, Tryd.ntmps8
      go_wp2_with fail
      refine (CSA.out).mono ?_
      rintro e w1 ⟨rfl, hb⟩
      replace BW := Lib.hid (below_next BW.out hb)
      clear hb
      go_wp2_with fail
      go_ret
      exact ⟨rfl, BW.out⟩
    · have e1 : decide ((128 : Int) < (nb : Int)) = false := by simp; omega
      obtain ⟨ka, hka2⟩ : ∃ c, c = chk la := ⟨_, rfl⟩
      obtain ⟨kb, hkb2⟩ : ∃ c, c = chk lb := ⟨_, rfl⟩
      rw [← hka2] at CKA hka
      rw [← hkb2] at CKB hkb
      by_cases r2 : ka = 0
      · skip
        by_cases r3 : kb = 0
        · skip
          subst r2
          subst r3
          obtain ⟨hla, hca⟩ := hka rfl
          obtain ⟨hlb, hcb⟩ := hkb rfl
          have hna := HNA.out
          have hnb := HNB.out
          have hu := combR_set (Wf := fun p q => p || q) hca hcb rfl
          have hm := combR_set (Wf := fun p q => p && q) hca hcb rfl
          have hx := combR_set (Wf := fun p q => p && !q) hca hcb rfl
          have hul := combR_len (Wf := fun p q => p || q) hca hcb rfl
          have hml := combR_len (Wf := fun p q => p && q) hca hcb rfl
          have hxl := combR_len (Wf := fun p q => p && !q) hca hcb rfl
          have hcu := comb_ok (Wf := fun p q => p || q) hka2.symm hkb2.symm (by omega)
          have hcm := comb_ok (Wf := fun p q => p && q) hka2.symm hkb2.symm (by omega)
          have hcx := comb_ok (Wf := fun p q => p && !q) hka2.symm hkb2.symm (by omega)
          have CUN := Lib.hid (fun W va vb (ha : PRest W.heap.size W la va) (hb : PRest W.heap.size W lb vb) => Union_call la lb va vb _ W ha hb (Nat.le_refl _))
          have CME := Lib.hid (fun W va vb (ha : PRest W.heap.size W la va) (hb : PRest W.heap.size W lb vb) => Meet_call la lb va vb _ W ha hb (Nat.le_refl _))
          have CWO := Lib.hid (fun W va vb (ha : PRest W.heap.size W la va) (hb : PRest W.heap.size W lb vb) => Without_call la lb va vb _ W ha hb (Nat.le_refl _))
          rw [hcu.1, hcu.2] at CUN
          rw [hcm.1, hcm.2] at CME
          rw [hcx.1, hcx.2] at CWO
          have hcnt := counts hca hcb
          have hua := chk_of (show (combR (fun p q => p || q) la lb).length ≤ 256 by omega) hu.can
          have hma := chk_of (show (combR (fun p q => p && q) la lb).length ≤ 256 by omega) hm.can
          have hxa := chk_of (show (combR (fun p q => p && !q) la lb).length ≤ 256 by omega) hx.can
          have hucan := hu.can
          have hul256 : (combR (fun p q => p || q) la lb).length ≤ 256 := by omega
          have n0 := cntK_73050 hca la.length (Nat.le_refl _)
          have n1 := cntK_73050 hcb lb.length (Nat.le_refl _)
          have n2 := cntK_73050 hu.can _ (Nat.le_refl _)
          have n3 := cntK_73050 hm.can _ (Nat.le_refl _)
          clear hcu hcm hcx hul hml hxl hu hm hx hka hkb
          generalize combR (fun p q => p || q) la lb = U at *
          generalize combR (fun p q => p && q) la lb = M at *
          generalize combR (fun p q => p && !q) la lb = X at *
          have C0 := Lib.hid (fun W v (h : PRest W.heap.size W la v) => Count_call la v _ W h (Nat.le_refl _))
          rw [chk_cnt hka2.symm, hka2.symm] at C0
          have C1 := Lib.hid (fun W v (h : PRest W.heap.size W lb v) => Count_call lb v _ W h (Nat.le_refl _))
          rw [chk_cnt hkb2.symm, hkb2.symm] at C1
          have C2 := Lib.hid (fun W v (h : PRest W.heap.size W U v) => Count_call U v _ W h (Nat.le_refl _))
          rw [chk_cnt hua, hua] at C2
          have C3 := Lib.hid (fun W v (h : PRest W.heap.size W M v) => Count_call M v _ W h (Nat.le_refl _))
          rw [chk_cnt hma, hma] at C3
          have C4 := Lib.hid (fun W v (h : PRest W.heap.size W X v) => Count_call X v _ W h (Nat.le_refl _))
          rw [chk_cnt hxa, hxa] at C4
          have CNP : Hid (0 ≤ q → ∀ W v, PRest W.heap.size W U v → Calls Tryd.prog 19 #[v, .int .i64 q] W fun e w' => e = .returned (.tuple #[.int .i64 (nthL U q).1, .bool (nthL U q).2, .int .i64 0]) ∧ Below W.heap.size W w') := Lib.hid (fun h0 W v h => by
            have h9 := Nth_call U v q _ W h (Nat.le_refl _) hq.2
            unfold nthD nthB nthE at h9
            rw [hua, if_pos ⟨rfl, h0⟩, if_pos ⟨rfl, h0⟩, if_pos rfl, if_neg (by omega)] at h9
            exact h9)
          have CNM : Hid (q < 0 → ∀ W v, PRest W.heap.size W U v → Calls Tryd.prog 19 #[v, .int .i64 q] W fun e w' => e = .returned (.tuple #[.int .i64 0, .bool false, .int .i64 1]) ∧ Below W.heap.size W w') := Lib.hid (fun h0 W v h => by
            have h9 := Nth_call U v q _ W h (Nat.le_refl _) hq.2
            unfold nthD nthB nthE at h9
            rw [hua, if_neg (fun h => by omega), if_neg (fun h => by omega), if_pos rfl, if_pos h0] at h9
            exact h9)
          have HNT : Hid (0 ≤ q → (nthL U q).2 = decide (q < cnt U) ∧ ((nthL U q).2 = false → (nthL U q).1 = 0)) := Lib.hid (fun h => nthL_ok h hucan)
          have HNR : Hid (0 ≤ q → (nthL U q).2 = true → 0 ≤ (nthL U q).1 ∧ (nthL U q).1 ≤ 73048 ∧ hasB U (nthL U q).1 = true ∧ cnt (cutL U (nthL U q).1) = q + 1) := Lib.hid (fun h h2 => nthL_true h hucan h2)
          have HUL := Lib.hid hul256
          have HUC := Lib.hid hucan
          have HUK := Lib.hid hua
          have n0' : 0 ≤ cnt la ∧ cnt la ≤ 73050 := n0
          have n1' : 0 ≤ cnt lb ∧ cnt lb ≤ 73050 := n1
          have n2' : 0 ≤ cnt U ∧ cnt U ≤ 73050 := n2
          have n3' : 0 ≤ cnt M ∧ cnt M ≤ 73050 := n3
          clear n0 n1 n2 n3
          have HX2 : Hid (cnt U = cnt U) := Lib.hid rfl
          obtain ⟨hs1, hs2⟩ := hcnt
          generalize cnt la = x0 at *
          generalize cnt lb = x1 at *
          obtain ⟨x2, hx2⟩ : ∃ x, x = cnt U := ⟨_, rfl⟩
          rw [← hx2] at C2 HNT hs1 n2'
          generalize cnt M = x3 at *
          generalize cnt X = x4 at *
          have w1 : IntKind.i64.wrap (x2 + x3) = x2 + x3 := by rw [IntKind.wrap_i64]; omega
          have w2 : IntKind.i64.wrap (x0 + x1) = x0 + x1 := by rw [IntKind.wrap_i64]; omega
          have w3 : IntKind.i64.wrap (x0 - x3) = x0 - x3 := by rw [IntKind.wrap_i64]; omega
          have b1 : (x2 + x3 != x0 + x1) = false := by simpa using hs1
          have b2 : (x4 != x0 - x3) = false := by simpa using hs2
          have HQX : Hid (x2 ≤ 73050) := Lib.hid n2'.2
          clear hx2 hua hma hxa hucan hul256 hs1 hs2 n0' n1' n2' n3' hka2 hkb2 hla hlb hca hcb hna hnb r0 r1
          go_enter Tryd.func8, Tryd.ntmps8
          go_wp2_with fail
          refine (CSA.out).mono ?_
          rintro e w1 ⟨rfl, hb⟩
          replace BW := Lib.hid (below_next BW.out hb)
          replace PA := Lib.hid (PA.out.keep hb)
          replace PB := Lib.hid (PB.out.keep hb)
          clear hb
          go_wp2_with fail
          refine (CKA.out _ _ PA.out).mono ?_
          rintro e w2 ⟨rfl, hb⟩
          replace BW := Lib.hid (below_next BW.out hb)
          replace PA := Lib.hid (PA.out.keep hb)
          replace PB := Lib.hid (PB.out.keep hb)
          clear hb
          go_wp2_with fail
          refine (CKB.out _ _ PB.out).mono ?_
          rintro e w3 ⟨rfl, hb⟩
          replace BW := Lib.hid (below_next BW.out hb)
          replace PA := Lib.hid (PA.out.keep hb)
          replace PB := Lib.hid (PB.out.keep hb)
          clear hb
          go_wp2_with fail
          refine (CUN.out _ _ _ PA.out PB.out).mono ?_
          rintro e w4 ⟨vU, rfl, hU, hb⟩
          replace BW := Lib.hid (below_next BW.out hb)
          replace PA := Lib.hid (PA.out.keep hb)
          replace PB := Lib.hid (PB.out.keep hb)
          obtain ⟨aU, cU, rfl, -⟩ := id hU
          have PU := Lib.hid hU
          clear hU
          clear hb
          go_wp2_with fail
          refine (CME.out _ _ _ PA.out PB.out).mono ?_
          rintro e w5 ⟨vM, rfl, hM, hb⟩
          replace BW := Lib.hid (below_next BW.out hb)
          replace PA := Lib.hid (PA.out.keep hb)
          replace PB := Lib.hid (PB.out.keep hb)
          replace PU := Lib.hid (PU.out.keep hb)
          obtain ⟨aM, cM, rfl, -⟩ := id hM
          have PM := Lib.hid hM
          clear hM
          clear hb
          go_wp2_with fail
          refine (CWO.out _ _ _ PA.out PB.out).mono ?_
          rintro e w6 ⟨vX, rfl, hX, hb⟩
          replace BW := Lib.hid (below_next BW.out hb)
          replace PA := Lib.hid (PA.out.keep hb)
          replace PB := Lib.hid (PB.out.keep hb)
          replace PU := Lib.hid (PU.out.keep hb)
          replace PM := Lib.hid (PM.out.keep hb)
          obtain ⟨aX, cX, rfl, -⟩ := id hX
          have PX := Lib.hid hX
          clear hX
          clear hb
          go_wp2_with fail
          have PA6 := PA
          have PB6 := PB
          have PU6 := PU
          have PM6 := PM
          have PX6 := PX
          have HGE : Hid (w.heap.size ≤ w6.heap.size) := Lib.hid BW.out.size
          have B6 := Lib.hid (below_alloc2 w6 (.cells #[.int .i64 0, .int .i64 0, .int .i64 0, .int .i64 0, .int .i64 0] 47) (.cells #[.slice a1 na c1, .slice a2 nb c2, .slice aU U.length cU, .slice aM M.length cM, .slice aX X.length cX] 32))
          have RN := Lib.hid (row_new w6 47 [.int .i64 0, .int .i64 0, .int .i64 0, .int .i64 0, .int .i64 0])
          replace BW := Lib.hid (below_next BW.out (Joins.below_alloc1 w6 (.cells #[.int .i64 0, .int .i64 0, .int .i64 0, .int .i64 0, .int .i64 0] 47)))
          replace PA := Lib.hid (PA.out.keep (Joins.below_alloc1 w6 (.cells #[.int .i64 0, .int .i64 0, .int .i64 0, .int .i64 0, .int .i64 0] 47)))
          replace PB := Lib.hid (PB.out.keep (Joins.below_alloc1 w6 (.cells #[.int .i64 0, .int .i64 0, .int .i64 0, .int .i64 0, .int .i64 0] 47)))
          replace PU := Lib.hid (PU.out.keep (Joins.below_alloc1 w6 (.cells #[.int .i64 0, .int .i64 0, .int .i64 0, .int .i64 0, .int .i64 0] 47)))
          replace PM := Lib.hid (PM.out.keep (Joins.below_alloc1 w6 (.cells #[.int .i64 0, .int .i64 0, .int .i64 0, .int .i64 0, .int .i64 0] 47)))
          replace PX := Lib.hid (PX.out.keep (Joins.below_alloc1 w6 (.cells #[.int .i64 0, .int .i64 0, .int .i64 0, .int .i64 0, .int .i64 0] 47)))
          have hsw7 : (w6.alloc (.cells #[.int .i64 0, .int .i64 0, .int .i64 0, .int .i64 0, .int .i64 0] 47)).heap.size = w6.heap.size + 1 := World.size_alloc ..
          generalize w6.alloc (.cells #[.int .i64 0, .int .i64 0, .int .i64 0, .int .i64 0, .int .i64 0] 47) = w7 at *
          have RL := Lib.hid (row_new w7 32 [.slice a1 na c1, .slice a2 nb c2, .slice aU U.length cU, .slice aM M.length cM, .slice aX X.length cX])
          replace BW := Lib.hid (below_next BW.out (Joins.below_alloc1 w7 (.cells #[.slice a1 na c1, .slice a2 nb c2, .slice aU U.length cU, .slice aM M.length cM, .slice aX X.length cX] 32)))
          replace PA := Lib.hid (PA.out.keep (Joins.below_alloc1 w7 (.cells #[.slice a1 na c1, .slice a2 nb c2, .slice aU U.length cU, .slice aM M.length cM, .slice aX X.length cX] 32)))
          replace PB := Lib.hid (PB.out.keep (Joins.below_alloc1 w7 (.cells #[.slice a1 na c1, .slice a2 nb c2, .slice aU U.length cU, .slice aM M.length cM, .slice aX X.length cX] 32)))
          replace PU := Lib.hid (PU.out.keep (Joins.below_alloc1 w7 (.cells #[.slice a1 na c1, .slice a2 nb c2, .slice aU U.length cU, .slice aM M.length cM, .slice aX X.length cX] 32)))
          replace PM := Lib.hid (PM.out.keep (Joins.below_alloc1 w7 (.cells #[.slice a1 na c1, .slice a2 nb c2, .slice aU U.length cU, .slice aM M.length cM, .slice aX X.length cX] 32)))
          replace PX := Lib.hid (PX.out.keep (Joins.below_alloc1 w7 (.cells #[.slice a1 na c1, .slice a2 nb c2, .slice aU U.length cU, .slice aM M.length cM, .slice aX X.length cX] 32)))
          replace RN := Lib.hid (RN.out.keep (Joins.below_alloc1 w7 (.cells #[.slice a1 na c1, .slice a2 nb c2, .slice aU U.length cU, .slice aM M.length cM, .slice aX X.length cX] 32)))
          rw [hsw7] at RL
          have hsw8 : (w7.alloc (.cells #[.slice a1 na c1, .slice a2 nb c2, .slice aU U.length cU, .slice aM M.length cM, .slice aX X.length cX] 32)).heap.size = w7.heap.size + 1 := World.size_alloc ..
          generalize w7.alloc (.cells #[.slice a1 na c1, .slice a2 nb c2, .slice aU U.length cU, .slice aM M.length cM, .slice aX X.length cX] 32) = w8 at *
          clear PA PB PU PM PX
          obtain ⟨g, hg⟩ : ∃ g, g = w6.heap.size := ⟨_, rfl⟩
          have HBG : Hid (w.heap.size ≤ g) := Lib.hid (by rw [hg]; exact HGE.out)
          rw [← hg] at RN RL ⊢
          have HG := Lib.hid hg
          clear hg
          go_loopw [80] (fun s80 wr => ∃ k : Nat, k ≤ 5 ∧ s80 = .int .i64 (k : Int) ∧ Row wr g 47 (arrV x0 x1 x2 x3 x4 k) ∧ Row wr (g + 1) 32 [.slice a1 na c1, .slice a2 nb c2, .slice aU U.length cU, .slice aM M.length cM, .slice aX X.length cX] ∧ Below w6.heap.size w6 wr ∧ Below w.heap.size w wr) (fun s80 _ => 5 - (intOf s80).toNat)
          case atStart => exact ⟨0, by omega, rfl, RN.out, RL.out, B6.out, BW.out⟩
          case round =>
            obtain ⟨k, hk, rfl, hrn, hrl, hb6, hbw⟩ := hrel
            have HN := Lib.hid hrn
            have HL := Lib.hid hrl
            have H6 := Lib.hid hb6
            have HW := Lib.hid hbw
            clear hrn hrl hb6 hbw
            have hk5 : k = 0 ∨ k = 1 ∨ k = 2 ∨ k = 3 ∨ k = 4 ∨ k = 5 := by omega
            clear hk
            rcases hk5 with rfl | rfl | rfl | rfl | rfl | rfl
            · skip
              have hcl := HL.out.cell (i := 0) rfl
              go_wp2_with fail
              refine (C0.out _ _ ((PA6.out.stays H6.out).mono H6.out.size)).mono ?_
              rintro e wn ⟨rfl, hb⟩
              have HN2 := Lib.hid (HN.out.keep hb)
              have HL2 := Lib.hid (HL.out.keep hb)
              have H62 := Lib.hid (H6.out.trans (hb.mono H6.out.size))
              have HW2 := Lib.hid (below_next HW.out hb)
              clear hb
              have hcn := HN2.out.cell (i := 0) rfl
              have hfn := HN2.out.free 0
              go_wp2_with fail
              exact ⟨⟨1, by omega, by first | rfl | trivial, HN2.out.set 0 _ rfl, HL2.out.setFar 0 _ (by omega), below_setCell H62.out g 0 _ (by rw [HG.out]; exact Nat.le_refl _), below_setCell HW2.out g 0 _ HBG.out⟩, by simp [intOf]⟩
            · skip
              have hcl := HL.out.cell (i := 1) rfl
              go_wp2_with fail
              refine (C1.out _ _ ((PB6.out.stays H6.out).mono H6.out.size)).mono ?_
              rintro e wn ⟨rfl, hb⟩
              have HN2 := Lib.hid (HN.out.keep hb)
              have HL2 := Lib.hid (HL.out.keep hb)
              have H62 := Lib.hid (H6.out.trans (hb.mono H6.out.size))
              have HW2 := Lib.hid (below_next HW.out hb)
              clear hb
              have hcn := HN2.out.cell (i := 1) rfl
              have hfn := HN2.out.free 1
              go_wp2_with fail
              exact ⟨⟨2, by omega, by first | rfl | trivial, HN2.out.set 1 _ rfl, HL2.out.setFar 1 _ (by omega), below_setCell H62.out g 1 _ (by rw [HG.out]; exact Nat.le_refl _), below_setCell HW2.out g 1 _ HBG.out⟩, by simp [intOf]⟩
            · skip
              have hcl := HL.out.cell (i := 2) rfl
              go_wp2_with fail
              refine (C2.out _ _ ((PU6.out.stays H6.out).mono H6.out.size)).mono ?_
              rintro e wn ⟨rfl, hb⟩
              have HN2 := Lib.hid (HN.out.keep hb)
              have HL2 := Lib.hid (HL.out.keep hb)
              have H62 := Lib.hid (H6.out.trans (hb.mono H6.out.size))
              have HW2 := Lib.hid (below_next HW.out hb)
              clear hb
              have hcn := HN2.out.cell (i := 2) rfl
              have hfn := HN2.out.free 2
              go_wp2_with fail
              exact ⟨⟨3, by omega, by first | rfl | trivial, HN2.out.set 2 _ rfl, HL2.out.setFar 2 _ (by omega), below_setCell H62.out g 2 _ (by rw [HG.out]; exact Nat.le_refl _), below_setCell HW2.out g 2 _ HBG.out⟩, by simp [intOf]⟩
            · skip
              have hcl := HL.out.cell (i := 3) rfl
              go_wp2_with fail
              refine (C3.out _ _ ((PM6.out.stays H6.out).mono H6.out.size)).mono ?_
              rintro e wn ⟨rfl, hb⟩
              have HN2 := Lib.hid (HN.out.keep hb)
              have HL2 := Lib.hid (HL.out.keep hb)
              have H62 := Lib.hid (H6.out.trans (hb.mono H6.out.size))
              have HW2 := Lib.hid (below_next HW.out hb)
              clear hb
              have hcn := HN2.out.cell (i := 3) rfl
              have hfn := HN2.out.free 3
              go_wp2_with fail
              exact ⟨⟨4, by omega, by first | rfl | trivial, HN2.out.set 3 _ rfl, HL2.out.setFar 3 _ (by omega), below_setCell H62.out g 3 _ (by rw [HG.out]; exact Nat.le_refl _), below_setCell HW2.out g 3 _ HBG.out⟩, by simp [intOf]⟩
            · skip
              have hcl := HL.out.cell (i := 4) rfl
              go_wp2_with fail
              refine (C4.out _ _ ((PX6.out.stays H6.out).mono H6.out.size)).mono ?_
              rintro e wn ⟨rfl, hb⟩
              have HN2 := Lib.hid (HN.out.keep hb)
              have HL2 := Lib.hid (HL.out.keep hb)
              have H62 := Lib.hid (H6.out.trans (hb.mono H6.out.size))
              have HW2 := Lib.hid (below_next HW.out hb)
              clear hb
              have hcn := HN2.out.cell (i := 4) rfl
              have hfn := HN2.out.free 4
              go_wp2_with fail
              exact ⟨⟨5, by omega, by first | rfl | trivial, HN2.out.set 4 _ rfl, HL2.out.setFar 4 _ (by omega), below_setCell H62.out g 4 _ (by rw [HG.out]; exact Nat.le_refl _), below_setCell HW2.out g 4 _ HBG.out⟩, by simp [intOf]⟩
            · skip
              have cn0 := HN.out.cell (i := 0) rfl
              have cn1 := HN.out.cell (i := 1) rfl
              have cn2 := HN.out.cell (i := 2) rfl
              have cn3 := HN.out.cell (i := 3) rfl
              have cn4 := HN.out.cell (i := 4) rfl
              go_wp2_with fail
              have PU9 := Lib.hid ((PU6.out.stays H6.out).mono H6.out.size)
              by_cases q0 : 0 ≤ q
              · have CNT := Lib.hid (CNP.out q0)
                have HQ0 := Lib.hid q0
                have e9 : decide (q < 0) = false := decide_eq_false (by omega)
                have hn1 := HNT.out q0
                have hn2 := HNR.out q0
                clear HNT HNR CNP CNM
                obtain ⟨⟨day, ok⟩, hR⟩ : ∃ R, R = nthL U q := ⟨_, rfl⟩
                rw [← hR] at CNT hn1 hn2
                simp only at CNT hn1 hn2
                clear hR q0
                refine (CNT.out _ _ PU9.out).mono ?_
                rintro e wa ⟨rfl, hb⟩
                have HWa := Lib.hid (below_next HW.out hb)
                have PUa := Lib.hid (PU9.out.keep hb)
                have hra := HN.out.keep hb
                have cm2 := hra.cell (i := 2) rfl
                clear hb hra cn0 cn1 cn2 cn3 cn4
                cases ok with
                | false =>
                  have e8 := hn1.1.symm
                  obtain rfl := hn1.2 rfl
                  clear hn1 hn2
                  go_wp2_with fail
                  go_ret
                  exact ⟨by simp, HWa.out⟩
                | true =>
                  have e8 := hn1.1.symm
                  obtain ⟨hd1, hd2, hd3, hd4⟩ := hn2 rfl
                  have hq9 : q < 9223372036854775807 := by have := HQX.out; have := of_decide_eq_true e8; omega
                  clear hn1 hn2
                  have CHA := Lib.hid (fun W v (h : PRest W.heap.size W U v) => has_call U v day _ W h (Nat.le_refl _))
                  rw [hd3] at CHA
                  have hcut := meet_cut HUC.out (d := day) ⟨hd1, hd2⟩
                  have hck1 : chk [(0, day)] = 0 := chk_of (by simp) ⟨Int.le_refl _, hd1, hd2, trivial⟩
                  have hcm9 := comb_ok (Wf := fun p q => p && q) HUK.out hck1 (by rw [hcut]; exact Nat.le_trans (cutL_len day U) HUL.out)
                  rw [hcut] at hcm9
                  have CM9 := Lib.hid (fun W v v' (h : PRest W.heap.size W U v) (h' : PRest W.heap.size W [(0, day)] v') => Meet_call U [(0, day)] v v' _ W h h' (Nat.le_refl _))
                  rw [hcm9.1, hcm9.2] at CM9
                  have hck2 : chk (cutL U day) = 0 := chk_of (Nat.le_trans (cutL_len day U) HUL.out) (cutL_can day HUC.out)
                  have CC9 := Lib.hid (fun W v (h : PRest W.heap.size W (cutL U day) v) => Count_call (cutL U day) v _ W h (Nat.le_refl _))
                  rw [chk_cnt hck2, hck2, hd4] at CC9
                  have HDR := Lib.hid (And.intro hd1 hd2)
                  have w9 : IntKind.i64.wrap (q + 1) = q + 1 := by have := HQ0.out; rw [IntKind.wrap_i64]; omega
                  have b9 : (q + 1 == q + 1) = true := by simp
                  clear hcut hck1 hcm9 hck2 hd1 hd2 hd3 hd4 hq9
                  generalize cutL U day = V at *
                  go_wp2_with fail
                  refine (CHA.out _ _ PUa.out).mono ?_
                  rintro e wb ⟨rfl, hb⟩
                  have HWb := Lib.hid (below_next HWa.out hb)
                  have PUb := Lib.hid (PUa.out.keep hb)
                  clear hb cm2
                  go_wp2_with fail
                  have hal := Joins.below_alloc1 wb (.cells #[.int .i64 0, .int .i64 day] 45)
                  have PD := Lib.hid (prest_one (0, day) ⟨⟨by show _ ≤ (0 : Int); omega, by show (0 : Int) ≤ _; omega⟩, ⟨by show _ ≤ day; have := HDR.out; omega, by show day ≤ _; have := HDR.out; omega⟩⟩ (row_new wb 45 [.int .i64 0, .int .i64 day]))
                  have PUc := Lib.hid (PUb.out.keep hal)
                  have HWc := Lib.hid (below_next HWb.out hal)
                  clear hal
                  refine (CM9.out _ _ _ PUc.out PD.out).mono ?_
                  rintro e wd ⟨vd, rfl, hvd, hb⟩
                  obtain ⟨ad, cd, rfl, -⟩ := id hvd
                  have PV := Lib.hid hvd
                  have HWd := Lib.hid (below_next HWc.out hb)
                  clear hb hvd
                  go_wp2_with fail
                  refine (CC9.out _ _ PV.out).mono ?_
                  rintro e we ⟨rfl, hb⟩
                  have HWe := Lib.hid (below_next HWd.out hb)
                  clear hb
                  go_wp2_with fail
                  go_ret
                  exact ⟨by simp, HWe.out⟩
              · have e9 : decide (q < 0) = true := decide_eq_true (by omega)
                have CNT := Lib.hid (CNM.out (by omega))
                clear q0 HNT HNR
                refine (CNT.out _ _ PU9.out).mono ?_
                rintro e wa ⟨rfl, hb⟩
                have HWa := Lib.hid (below_next HW.out hb)
                clear hb
                go_wp2_with fail
                go_ret
                exact ⟨by simp, HWa.out⟩
        · have e3 : (kb != 0) = true := by simpa using r3
          subst r2
          clear r0 r1 r3 hka hkb hka2 hkb2
          go_enter Tryd.func8, Tryd.ntmps8
          go_wp2_with fail
          refine (CSA.out).mono ?_
          rintro e w1 ⟨rfl, hb⟩
          replace BW := Lib.hid (below_next BW.out hb)
          replace PA := Lib.hid (PA.out.keep hb)
          replace PB := Lib.hid (PB.out.keep hb)
          clear hb
          go_wp2_with fail
          refine (CKA.out _ _ PA.out).mono ?_
          rintro e w2 ⟨rfl, hb⟩
          replace BW := Lib.hid (below_next BW.out hb)
          replace PA := Lib.hid (PA.out.keep hb)
          replace PB := Lib.hid (PB.out.keep hb)
          clear hb
          go_wp2_with fail
          refine (CKB.out _ _ PB.out).mono ?_
          rintro e w3 ⟨rfl, hb⟩
          replace BW := Lib.hid (below_next BW.out hb)
          replace PA := Lib.hid (PA.out.keep hb)
          replace PB := Lib.hid (PB.out.keep hb)
          clear hb
          go_wp2_with fail
          go_ret
          exact ⟨rfl, BW.out⟩
      · have e2 : (ka != 0) = true := by simpa using r2
        clear r0 r1 r2 hka hkb hka2 hkb2
        go_enter Tryd.func8, Tryd.ntmps8
        go_wp2_with fail
        refine (CSA.out).mono ?_
        rintro e w1 ⟨rfl, hb⟩
        replace BW := Lib.hid (below_next BW.out hb)
        replace PA := Lib.hid (PA.out.keep hb)
        replace PB := Lib.hid (PB.out.keep hb)
        clear hb
        go_wp2_with fail
        refine (CKA.out _ _ PA.out).mono ?_
        rintro e w2 ⟨rfl, hb⟩
        replace BW := Lib.hid (below_next BW.out hb)
        replace PA := Lib.hid (PA.out.keep hb)
        replace PB := Lib.hid (PB.out.keep hb)
        clear hb
        go_wp2_with fail
        go_ret
        exact ⟨rfl, BW.out⟩
end Go.Proofs.YtiicjmbnkjociaaDoor
