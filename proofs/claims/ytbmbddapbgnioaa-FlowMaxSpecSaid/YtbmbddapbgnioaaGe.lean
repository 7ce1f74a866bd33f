/- Cut. -/
import Derived.Test.YtbmbddapbgnioaaGd
namespace Go.Proofs.Ytbmbddapbgnioaa
open Go.RowKit Go.Shelf

theorem cutE_bad {N s t : Int} {A : List Ar} {l : List Bool} (h : netE N s t A ≠ 0) : cutE N s t A l = netE N s t A ∧ cutV N s t A l = 0 := by
  have h1 : cutE N s t A l = netE N s t A := by unfold cutE; rw [if_pos h]
  exact ⟨h1, by unfold cutV; rw [if_neg (by rw [h1]; exact h)]⟩
theorem cutE_no {N s t : Int} {A : List Ar} {l : List Bool} (h : netE N s t A = 0) (hs : sidB N s t l = false) : cutE N s t A l = 130 ∧ cutV N s t A l = 0 := by
  have h1 : cutE N s t A l = 130 := by unfold cutE; rw [if_neg (by omega), if_neg (by rw [hs]; simp)]
  exact ⟨h1, by unfold cutV; rw [if_neg (by omega)]⟩
theorem cutE_yes {N s t : Int} {A : List Ar} {l : List Bool} (h : netE N s t A = 0) (hs : sidB N s t l = true) : cutE N s t A l = 0 ∧ cutV N s t A l = cutF A (ofL l) := by
  have h1 : cutE N s t A l = 0 := by unfold cutE; rw [if_neg (by omega), if_pos hs]
  exact ⟨h1, by unfold cutV; rw [if_pos h1]⟩
set_option maxRecDepth 100000 in
set_option maxHeartbeats 8000000 in
theorem cut_call (N s t : Int) (A : List Ar) (l : List Bool) (va vl : Value) (w : World) (hA : ARest w.heap.size w A va) (hL : BRest w.heap.size w l vl) :
    Calls Try.prog 13 #[netV N s t va, vl] w fun e w' => e = .returned (.tuple #[.int .i64 (cutV N s t A l), .int .i64 (cutE N s t A l)]) ∧ Below w.heap.size w w' := by
  have HCK : Hid (∀ W, Below w.heap.size w W → Calls Try.prog 15 #[netV N s t va] W fun e w' => e = .returned (.int .i64 (netE N s t A)) ∧ Below W.heap.size W w') := Lib.hid (fun W hW => check_call N s t A va W ((hA.stays hW).mono hW.size))
  obtain ⟨er, her⟩ : ∃ er, er = netE N s t A := ⟨_, rfl⟩
  rw [← her] at HCK
  have HER := Lib.hid her
  obtain ⟨a, c, rfl, -⟩ := id hA
  obtain ⟨ax, cx, rfl, -⟩ := id hL
  obtain ⟨-, hac, ham, hat⟩ := arcs_at hA
  obtain ⟨-, hxc, hxm, hxt⟩ := bools_at hL
  obtain ⟨n, hn⟩ : ∃ n, n = A.length := ⟨_, rfl⟩
  obtain ⟨m, hm⟩ : ∃ m, m = l.length := ⟨_, rfl⟩
  rw [← hn] at hac hat HCK ⊢
  rw [← hm] at hxc hxt ⊢
  have HAT := Lib.hid hat
  have HXT := Lib.hid hxt
  have HNL := Lib.hid (And.intro hn hm)
  clear her hA hL hn hm hat hxt
  unfold netV at HCK ⊢
  have HX := Lib.hid (bx_new w N s t (.slice a n c))
  obtain ⟨W1, hW1⟩ : ∃ W1, W1 = w.alloc (.cells #[.int .i64 N, .int .i64 s, .int .i64 t, .slice a n c] 24) := ⟨_, rfl⟩
  have HW1 := Lib.hid hW1
  rw [← hW1] at HX
  clear hW1
  have HCK1 := Lib.hid (HCK.out W1 HX.out.bw)
  have d0 := HX.out.row.cell (i := 0) rfl
  have d1 := HX.out.row.cell (i := 1) rfl
  have d2 := HX.out.row.cell (i := 2) rfl
  have d3 := HX.out.row.cell (i := 3) rfl
  go_enter Try.func13, Try.ntmps13
  go_upto_region 1 with (fail)
  rw [← HW1.out]
  by_cases he : er = 0
  · subst he
    have HCK0 := Lib.hid (HER.out.symm)
    have hnk := net_ok HCK0.out
    obtain ⟨Nn, rfl⟩ : ∃ sn : Nat, N = (sn : Int) := ⟨N.toNat, by have h1 := hnk.rng; omega⟩
    obtain ⟨sn, rfl⟩ : ∃ sn : Nat, s = (sn : Int) := ⟨s.toNat, by have h1 := hnk.net.src; omega⟩
    obtain ⟨tn, rfl⟩ : ∃ sn : Nat, t = (sn : Int) := ⟨t.toNat, by have h1 := hnk.net.snk; omega⟩
    have HNK := Lib.hid hnk
    have HST : Hid (sn < Nn ∧ tn < Nn ∧ Nn ≤ 64) := Lib.hid (by have h1 := hnk.net.src; have h2 := hnk.net.snk; have h3 := hnk.rng; omega)
    clear hnk
    go_upto_region 4 with (go_at_call 15; refine HCK1.out.mono ?_; rintro e w5 ⟨rfl, hb5⟩; have HR5 := Lib.hid (HX.out.keep hb5); clear hb5)
    clear d0 d1 d2 d3 HX HCK1 HCK HW1
    have d0 := HR5.out.row.cell (i := 0) rfl
    have d1 := HR5.out.row.cell (i := 1) rfl
    have d2 := HR5.out.row.cell (i := 2) rfl
    have d3 := HR5.out.row.cell (i := 3) rfl
    by_cases hmN : m = Nn
    · subst hmN
      obtain ⟨bS, offS, hxe, hbS, f1⟩ := HXT.out sn (by have := HST.out; have := HNL.out; omega)
      obtain ⟨bS2, offS2, hxe2, hbS2, f2⟩ := HXT.out tn (by have := HST.out; have := HNL.out; omega)
      have c1 := (HR5.out.bw.cell (p := ⟨bS, offS + sn, none⟩) hbS).trans f1
      have c2 := (HR5.out.bw.cell (p := ⟨bS2, offS2 + tn, none⟩) hbS2).trans f2
      rw [hxe] at hxe2
      injection hxe2 with hxe2
      injection hxe2 with q1 q2
      subst q1 q2 hxe
      have hsm : (sn : Int) < (m : Int) := by have := HST.out; omega
      have htm : (tn : Int) < (m : Int) := by have := HST.out; omega
      have HSS : Hid (sidB m sn tn l = (l.getD sn false && !l.getD tn false)) := Lib.hid (by unfold sidB; rw [decide_eq_true (by have := HNL.out; omega)]; simp)
      clear f1 f2 hbS hbS2
      cases hs1 : l.getD sn false with
      | false =>
        rw [hs1] at c1 HSS
        have HV : Hid (cutE m sn tn A l = 130 ∧ cutV m sn tn A l = 0) := Lib.hid (cutE_no HCK0.out (by rw [HSS.out]; rfl))
        go_wp2_with fail
        go_ret2
        exact ⟨by rw [HV.out.1, HV.out.2]; rfl, HR5.out.bw⟩
      | true =>
        cases ht1 : l.getD tn false with
        | true =>
          rw [hs1] at c1 HSS
          rw [ht1] at c2 HSS
          have HV : Hid (cutE m sn tn A l = 130 ∧ cutV m sn tn A l = 0) := Lib.hid (cutE_no HCK0.out (by rw [HSS.out]; rfl))
          go_wp2_with fail
          go_ret2
          exact ⟨by rw [HV.out.1, HV.out.2]; rfl, HR5.out.bw⟩
        | false =>
          rw [hs1] at c1 HSS
          rw [ht1] at c2 HSS
          have HV : Hid (cutE m sn tn A l = 0 ∧ cutV m sn tn A l = cutF A (ofL l)) := Lib.hid (cutE_yes HCK0.out (by rw [HSS.out]; rfl))
          clear hs1 ht1
          go_wp2_with fail
          clear d0 d1 d2 d3 c1 c2
          go_loopw [4, 36] (fun s4 s36 wr => ∃ (k : Nat), k ≤ n ∧ s4 = .int .i64 (cutF (A.take k) (ofL l)) ∧ s36 = .int .i64 (k : Int) ∧ Bx w wr w.heap.size m sn tn (.slice a n c)) (fun _ s36 _ => n - (intOf s36).toNat)
          case atStart => exact ⟨0, by omega, rfl, rfl, HR5.out⟩
          case round =>
            obtain ⟨k, hk, rfl, rfl, hR⟩ := hrel
            have HR := Lib.hid hR
            have HK := Lib.hid hk
            clear hR hk HR5
            by_cases hlt : k < n
            · have hki : (k : Int) < (n : Int) := by omega
              have hn5 : n ≤ 512 := by have h9 := HNK.out.few; have := HNL.out; omega
              have hk5 : (k : Int) < 512 := by omega
              obtain ⟨hI, ba, off, hae, hba, e1, e2, e3⟩ := HAT.out k (by have := HNL.out; omega)
              subst hae
              have hmem := getD_mem (show k < A.length by have := HNL.out; omega)
              have hin := HNK.out.net.inn _ hmem
              have hcap := HNK.out.caps _ hmem
              obtain ⟨fN, hfN⟩ : ∃ x : Nat, (A.getD k (0, 0, 0)).1 = (x : Int) := ⟨(A.getD k (0, 0, 0)).1.toNat, by omega⟩
              obtain ⟨tN, htN⟩ : ∃ x : Nat, (A.getD k (0, 0, 0)).2.1 = (x : Int) := ⟨(A.getD k (0, 0, 0)).2.1.toNat, by omega⟩
              obtain ⟨cp, hcp⟩ : ∃ x, x = (A.getD k (0, 0, 0)).2.2 := ⟨_, rfl⟩
              have HCT : Hid (cutF (A.take (k + 1)) (ofL l) = cutF (A.take k) (ofL l) + (if ofL l fN = true ∧ ofL l tN = false then cp else 0)) := Lib.hid (by
                have h9 := cut_take (ofL l) A k (by have := HNL.out; omega)
                rw [hfN, htN, ← hcp] at h9; exact h9)
              have HOF : Hid (ofL l fN = l.getD fN false ∧ ofL l tN = l.getD tN false) := Lib.hid ⟨rfl, rfl⟩
              rw [hfN] at e1 hin
              rw [htN] at e2 hin
              rw [← hcp] at e3 hcap
              obtain ⟨bS1, offS1, hxe, hbS, f1⟩ := HXT.out fN (by have := HNL.out; omega)
              obtain ⟨bS2, offS2, hxe2, hbS2, f2⟩ := HXT.out tN (by have := HNL.out; omega)
              injection hxe with hxe
              injection hxe2 with hxe2
              injection hxe with q1 q2
              injection hxe2 with q3 q4
              subst q1 q2 q3 q4
              obtain ⟨su, hsu⟩ : ∃ su, su = cutF (A.take k) (ofL l) := ⟨_, rfl⟩
              have HSU : Hid (0 ≤ su ∧ su ≤ 549755813888) := Lib.hid (by
                have hA : ∀ a, a ∈ A.take k → 0 ≤ a.2.2 ∧ a.2.2 ≤ 1073741824 := fun a ha => HNK.out.caps a (List.mem_of_mem_take ha)
                have h8 := cut_nonneg (ofL l) (A.take k) (fun a ha => (hA a ha).1)
                have h9 := cut_le (S := ofL l) hA
                have h7 : ((A.take k).length : Int) ≤ 512 := by rw [List.length_take]; omega
                omega)
              rw [← hsu] at HCT ⊢
              have HLT := Lib.hid hlt
              have hwr : wrap64 (su + cp) = su + cp := by have := HSU.out; unfold wrap64; omega
              have HWR := Lib.hid hwr
              have c1 := (HR.out.bw.cell (p := ⟨ba, off + k * 3, none⟩) hba).trans e1
              have c2 := (HR.out.bw.cell (p := ⟨ba, off + k * 3 + 1, none⟩) hba).trans e2
              have c3 := (HR.out.bw.cell (p := ⟨ba, off + k * 3 + 2, none⟩) hba).trans e3
              have hb4 : Below wr.heap.size wr (wr.alloc (.cells #[.int .i64 (fN : Int), .int .i64 (tN : Int), .int .i64 cp] 43)) := Joins.below_alloc1 wr _
              have q4 : Row (wr.alloc (.cells #[.int .i64 (fN : Int), .int .i64 (tN : Int), .int .i64 cp] 43)) wr.heap.size 43 [.int .i64 (fN : Int), .int .i64 (tN : Int), .int .i64 cp] := row_new wr 43 _
              obtain ⟨w4, hw4⟩ : ∃ w4, w4 = wr.alloc (.cells #[.int .i64 (fN : Int), .int .i64 (tN : Int), .int .i64 cp] 43) := ⟨_, rfl⟩
              rw [← hw4] at hb4 q4
              have HR4 := Lib.hid (HR.out.keep hb4)
              have HQ4 := Lib.hid q4
              have HW4 := Lib.hid hw4
              have c7 := (HR4.out.bw.cell (p := ⟨bS, offS + fN, none⟩) hbS).trans f1
              have c8 := (HR4.out.bw.cell (p := ⟨bS, offS + tN, none⟩) hbS2).trans f2
              have hf64 : (fN : Int) < (m : Int) := by omega
              have ht64 : (tN : Int) < (m : Int) := by omega
              obtain ⟨bx, hbx⟩ : ∃ bx, bx = wr.heap.size := ⟨_, rfl⟩
              clear hI hin hcap hmem hba hbS hbS2 f1 f2 e1 e2 e3 hfN htN hcp hb4 q4 hw4 HR hlt hsu hwr
              go_upto_region 9 with (fail)
              rw [← HW4.out, ← hbx]
              rw [← hbx] at HQ4
              clear hbx c1 c2 c3
              have c1 := HQ4.out.cell (i := 0) rfl
              have c2 := HQ4.out.cell (i := 1) rfl
              have c3 := HQ4.out.cell (i := 2) rfl
              cases hsf : l.getD fN false with
              | false =>
                rw [hsf] at c7
                have HT : Hid (cutF (A.take (k + 1)) (ofL l) = su) := Lib.hid (by rw [HCT.out, HOF.out.1, hsf]; simp)
                clear hsf
                go_wp2_with fail
                exact ⟨⟨k + 1, by have := HLT.out; omega, by rw [HT.out], by go_num, HR4.out⟩, by have := HLT.out; simp [intOf]; omega⟩
              | true =>
                cases hst : l.getD tN false with
                | true =>
                  rw [hsf] at c7
                  rw [hst] at c8
                  have HT : Hid (cutF (A.take (k + 1)) (ofL l) = su) := Lib.hid (by rw [HCT.out, HOF.out.2, hst]; simp)
                  clear hsf hst
                  go_wp2_with fail
                  exact ⟨⟨k + 1, by have := HLT.out; omega, by rw [HT.out], by go_num, HR4.out⟩, by have := HLT.out; simp [intOf]; omega⟩
                | false =>
                  rw [hsf] at c7
                  rw [hst] at c8
                  have HT : Hid (cutF (A.take (k + 1)) (ofL l) = su + cp) := Lib.hid (by rw [HCT.out, HOF.out.1, HOF.out.2, hsf, hst]; simp)
                  clear hsf hst
                  go_wp2_with fail
                  exact ⟨⟨k + 1, by have := HLT.out; omega, by rw [HT.out, HWR.out], by go_num, HR4.out⟩, by have := HLT.out; simp [intOf]; omega⟩
            · obtain rfl : k = n := by have := HK.out; omega
              have HT : Hid (cutF (A.take k) (ofL l) = cutF A (ofL l)) := Lib.hid (by rw [List.take_of_length_le (by have := HNL.out; omega)])
              go_wp2_with fail
              go_ret2
              exact ⟨by rw [HV.out.1, HV.out.2, ← HT.out]; rfl, HR.out.bw⟩
    · have hmi : ¬ (m : Int) = (Nn : Int) := by omega
      have HV : Hid (cutE Nn sn tn A l = 130 ∧ cutV Nn sn tn A l = 0) := Lib.hid (cutE_no HCK0.out (by unfold sidB; rw [decide_eq_false (by have := HNL.out; omega)]; rfl))
      go_wp2_with fail
      go_ret2
      exact ⟨by rw [HV.out.1, HV.out.2]; rfl, HR5.out.bw⟩
  · have HV : Hid (cutE N s t A l = er ∧ cutV N s t A l = 0) := Lib.hid (by have h9 := cutE_bad (l := l) (show netE N s t A ≠ 0 by rw [← HER.out]; exact he); rw [← HER.out] at h9; exact h9)
    go_wp2_with (go_at_call 15; refine HCK1.out.mono ?_; rintro e w5 ⟨rfl, hb5⟩; have HR5 := Lib.hid (HX.out.keep hb5); clear hb5)
    go_ret2
    exact ⟨by rw [HV.out.1, HV.out.2]; rfl, HR5.out.bw⟩
end Go.Proofs.Ytbmbddapbgnioaa
