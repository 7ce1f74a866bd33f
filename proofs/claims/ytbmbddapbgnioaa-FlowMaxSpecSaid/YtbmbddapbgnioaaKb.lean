/- The reference: Cut, Value. -/
import Derived.Test.YtbmbddapbgnioaaKa
namespace Go.Proofs.Ytbmbddapbgnioaa
open Go.RowKit Go.Shelf

set_option maxRecDepth 100000 in
set_option maxHeartbeats 8000000 in
theorem rcut_call (N s t : Int) (A : List Ar) (l : List Bool) (va vl : Value) (w : World) (hA : ARest w.heap.size w A va) (hL : BRest w.heap.size w l vl) :
    Calls Try.prog 14 #[netV N s t va, vl] w fun e w' => e = .returned (.tuple #[.int .i64 (cutV N s t A l), .int .i64 (cutE N s t A l)]) ∧ Below w.heap.size w w' := by
  have HCK : Hid (∀ W, Below w.heap.size w W → Calls Try.prog 16 #[netV N s t va] W fun e w' => e = .returned (.int .i64 (netE N s t A)) ∧ Below W.heap.size W w') := Lib.hid (fun W hW => rcheck_call N s t A va W ((hA.stays hW).mono hW.size))
  have HSI : Hid (∀ (N s t : Nat), s < N → t < N → ∀ va W, Below w.heap.size w W → Calls Try.prog 28 #[netV N s t va, vl] W fun e w' => e = .returned (.bool (sidB N s t l)) ∧ Below W.heap.size W w') := Lib.hid (fun N s t hs ht va W hW => rside_call N s t hs ht l va vl W ((hL.stays hW).mono hW.size))
  obtain ⟨er, her⟩ : ∃ er, er = netE N s t A := ⟨_, rfl⟩
  rw [← her] at HCK
  have HER := Lib.hid her
  obtain ⟨a, c, rfl, -⟩ := id hA
  obtain ⟨ax, cx, rfl, -⟩ := id hL
  obtain ⟨-, hac, ham, hat⟩ := arcs_at hA
  obtain ⟨-, hxc, hxm, hxt⟩ := bools_at hL
  obtain ⟨n, hn⟩ : ∃ n, n = A.length := ⟨_, rfl⟩
  obtain ⟨m, hm⟩ : ∃ m, m = l.length := ⟨_, rfl⟩
  rw [← hn] at hac hat HCK ⊢
  rw [← hm] at hxc hxt HSI ⊢
  have HAT := Lib.hid hat
  have HXT := Lib.hid hxt
  have HNL := Lib.hid (And.intro hn hm)
  clear her hA hL hn hm hat hxt
  unfold netV at HCK HSI ⊢
  have HX := Lib.hid (bx_new w N s t (.slice a n c))
  obtain ⟨W1, hW1⟩ : ∃ W1, W1 = w.alloc (.cells #[.int .i64 N, .int .i64 s, .int .i64 t, .slice a n c] 24) := ⟨_, rfl⟩
  have HW1 := Lib.hid hW1
  rw [← hW1] at HX
  clear hW1
  have HCK1 := Lib.hid (HCK.out W1 HX.out.bw)
  have d0 := HX.out.row.cell (i := 0) rfl
  have d1 := HX.out.row.cell (i := 1) rfl
  have d2 := HX.out.row.cell (i := 2) rfl
  have d3 := HX.out.row.cell (i := 3) rfl
  go_enter Try.func14, Try.ntmps14
  go_upto_region 1 with (fail)
  rw [← HW1.out]
  by_cases he : er = 0
  · subst he
    have HCK0 := Lib.hid (HER.out.symm)
    have hnk := net_ok HCK0.out
    obtain ⟨Nn, rfl⟩ : ∃ sn : Nat, N = (sn : Int) := ⟨N.toNat, by have h1 := hnk.rng; omega⟩
    obtain ⟨sn, rfl⟩ : ∃ sn : Nat, s = (sn : Int) := ⟨s.toNat, by have h1 := hnk.net.src; omega⟩
    obtain ⟨tn, rfl⟩ : ∃ sn : Nat, t = (sn : Int) := ⟨t.toNat, by have h1 := hnk.net.snk; omega⟩
    have HNK := Lib.hid hnk
    have HST : Hid (sn < Nn ∧ tn < Nn ∧ Nn ≤ 64) := Lib.hid (by have h1 := hnk.net.src; have h2 := hnk.net.snk; have h3 := hnk.rng; omega)
    clear hnk
    go_upto_region 4 with (go_at_call 16; refine HCK1.out.mono ?_; rintro e w5 ⟨rfl, hb5⟩; have HR5 := Lib.hid (HX.out.keep hb5); clear hb5)
    clear d0 d1 d2 d3 HX HCK1 HCK HW1
    have d0 := HR5.out.row.cell (i := 0) rfl
    have d1 := HR5.out.row.cell (i := 1) rfl
    have d2 := HR5.out.row.cell (i := 2) rfl
    have d3 := HR5.out.row.cell (i := 3) rfl
    have HSI5 := Lib.hid (HSI.out Nn sn tn HST.out.1 HST.out.2.1 (.slice a n c) w5 HR5.out.bw)
    cases hsb : sidB Nn sn tn l with
    | false =>
      rw [hsb] at HSI5
      have HV : Hid (cutE Nn sn tn A l = 130 ∧ cutV Nn sn tn A l = 0) := Lib.hid (cutE_no HCK0.out hsb)
      clear hsb
      go_wp2_with (go_at_call 28; refine HSI5.out.mono ?_; rintro e w6 ⟨rfl, hb6⟩; have HR6 := Lib.hid (HR5.out.keep hb6); clear hb6)
      go_ret2
      exact ⟨by rw [HV.out.1, HV.out.2]; rfl, HR6.out.bw⟩
    | true =>
      rw [hsb] at HSI5
      have HV : Hid (cutE Nn sn tn A l = 0 ∧ cutV Nn sn tn A l = cutF A (ofL l)) := Lib.hid (cutE_yes HCK0.out hsb)
      obtain rfl : m = Nn := by
        unfold sidB at hsb
        have h9 := of_decide_eq_true (by simpa using (Bool.and_eq_true_iff.1 hsb).1)
        have := HNL.out.2
        omega
      clear hsb
      go_upto_region 9 with (go_at_call 28; refine HSI5.out.mono ?_; rintro e w6 ⟨rfl, hb6⟩; have HR6 := Lib.hid (HR5.out.keep hb6); clear hb6)
      clear d0 d1 d2 d3 HSI5 HSI
      go_loopw [8, 9] (fun s4 s36 wr => ∃ (k : Nat), k ≤ n ∧ s4 = .int .i64 (cutF (A.take k) (ofL l)) ∧ s36 = .int .i64 (k : Int) ∧ Bx w wr w.heap.size m sn tn (.slice a n c)) (fun _ s36 _ => n - (intOf s36).toNat)
      case atStart => exact ⟨0, by omega, rfl, rfl, HR6.out⟩
      case round =>
        obtain ⟨k, hk, rfl, rfl, hR⟩ := hrel
        have HR := Lib.hid hR
        have HK := Lib.hid hk
        have d3 := hR.row.cell (i := 3) rfl
        clear hR hk HR5 HR6
        by_cases hlt : k < n
        · have hki : (k : Int) < (n : Int) := by omega
          have hn5 : n ≤ 512 := by have h9 := HNK.out.few; have := HNL.out; omega
          have hk5 : (k : Int) < 512 := by omega
          obtain ⟨hI, ba, off, hae, hba, e1, e2, e3⟩ := HAT.out k (by have := HNL.out; omega)
          subst hae
          have hmem := getD_mem (show k < A.length by have := HNL.out; omega)
          have hin := HNK.out.net.inn _ hmem
          have hcap := HNK.out.caps _ hmem
          obtain ⟨fN, hfN⟩ : ∃ x : Nat, (A.getD k (0, 0, 0)).1 = (x : Int) := ⟨(A.getD k (0, 0, 0)).1.toNat, by omega⟩
          obtain ⟨tN, htN⟩ : ∃ x : Nat, (A.getD k (0, 0, 0)).2.1 = (x : Int) := ⟨(A.getD k (0, 0, 0)).2.1.toNat, by omega⟩
          obtain ⟨cp, hcp⟩ : ∃ x, x = (A.getD k (0, 0, 0)).2.2 := ⟨_, rfl⟩
          have HCT : Hid (cutF (A.take (k + 1)) (ofL l) = cutF (A.take k) (ofL l) + (if ofL l fN = true ∧ ofL l tN = false then cp else 0)) := Lib.hid (by
            have h9 := cut_take (ofL l) A k (by have := HNL.out; omega)
            rw [hfN, htN, ← hcp] at h9; exact h9)
          have HOF : Hid (ofL l fN = l.getD fN false ∧ ofL l tN = l.getD tN false) := Lib.hid ⟨rfl, rfl⟩
          rw [hfN] at e1 hin
          rw [htN] at e2 hin
          rw [← hcp] at e3 hcap
          obtain ⟨bS1, offS1, hxe, hbS, f1⟩ := HXT.out fN (by have := HNL.out; omega)
          obtain ⟨bS2, offS2, hxe2, hbS2, f2⟩ := HXT.out tN (by have := HNL.out; omega)
          rw [hxe] at hxe2
          injection hxe2 with hxe2
          injection hxe2 with q1 q2
          subst q1 q2 hxe
          obtain ⟨su, hsu⟩ : ∃ su, su = cutF (A.take k) (ofL l) := ⟨_, rfl⟩
          have HSU : Hid (0 ≤ su ∧ su ≤ 549755813888) := Lib.hid (by
            have hA : ∀ a, a ∈ A.take k → 0 ≤ a.2.2 ∧ a.2.2 ≤ 1073741824 := fun a ha => HNK.out.caps a (List.mem_of_mem_take ha)
            have h8 := cut_nonneg (ofL l) (A.take k) (fun a ha => (hA a ha).1)
            have h9 := cut_le (S := ofL l) hA
            have h7 : ((A.take k).length : Int) ≤ 512 := by rw [List.length_take]; omega
            omega)
          rw [← hsu] at HCT ⊢
          have HLT := Lib.hid hlt
          have hwr : wrap64 (su + cp) = su + cp := by have := HSU.out; unfold wrap64; omega
          have HWR := Lib.hid hwr
          have c1 := (HR.out.bw.cell (p := ⟨ba, off + k * 3, none⟩) hba).trans e1
          have c2 := (HR.out.bw.cell (p := ⟨ba, off + k * 3 + 1, none⟩) hba).trans e2
          have c3 := (HR.out.bw.cell (p := ⟨ba, off + k * 3 + 2, none⟩) hba).trans e3
          have c7 := (HR.out.bw.cell (p := ⟨bS1, offS1 + fN, none⟩) hbS).trans f1
          have c8 := (HR.out.bw.cell (p := ⟨bS1, offS1 + tN, none⟩) hbS2).trans f2
          have hf64 : (fN : Int) < (m : Int) := by omega
          have ht64 : (tN : Int) < (m : Int) := by omega
          clear hI hin hcap hmem hba hbS hbS2 f1 f2 e1 e2 e3 hfN htN hcp hlt hsu hwr
          cases hsf : l.getD fN false with
          | false =>
            rw [hsf] at c7
            have HT : Hid (cutF (A.take (k + 1)) (ofL l) = su) := Lib.hid (by rw [HCT.out, HOF.out.1, hsf]; simp)
            clear hsf
            go_wp2_with (go_quiet (fail))
            exact ⟨⟨k + 1, by have := HLT.out; omega, by rw [HT.out], by go_num, by first | exact HR.out | exact HR.out.keep (below_drewN _ _)⟩, by have := HLT.out; simp [intOf]; omega⟩
          | true =>
            cases hst : l.getD tN false with
            | true =>
              rw [hsf] at c7
              rw [hst] at c8
              have HT : Hid (cutF (A.take (k + 1)) (ofL l) = su) := Lib.hid (by rw [HCT.out, HOF.out.2, hst]; simp)
              clear hsf hst
              go_wp2_with (go_quiet (fail))
              exact ⟨⟨k + 1, by have := HLT.out; omega, by rw [HT.out], by go_num, by first | exact HR.out | exact HR.out.keep (below_drewN _ _)⟩, by have := HLT.out; simp [intOf]; omega⟩
            | false =>
              rw [hsf] at c7
              rw [hst] at c8
              have HT : Hid (cutF (A.take (k + 1)) (ofL l) = su + cp) := Lib.hid (by rw [HCT.out, HOF.out.1, HOF.out.2, hsf, hst]; simp)
              clear hsf hst
              go_wp2_with (go_quiet (fail))
              exact ⟨⟨k + 1, by have := HLT.out; omega, by rw [HT.out, HWR.out], by go_num, by first | exact HR.out | exact HR.out.keep (below_drewN _ _)⟩, by have := HLT.out; simp [intOf]; omega⟩
        · obtain rfl : k = n := by have := HK.out; omega
          have HT : Hid (cutF (A.take k) (ofL l) = cutF A (ofL l)) := Lib.hid (by rw [List.take_of_length_le (by have := HNL.out; omega)])
          go_wp2_with fail
          go_ret2
          exact ⟨by rw [HV.out.1, HV.out.2, ← HT.out]; rfl, HR.out.bw⟩
  · have HV : Hid (cutE N s t A l = er ∧ cutV N s t A l = 0) := Lib.hid (by have h9 := cutE_bad (l := l) (show netE N s t A ≠ 0 by rw [← HER.out]; exact he); rw [← HER.out] at h9; exact h9)
    have gb : (er != 0) = true := by simp [he]
    go_wp2_with (go_at_call 16; refine HCK1.out.mono ?_; rintro e w5 ⟨rfl, hb5⟩; have HR5 := Lib.hid (HX.out.keep hb5); clear hb5)
    go_ret2
    exact ⟨by rw [HV.out.1, HV.out.2]; rfl, HR5.out.bw⟩
end Go.Proofs.Ytbmbddapbgnioaa
