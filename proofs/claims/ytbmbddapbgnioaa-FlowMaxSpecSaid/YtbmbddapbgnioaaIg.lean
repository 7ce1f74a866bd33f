/- Ig -/
import Derived.Test.YtbmbddapbgnioaaKi
import Derived.Test.YtbmbddapbgnioaaJ
namespace Go.Proofs.Ytbmbddapbgnioaa
open Go.RowKit Go.Shelf

set_option maxRecDepth 100000 in
set_option maxHeartbeats 8000000 in
theorem maxspec_walk (N s t : Int) (A : List Ar) (va : Value) (w : World) (hA : ARest w.heap.size w A va) :
    Calls Try.prog 4 #[netV N s t va] w fun e w' => e = .returned (.bool true) ∧ Kd w w' := by
  have HFEW : Hid (∀ W, Kd w W → Calls Try.prog 17 #[netV N s t va] W fun e w' => e = .returned (.bool (fewB N (netE N s t A) A.length)) ∧ Kd W w') := Lib.hid (fun W hW => (few_call N s t A va W (hW.arest hA)).mono fun e w' h => ⟨h.1, Kd.of h.2⟩)
  have HBA : Hid (netE N s t A ≠ 0 → ∀ W, Kd w W → Calls Try.prog 18 #[netV N s t va] W fun e w' => e = .returned (.tuple #[.slice none 0 0, .slice none 0 0, .int .i64 (netE N s t A)]) ∧ Kd W w') := Lib.hid (fun hE W hW => (max_bad N s t A va W (hW.arest hA) hE).mono fun e w' h => ⟨h.1, Kd.of h.2⟩)
  have HBB : Hid (netE N s t A ≠ 0 → ∀ W, Kd w W → Calls Try.prog 19 #[netV N s t va] W fun e w' => e = .returned (.tuple #[.slice none 0 0, .slice none 0 0, .int .i64 (netE N s t A)]) ∧ Kd W w') := Lib.hid (fun hE W hW => rmax_bad N s t A va W (hW.arest hA) hE)
  have HNAT : Hid (netE N s t A = 0 → ∃ Nn sn tn : Nat, N = (Nn : Int) ∧ s = (sn : Int) ∧ t = (tn : Int)) := Lib.hid (fun hE => by
    have hn := net_ok hE
    exact ⟨N.toNat, s.toNat, t.toNat, by have h1 := hn.rng; omega, by have h1 := hn.net.src; omega, by have h1 := hn.net.snk; omega⟩)
  have HGA : Hid (∀ Nn sn tn : Nat, netE Nn sn tn A = 0 → ∀ W, Kd w W → Calls Try.prog 18 #[netV Nn sn tn va] W fun e w' => ∃ X l vf vs, MaxP Nn sn tn A W e w' X l vf vs) := Lib.hid (fun Nn sn tn hE W hW => max_law Nn sn tn A va W (hW.arest hA) hE)
  have HGB : Hid (∀ Nn sn tn : Nat, netE Nn sn tn A = 0 → ∀ W, Kd w W → Calls Try.prog 19 #[netV Nn sn tn va] W fun e w' => ∃ X l vf vs, RMx Nn sn tn A W e w' X l vf vs) := Lib.hid (fun Nn sn tn hE W hW => rmax_good Nn sn tn A va W (hW.arest hA) hE)
  have HMO : Hid (∀ Nn sn tn : Nat, netE Nn sn tn A = 0 → ∀ W, Kd w W → Calls Try.prog 20 #[netV Nn sn tn va] W fun e w' => ∃ X l, e = .returned (.int .i64 (surp A X sn)) ∧ Kd W w' ∧ IsMax Nn sn tn A X (ofL l)) := Lib.hid (fun Nn sn tn hE W hW => rmost_call Nn sn tn A va W (hW.arest hA) hE)
  have HVA : Hid (∀ W X vx, Kd w W → IRest W.heap.size W X vx → Calls Try.prog 12 #[netV N s t va, vx] W fun e w' => e = .returned (.tuple #[.int .i64 (valV N s t A X), .int .i64 (valE N s t A X)]) ∧ Below W.heap.size W w') := Lib.hid (fun W X vx hW hX => rvalue_call N s t A X va vx W (hW.arest hA) hX)
  obtain ⟨er, her⟩ : ∃ x, x = netE N s t A := ⟨_, rfl⟩
  rw [← her] at HFEW HBA HBB HNAT
  have HER := Lib.hid her
  clear hA her
  unfold netV at *
  have HSN : Hid (∀ W, Calls Try.prog 10 #[] W fun e w' => e = .returned (.bool true) ∧ Kd W w') := Lib.hid sane_call
  have HX := Lib.hid (bx_new w N s t va)
  obtain ⟨W1, hW1⟩ : ∃ W1, W1 = w.alloc (.cells #[.int .i64 N, .int .i64 s, .int .i64 t, va] 24) := ⟨_, rfl⟩
  have HW1 := Lib.hid hW1
  rw [← hW1] at HX
  clear hW1
  have HB : Hid (Kd w W1 ∧ Row W1 w.heap.size 24 [.int .i64 N, .int .i64 s, .int .i64 t, va]) := Lib.hid ⟨Kd.of HX.out.bw, HX.out.row⟩
  clear HX
  have HS1 := Lib.hid (HSN.out W1)
  go_enter Try.func4, Try.ntmps4
  go_upto_region 1 with (fail)
  rw [← HW1.out]
  go_upto_region 3 with (go_at_call 10; refine HS1.out.mono ?_; rintro e W2 ⟨rfl, hk⟩; have HB2 : Hid (Kd w W2 ∧ Row W2 w.heap.size 24 [.int .i64 N, .int .i64 s, .int .i64 t, va]) := Lib.hid ⟨HB.out.1.trans hk, hk.row HB.out.2⟩; clear hk)
  clear HB HS1 HW1 HSN
  have c0 := HB2.out.2.cell (i := 0) rfl
  have c1 := HB2.out.2.cell (i := 1) rfl
  have c2 := HB2.out.2.cell (i := 2) rfl
  have c3 := HB2.out.2.cell (i := 3) rfl
  have HF2 := Lib.hid (HFEW.out W2 HB2.out.1)
  cases hf : fewB N er A.length with
  | false =>
    rw [hf] at HF2
    go_wp2_with (go_at_call 17; refine HF2.out.mono ?_; rintro e W3 ⟨rfl, hk⟩; have HZ3 := Lib.hid (HB2.out.1.trans hk); clear hk)
    refine bodyPost_ret (results_tmp rfl _ _ _) rfl ?_
    exact ⟨rfl, HZ3.out⟩
  | true =>
    rw [hf] at HF2
    clear hf
    go_upto_region 5 with (go_at_call 17; refine HF2.out.mono ?_; rintro e W3 ⟨rfl, hk⟩; have HB3 : Hid (Kd w W3 ∧ Row W3 w.heap.size 24 [.int .i64 N, .int .i64 s, .int .i64 t, va]) := Lib.hid ⟨HB2.out.1.trans hk, hk.row HB2.out.2⟩; clear hk)
    clear c0 c1 c2 c3 HF2 HFEW HB2
    have c0 := HB3.out.2.cell (i := 0) rfl
    have c1 := HB3.out.2.cell (i := 1) rfl
    have c2 := HB3.out.2.cell (i := 2) rfl
    have c3 := HB3.out.2.cell (i := 3) rfl
    by_cases he : er = 0
    · obtain ⟨Nn, sn, tn, rfl, rfl, rfl⟩ := HNAT.out he
      subst he
      have hE : netE Nn sn tn A = 0 := HER.out.symm
      have HE := Lib.hid hE
      have HGA1 := Lib.hid (HGA.out Nn sn tn hE W3 HB3.out.1)
      clear hE
      go_upto_region 6 with (go_at_call 18; refine HGA1.out.mono ?_; rintro e W4 ⟨X4, l4, vf4, vs4, hm⟩; have HM4 := Lib.hid hm; obtain rfl := hm.e; have HB4 : Hid (Kd w W4 ∧ Row W4 w.heap.size 24 [.int .i64 (Nn : Int), .int .i64 (sn : Int), .int .i64 (tn : Int), va]) := Lib.hid ⟨HB3.out.1.trans hm.kd, hm.kd.row HB3.out.2⟩; clear hm)
      obtain ⟨as4, cs4, hv4⟩ := brest_shape HM4.out.sd
      subst hv4
      obtain ⟨af4, cf4, hx4⟩ : ∃ a c, vf4 = .slice a X4.length c := by obtain ⟨a, c, h1, -⟩ := HM4.out.fl; exact ⟨a, c, h1⟩
      subst hx4
      clear c0 c1 c2 c3 HGA1
      have c0 := HB4.out.2.cell (i := 0) rfl
      have c1 := HB4.out.2.cell (i := 1) rfl
      have c2 := HB4.out.2.cell (i := 2) rfl
      have c3 := HB4.out.2.cell (i := 3) rfl
      have HGB1 := Lib.hid (HGB.out Nn sn tn HE.out W4 HB4.out.1)
      go_upto_region 7 with (go_at_call 19; refine HGB1.out.mono ?_; rintro e W5 ⟨X5, l5, vf5, vs5, hm⟩; have HM5 := Lib.hid hm; obtain rfl := hm.e; have HB5 : Hid (Kd w W5 ∧ Row W5 w.heap.size 24 [.int .i64 (Nn : Int), .int .i64 (sn : Int), .int .i64 (tn : Int), va]) := Lib.hid ⟨HB4.out.1.trans hm.kd, hm.kd.row HB4.out.2⟩; clear hm)
      obtain ⟨as5, cs5, hv5⟩ := brest_shape HM5.out.sd
      subst hv5
      clear c0 c1 c2 c3 HGB1
      have c0 := HB5.out.2.cell (i := 0) rfl
      have c1 := HB5.out.2.cell (i := 1) rfl
      have c2 := HB5.out.2.cell (i := 2) rfl
      have c3 := HB5.out.2.cell (i := 3) rfl
      have HVA1 : Hid (Calls Try.prog 12 #[.agg #[.int .i64 (Nn : Int), .int .i64 (sn : Int), .int .i64 (tn : Int), va], .slice af4 X4.length cf4] W5 fun e w' => e = .returned (.tuple #[.int .i64 (surp A X4 sn), .int .i64 0]) ∧ Below W5.heap.size W5 w') := Lib.hid (by
        have h9 := HVA.out W5 X4 _ HB5.out.1 (HM5.out.kd.irest HM4.out.fl)
        have h8 := val_of (X := X4) HE.out (by simpa using HM4.out.max.flo)
        rw [h8.1, h8.2] at h9; exact h9)
      have hnw := (net_ok HE.out).net
      have huq := HM4.out.max.unique hnw HM5.out.max
      have hl45 : l4 = l5 := list_of (by rw [HM4.out.len, HM5.out.len]) (fun v hv => by
        have h3 := huq.2 (v : Int) (by omega) (by have := HM5.out.len; omega)
        simpa only [ofL_at] using h3)
      have HL45 := Lib.hid hl45
      have HNW := Lib.hid hnw
      clear huq hl45 hnw
      obtain ⟨n4, hn4⟩ : ∃ n, n = X4.length := ⟨_, rfl⟩
      rw [← hn4] at HVA1 ⊢
      clear hn4
      obtain ⟨m4, hm4⟩ : ∃ m, m = surp A X4 sn := ⟨_, rfl⟩
      rw [← hm4] at HVA1
      have HM4V := Lib.hid hm4
      clear hm4
      go_upto_region 10 with (go_at_call 12; refine HVA1.out.mono ?_; rintro e W6 ⟨rfl, hk⟩; have HB6 : Hid (Kd w W6 ∧ Row W6 w.heap.size 24 [.int .i64 (Nn : Int), .int .i64 (sn : Int), .int .i64 (tn : Int), va]) := Lib.hid ⟨HB5.out.1.trans (Kd.of hk), (Kd.of hk).row HB5.out.2⟩; have HK6 := Lib.hid (Kd.of hk); clear hk)
      clear c0 c1 c2 c3 HVA1
      have c0 := HB6.out.2.cell (i := 0) rfl
      have c1 := HB6.out.2.cell (i := 1) rfl
      have c2 := HB6.out.2.cell (i := 2) rfl
      have c3 := HB6.out.2.cell (i := 3) rfl
      have HMO1 : Hid (Calls Try.prog 20 #[.agg #[.int .i64 (Nn : Int), .int .i64 (sn : Int), .int .i64 (tn : Int), va]] W6 fun e w' => e = .returned (.int .i64 m4) ∧ Kd W6 w') := Lib.hid ((HMO.out Nn sn tn HE.out W6 HB6.out.1).mono (fun e w' h => by
        obtain ⟨X, l, h1, h2, h3⟩ := h
        have h9 := HM4.out.max.unique HNW.out h3
        rw [HM4V.out, h9.1]
        exact ⟨h1, h2⟩))
      have HSM : Hid (∀ W, Kd W6 W → Calls Try.prog 21 #[.slice as4 l4.length cs4, .slice as5 l5.length cs5] W fun e w' => e = .returned (.bool true) ∧ Kd W w') := Lib.hid (fun W hW => by
        have h1 := same_call l4 l5 _ _ W (((HM5.out.kd.trans HK6.out).trans hW).brest HM4.out.sd) ((HK6.out.trans hW).brest HM5.out.sd)
        have h2 : smB l4 l5 = true := decide_eq_true HL45.out
        rw [h2] at h1
        exact h1)
      obtain ⟨n7, hn7⟩ : ∃ n, n = l4.length := ⟨_, rfl⟩
      obtain ⟨n8, hn8⟩ : ∃ n, n = l5.length := ⟨_, rfl⟩
      rw [← hn7, ← hn8] at HSM
      rw [← hn7, ← hn8]
      clear hn7 hn8
      go_wp2_with (first | (go_at_call 21; refine HSM7.out.mono ?_; rintro e W8 ⟨rfl, hk⟩; have HZ8 := Lib.hid (HK7.out.trans hk); clear hk) | (go_at_call 20; refine HMO1.out.mono ?_; rintro e W7 ⟨rfl, hk⟩; have HSM7 := Lib.hid (HSM.out W7 hk); have HK7 := Lib.hid (HB6.out.1.trans hk); clear hk))
      refine bodyPost_ret (results_tmp rfl _ _ _) rfl ?_
      exact ⟨rfl, HZ8.out⟩
    · have g1 : (er != 0) = true := by simp [he]
      have g2 : (er == 0) = false := by simp [he]
      have HA1 := Lib.hid (HBA.out he W3 HB3.out.1)
      go_upto_region 6 with (go_at_call 18; refine HA1.out.mono ?_; rintro e W4 ⟨rfl, hk⟩; have HB4 : Hid (Kd w W4 ∧ Row W4 w.heap.size 24 [.int .i64 N, .int .i64 s, .int .i64 t, va]) := Lib.hid ⟨HB3.out.1.trans hk, hk.row HB3.out.2⟩; clear hk)
      clear c0 c1 c2 c3 HA1
      have c0 := HB4.out.2.cell (i := 0) rfl
      have c1 := HB4.out.2.cell (i := 1) rfl
      have c2 := HB4.out.2.cell (i := 2) rfl
      have c3 := HB4.out.2.cell (i := 3) rfl
      have HA2 := Lib.hid (HBB.out he W4 HB4.out.1)
      go_wp2_with (go_at_call 19; refine HA2.out.mono ?_; rintro e W5 ⟨rfl, hk⟩; have HZ5 := Lib.hid (HB4.out.1.trans hk); clear hk)
      refine bodyPost_ret (results_tmp rfl _ _ _) rfl ?_
      exact ⟨rfl, HZ5.out⟩
end Go.Proofs.Ytbmbddapbgnioaa
