/- FlowDuality. -/
import Derived.Test.YtbmbddapbgnioaaHf
namespace Go.Proofs.Ytbmbddapbgnioaa
open Go.RowKit Go.Shelf

set_option maxRecDepth 100000 in
set_option maxHeartbeats 8000000 in
theorem dual_walk (N s t : Int) (A : List Ar) (X : List Int) (l : List Bool) (va vx vl : Value) (w : World) (hA : ARest w.heap.size w A va) (hX : IRest w.heap.size w X vx) (hL : BRest w.heap.size w l vl) :
    Calls Try.prog 5 #[netV N s t va, vx, vl] w fun e w' => e = .returned (.bool true) ∧ Kd w w' := by
  have HA := Lib.hid hA
  have HXL := Lib.hid (And.intro hX hL)
  have HFEW : Hid (∀ W, Kd w W → Calls Try.prog 17 #[netV N s t va] W fun e w' => e = .returned (.bool (fewB N (netE N s t A) A.length)) ∧ Kd W w') := Lib.hid (fun W hW => (few_call N s t A va W (hW.arest hA)).mono fun e w' h => ⟨h.1, Kd.of h.2⟩)
  have HCK : Hid (∀ W, Kd w W → Calls Try.prog 15 #[netV N s t va] W fun e w' => e = .returned (.int .i64 (netE N s t A)) ∧ Kd W w') := Lib.hid (fun W hW => (check_call N s t A va W (hW.arest hA)).mono fun e w' h => ⟨h.1, Kd.of h.2⟩)
  have HVA : Hid (∀ W, Kd w W → Calls Try.prog 11 #[netV N s t va, vx] W fun e w' => e = .returned (.tuple #[.int .i64 (valV N s t A X), .int .i64 (valE N s t A X)]) ∧ Kd W w') := Lib.hid (fun W hW => (value_call N s t A X va vx W (hW.arest hA) (hW.irest hX)).mono fun e w' h => ⟨h.1, Kd.of h.2⟩)
  have HCU : Hid (∀ W, Kd w W → Calls Try.prog 13 #[netV N s t va, vl] W fun e w' => e = .returned (.tuple #[.int .i64 (cutV N s t A l), .int .i64 (cutE N s t A l)]) ∧ Kd W w') := Lib.hid (fun W hW => (cut_call N s t A l va vl W (hW.arest hA) (hW.brest hL)).mono fun e w' h => ⟨h.1, Kd.of h.2⟩)
  have HGR : Hid (netE N s t A = 0 → ∀ W, Kd w W → Calls Try.prog 22 #[netV N s t va] W fun e w' => ∃ m vs, e = .returned (.tuple #[.int .i64 m, vs, .bool true]) ∧ Kd W w' ∧ (valE N s t A X = 0 → valV N s t A X ≤ m) ∧ (cutE N s t A l = 0 → m ≤ cutV N s t A l)) := Lib.hid (fun hE W hW => by
    have hn := net_ok hE
    obtain ⟨Nn, rfl⟩ : ∃ sn : Nat, N = (sn : Int) := ⟨N.toNat, by have h1 := hn.rng; omega⟩
    obtain ⟨sn, rfl⟩ : ∃ sn : Nat, s = (sn : Int) := ⟨s.toNat, by have h1 := hn.net.src; omega⟩
    obtain ⟨tn, rfl⟩ : ∃ sn : Nat, t = (sn : Int) := ⟨t.toNat, by have h1 := hn.net.snk; omega⟩
    refine (greatest_call Nn sn tn A va W (hW.arest hA) hE).mono fun e w' h => ?_
    obtain ⟨Y, k, vs, hg⟩ := h
    refine ⟨_, vs, hg.e, hg.kd, fun hv => ?_, fun hc => ?_⟩
    · have h1 := (val_ok hv).2
      have h2 := (val_of hE h1).2
      rw [h2]
      exact hg.max.most hn.net h1
    · obtain ⟨-, -, h2, h3⟩ := cut_ok hc
      rw [h3]
      exact hg.max.flo.le_cut hn.net h2)
  have HVC : Hid (valE N s t A X = 0 → cutE N s t A l = 0 → valV N s t A X ≤ cutV N s t A l) := Lib.hid (fun hv hc => by
    have h1 := val_ok hv
    obtain ⟨-, -, h2, h3⟩ := cut_ok hc
    have hn := net_ok h1.1
    rw [h3, (val_of h1.1 h1.2).2]
    exact h1.2.le_cut hn.net h2)
  obtain ⟨er, her⟩ : ∃ x, x = netE N s t A := ⟨_, rfl⟩
  obtain ⟨ve, hve⟩ : ∃ x, x = valE N s t A X := ⟨_, rfl⟩
  obtain ⟨vv, hvv⟩ : ∃ x, x = valV N s t A X := ⟨_, rfl⟩
  obtain ⟨ce, hce⟩ : ∃ x, x = cutE N s t A l := ⟨_, rfl⟩
  obtain ⟨cv, hcv⟩ : ∃ x, x = cutV N s t A l := ⟨_, rfl⟩
  rw [← her] at HFEW HCK HGR
  rw [← hve, ← hvv] at HVA HGR HVC
  rw [← hce, ← hcv] at HCU HGR HVC
  clear hA hX hL her hve hvv hce hcv HA HXL
  unfold netV at HFEW HCK HVA HCU HGR ⊢
  have HSN : Hid (∀ W, Calls Try.prog 10 #[] W fun e w' => e = .returned (.bool true) ∧ Kd W w') := Lib.hid sane_call
  have HX := Lib.hid (bx_new w N s t va)
  obtain ⟨W1, hW1⟩ : ∃ W1, W1 = w.alloc (.cells #[.int .i64 N, .int .i64 s, .int .i64 t, va] 24) := ⟨_, rfl⟩
  have HW1 := Lib.hid hW1
  rw [← hW1] at HX
  clear hW1
  have HB : Hid (Kd w W1 ∧ Row W1 w.heap.size 24 [.int .i64 N, .int .i64 s, .int .i64 t, va]) := Lib.hid ⟨Kd.of HX.out.bw, HX.out.row⟩
  clear HX
  have HS1 := Lib.hid (HSN.out W1)
  go_enter Try.func5, Try.ntmps5
  go_upto_region 1 with (fail)
  rw [← HW1.out]
  go_upto_region 3 with (go_at_call 10; refine HS1.out.mono ?_; rintro e W2 ⟨rfl, hk⟩; have HB2 : Hid (Kd w W2 ∧ Row W2 w.heap.size 24 [.int .i64 N, .int .i64 s, .int .i64 t, va]) := Lib.hid ⟨HB.out.1.trans hk, hk.row HB.out.2⟩; clear hk)
  clear HB HS1 HW1 HSN
  have c0 := HB2.out.2.cell (i := 0) rfl
  have c1 := HB2.out.2.cell (i := 1) rfl
  have c2 := HB2.out.2.cell (i := 2) rfl
  have c3 := HB2.out.2.cell (i := 3) rfl
  have HF2 := Lib.hid (HFEW.out W2 HB2.out.1)
  cases hf : fewB N er A.length with
  | false =>
    rw [hf] at HF2
    go_wp2_with (go_at_call 17; refine HF2.out.mono ?_; rintro e W3 ⟨rfl, hk⟩; have HZ3 := Lib.hid (HB2.out.1.trans hk); clear hk)
    refine bodyPost_ret (results_tmp rfl _ _ _) rfl ?_
    exact ⟨rfl, HZ3.out⟩
  | true =>
    rw [hf] at HF2
    clear hf
    by_cases he : er = 0
    · subst he
      go_upto_region 5 with (first | (go_at_call 17; refine HF2.out.mono ?_; rintro e W3 ⟨rfl, hk⟩; have HB3 : Hid (Kd w W3 ∧ Row W3 w.heap.size 24 [.int .i64 N, .int .i64 s, .int .i64 t, va]) := Lib.hid ⟨HB2.out.1.trans hk, hk.row HB2.out.2⟩; have e0 := HB3.out.2.cell (i := 0) rfl; have e1 := HB3.out.2.cell (i := 1) rfl; have e2 := HB3.out.2.cell (i := 2) rfl; have e3 := HB3.out.2.cell (i := 3) rfl; have HC3 := Lib.hid (HCK.out W3 HB3.out.1); clear hk) | (go_at_call 15; refine HC3.out.mono ?_; rintro e W4 ⟨rfl, hk⟩; have HB4 : Hid (Kd w W4 ∧ Row W4 w.heap.size 24 [.int .i64 N, .int .i64 s, .int .i64 t, va]) := Lib.hid ⟨HB3.out.1.trans hk, hk.row HB3.out.2⟩; clear hk))
      clear c0 c1 c2 c3 e0 e1 e2 e3 HC3 HB3 HB2 HF2 HFEW HCK
      have c0 := HB4.out.2.cell (i := 0) rfl
      have c1 := HB4.out.2.cell (i := 1) rfl
      have c2 := HB4.out.2.cell (i := 2) rfl
      have c3 := HB4.out.2.cell (i := 3) rfl
      have HG4 := Lib.hid (HGR.out (by first | rfl | trivial) W4 HB4.out.1)
      clear HGR
      go_upto_region 8 with (go_at_call 22; refine HG4.out.mono ?_; rintro e W5 ⟨m, vs, rfl, hk, hm1, hm2⟩; have HB5 : Hid (Kd w W5 ∧ Row W5 w.heap.size 24 [.int .i64 N, .int .i64 s, .int .i64 t, va]) := Lib.hid ⟨HB4.out.1.trans hk, hk.row HB4.out.2⟩; have HM := Lib.hid (And.intro hm1 hm2); clear hk hm1 hm2)
      clear c0 c1 c2 c3 HG4 HB4
      have c0 := HB5.out.2.cell (i := 0) rfl
      have c1 := HB5.out.2.cell (i := 1) rfl
      have c2 := HB5.out.2.cell (i := 2) rfl
      have c3 := HB5.out.2.cell (i := 3) rfl
      have HV5 := Lib.hid (HVA.out W5 HB5.out.1)
      go_upto_region 9 with (go_at_call 11; refine HV5.out.mono ?_; rintro e W6 ⟨rfl, hk⟩; have HB6 : Hid (Kd w W6 ∧ Row W6 w.heap.size 24 [.int .i64 N, .int .i64 s, .int .i64 t, va]) := Lib.hid ⟨HB5.out.1.trans hk, hk.row HB5.out.2⟩; clear hk)
      clear c0 c1 c2 c3 HV5 HB5 HVA
      have c0 := HB6.out.2.cell (i := 0) rfl
      have c1 := HB6.out.2.cell (i := 1) rfl
      have c2 := HB6.out.2.cell (i := 2) rfl
      have c3 := HB6.out.2.cell (i := 3) rfl
      have HC6 := Lib.hid (HCU.out W6 HB6.out.1)
      go_upto_region 10 with (go_at_call 13; refine HC6.out.mono ?_; rintro e W7 ⟨rfl, hk⟩; have HZ7 := Lib.hid (HB6.out.1.trans hk); clear hk)
      clear c0 c1 c2 c3 HC6 HB6 HCU
      by_cases hv : ve = 0
      · subst hv
        have hvm : ¬ m < vv := by have := HM.out.1 rfl; omega
        by_cases hc : ce = 0
        · subst hc
          have hvc : ¬ cv < vv := by have := HVC.out rfl rfl; omega
          have hmc : m ≤ cv := HM.out.2 rfl
          have g1 : decide (m < vv) = false := decide_eq_false hvm
          have g2 : decide (cv < vv) = false := decide_eq_false hvc
          have g3 : decide (m ≤ cv) = true := decide_eq_true hmc
          go_wp2_with fail
          refine bodyPost_ret (results_tmp rfl _ _ _) rfl ?_
          exact ⟨rfl, HZ7.out⟩
        · have g0 : (ce != 0) = true := by simp [hc]
          have g4 : (ce == 0) = false := by simp [hc]
          have g1 : decide (m < vv) = false := decide_eq_false hvm
          go_wp2_with fail
          refine bodyPost_ret (results_tmp rfl _ _ _) rfl ?_
          exact ⟨rfl, HZ7.out⟩
      · have g5 : (ve == 0) = false := by simp [hv]
        by_cases hc : ce = 0
        · subst hc
          have hmc : m ≤ cv := HM.out.2 rfl
          have g3 : decide (m ≤ cv) = true := decide_eq_true hmc
          go_wp2_with fail
          refine bodyPost_ret (results_tmp rfl _ _ _) rfl ?_
          exact ⟨rfl, HZ7.out⟩
        · have g0 : (ce != 0) = true := by simp [hc]
          have g4 : (ce == 0) = false := by simp [hc]
          go_wp2_with fail
          refine bodyPost_ret (results_tmp rfl _ _ _) rfl ?_
          exact ⟨rfl, HZ7.out⟩
    · have g1 : (er != 0) = true := by simp [he]
      go_wp2_with (first | (go_at_call 17; refine HF2.out.mono ?_; rintro e W3 ⟨rfl, hk⟩; have HB3 : Hid (Kd w W3 ∧ Row W3 w.heap.size 24 [.int .i64 N, .int .i64 s, .int .i64 t, va]) := Lib.hid ⟨HB2.out.1.trans hk, hk.row HB2.out.2⟩; have e0 := HB3.out.2.cell (i := 0) rfl; have e1 := HB3.out.2.cell (i := 1) rfl; have e2 := HB3.out.2.cell (i := 2) rfl; have e3 := HB3.out.2.cell (i := 3) rfl; have HC3 := Lib.hid (HCK.out W3 HB3.out.1); clear hk) | (go_at_call 15; refine HC3.out.mono ?_; rintro e W4 ⟨rfl, hk⟩; have HZ4 := Lib.hid (HB3.out.1.trans hk); clear hk))
      refine bodyPost_ret (results_tmp rfl _ _ _) rfl ?_
      exact ⟨rfl, HZ4.out⟩
end Go.Proofs.Ytbmbddapbgnioaa
