/- Ib -/
import Derived.Test.YtbmbddapbgnioaaJ
namespace Go.Proofs.Ytbmbddapbgnioaa
open Go.RowKit Go.Shelf

set_option maxRecDepth 100000 in
set_option maxHeartbeats 8000000 in
theorem least_walk (N s t : Int) (A : List Ar) (l : List Bool) (va : Value) (vl : Value) (w : World) (hA : ARest w.heap.size w A va) (hL : BRest w.heap.size w l vl) :
    Calls Try.prog 6 #[netV N s t va, vl] w fun e w' => e = .returned (.bool true) ∧ Kd w w' := by
  have HA := Lib.hid hA
  have HFEW : Hid (∀ W, Kd w W → Calls Try.prog 17 #[netV N s t va] W fun e w' => e = .returned (.bool (fewB N (netE N s t A) A.length)) ∧ Kd W w') := Lib.hid (fun W hW => (few_call N s t A va W (hW.arest hA)).mono fun e w' h => ⟨h.1, Kd.of h.2⟩)
  have HCK : Hid (∀ W, Kd w W → Calls Try.prog 15 #[netV N s t va] W fun e w' => e = .returned (.int .i64 (netE N s t A)) ∧ Kd W w') := Lib.hid (fun W hW => (check_call N s t A va W (hW.arest hA)).mono fun e w' h => ⟨h.1, Kd.of h.2⟩)
  obtain ⟨er, her⟩ : ∃ x, x = netE N s t A := ⟨_, rfl⟩
  have HCU : Hid (∀ W, Kd w W → Calls Try.prog 13 #[netV N s t va, vl] W fun e w' => e = .returned (.tuple #[.int .i64 (cutV N s t A l), .int .i64 (cutE N s t A l)]) ∧ Kd W w') := Lib.hid (fun W hW => (cut_call N s t A l va vl W (hW.arest hA) (hW.brest hL)).mono fun e w' h => ⟨h.1, Kd.of h.2⟩)
  have HGR : Hid (netE N s t A = 0 → ∀ W, Kd w W → Calls Try.prog 22 #[netV N s t va] W fun e w' => ∃ X l vs, GrI N s t A W e w' X l vs) := Lib.hid (fun hE W hW => greatest_int N s t A va W (hW.arest hA) hE)
  have HLE : Hid (∀ W (e : Ending) W' X l1 v1, GrI N s t A W e W' X l1 v1 → netE N s t A = 0 → cutE N s t A l = 0 → cutV N s t A l = surp A X s → l.length = l1.length ∧ ∀ i, i < l1.length → l1.getD i false = true → l.getD i false = true) := Lib.hid (fun W e W' X l1 v1 hg hE hc hv => by
    obtain ⟨-, hl, h2, h3⟩ := cut_ok hc
    have hn := net_ok hE
    have hlen := hg.len
    refine ⟨by omega, fun i hi h9 => ?_⟩
    have := hg.max.least hn.net h2 (h3.symm.trans hv) (v := (i : Int)) (by omega) (by have := hn.rng; omega) (by unfold ofL; simpa using h9)
    unfold ofL at this
    simpa using this)
  have HL := Lib.hid hL
  obtain ⟨ce, hce⟩ : ∃ x, x = cutE N s t A l := ⟨_, rfl⟩
  obtain ⟨cv, hcv⟩ : ∃ x, x = cutV N s t A l := ⟨_, rfl⟩
  rw [← hce, ← hcv] at HCU HLE
  rw [← her] at HGR HLE
  obtain ⟨al, cl, rfl⟩ := brest_shape hL
  obtain ⟨nl, hnl⟩ : ∃ n, n = l.length := ⟨_, rfl⟩
  have HNL := Lib.hid hnl
  rw [← hnl] at HL HCU HLE ⊢
  clear hL hce hcv hnl
  rw [← her] at HFEW HCK
  have HER := Lib.hid her
  clear hA her
  unfold netV at *
  have HSN : Hid (∀ W, Calls Try.prog 10 #[] W fun e w' => e = .returned (.bool true) ∧ Kd W w') := Lib.hid sane_call
  have HX := Lib.hid (bx_new w N s t va)
  obtain ⟨W1, hW1⟩ : ∃ W1, W1 = w.alloc (.cells #[.int .i64 N, .int .i64 s, .int .i64 t, va] 24) := ⟨_, rfl⟩
  have HW1 := Lib.hid hW1
  rw [← hW1] at HX
  clear hW1
  have HB : Hid (Kd w W1 ∧ Row W1 w.heap.size 24 [.int .i64 N, .int .i64 s, .int .i64 t, va]) := Lib.hid ⟨Kd.of HX.out.bw, HX.out.row⟩
  clear HX
  have HS1 := Lib.hid (HSN.out W1)
  go_enter Try.func6, Try.ntmps6
  go_upto_region 1 with (fail)
  rw [← HW1.out]
  go_upto_region 3 with (go_at_call 10; refine HS1.out.mono ?_; rintro e W2 ⟨rfl, hk⟩; have HB2 : Hid (Kd w W2 ∧ Row W2 w.heap.size 24 [.int .i64 N, .int .i64 s, .int .i64 t, va]) := Lib.hid ⟨HB.out.1.trans hk, hk.row HB.out.2⟩; clear hk)
  clear HB HS1 HW1 HSN
  have c0 := HB2.out.2.cell (i := 0) rfl
  have c1 := HB2.out.2.cell (i := 1) rfl
  have c2 := HB2.out.2.cell (i := 2) rfl
  have c3 := HB2.out.2.cell (i := 3) rfl
  have HF2 := Lib.hid (HFEW.out W2 HB2.out.1)
  cases hf : fewB N er A.length with
  | false =>
    rw [hf] at HF2
    go_wp2_with (go_at_call 17; refine HF2.out.mono ?_; rintro e W3 ⟨rfl, hk⟩; have HZ3 := Lib.hid (HB2.out.1.trans hk); clear hk)
    refine bodyPost_ret (results_tmp rfl _ _ _) rfl ?_
    exact ⟨rfl, HZ3.out⟩
  | true =>
    rw [hf] at HF2
    clear hf
    by_cases he : er = 0
    · subst he
      go_upto_region 5 with (first | (go_at_call 17; refine HF2.out.mono ?_; rintro e W3 ⟨rfl, hk⟩; have HB3 : Hid (Kd w W3 ∧ Row W3 w.heap.size 24 [.int .i64 N, .int .i64 s, .int .i64 t, va]) := Lib.hid ⟨HB2.out.1.trans hk, hk.row HB2.out.2⟩; have e0 := HB3.out.2.cell (i := 0) rfl; have e1 := HB3.out.2.cell (i := 1) rfl; have e2 := HB3.out.2.cell (i := 2) rfl; have e3 := HB3.out.2.cell (i := 3) rfl; have HC3 := Lib.hid (HCK.out W3 HB3.out.1); clear hk) | (go_at_call 15; refine HC3.out.mono ?_; rintro e W4 ⟨rfl, hk⟩; have HB4 : Hid (Kd w W4 ∧ Row W4 w.heap.size 24 [.int .i64 N, .int .i64 s, .int .i64 t, va]) := Lib.hid ⟨HB3.out.1.trans hk, hk.row HB3.out.2⟩; clear hk))
      clear c0 c1 c2 c3 e0 e1 e2 e3 HC3 HB3 HB2 HF2 HFEW HCK
      have c0 := HB4.out.2.cell (i := 0) rfl
      have c1 := HB4.out.2.cell (i := 1) rfl
      have c2 := HB4.out.2.cell (i := 2) rfl
      have c3 := HB4.out.2.cell (i := 3) rfl
      have HG4 := Lib.hid (HGR.out (by first | rfl | trivial) W4 HB4.out.1)
      clear HGR
      go_upto_region 6 with (go_at_call 22; refine HG4.out.mono ?_; rintro e W5 ⟨X5, l5, vs5, hm⟩; have HM5 := Lib.hid hm; obtain rfl := hm.e; have HB5 : Hid (Kd w W5 ∧ Row W5 w.heap.size 24 [.int .i64 N, .int .i64 s, .int .i64 t, va]) := Lib.hid ⟨HB4.out.1.trans hm.kd, hm.kd.row HB4.out.2⟩; clear hm)
      obtain ⟨as5, cs5, hv5⟩ := brest_shape HM5.out.sd
      obtain ⟨n5, hn5⟩ : ∃ n, n = l5.length := ⟨_, rfl⟩
      have HN5 := Lib.hid hn5
      rw [← hn5] at hv5
      subst hv5
      obtain ⟨m, hm⟩ : ∃ m, m = surp A X5 s := ⟨_, rfl⟩
      have HMV := Lib.hid hm
      rw [← hm]
      clear c0 c1 c2 c3 HG4 HB4 hn5 hm
      have c0 := HB5.out.2.cell (i := 0) rfl
      have c1 := HB5.out.2.cell (i := 1) rfl
      have c2 := HB5.out.2.cell (i := 2) rfl
      have c3 := HB5.out.2.cell (i := 3) rfl
      have HC5 := Lib.hid (HCU.out W5 HB5.out.1)
      go_upto_region 9 with (go_at_call 13; refine HC5.out.mono ?_; rintro e W7 ⟨rfl, hk⟩; have HB7 := Lib.hid (And.intro hk (HB5.out.1.trans hk)); clear hk)
      clear c0 c1 c2 c3 HC5 HCU
      by_cases hc : ce = 0
      · subst hc
        by_cases hv : cv = m
        · subst hv
          have hle := HLE.out _ _ _ _ _ _ HM5.out (by first | rfl | trivial) (by first | rfl | trivial) HMV.out
          have hBL := HB7.out.1.brest HM5.out.sd
          have hBM := HB7.out.2.brest HL.out
          have hat := (bools_at hBL).2.2
          have hat' := (bools_at hBM).2.2
          have HAT := Lib.hid hat
          have HBT := Lib.hid hat'
          have HLE2 := Lib.hid hle.2
          obtain rfl : nl = n5 := by rw [HN5.out]; exact hle.1
          have HNM : Hid (nl ≤ maxLen) := Lib.hid (by have h1 := HAT.out.1; have h2 := HN5.out; have h3 := (bools_at hBL).2.1; omega)
          clear hle hBL hBM hat hat'
          go_upto_region 12 with (fail)
          go_loopw [44] (fun s5 wr => ∃ (k : Nat), k ≤ nl ∧ s5 = .int .i64 (k : Int) ∧ Kd W7 wr) (fun s5 _ => nl - (intOf s5).toNat)
          case atStart => exact ⟨0, by omega, rfl, Kd.refl _⟩
          case round =>
            obtain ⟨k, hk, rfl, hR⟩ := hrel
            have HR := Lib.hid hR
            have HK := Lib.hid hk
            clear hR hk
            by_cases hlt : k < nl
            · have hki : (k : Int) < (nl : Int) := by omega
              have HWR := Lib.hid (wrap_succ hlt HNM.out)
              obtain ⟨b1, o1, q1, hb1, f1⟩ := HAT.out.2 k (by have := HN5.out; omega)
              obtain ⟨b2, o2, q2, hb2, f2⟩ := HBT.out.2 k (by have := HNL.out; omega)
              subst q1 q2
              have c1 := HR.out.cell f1
              have c2 := HR.out.cell f2
              have himp := HLE2.out k (by have := HN5.out; omega)
              obtain ⟨x, hx⟩ : ∃ x, x = l5.getD k false := ⟨_, rfl⟩
              obtain ⟨y, hy⟩ : ∃ x, x = l.getD k false := ⟨_, rfl⟩
              rw [← hx] at c1 himp
              rw [← hy] at c2 himp
              have HLT := Lib.hid hlt
              clear f1 f2 hb1 hb2 hx hy hlt
              have hxy : (x = false) ∨ (x = true ∧ y = true) := by cases x <;> simp_all
              clear himp
              rcases hxy with rfl | ⟨rfl, rfl⟩
              · go_wp2_with (go_quiet (fail))
                refine ⟨⟨k + 1, by have := HLT.out; omega, by rw [HWR.out, Int.natCast_succ], by first | exact HR.out | exact HR.out.trans (Kd.drewN _ _)⟩, by have := HLT.out; exact back_less this HWR.out⟩
              · go_wp2_with (go_quiet (fail))
                refine ⟨⟨k + 1, by have := HLT.out; omega, by rw [HWR.out, Int.natCast_succ], by first | exact HR.out | exact HR.out.trans (Kd.drewN _ _)⟩, by have := HLT.out; exact back_less this HWR.out⟩
            · obtain rfl : k = nl := by have := HK.out; omega
              go_wp2_with fail
              refine bodyPost_ret (results_tmp rfl _ _ _) rfl ?_
              exact ⟨rfl, HB7.out.2.trans HR.out⟩
        · have g1 : (cv != m) = true := by simp [hv]
          go_wp2_with fail
          refine bodyPost_ret (results_tmp rfl _ _ _) rfl ?_
          exact ⟨rfl, HB7.out.2⟩
      · have g0 : (ce != 0) = true := by simp [hc]
        have g4 : (ce == 0) = false := by simp [hc]
        go_wp2_with fail
        refine bodyPost_ret (results_tmp rfl _ _ _) rfl ?_
        exact ⟨rfl, HB7.out.2⟩
    · have g1 : (er != 0) = true := by simp [he]
      go_wp2_with (first | (go_at_call 17; refine HF2.out.mono ?_; rintro e W3 ⟨rfl, hk⟩; have HB3 : Hid (Kd w W3 ∧ Row W3 w.heap.size 24 [.int .i64 N, .int .i64 s, .int .i64 t, va]) := Lib.hid ⟨HB2.out.1.trans hk, hk.row HB2.out.2⟩; have e0 := HB3.out.2.cell (i := 0) rfl; have e1 := HB3.out.2.cell (i := 1) rfl; have e2 := HB3.out.2.cell (i := 2) rfl; have e3 := HB3.out.2.cell (i := 3) rfl; have HC3 := Lib.hid (HCK.out W3 HB3.out.1); clear hk) | (go_at_call 15; refine HC3.out.mono ?_; rintro e W4 ⟨rfl, hk⟩; have HZ4 := Lib.hid (HB3.out.1.trans hk); clear hk))
      refine bodyPost_ret (results_tmp rfl _ _ _) rfl ?_
      exact ⟨rfl, HZ4.out⟩
end Go.Proofs.Ytbmbddapbgnioaa
