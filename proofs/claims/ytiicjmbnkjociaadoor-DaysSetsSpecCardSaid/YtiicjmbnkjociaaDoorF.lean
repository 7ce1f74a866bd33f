/- Of and Number of the specification. -/
import Derived.Test.YtiicjmbnkjociaaDoorE
namespace Go.Proofs.YtiicjmbnkjociaaDoor
open Go.RowKit

theorem cum_step (lp : Bool) (k : Nat) : cumB lp (k + 1) = cumB lp k + lnB lp (k + 1) := rfl
set_option maxHeartbeats 2000000 in
set_option maxRecDepth 100000 in
theorem refOf_call (n : Int) (w : World) :
    Calls Tryd.prog 11 #[.int .i64 n] w fun e w' => (∃ x : Dt, IsOf n x ∧ e = .returned (.tuple #[x.v, .int .i64 (ofE n)])) ∧ Below w.heap.size w w' := by
  have HD := Lib.hid (fun W => refDay_call n W)
  have HA := Lib.hid (Joins.below_alloc1 w (.cells #[.int .i64 0, .int .i64 0, .int .i64 0] 23))
  have HZ : Hid (DBox (w.alloc (.cells #[.int .i64 0, .int .i64 0, .int .i64 0] 23)) w.heap.size 0 0 0) := Lib.hid (row_new w 23 [.int .i64 0, .int .i64 0, .int .i64 0])
  by_cases hd : isDayB n = true
  · have hr := isDayB_t hd
    have HN := Lib.hid hr
    unfold IsOf ofE
    rw [hd] at HD ⊢
    simp only [if_true]
    have HW := Lib.hid (below_next HA.out (Joins.below_alloc1 _ (.cells #[.int .i64 2000, .int .i64 1, .int .i64 1] 23)))
    have HR1 : Hid (DBox ((w.alloc (.cells #[.int .i64 0, .int .i64 0, .int .i64 0] 23)).alloc (.cells #[.int .i64 2000, .int .i64 1, .int .i64 1] 23)) (w.heap.size + 1) 2000 1 1) := Lib.hid (by
      have h := row_new (w.alloc (.cells #[.int .i64 0, .int .i64 0, .int .i64 0] 23)) 23 [.int .i64 2000, .int .i64 1, .int .i64 1]
      rw [World.size_alloc] at h; exact h)
    have HZ1 : Hid (DBox ((w.alloc (.cells #[.int .i64 0, .int .i64 0, .int .i64 0] 23)).alloc (.cells #[.int .i64 2000, .int .i64 1, .int .i64 1] 23)) w.heap.size 0 0 0) := Lib.hid (HZ.out.keep (Joins.below_alloc1 _ _))
    clear hd hr
    have HL := Lib.hid (fun y k W (h : 2000 ≤ y ∧ y ≤ 2200) (hk : 1 ≤ k ∧ k ≤ 12) => reflength_call y k W h hk)
    go_enter Tryd.func11, Tryd.ntmps11
    go_wp2_with fail
    refine (HD.out _).mono ?_
    rintro e w1 ⟨rfl, rfl⟩
    go_wp2_with fail
    go_loopw [0] (fun s0 wr => ∃ (y : Int) (k : Nat) (r : Int), (2000 ≤ y ∧ y ≤ 2199 ∧ k < 12 ∧ 0 ≤ r ∧ r + cumB (leap y) k = n - foy y) ∧ s0 = .int .i64 r ∧ DBox wr (w.heap.size + 1) y ((k + 1 : Nat) : Int) 1 ∧ DBox wr w.heap.size 0 0 0 ∧ Below w.heap.size w wr) (fun s0 _ => (intOf s0).toNat)
    case atStart => exact ⟨2000, 0, n, ⟨by omega, by omega, by omega, HN.out.1, by rw [show foy 2000 = 0 by decide]; show n + 0 = n - 0; omega⟩, rfl, HR1.out, HZ1.out, HW.out⟩
    case round =>
      obtain ⟨y, k, r, hk, rfl, hbx, hz, hB⟩ := hrel
      have HX := Lib.hid hbx
      have HZ := Lib.hid hz
      have HB := Lib.hid hB
      have HK := Lib.hid hk
      obtain ⟨k1, hk1⟩ : ∃ k1, k1 = k + 1 := ⟨_, rfl⟩
      rw [← hk1] at hbx HX
      have hc0 := hbx.cell (i := 0) rfl
      have hc1 := hbx.cell (i := 1) rfl
      have hc2 := hbx.cell (i := 2) rfl
      have hf0 := hbx.free 0
      have hf1 := hbx.free 1
      have hf2 := hbx.free 2
      have hz0 := hz.cell (i := 0) rfl
      have hz1 := hz.cell (i := 1) rfl
      have hz2 := hz.cell (i := 2) rfl
      have hzf0 := hz.free 0
      have hzf1 := hz.free 1
      have hzf2 := hz.free 2
      have HK0 := Lib.hid (show 1 ≤ k1 ∧ k1 ≤ 12 by omega)
      have HLY := Lib.hid (HL.out y k1 wr (by omega) HK0.out)
      have HLL := Lib.hid (lnB_rng (leap y) k1 HK0.out)
      have HCK : Hid (cumB (leap y) k1 = cumB (leap y) k + lnB (leap y) k1) := Lib.hid (by rw [hk1]; exact cum_step _ _)
      have HFD : Hid (r < lnB (leap y) k1 → Dt.ok ⟨y, (k1 : Int), r + 1⟩ ∧ Dt.num ⟨y, (k1 : Int), r + 1⟩ = n) := Lib.hid (fun h => by
        have h8 := Dt.found (y := y) (k := k) (r := r) ⟨by omega, by omega⟩ (by omega) ⟨by omega, by rw [← hk1]; exact h⟩
        rw [show ((k : Int) + 1) = (k1 : Int) by omega] at h8
        exact ⟨h8.1, h8.2.trans (by omega)⟩)
      have HRR : Hid (0 ≤ r ∧ r ≤ 73048) := Lib.hid (by have := foy_rng y (by omega); have := cumB_rng (leap y) k (by omega); have := HN.out; omega)
      have HKK := Lib.hid hk1
      have HST : Hid (foy (y + 1) = foy y + cumB (leap y) 12) := Lib.hid (foy_step y (by omega))
      clear hk1 hbx hz hB hk
      obtain ⟨z, hz⟩ : ∃ z, z = lnB (leap y) k1 := ⟨_, rfl⟩
      rw [← hz] at HLY HLL HCK HFD
      clear hz
      have hwk : IntKind.i64.wrap ((k1 : Int) + 1) = ((k1 + 1 : Nat) : Int) := by have := HK0.out; rw [IntKind.wrap_i64]; omega
      have hwy : IntKind.i64.wrap (y + 1) = y + 1 := by have := HK.out; rw [IntKind.wrap_i64]; omega
      by_cases hlt : z ≤ r
      · have e1 : decide (z ≤ r) = true := by simpa using hlt
        have hwl : IntKind.i64.wrap (r - z) = r - z := by
          have := HRR.out; have := HLL.out; rw [IntKind.wrap_i64]; omega
        by_cases hm : k1 = 12
        · have HY2 : Hid (y + 1 ≤ 2199 ∧ (r - z) + cumB (leap (y + 1)) 0 = n - foy (y + 1) ∧ 0 ≤ r - z) := Lib.hid (by
            subst hm
            have h1 := HST.out; have h2 := HCK.out; have h3 := HK.out
            have h4 : foy (y + 1) ≤ n := by omega
            exact ⟨foy_lt HN.out.2 h4, by show r - z + 0 = _; omega, by omega⟩)
          subst hm
          have HB3 := Lib.hid (below_setCell (below_setCell (below_setCell HB.out (w.heap.size + 1) 1 (.int .i64 13) (by omega)) (w.heap.size + 1) 0 (.int .i64 (y + 1)) (by omega)) (w.heap.size + 1) 1 (.int .i64 1) (by omega))
          have HZ3 := Lib.hid (((HZ.out.setFar (g' := w.heap.size + 1) 1 (.int .i64 13) (by omega)).setFar (g' := w.heap.size + 1) 0 (.int .i64 (y + 1)) (by omega)).setFar (g' := w.heap.size + 1) 1 (.int .i64 1) (by omega))
          have HX3 := Lib.hid (((HX.out.set (cs' := [.int .i64 y, .int .i64 13, .int .i64 1]) 1 (.int .i64 13) rfl).set (cs' := [.int .i64 (y + 1), .int .i64 13, .int .i64 1]) 0 (.int .i64 (y + 1)) rfl).set (cs' := [.int .i64 (y + 1), .int .i64 1, .int .i64 1]) 1 (.int .i64 1) rfl)
          clear hlt
          go_wp2_with fail
          refine HLY.out.mono ?_
          rintro e w1 ⟨rfl, rfl⟩
          go_wp2_with fail
          refine HLY.out.mono ?_
          rintro e w1 ⟨rfl, rfl⟩
          go_wp2_with fail
          exact ⟨⟨y + 1, 0, r - z, ⟨by have := HK.out; omega, HY2.out.1, by omega, HY2.out.2.2, HY2.out.2.1⟩, by first | rfl | trivial, HX3.out, HZ3.out, HB3.out⟩, by have := HLL.out; have := HY2.out; simp [intOf]; omega⟩
        · have e2 : decide ((12 : Int) < ((k1 + 1 : Nat) : Int)) = false := by have := HK0.out; simp; omega
          have HST : Hid (DBox (wr.setCell ⟨w.heap.size + 1, 1, none⟩ (.int .i64 ((k1 + 1 : Nat) : Int))) (w.heap.size + 1) y ((k1 + 1 : Nat) : Int) 1) := Lib.hid (HX.out.set 1 _ rfl)
          have HK2 : Hid (k1 < 12 ∧ 0 ≤ r - z ∧ 0 ≤ r) := Lib.hid (by have := HK0.out; have := HRR.out; omega)
          clear hlt hm
          obtain ⟨k2, hk2⟩ : ∃ k2 : Int, k2 = ((k1 + 1 : Nat) : Int) := ⟨_, rfl⟩
          rw [← hk2] at e2 HST hwk
          have HKK2 := Lib.hid hk2
          clear hk2
          go_wp2_with fail
          refine HLY.out.mono ?_
          rintro e w1 ⟨rfl, rfl⟩
          go_wp2_with fail
          refine HLY.out.mono ?_
          rintro e w1 ⟨rfl, rfl⟩
          go_wp2_with fail
          refine ⟨⟨y, k1, r - z, ⟨HK.out.1, HK.out.2.1, HK2.out.1, HK2.out.2.1, by have := HK.out; have := HCK.out; omega⟩, by first | rfl | trivial, by rw [← HKK2.out]; exact HST.out, HZ.out.setFar 1 _ (by omega), below_setCell HB.out _ 1 _ (by omega)⟩, by have := HLL.out; have := HK2.out; simp [intOf]; omega⟩
      · have e1 : decide (z ≤ r) = false := by simpa using hlt
        have HD := Lib.hid (HFD.out (by omega))
        have hwl : IntKind.i64.wrap (1 + r) = r + 1 := by
          have := HRR.out; rw [IntKind.wrap_i64]; omega
        have HX3 := Lib.hid (HX.out.set (cs' := [.int .i64 y, .int .i64 (k1 : Int), .int .i64 (r + 1)]) 2 (.int .i64 (r + 1)) rfl)
        have HB3 := Lib.hid (below_setCell HB.out (w.heap.size + 1) 2 (.int .i64 (r + 1)) (by omega))
        have HZ3 := Lib.hid (HZ.out.setFar (g' := w.heap.size + 1) 2 (.int .i64 (r + 1)) (by omega))
        clear hlt
        go_wp2_with fail
        refine HLY.out.mono ?_
        rintro e w1 ⟨rfl, rfl⟩
        go_wp2_with fail
        exact bodyPost_ret (results_dt2 Tryd.results11 _ _ w.heap.size ⟨y, (k1 : Int), r + 1⟩ _ rfl rfl (DBox.set3 HZ3.out)) rfl ⟨⟨_, HD.out, rfl⟩, below_set3 HB3.out _ _ _ (Nat.le_refl _)⟩
  · simp only [Bool.not_eq_true] at hd
    unfold IsOf ofE
    rw [hd] at HD ⊢
    simp only [Bool.false_eq_true, if_false]
    go_enter Tryd.func11, Tryd.ntmps11
    go_wp2_with fail
    refine (HD.out _).mono ?_
    rintro e w1 ⟨rfl, rfl⟩
    go_wp2_with fail
    exact bodyPost_ret (results_dt2 Tryd.results11 _ _ w.heap.size ⟨0, 0, 0⟩ _ rfl rfl HZ.out) rfl ⟨⟨_, rfl, rfl⟩, HA.out⟩
/-- what Number has when the years before Y are over -/
def accY (yr m d Y : Int) : Int := if Y ≤ yr then d - 1 + foy Y else d - 1 + foy yr + cumB (leap yr) (m.toNat - 1)
set_option maxHeartbeats 2000000 in
set_option maxRecDepth 100000 in
theorem refNumber_call (x : Dt) (w : World) :
    Calls Tryd.prog 13 #[x.v] w fun e w' => e = .returned (.tuple #[.int .i64 (numR x), .int .i64 (numE x)]) ∧ Below w.heap.size w w' := by
  have HD := Lib.hid (fun W => refRight_call x W)
  obtain ⟨yr, m, d⟩ := x
  unfold Dt.v at *
  have HA := Lib.hid (Joins.below_alloc1 w (.cells #[.int .i64 yr, .int .i64 m, .int .i64 d] 23))
  have HZ : Hid (DBox (w.alloc (.cells #[.int .i64 yr, .int .i64 m, .int .i64 d] 23)) w.heap.size yr m d) := Lib.hid (row_new w 23 [.int .i64 yr, .int .i64 m, .int .i64 d])
  by_cases hok : Dt.ok ⟨yr, m, d⟩
  · have HR : Hid (numR ⟨yr, m, d⟩ = accY yr m d (yr + 1) ∧ numE ⟨yr, m, d⟩ = 0) := Lib.hid (by unfold numR numE Dt.num accY; rw [if_pos hok, if_pos hok, if_neg (by omega)]; exact ⟨by simp only; omega, rfl⟩)
    rw [HR.out.1, HR.out.2]
    have e0 : decide (Dt.ok ⟨yr, m, d⟩) = true := by simpa using hok
    rw [e0] at HD
    obtain ⟨h1, h2, h3, h4, h5, h6⟩ := hok
    simp only at h1 h2 h3 h4 h5 h6
    obtain ⟨mk, rfl⟩ : ∃ k : Nat, m = (k : Int) := ⟨m.toNat, by omega⟩
    have HM : Hid (2000 ≤ yr ∧ yr ≤ 2199 ∧ 1 ≤ mk ∧ mk ≤ 12 ∧ 1 ≤ d ∧ d ≤ 31) := Lib.hid (by have := lnB_rng (leap yr) mk (by omega); simp only [Int.toNat_natCast] at h6; omega)
    have hwd : IntKind.i64.wrap (d - 1) = d - 1 := by have := HM.out; rw [IntKind.wrap_i64]; omega
    clear h1 h2 h3 h4 h5 h6
    have HL := Lib.hid (fun y k W (h : 2000 ≤ y ∧ y ≤ 2200) (hk : 1 ≤ k ∧ k ≤ 12) => reflength_call y k W h hk)
    go_enter Tryd.func13, Tryd.ntmps13
    go_wp2_with fail
    refine (HD.out _).mono ?_
    rintro e w1 ⟨rfl, hb⟩
    have HB := Lib.hid (below_next HA.out hb)
    have hz := HZ.out.keep hb
    have hz0 := hz.cell (i := 0) rfl
    have hz1 := hz.cell (i := 1) rfl
    have hz2 := hz.cell (i := 2) rfl
    clear hz hb
    go_wp2_with fail
    go_loopw [4, 5, 6] (fun s4 s5 _ wr => ∃ Y : Int, (2000 ≤ Y ∧ Y ≤ yr + 1) ∧ s4 = .int .i64 (accY yr mk d Y) ∧ s5 = .int .i64 Y ∧ wr = w1) (fun _ s5 _ _ => (yr + 1 - intOf s5).toNat)
    case atStart => exact ⟨2000, by have := HM.out; omega, by unfold accY; rw [if_pos HM.out.1, show foy 2000 = 0 by decide, Int.add_zero], rfl, rfl⟩
    case round =>
      obtain ⟨Y, hY, rfl, rfl, hwr⟩ := hrel
      obtain ⟨wr0, hwr0⟩ : ∃ wr0, wr0 = wr := ⟨_, rfl⟩
      subst hwr
      subst hwr0
      have HY := Lib.hid hY
      clear hY
      by_cases hlt : Y ≤ yr
      · have e1 : decide (Y ≤ yr) = true := by simpa using hlt
        have HA0 : Hid (accY yr mk d Y = d - 1 + foy Y) := Lib.hid (by unfold accY; rw [if_pos hlt])
        rw [HA0.out]
        -- the months that are counted of this year
        obtain ⟨K, hK⟩ : ∃ K : Nat, K = if Y < yr then 12 else mk - 1 := ⟨_, rfl⟩
        have HK : Hid (K ≤ 12 ∧ (Y < yr → K = 12) ∧ (yr ≤ Y → K = mk - 1)) := Lib.hid (by have := HM.out; split at hK <;> omega)
        have HE : Hid (accY yr mk d (Y + 1) = d - 1 + foy Y + cumB (leap Y) K) := Lib.hid (by
          unfold accY
          by_cases h8 : Y < yr
          · rw [if_pos (by omega), foy_step Y HY.out.1, HK.out.2.1 h8]; omega
          · obtain rfl : Y = yr := by omega
            rw [if_neg (by omega), HK.out.2.2 (Int.not_lt.1 h8), Int.toNat_natCast])
        have HYR : Hid (Y ≤ yr) := Lib.hid hlt
        have HF := Lib.hid (foy_rng Y (by have := HY.out; have := HM.out; omega))
        have hwy : IntKind.i64.wrap (Y + 1) = Y + 1 := by have := HY.out; have := HM.out; rw [IntKind.wrap_i64]; omega
        clear hK hlt
        go_wp2_with fail
        go_loopw [4, 6] (fun s4 s6 wr => ∃ k : Nat, k ≤ K ∧ s4 = .int .i64 (d - 1 + foy Y + cumB (leap Y) k) ∧ s6 = .int .i64 ((k + 1 : Nat) : Int) ∧ wr = wr0) (fun _ s6 _ => (13 - intOf s6).toNat)
        case atStart => exact ⟨0, by omega, by rw [show cumB (leap Y) 0 = 0 from rfl, Int.add_zero], rfl, rfl⟩
        case round =>
          obtain ⟨k, hk, rfl, rfl, rfl⟩ := hrel
          have HKk := Lib.hid hk
          obtain ⟨k1, hk1⟩ : ∃ k1, k1 = k + 1 := ⟨_, rfl⟩
          have HCK : Hid (cumB (leap Y) k1 = cumB (leap Y) k + lnB (leap Y) k1) := Lib.hid (by rw [hk1]; exact cum_step _ _)
          have HCR := Lib.hid (cumB_rng (leap Y) k (by have := HK.out; omega))
          have HK1 := Lib.hid hk1
          rw [← hk1]
          clear hk hk1
          have HYB : Hid (2000 ≤ Y ∧ Y ≤ 2200) := Lib.hid (by have := HY.out; have := HM.out; omega)
          have hwk : IntKind.i64.wrap ((k1 : Int) + 1) = ((k1 + 1 : Nat) : Int) := by have := HK.out; have := HK1.out; have := HKk.out; rw [IntKind.wrap_i64]; omega
          rcases Nat.lt_or_ge k K with hlt | hge
          · have HKB : Hid (1 ≤ k1 ∧ k1 ≤ 12) := Lib.hid (by have := HK.out; have := HK1.out; omega)
            have HKL : Hid (k1 ≤ K) := Lib.hid (by have := HK1.out; omega)
            have hwa : IntKind.i64.wrap (d - 1 + foy Y + cumB (leap Y) k + lnB (leap Y) k1) = d - 1 + foy Y + cumB (leap Y) k1 := by
              have := HCK.out; have := HCR.out; have := HF.out; have := HM.out; have := lnB_rng (leap Y) k1 HKB.out; rw [IntKind.wrap_i64]; omega
            have e2 : decide ((k1 : Int) ≤ 12) = true := by have := HKB.out; simp; omega
            by_cases h8 : Y < yr
            · have e3 : decide (Y < yr) = true := by simpa using h8
              clear h8 hlt
              go_wp2_with fail
              refine (HL.out Y k1 _ HYB.out HKB.out).mono ?_
              rintro e w1 ⟨rfl, rfl⟩
              go_wp2_with fail
              exact ⟨⟨k1, HKL.out, by first | rfl | trivial, by first | rfl | trivial, by first | rfl | trivial⟩, by have := HKB.out; simp [intOf]; omega⟩
            · have e3 : decide (Y < yr) = false := by simpa using h8
              have e4 : decide ((k1 : Int) < (mk : Int)) = true := by have := HK.out.2.2 (Int.not_lt.1 h8); have := HK1.out; simp; omega
              have e5 : decide (k1 < mk) = true := by have := HK.out.2.2 (Int.not_lt.1 h8); have := HK1.out; simp; omega
              clear h8 hlt
              go_wp2_with fail
              refine (HL.out Y k1 _ HYB.out HKB.out).mono ?_
              rintro e w1 ⟨rfl, rfl⟩
              go_wp2_with fail
              exact ⟨⟨k1, HKL.out, by first | rfl | trivial, by first | rfl | trivial, by first | rfl | trivial⟩, by have := HKB.out; simp [intOf]; omega⟩
          · obtain rfl : k = K := by have := HKk.out; omega
            by_cases h8 : Y < yr
            · have e2 : decide ((k1 : Int) ≤ 12) = false := by have := HK.out.2.1 h8; have := HK1.out; simp; omega
              clear h8 hge
              go_wp2_with fail
              exact ⟨⟨Y + 1, by have := HY.out; have := HYR.out; omega, by first | (rw [HE.out]; done) | (rw [HE.out]; rfl) | trivial, by first | rfl | trivial, by first | rfl | trivial⟩, by have := HYR.out; simp [intOf]; omega⟩
            · have e2 : decide ((k1 : Int) ≤ 12) = true := by have := HK.out; have := HM.out; have := HK1.out; simp; omega
              have e3 : decide (Y < yr) = false := by simpa using h8
              have e4 : decide ((k1 : Int) < (mk : Int)) = false := by have := HK.out.2.2 (Int.not_lt.1 h8); have := HK1.out; simp; omega
              have e5 : decide (k1 < mk) = false := by have := HK.out.2.2 (Int.not_lt.1 h8); have := HK1.out; simp; omega
              clear h8 hge
              go_wp2_with fail
              exact ⟨⟨Y + 1, by have := HY.out; have := HYR.out; omega, by first | (rw [HE.out]; done) | (rw [HE.out]; rfl) | trivial, by first | rfl | trivial, by first | rfl | trivial⟩, by have := HYR.out; simp [intOf]; omega⟩
      · obtain rfl : Y = yr + 1 := by have := HY.out; omega
        have e1 : decide (yr + 1 ≤ yr) = false := decide_eq_false (by omega)
        clear hlt
        go_wp2_with fail
        go_ret2
        exact ⟨rfl, HB.out⟩
  · have HR : Hid (numR ⟨yr, m, d⟩ = 0 ∧ numE ⟨yr, m, d⟩ = 120) := Lib.hid (by unfold numR numE; rw [if_neg hok, if_neg hok]; exact ⟨rfl, rfl⟩)
    rw [HR.out.1, HR.out.2]
    have e0 : decide (Dt.ok ⟨yr, m, d⟩) = false := by simpa using hok
    rw [e0] at HD
    clear hok
    go_enter Tryd.func13, Tryd.ntmps13
    go_wp2_with fail
    refine (HD.out _).mono ?_
    rintro e w1 ⟨rfl, hb⟩
    go_wp2_with fail
    go_ret2
    exact ⟨rfl, below_next HA.out hb⟩
end Go.Proofs.YtiicjmbnkjociaaDoor
