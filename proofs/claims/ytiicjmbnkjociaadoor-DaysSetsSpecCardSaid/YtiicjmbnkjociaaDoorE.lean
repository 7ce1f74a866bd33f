/- Of, Number, Weekday: the program's. -/
import Derived.Test.YtiicjmbnkjociaaDoorD
namespace Go.Proofs.YtiicjmbnkjociaaDoor
open Go.RowKit

/-- what Of returns -/
def IsOf (n : Int) (x : Dt) : Prop := if isDayB n = true then x.ok ∧ x.num = n else x = ⟨0, 0, 0⟩
theorem IsOf.inj {n : Int} {x y : Dt} (h : IsOf n x) (k : IsOf n y) : x = y := by
  unfold IsOf at h k
  split at h
  · rw [if_pos (by assumption)] at k; exact Dt.inj h.1 k.1 (h.2.trans k.2.symm)
  · rw [if_neg (by assumption)] at k; rw [h, k]
def ofE (n : Int) : Int := if isDayB n = true then 0 else 1
def numR (x : Dt) : Int := if x.ok then x.num else 0
def numE (x : Dt) : Int := if x.ok then 0 else 120
def wkR (n : Int) : Int := if isDayB n = true then (n + 5) % 7 else 0
theorem isDayB_t {n : Int} (h : isDayB n = true) : 0 ≤ n ∧ n ≤ 73048 := by unfold isDayB at h; simpa using h
theorem below_set3 {w W : World} (h : Below w.heap.size w W) (v0 v1 v2 : Value) {g : Nat} (hg : w.heap.size ≤ g) : Below w.heap.size w (((W.setCell ⟨g, 0, none⟩ v0).setCell ⟨g, 1, none⟩ v1).setCell ⟨g, 2, none⟩ v2) :=
  below_setCell (below_setCell (below_setCell h g 0 v0 hg) g 1 v1 hg) g 2 v2 hg
theorem DBox.set3 {W : World} {g : Nat} {a b c y m d : Int} (h : DBox W g a b c) : DBox (((W.setCell ⟨g, 0, none⟩ (.int .i64 y)).setCell ⟨g, 1, none⟩ (.int .i64 m)).setCell ⟨g, 2, none⟩ (.int .i64 d)) g y m d :=
  ((Row.set h (cs' := [.int .i64 y, .int .i64 b, .int .i64 c]) 0 (.int .i64 y) rfl).set (cs' := [.int .i64 y, .int .i64 m, .int .i64 c]) 1 (.int .i64 m) rfl).set (cs' := [.int .i64 y, .int .i64 m, .int .i64 d]) 2 (.int .i64 d) rfl
set_option maxHeartbeats 2000000 in
set_option maxRecDepth 100000 in
theorem Of_call (n : Int) (w : World) (hT : Tab w) :
    Calls Tryd.prog 10 #[.int .i64 n] w fun e w' => (∃ x : Dt, IsOf n x ∧ e = .returned (.tuple #[x.v, .int .i64 (ofE n)])) ∧ Below w.heap.size w w' := by
  have HD := Lib.hid (fun W => isDay_call n W)
  have HA := Lib.hid (Joins.below_alloc1 w (.cells #[.int .i64 0, .int .i64 0, .int .i64 0] 23))
  have HZ : Hid (DBox (w.alloc (.cells #[.int .i64 0, .int .i64 0, .int .i64 0] 23)) w.heap.size 0 0 0) := Lib.hid (row_new w 23 [.int .i64 0, .int .i64 0, .int .i64 0])
  have HC : Hid (isDayB n = true → Calls Tryd.prog 33 #[.int .i64 n] (w.alloc (.cells #[.int .i64 0, .int .i64 0, .int .i64 0] 23)) fun e w' => (∃ x : Dt, x.ok ∧ x.num = n ∧ e = .returned x.v) ∧ Below (w.alloc (.cells #[.int .i64 0, .int .i64 0, .int .i64 0] 23)).heap.size (w.alloc (.cells #[.int .i64 0, .int .i64 0, .int .i64 0] 23)) w') :=
    Lib.hid (fun h => date_call n _ (isDayB_t h) (hT.keep HA.out))
  unfold IsOf ofE
  generalize isDayB n = c at *
  rcases c with _ | _
  · simp only [Bool.false_eq_true, if_false]
    go_enter Tryd.func10, Tryd.ntmps10
    go_wp2_with fail
    refine (HD.out _).mono ?_
    rintro e w1 ⟨rfl, rfl⟩
    go_wp2_with fail
    exact bodyPost_ret (results_dt2 Tryd.results10 _ _ w.heap.size ⟨0, 0, 0⟩ _ rfl rfl HZ.out) rfl ⟨⟨_, rfl, rfl⟩, HA.out⟩
  · simp only [if_true]
    go_enter Tryd.func10, Tryd.ntmps10
    go_wp2_with fail
    refine (HD.out _).mono ?_
    rintro e w1 ⟨rfl, rfl⟩
    go_wp2_with fail
    refine (HC.out trivial).mono ?_
    rintro e w1 ⟨⟨⟨y, m, d⟩, hx, hn, rfl⟩, hb⟩
    have HB := Lib.hid (below_next HA.out hb)
    have hz := HZ.out.keep hb
    have HZ1 := Lib.hid hz
    have hz0 := hz.cell (i := 0) rfl
    have hz1 := hz.cell (i := 1) rfl
    have hz2 := hz.cell (i := 2) rfl
    have hzf0 := hz.free 0
    have hzf1 := hz.free 1
    have hzf2 := hz.free 2
    have HX := Lib.hid (And.intro hx hn)
    clear hz hb hx hn
    unfold Dt.v
    go_wp2_with fail
    exact bodyPost_ret (results_dt2 Tryd.results10 _ _ w.heap.size ⟨y, m, d⟩ _ rfl rfl (DBox.set3 HZ1.out)) rfl ⟨⟨_, HX.out, rfl⟩, below_set3 HB.out _ _ _ (Nat.le_refl _)⟩
theorem numR_rng (x : Dt) : 0 ≤ numR x ∧ numR x ≤ 73048 := by
  unfold numR; split
  · rename_i h; exact Dt.rng h
  · omega
set_option maxHeartbeats 2000000 in
set_option maxRecDepth 100000 in
theorem Number_call (x : Dt) (w : World) (hT : Tab w) :
    Calls Tryd.prog 12 #[x.v] w fun e w' => e = .returned (.tuple #[.int .i64 (numR x), .int .i64 (numE x)]) ∧ Below w.heap.size w w' := by
  have HD := Lib.hid (fun W hW => isDate_call x W hW)
  obtain ⟨y, m, d⟩ := x
  unfold Dt.v at *
  have HA := Lib.hid (Joins.below_alloc1 w (.cells #[.int .i64 y, .int .i64 m, .int .i64 d] 23))
  have HZ : Hid (DBox (w.alloc (.cells #[.int .i64 y, .int .i64 m, .int .i64 d] 23)) w.heap.size y m d) := Lib.hid (row_new w 23 [.int .i64 y, .int .i64 m, .int .i64 d])
  have HT := Lib.hid (hT.keep HA.out)
  by_cases hok : Dt.ok ⟨y, m, d⟩
  · have HR : Hid (numR ⟨y, m, d⟩ = foy y + cumB (leap y) (m.toNat - 1) + d - 1 ∧ numE ⟨y, m, d⟩ = 0) := Lib.hid (by unfold numR numE Dt.num; rw [if_pos hok, if_pos hok]; exact ⟨rfl, rfl⟩)
    rw [HR.out.1, HR.out.2]
    have e0 : decide (Dt.ok ⟨y, m, d⟩) = true := by simpa using hok
    rw [e0] at HD
    obtain ⟨h1, h2, h3, h4, h5, h6⟩ := hok
    simp only at h1 h2 h3 h4 h5 h6
    obtain ⟨k, rfl⟩ : ∃ k : Nat, m = (k : Int) := ⟨m.toNat, by omega⟩
    simp only [Int.toNat_natCast] at h6 ⊢
    have hw1 : IntKind.i64.wrap (foy y + cumB (leap y) (k - 1) + d) = foy y + cumB (leap y) (k - 1) + d := by
      have := foy_rng y (by omega); have := cumB_rng (leap y) (k - 1) (by omega); have := lnB_rng (leap y) k (by omega); rw [IntKind.wrap_i64]; omega
    have hw2 : IntKind.i64.wrap (foy y + cumB (leap y) (k - 1) + d - 1) = foy y + cumB (leap y) (k - 1) + d - 1 := by
      have := foy_rng y (by omega); have := cumB_rng (leap y) (k - 1) (by omega); have := lnB_rng (leap y) k (by omega); rw [IntKind.wrap_i64]; omega
    have HF := Lib.hid (fun W hW => firstOfMonth_call y k W (by omega) (by omega) hW)
    generalize foy y + cumB (leap y) (k - 1) = s at *
    clear h1 h2 h3 h4 h5 h6
    go_enter Tryd.func12, Tryd.ntmps12
    go_wp2_with fail
    refine (HD.out _ HT.out).mono ?_
    rintro e w1 ⟨rfl, hb⟩
    have HB := Lib.hid (below_next HA.out hb)
    have HT1 := Lib.hid (fun q => (HT.out.keep hb).keep (drewN_below w1 q))
    have hz := HZ.out.keep hb
    have hz0 := hz.cell (i := 0) rfl
    have hz1 := hz.cell (i := 1) rfl
    have hz2 := hz.cell (i := 2) rfl
    clear hz hb
    go_upto_region 3 with (fail)
    go_quiet ((go_at_call 37; exact Calls.quiet_of_same (HF.out _ (HT1.out _))))
    go_wp2_with fail
    go_ret2
    exact ⟨rfl, below_drewN HB.out _⟩
  · have HR : Hid (numR ⟨y, m, d⟩ = 0 ∧ numE ⟨y, m, d⟩ = 120) := Lib.hid (by unfold numR numE; rw [if_neg hok, if_neg hok]; exact ⟨rfl, rfl⟩)
    rw [HR.out.1, HR.out.2]
    have e0 : decide (Dt.ok ⟨y, m, d⟩) = false := by simpa using hok
    rw [e0] at HD
    clear hok
    go_enter Tryd.func12, Tryd.ntmps12
    go_wp2_with fail
    refine (HD.out _ HT.out).mono ?_
    rintro e w1 ⟨rfl, hb⟩
    go_wp2_with fail
    go_ret2
    exact ⟨rfl, below_next HA.out hb⟩
theorem tmod7 (y : Int) (h : 0 ≤ y) : y.tmod 7 = y % 7 := Int.tmod_eq_emod_of_nonneg h
set_option maxHeartbeats 2000000 in
set_option maxRecDepth 100000 in
theorem Weekday_call (n : Int) (w : World) :
    Calls Tryd.prog 14 #[.int .i64 n] w fun e w' => e = .returned (.tuple #[.int .i64 (wkR n), .int .i64 (ofE n)]) ∧ w' = w := by
  have HD := Lib.hid (fun W => isDay_call n W)
  by_cases hd : isDayB n = true
  · have hr := isDayB_t hd
    have h7 := tmod7 (n + 5) (by omega)
    have hw : IntKind.i64.wrap (n + 5) = n + 5 := by rw [IntKind.wrap_i64]; omega
    unfold wkR ofE
    rw [hd] at HD ⊢
    simp only [if_true]
    go_enter Tryd.func14, Tryd.ntmps14
    go_wp2_with fail
    refine (HD.out _).mono ?_
    rintro e w1 ⟨rfl, rfl⟩
    go_wp2_with fail
    go_ret2
    exact ⟨rfl, rfl⟩
  · simp only [Bool.not_eq_true] at hd
    unfold wkR ofE
    rw [hd] at HD ⊢
    simp only [Bool.false_eq_true, if_false]
    go_enter Tryd.func14, Tryd.ntmps14
    go_wp2_with fail
    refine (HD.out _).mono ?_
    rintro e w1 ⟨rfl, rfl⟩
    go_wp2_with fail
    go_ret2
    exact ⟨rfl, rfl⟩
set_option maxHeartbeats 2000000 in
set_option maxRecDepth 100000 in
theorem refWeekday_call (n : Int) (w : World) :
    Calls Tryd.prog 15 #[.int .i64 n] w fun e w' => e = .returned (.tuple #[.int .i64 (wkR n), .int .i64 (ofE n)]) ∧ w' = w := by
  have HD := Lib.hid (fun W => refDay_call n W)
  by_cases hd : isDayB n = true
  · have hr := isDayB_t hd
    have h7 := tmod7 (n + 5) (by omega)
    have hw : IntKind.i64.wrap (n + 5) = n + 5 := by rw [IntKind.wrap_i64]; omega
    unfold wkR ofE
    rw [hd] at HD ⊢
    simp only [if_true]
    go_enter Tryd.func15, Tryd.ntmps15
    go_wp2_with fail
    refine (HD.out _).mono ?_
    rintro e w1 ⟨rfl, rfl⟩
    go_wp2_with fail
    go_ret2
    exact ⟨rfl, rfl⟩
  · simp only [Bool.not_eq_true] at hd
    unfold wkR ofE
    rw [hd] at HD ⊢
    simp only [Bool.false_eq_true, if_false]
    go_enter Tryd.func15, Tryd.ntmps15
    go_wp2_with fail
    refine (HD.out _).mono ?_
    rintro e w1 ⟨rfl, rfl⟩
    go_wp2_with fail
    go_ret2
    exact ⟨rfl, rfl⟩
end Go.Proofs.YtiicjmbnkjociaaDoor
