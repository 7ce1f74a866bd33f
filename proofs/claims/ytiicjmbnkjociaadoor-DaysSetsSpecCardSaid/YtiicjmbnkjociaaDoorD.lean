/- The date of a day. -/
import Derived.Test.YtiicjmbnkjociaaDoorC
namespace Go.Proofs.YtiicjmbnkjociaaDoor
open Go.RowKit

theorem tdiv366 (n : Int) (h : 0 ≤ n) : n.tdiv 366 = n / 366 := Int.tdiv_eq_ediv_of_nonneg h
theorem below_set {B : Nat} {a w : World} (h : Below B a w) (g i : Nat) (v : Value) (hg : B ≤ g) : Below B a (w.setCell ⟨g, i, none⟩ v) := below_setCell h g i v hg
/-- a date in a block of the call's own -/
def DBox (w : World) (g : Nat) (y m d : Int) : Prop := Row w g 23 [.int .i64 y, .int .i64 m, .int .i64 d]
theorem foy_first (n : Int) (h : 0 ≤ n ∧ n ≤ 73048) : 2000 + n / 366 ≤ 2199 ∧ foy (2000 + n / 366) ≤ n := by
  unfold foy
  split <;> omega
theorem foy_lt {n y : Int} (hn : n ≤ 73048) (h : foy (y + 1) ≤ n) : y + 1 ≤ 2199 := by
  rcases Int.lt_or_le (y + 1) 2200 with h1 | h1
  · omega
  · have := foy_le h1
    have e : foy 2200 = 73049 := by decide
    omega
theorem sizeDt : (Tryd.prog.info? 23).map (·.size) = some 3 := by kernel_rfl
theorem results_dt {fn : Func} {p : Tmp} (h : fn.results = #[.cell p 23]) (tmps : Array Value) (w : World) (g : Nat) (x : Dt)
    (hp : tmps.getD p undef = .pointer (some ⟨g, 0, none⟩)) (hg : DBox w g x.y x.m x.d) :
    (results fn tmps).run Tryd.prog w = .ok x.v w := by
  have hr : (loadVar 23 ⟨g, 0, none⟩).run Tryd.prog w = .ok x.v w := run_loadVar_row (P := Tryd.prog) w g 23 23 _ (0, 0) _ hg Tryd.underlying23 rfl (by rw [sizeDt]; simp)
  have hp' : tmps[p]?.getD undef = .pointer (some ⟨g, 0, none⟩) := by simpa using hp
  simp [results, h, hp', asAddr, hr]
theorem results_dt2 {fn : Func} {p q : Tmp} (h : fn.results = #[.cell p 23, .tmp q]) (tmps : Array Value) (w : World) (g : Nat) (x : Dt) (u : Value)
    (hp : tmps.getD p undef = .pointer (some ⟨g, 0, none⟩)) (hu : tmps.getD q undef = u) (hg : DBox w g x.y x.m x.d) :
    (results fn tmps).run Tryd.prog w = .ok (.tuple #[x.v, u]) w := by
  have hr : (loadVar 23 ⟨g, 0, none⟩).run Tryd.prog w = .ok x.v w := run_loadVar_row (P := Tryd.prog) w g 23 23 _ (0, 0) _ hg Tryd.underlying23 rfl (by rw [sizeDt]; simp)
  have hp' : tmps[p]?.getD undef = .pointer (some ⟨g, 0, none⟩) := by simpa using hp
  have hu' : tmps[q]?.getD undef = u := by simpa using hu
  simp [results, h, hp', hu', asAddr, hr]
/-- the year in a box -/
def yOf (w : World) (g i : Nat) : Int := match w.cell? ⟨g, i, none⟩ with
  | some (.int _ y) => y
  | _ => 0
theorem yOf_row {w : World} {g T i : Nat} {cs : List Value} {y : Int} {k : IntKind} (h : Row w g T cs) (hi : cs[i]? = some (.int k y)) : yOf w g i = y := by unfold yOf; rw [h.cell hi]
theorem foy_upto {y n : Int} (hy : 2000 ≤ y) (hlt : n < foy (y + 1)) {k : Nat} (hk : k < 12) {r : Int} (hr : r + cumB (leap y) k = n - foy y) (h : lnB (leap y) (k + 1) ≤ r) : k + 1 < 12 := by
  rcases Nat.lt_or_ge (k + 1) 12 with h1 | h1
  · exact h1
  · obtain rfl : k = 11 := by omega
    have h2 := foy_step y hy
    have h3 : cumB (leap y) 12 = cumB (leap y) 11 + lnB (leap y) 12 := rfl
    have h4 : lnB (leap y) (11 + 1) = lnB (leap y) 12 := rfl
    omega
set_option maxHeartbeats 2000000 in
set_option maxRecDepth 100000 in
theorem date_call (n : Int) (w : World) (hn : 0 ≤ n ∧ n ≤ 73048) (hT : Tab w) :
    Calls Tryd.prog 33 #[.int .i64 n] w fun e w' => (∃ x : Dt, x.ok ∧ x.num = n ∧ e = .returned x.v) ∧ Below w.heap.size w w' := by
  have h0 := tdiv366 n hn.1
  have HF := Lib.hid (foy_first n hn)
  have HN := Lib.hid hn
  have HT := Lib.hid hT
  have hw1 : IntKind.i64.wrap (2000 + n / 366) = 2000 + n / 366 := by rw [IntKind.wrap_i64]; omega
  have HY0 : Hid (2000 ≤ 2000 + n / 366) := Lib.hid (by omega)
  have HC := Lib.hid (fun y W (h : 2000 ≤ y ∧ y ≤ 2200) => firstOfYear_call y W h)
  have HL := Lib.hid (fun y k W (h : 2000 ≤ y ∧ y ≤ 2200) (hk : 1 ≤ k ∧ k ≤ 12) (hT : Tab W) => length_call y k W h hk hT)
  have HW := Lib.hid (below_next (Joins.below_alloc1 w (.cells #[.int .i64 0, .int .i64 0, .int .i64 0] 23)) (Joins.below_alloc1 _ (.cells #[.int .i64 (2000 + n / 366), .int .i64 1, .int .i64 0] 23)))
  have HR1 : Hid (DBox ((w.alloc (.cells #[.int .i64 0, .int .i64 0, .int .i64 0] 23)).alloc (.cells #[.int .i64 (2000 + n / 366), .int .i64 1, .int .i64 0] 23)) (w.heap.size + 1) (2000 + n / 366) 1 0) := Lib.hid (by
    have h := row_new (w.alloc (.cells #[.int .i64 0, .int .i64 0, .int .i64 0] 23)) 23 [.int .i64 (2000 + n / 366), .int .i64 1, .int .i64 0]
    rw [World.size_alloc] at h; exact h)
  have HZ1 : Hid (DBox ((w.alloc (.cells #[.int .i64 0, .int .i64 0, .int .i64 0] 23)).alloc (.cells #[.int .i64 (2000 + n / 366), .int .i64 1, .int .i64 0] 23)) w.heap.size 0 0 0) := Lib.hid (
    (row_new w 23 [.int .i64 0, .int .i64 0, .int .i64 0]).keep (Joins.below_alloc1 _ _))
  go_enter Tryd.func33, Tryd.ntmps33
  go_wp2_with fail
  generalize (w.alloc (.cells #[.int .i64 0, .int .i64 0, .int .i64 0] 23)).alloc (.cells #[.int .i64 (2000 + n / 366), .int .i64 1, .int .i64 0] 23) = W1 at *
  go_loopw [] (fun wr => ∃ y : Int, (2000 ≤ y ∧ y ≤ 2199 ∧ foy y ≤ n) ∧ DBox wr (w.heap.size + 1) y 1 0 ∧ DBox wr w.heap.size 0 0 0 ∧ Below w.heap.size w wr) (fun wr => (2200 - yOf wr (w.heap.size + 1) 0).toNat)
  case atStart => exact ⟨(2000 + n / 366), ⟨HY0.out, HF.out.1, HF.out.2⟩, HR1.out, HZ1.out, HW.out⟩
  case round =>
    obtain ⟨y, hy, hbx, hz, hB⟩ := hrel
    have HX := Lib.hid hbx
    have HZ := Lib.hid hz
    have HB := Lib.hid hB
    have HY := Lib.hid hy
    have hc0 := hbx.cell (i := 0) rfl
    have hf0 := hbx.free 0
    have hwr : IntKind.i64.wrap (n - foy y) = n - foy y := by have := foy_rng y (by omega); rw [IntKind.wrap_i64]; omega
    have hwy : IntKind.i64.wrap (y + 1) = y + 1 := by rw [IntKind.wrap_i64]; omega
    have hyo : Hid (yOf wr (w.heap.size + 1) 0 = y) := Lib.hid (yOf_row hbx rfl)
    clear hbx hz hB hy
    by_cases hlt : foy (y + 1) ≤ n
    · have e1 : decide (foy (y + 1) ≤ n) = true := by simpa using hlt
      have HY2 : Hid (y + 1 ≤ 2199) := Lib.hid (foy_lt HN.out.2 hlt)
      have HLT := Lib.hid hlt
      clear hlt
      have HST : Hid (DBox (wr.setCell ⟨w.heap.size + 1, 0, none⟩ (.int .i64 (y + 1))) (w.heap.size + 1) (y + 1) 1 0) := Lib.hid (HX.out.set 0 _ rfl)
      go_wp2_with fail
      refine (HC.out _ _ ⟨by have := HY.out; omega, by have := HY2.out; omega⟩).mono ?_
      rintro e w1 ⟨rfl, rfl⟩
      go_wp2_with fail
      refine ⟨⟨y + 1, ⟨by have := HY.out; omega, HY2.out, HLT.out⟩, HST.out, HZ.out.setFar 0 _ (by omega), below_setCell HB.out _ 0 _ (by omega)⟩, ?_⟩
      rw [hyo.out, yOf_row HST.out (i := 0) rfl]
      have := HY2.out; have := HY.out; omega
    · have e1 : decide (foy (y + 1) ≤ n) = false := by simpa using hlt
      have HLT := Lib.hid hlt
      clear hlt
      go_wp2_with fail
      refine (HC.out _ _ ⟨by have := HY.out; omega, by have := HY.out; omega⟩).mono ?_
      rintro e w1 ⟨rfl, rfl⟩
      go_wp2_with fail
      refine (HC.out _ _ ⟨by have := HY.out; omega, by have := HY.out; omega⟩).mono ?_
      rintro e w1 ⟨rfl, rfl⟩
      go_wp2_with fail
      have HLP := Lib.hid (fun k (hk : k ≤ 12) => cumB_rng (leap y) k hk)
      have HLR := Lib.hid (fun k (hk : 1 ≤ k ∧ k ≤ 12) => lnB_rng (leap y) k hk)
      have HUP := Lib.hid (fun k (hk : k < 12) r hr h => foy_upto (y := y) (n := n) HY.out.1 (by have := HLT.out; omega) (k := k) hk (r := r) hr h)
      have HR0 : Hid (0 ≤ n - foy y ∧ n - foy y ≤ 73048) := Lib.hid (by have := HY.out; have := foy_rng y (by omega); have := HN.out; omega)
      have HCS : Hid (∀ k, cumB (leap y) (k + 1) = cumB (leap y) k + lnB (leap y) (k + 1)) := Lib.hid (fun k => rfl)
      obtain ⟨r0, hr0⟩ : ∃ r0, r0 = n - foy y := ⟨_, rfl⟩
      have HRN := Lib.hid hr0
      rw [← hr0] at hwr HR0 HUP ⊢
      clear hr0
      go_loopw [0] (fun s0 wr => ∃ (k : Nat) (r : Int), (k < 12 ∧ 0 ≤ r ∧ r + cumB (leap y) k = r0) ∧ s0 = .int .i64 r ∧ DBox wr (w.heap.size + 1) y ((k + 1 : Nat) : Int) 0 ∧ DBox wr w.heap.size 0 0 0 ∧ Below w.heap.size w wr) (fun s0 _ => (intOf s0).toNat)
      case atStart => exact ⟨0, r0, ⟨by omega, HR0.out.1, by show r0 + 0 = r0; omega⟩, rfl, HX.out, HZ.out, HB.out⟩
      case round =>
        obtain ⟨k, r, hk, rfl, hbx, hz, hB⟩ := hrel
        clear HX HZ HB hc0 hf0 hyo
        have HX := Lib.hid hbx
        have HZ := Lib.hid hz
        have HB := Lib.hid hB
        have HK := Lib.hid hk
        have hc0 := hbx.cell (i := 0) rfl
        have hc1 := hbx.cell (i := 1) rfl
        have hc2 := hbx.cell (i := 2) rfl
        have hf1 := hbx.free 1
        have hf2 := hbx.free 2
        have hz0 := hz.cell (i := 0) rfl
        have hz1 := hz.cell (i := 1) rfl
        have hz2 := hz.cell (i := 2) rfl
        have hzf0 := hz.free 0
        have hzf1 := hz.free 1
        have hzf2 := hz.free 2
        clear hbx hz hB hk
        have HT2 : Hid (Tab wr) := Lib.hid (HT.out.keep HB.out)
        have HLK := Lib.hid (HLP.out k (by have := HK.out; omega))
        obtain ⟨k1, hk1⟩ : ∃ k1, k1 = k + 1 := ⟨_, rfl⟩
        rw [← hk1] at HX hc1
        have HK0 := Lib.hid (show 1 ≤ k1 ∧ k1 ≤ 12 by have := HK.out; omega)
        have HLY := Lib.hid (HL.out y k1 wr (by have := HY.out; omega) HK0.out HT2.out)
        have HLL := Lib.hid (HLR.out k1 HK0.out)
        have HCK : Hid (cumB (leap y) k1 = cumB (leap y) k + lnB (leap y) k1) := Lib.hid (by rw [hk1]; exact HCS.out k)
        have HUK : Hid (lnB (leap y) k1 ≤ r → k1 < 12) := Lib.hid (fun h => by
          have := HUP.out k (by have := HK.out; omega) r (by have := HK.out; omega) (by rw [← hk1]; exact h)
          omega)
        have HFD : Hid (r < lnB (leap y) k1 → Dt.ok ⟨y, (k1 : Int), r + 1⟩ ∧ Dt.num ⟨y, (k1 : Int), r + 1⟩ = n) := Lib.hid (fun h => by
          have h8 := Dt.found (y := y) (k := k) (r := r) ⟨HY.out.1, HY.out.2.1⟩ (by have := HK.out; omega) ⟨by have := HK.out; omega, by rw [← hk1]; exact h⟩
          rw [show ((k : Int) + 1) = (k1 : Int) by omega] at h8
          refine ⟨h8.1, h8.2.trans ?_⟩
          have := HK.out
          have := HRN.out
          omega)
        have HKK := Lib.hid hk1
        clear hk1
        generalize lnB (leap y) k1 = z at *
        have hwk : IntKind.i64.wrap ((k1 : Int) + 1) = ((k1 + 1 : Nat) : Int) := by have := HK0.out; rw [IntKind.wrap_i64]; omega
        by_cases hlt : z ≤ r
        · have e1 : decide (z ≤ r) = true := by simpa using hlt
          have HK2 : Hid (k1 < 12 ∧ 0 ≤ r - z ∧ r - z + cumB (leap y) k1 = r0 ∧ r - z < r) := Lib.hid (by
            have h3 := HUK.out hlt
            have h4 := HCK.out
            have := HLL.out
            have := HK.out
            omega)
          have hwl : IntKind.i64.wrap (r - z) = r - z := by
            have := HK.out; have := HLL.out; have := HR0.out; have := HLK.out; rw [IntKind.wrap_i64]; omega
          have HST : Hid (DBox (wr.setCell ⟨w.heap.size + 1, 1, none⟩ (.int .i64 ((k1 + 1 : Nat) : Int))) (w.heap.size + 1) y ((k1 + 1 : Nat) : Int) 0) := Lib.hid (HX.out.set 1 _ rfl)
          clear hlt
          go_wp2_with fail
          refine HLY.out.mono ?_
          rintro e w1 ⟨rfl, rfl⟩
          go_wp2_with fail
          refine HLY.out.mono ?_
          rintro e w1 ⟨rfl, rfl⟩
          go_wp2_with fail
          exact ⟨⟨k1, r - z, ⟨HK2.out.1, HK2.out.2.1, HK2.out.2.2.1⟩, by first | rfl | trivial, HST.out, HZ.out.setFar 1 _ (by omega), below_setCell HB.out _ 1 _ (by omega)⟩, by have := HK2.out; have := HK.out; simp [intOf]; omega⟩
        · have e1 : decide (z ≤ r) = false := by simpa using hlt
          have hD := HFD.out (by omega)
          have HD := Lib.hid hD
          have hwl : IntKind.i64.wrap (r + 1) = r + 1 := by
            have := HK.out; have := HLL.out; rw [IntKind.wrap_i64]; omega
          clear hD hlt
          go_wp2_with fail
          refine HLY.out.mono ?_
          rintro e w1 ⟨rfl, rfl⟩
          go_wp2_with fail
          have HB1 := below_setCell HB.out (w.heap.size + 1) 2 (.int .i64 (r + 1)) (by omega)
          have HZ1 := HZ.out.setFar (g' := w.heap.size + 1) 2 (.int .i64 (r + 1)) (by omega)
          have HZ2 := ((HZ1.set (cs' := [.int .i64 y, .int .i64 0, .int .i64 0]) 0 (.int .i64 y) rfl).set (cs' := [.int .i64 y, .int .i64 (k1 : Int), .int .i64 0]) 1 (.int .i64 (k1 : Int)) rfl).set (cs' := [.int .i64 y, .int .i64 (k1 : Int), .int .i64 (r + 1)]) 2 (.int .i64 (r + 1)) rfl
          have HB2 := below_setCell (below_setCell (below_setCell HB1 w.heap.size 0 (.int .i64 y) (Nat.le_refl _)) w.heap.size 1 (.int .i64 (k1 : Int)) (Nat.le_refl _)) w.heap.size 2 (.int .i64 (r + 1)) (Nat.le_refl _)
          exact bodyPost_ret (results_dt Tryd.results33 _ _ w.heap.size ⟨y, (k1 : Int), r + 1⟩ rfl HZ2) rfl ⟨⟨_, HD.out.1, HD.out.2, rfl⟩, HB2⟩
end Go.Proofs.YtiicjmbnkjociaaDoor
