/- Dates: the program's small functions. -/
import Derived.Test.YtiicjmbnkjociaaDoorA
namespace Go.Proofs.YtiicjmbnkjociaaDoor
open Go.RowKit

theorem tmod4 (y : Int) (h : 0 ≤ y) : y.tmod 4 = y % 4 := Int.tmod_eq_emod_of_nonneg h
theorem tdiv4 (y : Int) (h : 0 ≤ y) : y.tdiv 4 = y / 4 := Int.tdiv_eq_ediv_of_nonneg h
theorem leap_t {y : Int} (h1 : y % 4 = 0) (h2 : y ≠ 2100) : leap y = true := by unfold leap; simp [h1, h2]
theorem leap_f {y : Int} (h1 : y % 4 ≠ 0 ∨ y = 2100) : leap y = false := by unfold leap; rcases h1 with h | h <;> simp [h]
set_option maxHeartbeats 400000 in
set_option maxRecDepth 100000 in
theorem isLeap_call (y : Int) (w : World) (hy : 2000 ≤ y ∧ y ≤ 2200) :
    Calls Tryd.prog 52 #[.int .i64 y] w fun e w' => e = .returned (.bool (leap y)) ∧ w' = w := by
  have h0 := tmod4 y (by omega)
  obtain ⟨h1, h2⟩ := hy
  go_enter Tryd.func52, Tryd.ntmps52
  go_wp2_with fail
  all_goals
    go_ret
    refine ⟨ret_bool ?_, rfl⟩
    unfold leap; first | (simp [*]; done) | (simp [*]; by_cases h9 : y = 2100 <;> simp [h9])
theorem inDay_t {n : Int} (h : 0 ≤ n ∧ n ≤ 73048) : (decide (0 ≤ n) && decide (n ≤ 73048)) = true := by simp [h]
def isDayB (n : Int) : Bool := decide (0 ≤ n ∧ n ≤ 73048)
set_option maxHeartbeats 400000 in
set_option maxRecDepth 100000 in
theorem isDay_call (n : Int) (w : World) :
    Calls Tryd.prog 32 #[.int .i64 n] w fun e w' => e = .returned (.bool (isDayB n)) ∧ w' = w := by
  go_enter Tryd.func32, Tryd.ntmps32
  go_wp2_with fail
  all_goals
    go_ret
    refine ⟨ret_bool ?_, rfl⟩
    unfold isDayB
    first | (simp [*]; done) | (simp [*]; omega)
set_option maxHeartbeats 400000 in
set_option maxRecDepth 100000 in
theorem refDay_call (n : Int) (w : World) :
    Calls Tryd.prog 34 #[.int .i64 n] w fun e w' => e = .returned (.bool (isDayB n)) ∧ w' = w := by
  go_enter Tryd.func34, Tryd.ntmps34
  go_wp2_with fail
  all_goals
    go_ret
    refine ⟨ret_bool ?_, rfl⟩
    unfold isDayB
    first | (simp [*]; done) | (simp [*]; omega)
theorem foy_t {y : Int} (h : y > 2100) : foy y = 365 * (y - 2000) + (y - 2000 + 3) / 4 - 1 := by unfold foy; simp [h]
theorem foy_f {y : Int} (h : ¬ y > 2100) : foy y = 365 * (y - 2000) + (y - 2000 + 3) / 4 := by unfold foy; simp [h]
set_option maxHeartbeats 400000 in
set_option maxRecDepth 100000 in
theorem firstOfYear_call (y : Int) (w : World) (hy : 2000 ≤ y ∧ y ≤ 2200) :
    Calls Tryd.prog 46 #[.int .i64 y] w fun e w' => e = .returned (.int .i64 (foy y)) ∧ w' = w := by
  have h0 := tdiv4 (y - 2000 + 3) (by omega)
  obtain ⟨h1, h2⟩ := hy
  go_enter Tryd.func46, Tryd.ntmps46
  go_wp2_with fail
  all_goals
    go_ret
    refine ⟨ret_i64 ?_, rfl⟩
    first | exact (foy_t (by omega)).symm | exact (foy_f (by omega)).symm
theorem lnB_2 (y : Int) (m : Nat) (h : m = 2 ∧ leap y = true) : lnB (leap y) m = 29 := by unfold lnB; rw [if_pos h]
theorem lnB_tab (y : Int) (m : Nat) (h : ¬ (m = 2 ∧ leap y = true)) : lnB (leap y) m = mTab.getD (m - 1) 0 := by unfold lnB mTab; rw [if_neg h]
set_option maxHeartbeats 400000 in
set_option maxRecDepth 100000 in
theorem length_call (y : Int) (m : Nat) (w : World) (hy : 2000 ≤ y ∧ y ≤ 2200) (hm : 1 ≤ m ∧ m ≤ 12) (hT : Tab w) :
    Calls Tryd.prog 47 #[.int .i64 y, .int .i64 (m : Int)] w fun e w' => e = .returned (.int .i64 (lnB (leap y) m)) ∧ w' = w := by
  have HL := Lib.hid (isLeap_call y w hy)
  have hc := hT.2 (m - 1) (by omega)
  have HE := Lib.hid (lnB_2 y m)
  have HTB := Lib.hid (lnB_tab y m)
  generalize mTab.getD (m - 1) 0 = x at *
  obtain ⟨k, rfl⟩ : ∃ k, m = k + 1 := ⟨m - 1, by omega⟩
  generalize lnB (leap y) (k + 1) = z at *
  simp only [Nat.add_sub_cancel] at hc
  obtain ⟨h1, h2⟩ := hm
  have hw : IntKind.i64.wrap (((k + 1 : Nat) : Int) - 1) = (k : Int) := by rw [IntKind.wrap_i64]; omega
  generalize leap y = c at *
  by_cases hm2 : k = 1
  · subst hm2
    rcases c with _ | _
    · have hz := HTB.out (by simp)
      clear HTB HE
      subst hz
      go_enter Tryd.func47, Tryd.ntmps47
      go_wp2_with fail
      refine HL.out.mono ?_
      rintro e w1 ⟨rfl, rfl⟩
      go_wp2_with fail
      go_ret
      exact ⟨rfl, rfl⟩
    · have hz : z = 29 := HE.out ⟨rfl, rfl⟩
      clear HTB HE
      subst hz
      go_enter Tryd.func47, Tryd.ntmps47
      go_wp2_with fail
      refine HL.out.mono ?_
      rintro e w1 ⟨rfl, rfl⟩
      go_wp2_with fail
      go_ret
      exact ⟨rfl, rfl⟩
  · have hz := HTB.out (by omega)
    clear HTB HE HL
    subst hz
    have hk2 : ¬ ((k + 1 : Nat) : Int) = 2 := by omega
    have hk3 : (((k + 1 : Nat) : Int) == 2) = false := by simpa using hk2
    generalize ((k + 1 : Nat) : Int) = m1 at *
    go_enter Tryd.func47, Tryd.ntmps47
    go_wp2_with fail
    go_ret
    exact ⟨rfl, rfl⟩
set_option maxHeartbeats 1000000 in
set_option maxRecDepth 100000 in
theorem firstOfMonth_call (y : Int) (m : Nat) (w : World) (hy : 2000 ≤ y ∧ y ≤ 2200) (hm : 1 ≤ m ∧ m ≤ 12) (hT : Tab w) :
    Calls Tryd.prog 37 #[.int .i64 y, .int .i64 (m : Int)] w fun e w' => e = .returned (.int .i64 (foy y + cumB (leap y) (m - 1))) ∧ w' = w := by
  have HF := Lib.hid (firstOfYear_call y w hy)
  have HL := Lib.hid (fun k (hk : 1 ≤ k ∧ k ≤ 12) => length_call y k w hy hk hT)
  have HS : Hid (∀ k, cumB (leap y) (k + 1) = cumB (leap y) k + lnB (leap y) (k + 1)) := Lib.hid (fun k => rfl)
  have HR := Lib.hid (fun k hk => cumB_rng (leap y) k hk)
  have HR2 := Lib.hid (fun k hk => lnB_rng (leap y) k hk)
  have HY := Lib.hid (foy_rng y hy)
  have h0 : cumB (leap y) 0 = 0 := rfl
  generalize foy y = f at *
  generalize leap y = lp at *
  obtain ⟨h1, h2⟩ := hm
  go_enter Tryd.func37, Tryd.ntmps37
  go_wp2_with fail
  refine HF.out.mono ?_
  rintro e w1 ⟨rfl, rfl⟩
  go_wp2_with fail
  go_loopw [5, 6] (fun s5 s6 wr => ∃ k : Nat, k < m ∧ s5 = .int .i64 (f + cumB lp k) ∧ s6 = .int .i64 ((k + 1 : Nat) : Int) ∧ wr = w1) (fun _ s6 _ => m - (intOf s6).toNat)
  case atStart => exact ⟨0, by omega, by rw [h0, Int.add_zero], rfl, rfl⟩
  case round =>
    obtain ⟨k, hk, rfl, rfl, rfl⟩ := hrel
    rcases Nat.lt_or_ge (k + 1) m with hlt | hge
    · obtain ⟨k1, hk1⟩ : ∃ k1, k1 = k + 1 := ⟨_, rfl⟩
      have hki : (k1 : Int) < (m : Int) := by omega
      have hw : IntKind.i64.wrap ((k1 : Int) + 1) = ((k1 + 1 : Nat) : Int) := by rw [IntKind.wrap_i64]; omega
      have hw2 : IntKind.i64.wrap (f + cumB lp k + lnB lp k1) = f + cumB lp k1 := by
        have := HY.out
        have := HR.out k (by omega)
        have := HR2.out (k + 1) (by omega)
        rw [hk1, HS.out k, IntKind.wrap_i64]; omega
      have HK := Lib.hid hk1
      have HB : Hid (1 ≤ k1 ∧ k1 ≤ 12 ∧ k1 < m) := Lib.hid (by omega)
      rw [← hk1]
      clear hk1 hk hlt
      go_wp2_with fail
      refine (HL.out k1 ⟨HB.out.1, HB.out.2.1⟩).mono ?_
      rintro e w1 ⟨rfl, rfl⟩
      go_wp2_with fail
      exact ⟨⟨k1, HB.out.2.2, by first | rfl | trivial, by first | rfl | trivial, by first | rfl | trivial⟩, by have := HB.out; simp [intOf]; omega⟩
    · obtain rfl : m = k + 1 := by omega
      go_wp2_with fail
      go_ret
      exact ⟨rfl, rfl⟩
end Go.Proofs.YtiicjmbnkjociaaDoor
