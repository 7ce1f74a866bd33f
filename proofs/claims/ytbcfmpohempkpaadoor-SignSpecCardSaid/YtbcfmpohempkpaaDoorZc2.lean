/- The smallest functions of the program and of the specification: products, whether a number is a square, powers of the specification. -/
import Derived.Test.YtbcfmpohempkpaaDoorRows
import Derived.WalkKit
import Derived.WalkLawsBesides
import Derived.Lib.Hide
import Derived.Outline
import Derived.Deep.QuietTactic
import Derived.BigQuiet
import Derived.Laws.Wrap64
import Derived.IntWalk
import Derived.ArgAppend
import Derived.Lib.SmallJoins
import Derived.Laws.Rows
import Derived.Deep.WholeRow
import Derived.Deep.RegionWith
import Derived.Deep.RegionHeld3
import Derived.OpenShut
import Derived.WalkMore
import Derived.Laws.ShiftsVarLaws
import Derived.Lib.RabinKarpLaws
import Derived.WalkArith
import Derived.Laws.Shifts
import Derived.Test.YtbcfmpohempkpaaDoorZc1
namespace Go.Proofs.YtbcfmpohempkpaaDoor
open Go.RowKit

theorem ret_i64 {a b : Int} (h : a = b) : Ending.returned (.int .i64 a) = .returned (.int .i64 b) := by rw [h]
theorem ret_bool {a b : Bool} (h : a = b) : Ending.returned (.bool a) = .returned (.bool b) := by rw [h]
theorem below_next {w a b : World} (h : Below w.heap.size w a) (k : Below a.heap.size a b) : Below w.heap.size w b := h.trans (k.mono h.size)
theorem results_tmps {fn : Func} {p q : Tmp} (h : fn.results = #[.tmp p, .tmp q]) (tmps : Array Value) (w : World) (x y : Value) (hx : tmps.getD p undef = x) (hy : tmps.getD q undef = y) : (results fn tmps).run Tryd.prog w = .ok (.tuple #[x, y]) w := by
  have hx' : tmps[p]?.getD undef = x := by simpa using hx
  have hy' : tmps[q]?.getD undef = y := by simpa using hy
  simp [results, h, hx', hy']
/-- a number that an int holds -/
def I64 (n : Int) : Prop := -9223372036854775808 ≤ n ∧ n ≤ 9223372036854775807
/-- a number from 0 to P - 1 -/
def Rp (n : Int) : Prop := 0 ≤ n ∧ n < 2147483579
theorem Rp.i64 {n : Int} (h : Rp n) : I64 n := ⟨by have := h.1; omega, by have := h.2; omega⟩
theorem rp_mod (n : Int) : Rp (n % 2147483579) := ⟨Int.emod_nonneg _ (by omega), Int.emod_lt_of_pos _ (by omega)⟩
theorem tmodp_pos {n : Int} (h : 0 ≤ n) : n.tmod 2147483579 = n % 2147483579 := Int.tmod_eq_emod_of_nonneg h
theorem mulp_rng {x y : Int} (hx : Rp x) (hy : Rp y) : 0 ≤ x * y ∧ x * y ≤ 4611686018427387904 := by
  obtain ⟨hx1, hx2⟩ := hx
  obtain ⟨hy1, hy2⟩ := hy
  refine ⟨Int.mul_nonneg hx1 hy1, ?_⟩
  have h1 := Int.mul_le_mul_of_nonneg_right (show x ≤ 2147483648 by omega) hy1
  omega

set_option maxHeartbeats 400000 in
set_option maxRecDepth 100000 in
theorem product_call (a b : Int) (w : World) (ha : Rp a) (hb : Rp b) :
    Calls Tryd.prog 51 #[.int .i64 a, .int .i64 b] w fun e w' => e = .returned (.int .i64 (a * b % 2147483579)) ∧ w' = w := by
  have hm := mulp_rng ha hb
  have hw : wrap64 (a * b) = a * b := by unfold wrap64; omega
  have HT := Lib.hid (tmodp_pos hm.1)
  obtain ⟨hm1, hm2⟩ := hm
  go_enter Tryd.func51, Tryd.ntmps51
  go_wp2_with fail
  go_ret
  exact ⟨ret_i64 (by first | rfl | exact HT.out), rfl⟩

def SqHead (x0 : Nat) (w : World) (s0 s3 s4 : Value) (wr : World) : Prop :=
  ∃ (x m : Nat) (s : Bool), s0 = .int .i64 (x : Int) ∧ s3 = .int .i64 (m : Int) ∧ s4 = .bool s ∧ x ≤ x0 ∧ m % 2 = 1 ∧ m ≤ 2147483579 ∧ Nat.Coprime x m ∧ (s ^^ J x m) = !J x0 2147483579 ∧ wr = w
theorem cop_half {x y m : Nat} (hx : x = 2 * y) (hc : Nat.Coprime x m) : Nat.Coprime y m := Nat.Coprime.coprime_dvd_left ⟨2, by omega⟩ hc
theorem cop_swap {x m : Nat} (hc : Nat.Coprime x m) : Nat.Coprime (m % x) x := by
  unfold Nat.Coprime at *
  rw [← Nat.gcd_rec, hc]
set_option maxHeartbeats 4000000 in
set_option maxRecDepth 100000 in
theorem isSquare_call (x0 : Nat) (w : World) (h1 : 1 ≤ x0) (h2 : x0 < 2147483579) :
    Calls Tryd.prog 36 #[.int .i64 (x0 : Int)] w fun e w' => e = .returned (.bool (!J x0 2147483579)) ∧ w' = w := by
  have HCO := Lib.hid (p_coprime h1 h2)
  have HX0 := Lib.hid h2
  clear h1 h2
  go_enter Tryd.func36, Tryd.ntmps36
  go_wp2_with fail
  go_step3
  go_wp2_with fail
  go_step3
  go_wp2_with fail
  go_loopw [0, 3, 4] (fun s0 s3 s4 wr => SqHead x0 w s0 s3 s4 wr) (fun s0 _ _ _ => (intOf s0).toNat)
  case atStart => exact ⟨x0, 2147483579, true, rfl, rfl, rfl, Nat.le_refl _, rfl, Nat.le_refl _, HCO.out, Bool.true_xor _, rfl⟩
  case round =>
    obtain ⟨x, m, s, rfl, rfl, rfl, hx, hm2, hm, hc, hj, rfl⟩ := hrel
    obtain ⟨X, hX⟩ : ∃ X : Int, X = (x : Int) := ⟨_, rfl⟩
    obtain ⟨M, hM⟩ : ∃ M : Int, M = (m : Int) := ⟨_, rfl⟩
    rw [← hX, ← hM]
    have hX0 : 0 ≤ X := by omega
    have hXm : X ≤ 2147483579 := by have := HX0.out; omega
    have hM0 : 0 ≤ M := by omega
    have hMm : M ≤ 2147483579 := by omega
    have HXX := Lib.hid hX
    have HMM := Lib.hid hM
    have HM2 := Lib.hid hm2
    have HX := Lib.hid hx
    have HC := Lib.hid hc
    have HJ := Lib.hid hj
    have HM := Lib.hid hm
    clear hX hM hm2 hx hc hj hm
    by_cases hle : X ≤ 1
    · have HE := Lib.hid (j_end (by have := HXX.out; omega) HC.out)
      go_wp2_with fail
      try rw [Exit.noGoto_ret]
      go_ret
      refine ⟨ret_bool ?_, rfl⟩
      rw [← HJ.out, HE.out, Bool.xor_false]
    · by_cases hev : X % 2 = 0
      · have HXY : Hid (x = 2 * (x / 2)) := Lib.hid (by have := HXX.out; omega)
        have HS := Lib.hid (j_even HXY.out HM2.out HC.out s)
        have HC2 := Lib.hid (cop_half HXY.out HC.out)
        have hm8 : M % 8 = 1 ∨ M % 8 = 3 ∨ M % 8 = 5 ∨ M % 8 = 7 := by have := HMM.out; have := HM2.out; omega
        rcases hm8 with h8 | h8 | h8 | h8 <;> cases s
        all_goals
          go_wp2_with fail
          refine ⟨⟨x / 2, m, _, congrArg _ (by have := HXX.out; omega), congrArg _ HMM.out, rfl, by have := HX.out; omega, HM2.out, HM.out, HC2.out, ?_, rfl⟩, by have := HXX.out; simp [intOf]; omega⟩
          rw [← HJ.out, ← HS.out]
          have h9 := HMM.out
          first
            | (rw [show m % 8 = 1 by omega]; rfl)
            | (rw [show m % 8 = 3 by omega]; rfl)
            | (rw [show m % 8 = 5 by omega]; rfl)
            | (rw [show m % 8 = 7 by omega]; rfl)
      · have hod : X % 2 = 1 := by omega
        have HXO : Hid (x % 2 = 1) := Lib.hid (by have := HXX.out; omega)
        have HS := Lib.hid (j_odd HXO.out HM2.out HC.out s)
        have HC2 := Lib.hid (cop_swap HC.out)
        have hX1 : ¬ X = 0 := by omega
        have hx4 : X % 4 = 1 ∨ X % 4 = 3 := by omega
        have hm4 : M % 4 = 1 ∨ M % 4 = 3 := by have := HMM.out; have := HM2.out; omega
        have hmx := Int.emod_lt_of_pos M (show 0 < X by omega)
        have HMX : Hid (M % X = ((m % x : Nat) : Int)) := Lib.hid (by rw [HMM.out, HXX.out]; rfl)
        have HLT := Lib.hid (Nat.mod_lt m (show 0 < x by have := HXX.out; omega))
        rcases hx4 with h4 | h4 <;> rcases hm4 with k4 | k4 <;> cases s
        all_goals
          go_wp2_with fail
          refine ⟨⟨m % x, x, _, congrArg _ HMX.out, congrArg _ HXX.out, rfl, by have := HX.out; have := HLT.out; omega, HXO.out, by have := HX.out; have := HX0.out; omega, HC2.out, ?_, rfl⟩, by have := HXX.out; have := HMX.out; have := HLT.out; simp [intOf]; omega⟩
          rw [← HJ.out, ← HS.out]
          have h9 := HMM.out
          have h10 := HXX.out
          first
            | (rw [show x % 4 = 1 by omega, show m % 4 = 1 by omega]; rfl)
            | (rw [show x % 4 = 1 by omega, show m % 4 = 3 by omega]; rfl)
            | (rw [show x % 4 = 3 by omega, show m % 4 = 1 by omega]; rfl)
            | (rw [show x % 4 = 3 by omega, show m % 4 = 3 by omega]; rfl)
/-- whether a number is an element -/
def valid (x : Int) : Bool := decide (1 ≤ x) && (decide (x < 2147483579) && !J x.toNat 2147483579)
set_option maxHeartbeats 400000 in
set_option maxRecDepth 100000 in
theorem Valid_call (x : Int) (w : World) (hx : I64 x) :
    Calls Tryd.prog 13 #[.int .i64 x] w fun e w' => e = .returned (.bool (valid x)) ∧ w' = w := by
  obtain ⟨hx1, hx2⟩ := hx
  by_cases h1 : 1 ≤ x
  · by_cases h2 : x < 2147483579
    · have HV : Hid (valid x = !J x.toNat 2147483579) := Lib.hid (by unfold valid; rw [decide_eq_true h1, decide_eq_true h2, Bool.true_and, Bool.true_and])
      have HC := Lib.hid (isSquare_call x.toNat w (by omega) (by omega))
      rw [show ((x.toNat : Nat) : Int) = x by omega, ← HV.out] at HC
      clear HV
      generalize valid x = v at *
      go_enter Tryd.func13, Tryd.ntmps13
      go_wp2_with fail
      refine HC.out.mono ?_
      rintro e w1 ⟨rfl, rfl⟩
      go_wp2_with fail
      go_ret
      exact ⟨rfl, rfl⟩
    · have HV : Hid (valid x = false) := Lib.hid (by unfold valid; rw [decide_eq_false h2, Bool.false_and, Bool.and_false])
      go_enter Tryd.func13, Tryd.ntmps13
      go_wp2_with fail
      go_ret
      exact ⟨ret_bool HV.out.symm, rfl⟩
  · have HV : Hid (valid x = false) := Lib.hid (by unfold valid; rw [decide_eq_false h1, Bool.false_and])
    go_enter Tryd.func13, Tryd.ntmps13
    go_wp2_with fail
    go_ret
    exact ⟨ret_bool HV.out.symm, rfl⟩
end Go.Proofs.YtbcfmpohempkpaaDoor
