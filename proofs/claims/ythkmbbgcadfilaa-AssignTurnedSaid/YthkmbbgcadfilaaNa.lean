/- between: are all numbers of a list prices, and none greater than a given one? -/
import Derived.Test.YthkmbbgcadfilaaE
namespace Go.Proofs.Ythkmbbgcadfilaa
open Go.RowKit Go.Shelf

def betP (top x : Int) : Bool := decide (-1099511627776 ≤ x ∧ x ≤ top)
def betB (L : List Int) (top : Int) : Bool := L.all (betP top)
theorem mat_of {C : List (List Int)} (hs : smallB C = true) (hr : rightB C = true) : Mat C C.length (colsN C) := by
  unfold smallB smallR at hs
  rw [Bool.and_eq_true, decide_eq_true_eq] at hs
  obtain ⟨h1, h2⟩ := hs
  have hrow : ∀ i, i < C.length → rowB (colsN C) (C.getD i []) = true := fun i hi => all_get hr hi
  have hlen : ∀ i, i < C.length → (C.getD i []).length = colsN C ∧ (C.getD i []).all elB = true := fun i hi => by
    have := hrow i hi
    unfold rowB at this
    rwa [Bool.and_eq_true, decide_eq_true_eq] at this
  refine ⟨rfl, h1, ?_, fun i hi => (hlen i hi).1, fun i j hi hj => ?_⟩
  · rcases Nat.eq_zero_or_pos C.length with h0 | h0
    · have : C = [] := List.eq_nil_of_length_eq_zero h0
      subst this
      simp [colsN]
    · have := all_get (d := []) h2 h0
      unfold colsN
      simpa using this
  · have h3 := all_get (d := -1) (hlen i hi).2 (k := j) (by rw [(hlen i hi).1]; exact hj)
    unfold elB at h3
    rw [decide_eq_true_eq] at h3
    exact h3
theorem Mat.cols {C : List (List Int)} {n m : Nat} (h : Mat C n m) (hm : colsN C = m) : True := trivial

set_option maxRecDepth 100000 in
set_option maxHeartbeats 4000000 in
theorem between_call {B : Nat} (L : List Int) (v : Value) (top : Int) (w : World) (hL : IRest B w L v) :
    Calls Try.prog 52 #[v, .int .i64 top] w fun e w' => e = .returned (.bool (betB L top)) ∧ w' = w := by
  obtain ⟨a, c, rfl⟩ := irest_shape hL
  obtain ⟨-, hac, ham, hat⟩ := ints_at hL
  obtain ⟨n, hn⟩ : ∃ n, n = L.length := ⟨_, rfl⟩
  rw [← hn] at hac hat ⊢
  have HAT := Lib.hid hat
  have HN := Lib.hid hn
  have HNM : Hid (n ≤ maxLen) := Lib.hid (by omega)
  clear hat hn hL
  go_enter Try.func52, Try.ntmps52
  go_upto_region 2 with (fail)
  go_loopw [9] (fun s9 wr => ∃ (k : Nat), k ≤ n ∧ s9 = .int .i64 (k : Int) ∧ wr = w ∧ ∀ i, i < k → betP top (L.getD i 0) = true) (fun s9 _ => n - (intOf s9).toNat)
  case atStart => exact ⟨0, by omega, rfl, rfl, fun i hi => by omega⟩
  case round =>
    obtain ⟨k, hk, rfl, rfl, hall⟩ := hrel
    have HALL := Lib.hid hall
    have HK := Lib.hid hk
    clear hall hk
    by_cases hlt : k < n
    · have hki : (k : Int) < (n : Int) := by omega
      have HLT := Lib.hid hlt
      have HWK := Lib.hid (wrap_succ hlt HNM.out)
      obtain ⟨-, b, off, q1, hb, f1⟩ := HAT.out k (by have := HN.out; omega)
      subst q1
      obtain ⟨x, hx⟩ : ∃ x, x = L.getD k 0 := ⟨_, rfl⟩
      rw [← hx] at f1
      have HX := Lib.hid hx
      have HBAD : Hid (betP top x = false → betB L top = false) := Lib.hid (fun h => all_at (k := k) (d := 0) (by have := HN.out; have := HLT.out; omega) (by rw [← HX.out]; exact h))
      clear hx hlt hb
      by_cases x2 : x < -1099511627776
      · have g2 : decide (x < -1099511627776) = true := decide_eq_true x2
        have HV := Lib.hid (HBAD.out (decide_eq_false (by omega)))
        go_wp2_with fail
        go_ret
        exact ⟨by rw [HV.out]; rfl, by first | rfl | trivial⟩
      · have g2 : decide (x < -1099511627776) = false := decide_eq_false x2
        by_cases x3 : top < x
        · have g3 : decide (top < x) = true := decide_eq_true x3
          have HV := Lib.hid (HBAD.out (decide_eq_false (by omega)))
          go_wp2_with fail
          go_ret
          exact ⟨by rw [HV.out]; rfl, by first | rfl | trivial⟩
        · have g3 : decide (top < x) = false := decide_eq_false x3
          have HOK : Hid (betP top x = true) := Lib.hid (decide_eq_true (by omega))
          clear x2 x3
          go_wp2_with fail
          refine ⟨⟨k + 1, by have := HLT.out; omega, by first | rw [HWK.out, Int.natCast_succ] | go_num, by first | rfl | trivial, fun i hi => ?_⟩, by have := HLT.out; first | exact back_less this HWK.out | (simp [intOf]; omega)⟩
          rcases Nat.lt_or_ge i k with h9 | h9
          · exact HALL.out i h9
          · obtain rfl : i = k := by omega
            rw [← HX.out]; exact HOK.out
    · obtain rfl : k = n := by have := HK.out; omega
      have HV : Hid (betB L top = true) := Lib.hid (all_upto (k := k) (d := 0) (by have := HN.out; omega) HALL.out)
      go_wp2_with fail
      go_ret
      exact ⟨by rw [HV.out]; rfl, by first | rfl | trivial⟩
end Go.Proofs.Ythkmbbgcadfilaa
