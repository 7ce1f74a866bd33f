/- Whether a token is valid: the reference's function. -/
import Derived.Test.YtilpcchcccbfcaaDoorRn
import Derived.Test.YtilpcchcccbfcaaDoorP
import Derived.BigQuiet
namespace Go.Proofs.YtilpcchcccbfcaaDoor
open Go.RowKit

set_option maxHeartbeats 4000000 in
set_option maxRecDepth 100000 in
theorem refvalid_1 (x : List UInt8) (n p : Int) (w : World) (hs : x.length ≤ 281474976710656) :
    Calls Tryd.prog 34 #[.agg #[.int .i64 1, .string ⟨x.toArray⟩, .int .i64 n, .int .i64 p]] w fun e w' => e = .returned (.bool (decide (n = 0) && isName x)) ∧ Below w.heap.size w w' := by
  have HN : Hid (∀ W, Calls Tryd.prog 21 #[.string ⟨x.toArray⟩] W fun e w' => e = .returned (.bool (isName x)) ∧ W = w') := Lib.hid (fun W => refname_call ⟨x.toArray⟩ W (by rw [size_mk]; exact hs))
  clear hs
  cases hb : isName x with
  | false =>
    rw [hb] at HN
    clear hb
    go_enter Tryd.func34, Tryd.ntmps34
    go_wp2_with (go_at_call 21; refine (HN.out _).mono ?_; rintro e w' ⟨rfl, rfl⟩)
    go_ret
    exact ⟨ret_bool (by simp), Joins.below_alloc1 w _⟩
  | true =>
    rw [hb] at HN
    clear hb
    by_cases h : n = 0
    · go_enter Tryd.func34, Tryd.ntmps34
      go_wp2_with (go_at_call 21; refine (HN.out _).mono ?_; rintro e w' ⟨rfl, rfl⟩)
      go_ret
      exact ⟨ret_bool (by simp [h]), Joins.below_alloc1 w _⟩
    · go_enter Tryd.func34, Tryd.ntmps34
      go_wp2_with (go_at_call 21; refine (HN.out _).mono ?_; rintro e w' ⟨rfl, rfl⟩)
      go_ret
      exact ⟨ret_bool (by simp [h]), Joins.below_alloc1 w _⟩
set_option maxHeartbeats 4000000 in
set_option maxRecDepth 100000 in
theorem refvalid_2 (x : List UInt8) (n p : Int) (w : World) :
    Calls Tryd.prog 34 #[.agg #[.int .i64 2, .string ⟨x.toArray⟩, .int .i64 n, .int .i64 p]] w fun e w' => e = .returned (.bool (decide (x = []) && decide (0 ≤ n) && decide (n ≤ 1099511627776))) ∧ Below w.heap.size w w' := by
  by_cases hx : x = []
  · by_cases h0 : 0 ≤ n
    · by_cases h1 : n ≤ 1099511627776
      · have g1 : decide (0 ≤ n) = true := by simp [h0]
        have g2 : decide (n ≤ 1099511627776) = true := by simp [h1]
        go_enter Tryd.func34, Tryd.ntmps34
        go_wp2_with fail
        go_ret
        exact ⟨ret_bool (by simp [hx, h0, h1]), Joins.below_alloc1 w _⟩
      · have g1 : decide (0 ≤ n) = true := by simp [h0]
        have g2 : decide (n ≤ 1099511627776) = false := by simpa using h1
        go_enter Tryd.func34, Tryd.ntmps34
        go_wp2_with fail
        go_ret
        exact ⟨ret_bool (by simp [hx, h1]), Joins.below_alloc1 w _⟩
    · have g1 : decide (0 ≤ n) = false := by simpa using h0
      go_enter Tryd.func34, Tryd.ntmps34
      go_wp2_with fail
      go_ret
      exact ⟨ret_bool (by simp [hx, h0]), Joins.below_alloc1 w _⟩
  · go_enter Tryd.func34, Tryd.ntmps34
    go_wp2_with fail
    go_ret
    exact ⟨ret_bool (by simp [hx]), Joins.below_alloc1 w _⟩
set_option maxHeartbeats 4000000 in
set_option maxRecDepth 100000 in
theorem refvalid_3 (x : List UInt8) (n p : Int) (w : World) :
    Calls Tryd.prog 34 #[.agg #[.int .i64 3, .string ⟨x.toArray⟩, .int .i64 n, .int .i64 p]] w fun e w' => e = .returned (.bool (decide (n = 0) && signText x)) ∧ Below w.heap.size w w' := by
  by_cases hx : x.length = 1
  · obtain ⟨c, rfl⟩ : ∃ c, x = [c] := List.length_eq_one_iff.1 hx
    have hix : ∀ W : World, (Instr.index 9 (.string ⟨[c].toArray⟩) (.int .i64 0)).run Tryd.prog W = .ok (.int .u8 (c.toNat : Int)) W := fun W => index_str ⟨[c].toArray⟩ 0 W Nat.zero_lt_one
    have HS : Hid (∀ W, Calls Tryd.prog 30 #[.int .u8 (c.toNat : Int)] W fun e w' => e = .returned (.bool (isSign c)) ∧ W = w') := Lib.hid (fun W => refsign_call c W)
    show Calls _ _ _ _ (fun e w' => e = .returned (.bool (decide (n = 0) && isSign c)) ∧ _)
    cases hb : isSign c with
    | false =>
      rw [hb] at HS
      clear hb
      go_enter Tryd.func34, Tryd.ntmps34
      go_wp2_with (go_at_call 30; refine (HS.out _).mono ?_; rintro e w' ⟨rfl, rfl⟩)
      go_ret
      exact ⟨ret_bool (by simp), Joins.below_alloc1 w _⟩
    | true =>
      rw [hb] at HS
      clear hb
      by_cases h : n = 0
      · go_enter Tryd.func34, Tryd.ntmps34
        go_wp2_with (go_at_call 30; refine (HS.out _).mono ?_; rintro e w' ⟨rfl, rfl⟩)
        go_ret
        exact ⟨ret_bool (by simp [h]), Joins.below_alloc1 w _⟩
      · go_enter Tryd.func34, Tryd.ntmps34
        go_wp2_with (go_at_call 30; refine (HS.out _).mono ?_; rintro e w' ⟨rfl, rfl⟩)
        go_ret
        exact ⟨ret_bool (by simp [h]), Joins.below_alloc1 w _⟩
  · have h3 : signText x = false := by
      match x with
      | [] => rfl
      | [c] => simp at hx
      | _ :: _ :: _ => rfl
    have hx2 : ¬ ((({ data := x.toArray } : ByteArray).size : Nat) : Int) = 1 := by rw [size_mk]; omega
    rw [h3]
    go_enter Tryd.func34, Tryd.ntmps34
    go_wp2_with fail
    go_ret
    exact ⟨ret_bool (by simp), Joins.below_alloc1 w _⟩
set_option maxHeartbeats 4000000 in
set_option maxRecDepth 100000 in
theorem refvalid_0 (k : Int) (x : List UInt8) (n p : Int) (w : World) (h1 : k ≠ 1) (h2 : k ≠ 2) (h3 : k ≠ 3) :
    Calls Tryd.prog 34 #[.agg #[.int .i64 k, .string ⟨x.toArray⟩, .int .i64 n, .int .i64 p]] w fun e w' => e = .returned (.bool false) ∧ Below w.heap.size w w' := by
  go_enter Tryd.func34, Tryd.ntmps34
  go_wp2_with fail
  go_ret
  exact ⟨rfl, Joins.below_alloc1 w _⟩
theorem refvalid_call (t : Tok) (w : World) (hs : t.text.length ≤ 281474976710656) :
    Calls Tryd.prog 34 #[tokOf t] w fun e w' => e = .returned (.bool (validT t)) ∧ Below w.heap.size w w' := by
  obtain ⟨k, x, n, p⟩ := t
  by_cases h1 : k = 1
  · subst h1; exact refvalid_1 x n p w hs
  · by_cases h2 : k = 2
    · subst h2; exact refvalid_2 x n p w
    · by_cases h3 : k = 3
      · subst h3; exact refvalid_3 x n p w
      · have hv : validT ⟨k, x, n, p⟩ = false := by unfold validT; simp [h1, h2, h3]
        rw [hv]; exact refvalid_0 k x n p w h1 h2 h3
end Go.Proofs.YtilpcchcccbfcaaDoor
