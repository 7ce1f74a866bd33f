/- Whether a token is valid, and its word: the program's functions. -/
import Derived.Test.YtilpcchcccbfcaaDoorT
import Derived.Lib.AppendIntMem
namespace Go.Proofs.YtilpcchcccbfcaaDoor
open Go.RowKit

def fitsName (t : Tok) : Bool := decide (t.n = 0) && isName t.text
def fitsNumber (t : Tok) : Bool := decide (t.text = []) && decide (0 ≤ t.n) && decide (t.n ≤ 1099511627776)
def signText : List UInt8 → Bool
  | [c] => isSign c
  | _ => false
def fitsSign (t : Tok) : Bool := decide (t.n = 0) && signText t.text
theorem bs_mk (l : List UInt8) : bs ⟨l.toArray⟩ = l := rfl
theorem size_mk (l : List UInt8) : (⟨l.toArray⟩ : ByteArray).size = l.length := by rw [Lib.size_eq]

set_option maxHeartbeats 1000000 in
set_option maxRecDepth 100000 in
theorem fitsName_call (t : Tok) (w : World) (hs : t.text.length ≤ 281474976710656) (hT : Laid w) :
    Calls Tryd.prog 44 #[tokOf t] w fun e w' => e = .returned (.bool (fitsName t)) ∧ Below w.heap.size w w' := by
  have HN : Hid (∀ W, Below w.heap.size w W → Calls Tryd.prog 20 #[.string ⟨t.text.toArray⟩] W fun e w' => e = .returned (.bool (isName t.text)) ∧ W = w') := fun W hb => name_call ⟨t.text.toArray⟩ W (by rw [size_mk]; exact hs) (hT.keep hb).cls
  unfold tokOf tokCells str fitsName
  clear hT
  generalize isName t.text = b at HN
  by_cases h : t.n = 0
  · go_enter Tryd.func44, Tryd.ntmps44
    go_wp2_with (go_at_call 20; refine (HN.out _ (Joins.below_alloc1 w _)).mono ?_; rintro e w' ⟨rfl, rfl⟩)
    go_ret
    exact ⟨ret_bool (by simp [h]), Joins.below_alloc1 w _⟩
  · go_enter Tryd.func44, Tryd.ntmps44
    go_wp2_with (go_at_call 20; refine (HN.out _ (Joins.below_alloc1 w _)).mono ?_; rintro e w' ⟨rfl, rfl⟩)
    go_ret
    exact ⟨ret_bool (by simp [h]), Joins.below_alloc1 w _⟩

set_option maxHeartbeats 1000000 in
set_option maxRecDepth 100000 in
theorem fitsNumber_call (t : Tok) (w : World) :
    Calls Tryd.prog 47 #[tokOf t] w fun e w' => e = .returned (.bool (fitsNumber t)) ∧ Below w.heap.size w w' := by
  unfold tokOf tokCells str fitsNumber
  go_enter Tryd.func47, Tryd.ntmps47
  go_wp2
  · rename_i h1 h2
    go_ret
    exact ⟨ret_bool (by rw [decide_eq_true h1, decide_eq_true h2]; simp), Joins.below_alloc1 w _⟩
  · rename_i h1 h2
    go_ret
    exact ⟨ret_bool (by rw [decide_eq_false (show ¬ 0 ≤ t.n by omega)]; simp), Joins.below_alloc1 w _⟩
  · rename_i h1
    go_ret
    exact ⟨ret_bool (by rw [decide_eq_false h1]; simp), Joins.below_alloc1 w _⟩

set_option maxHeartbeats 1000000 in
set_option maxRecDepth 100000 in
theorem fitsSign_call (t : Tok) (w : World) (hT : Laid w) :
    Calls Tryd.prog 50 #[tokOf t] w fun e w' => e = .returned (.bool (fitsSign t)) ∧ Below w.heap.size w w' := by
  have HT : Hid (∀ W, Below w.heap.size w W → Cls W) := fun W hb => (hT.keep hb).cls
  unfold tokOf tokCells str fitsSign
  clear hT
  go_enter Tryd.func50, Tryd.ntmps50
  go_wp2_with (go_at_call 38; refine (classOf_call _ _ (HT.out _ (Joins.below_alloc1 w _))).mono ?_; rintro e w' ⟨rfl, rfl⟩)
  · rename_i h1 h2
    obtain ⟨c, hc⟩ : ∃ c, t.text = [c] := List.length_eq_one_iff.1 (by omega)
    go_ret
    refine ⟨ret_bool ?_, Joins.below_alloc1 w _⟩
    have h3 : ({ data := t.text.toArray } : ByteArray)[0]'(by rw [size_mk]; omega) = c := by
      show (t.text.toArray)[0]'_ = c
      simp [hc]
    rw [h3, h1, hc, signText, ← cls_sign]
    simp only [decide_true, Bool.true_and]
    rw [Bool.eq_iff_iff]; simp; omega
  · rename_i h1 h2
    go_ret
    refine ⟨ret_bool ?_, Joins.below_alloc1 w _⟩
    have h3 : signText t.text = false := by
      match ht : t.text with
      | [] => rfl
      | [c] => rw [ht] at h2; simp at h2
      | _ :: _ :: _ => rfl
    rw [h3]; simp
  · rename_i h1
    go_ret
    exact ⟨ret_bool (by simp [h1]), Joins.below_alloc1 w _⟩
set_option maxHeartbeats 1000000 in
set_option maxRecDepth 100000 in
theorem textWord_call (t : Tok) (w : World) :
    Calls Tryd.prog 45 #[tokOf t] w fun e w' => e = .returned (str t.text) ∧ Below w.heap.size w w' := by
  unfold tokOf tokCells str
  go_enter Tryd.func45, Tryd.ntmps45
  go_wp2
  go_ret
  exact ⟨rfl, Joins.below_alloc1 w _⟩
set_option maxHeartbeats 1000000 in
set_option maxRecDepth 100000 in
theorem numberWord_call (t : Tok) (w : World) (h0 : -9223372036854775808 ≤ t.n) (h1 : t.n ≤ 9223372036854775807) (hT : Laid w) :
    Calls Tryd.prog 48 #[tokOf t] w fun e w' => e = .returned (str (Lib.itoa t.n)) ∧ Below w.heap.size w w' := by
  have HI : Hid (∀ W, Below w.heap.size w W → Calls Tryd.prog 59 #[.int .i64 t.n] W fun e w' => e = .returned (.string ⟨(Lib.itoa t.n).toArray⟩) ∧ Below W.heap.size W w') := fun W hb =>
    (Tryd.strconv_Itoa t.n h0 h1 W (hT.keep hb).pow).mono fun e w' ⟨a, k, os, b⟩ => ⟨a, by rw [b]; exact Lib.below_grow _ W (Nat.le_refl _) k os⟩
  clear hT
  unfold tokOf tokCells str
  go_enter Tryd.func48, Tryd.ntmps48
  go_wp2_with (go_at_call 59; refine (HI.out _ (Joins.below_alloc1 w _)).mono ?_; rintro e w2 ⟨rfl, hb⟩)
  go_ret
  exact ⟨rfl, below_next (Joins.below_alloc1 w _) hb⟩
end Go.Proofs.YtilpcchcccbfcaaDoor
