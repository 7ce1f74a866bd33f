/- Classes of bytes against the kinds of bytes; names; digits as strconv.Atoi reads them; what is passed over. -/
import Derived.Test.YtilpcchcccbfcaaDoorN
import Derived.Lib.AtoiAll
namespace Go.Proofs.YtilpcchcccbfcaaDoor

theorem all_bytes {p : UInt8 → Prop} (h : ∀ n : Nat, n < 256 → p (UInt8.ofNat n)) (c : UInt8) : p c := by
  have := h c.toNat (UInt8.toNat_lt c)
  rwa [show UInt8.ofNat c.toNat = c from UInt8.ofNat_toNat] at this
theorem cls_lt (c : UInt8) : cls c < 6 := all_bytes (p := fun c => cls c < 6) (by decide +kernel) c
theorem cls_space (c : UInt8) : decide (cls c = 4) = isSpace c := all_bytes (p := fun c => decide (cls c = 4) = isSpace c) (by decide +kernel) c
theorem cls_digit (c : UInt8) : decide (cls c = 2) = isDigit c := all_bytes (p := fun c => decide (cls c = 2) = isDigit c) (by decide +kernel) c
theorem cls_letter (c : UInt8) : decide (cls c = 1) = isLetter c := all_bytes (p := fun c => decide (cls c = 1) = isLetter c) (by decide +kernel) c
theorem cls_sign (c : UInt8) : decide (cls c = 3) = isSign c := all_bytes (p := fun c => decide (cls c = 3) = isSign c) (by decide +kernel) c
theorem cls_part (c : UInt8) : decide (cls c = 1 ∨ cls c = 2 ∨ cls c = 5) = isPart c := all_bytes (p := fun c => decide (cls c = 1 ∨ cls c = 2 ∨ cls c = 5) = isPart c) (by decide +kernel) c
theorem cls_high (c : UInt8) (h : 128 ≤ c.toNat) : cls c = 0 := all_bytes (p := fun c => 128 ≤ c.toNat → cls c = 0) (by decide +kernel) c h
theorem clsTab_len : clsTab.length = 128 := by simp [clsTab]
theorem clsTab_get (c : UInt8) (h : c.toNat < 128) : clsTab.getD c.toNat 0 = cls c := by
  simp only [clsTab, List.getD_eq_getElem?_getD, List.getElem?_map]
  rw [List.getElem?_range h]
  simp

/-- the token that begins with a byte of a class -/
theorem step_cls0 {c : UInt8} {r : List UInt8} (h : cls c ≠ 1) (h2 : cls c ≠ 2) (h3 : cls c ≠ 3) : step (c :: r) = none := by
  have a := cls_letter c; have b := cls_digit c; have d := cls_sign c
  simp only [h, h2, h3, decide_false] at a b d
  rw [step_sign a.symm b.symm, if_neg (by simp [← d])]
theorem step_cls1 {c : UInt8} {r : List UInt8} (h : cls c = 1) : step (c :: r) = (if ((c :: r).takeWhile isPart).length ≤ 32 then some (1, (c :: r).takeWhile isPart, 0, ((c :: r).takeWhile isPart).length) else none) := by
  have a := cls_letter c
  simp only [h, decide_true] at a
  exact step_name a.symm
theorem step_cls2 {c : UInt8} {r : List UInt8} (h : cls c = 2) : step (c :: r) = (if numOk ((c :: r).takeWhile isDigit) then some (2, [], num ((c :: r).takeWhile isDigit), ((c :: r).takeWhile isDigit).length) else none) := by
  have a := cls_letter c; have b := cls_digit c
  simp [h] at a b
  exact step_num a b
theorem step_cls3 {c : UInt8} {r : List UInt8} (h : cls c = 3) : step (c :: r) = some (3, [c], 0, 1) := by
  have a := cls_letter c; have b := cls_digit c; have d := cls_sign c
  simp [h] at a b d
  rw [step_sign a b, if_pos d]

/-- names -/
theorem takeWhile_all {p : UInt8 → Bool} : ∀ (l : List UInt8), ((l.takeWhile p).length = l.length) ↔ l.all p = true
  | [] => by simp
  | c :: r => by
    have ih := takeWhile_all (p := p) r
    cases hc : p c <;> simp [hc]
    simpa using ih
def letterHead : List UInt8 → Bool
  | [] => false
  | c :: _ => decide (cls c = 1)
theorem isName_iff (l : List UInt8) : isName l = (decide (l ≠ []) && decide (l.length ≤ 32) && letterHead l && decide ((l.takeWhile isPart).length = l.length)) := by
  cases l with
  | nil => rfl
  | cons c r =>
    have h1 := takeWhile_all (p := isPart) (c :: r)
    have h2 := cls_letter c
    have h3 : decide (((c :: r).takeWhile isPart).length = (c :: r).length) = (c :: r).all isPart := by
      rw [Bool.eq_iff_iff]; simpa using h1
    rw [h3]
    unfold isName letterHead
    simp only [ne_eq, reduceCtorEq, not_false_eq_true, decide_true, Bool.true_and, h2]
    cases isLetter c <;> simp
theorem takeWhile_idem {p : UInt8 → Bool} : ∀ (l : List UInt8), (l.takeWhile p).all p = true
  | [] => rfl
  | c :: r => by
    cases hc : p c
    · simp [hc]
    · simp only [List.takeWhile_cons, hc, if_true, List.all_cons, Bool.true_and]
      exact takeWhile_idem (p := p) r
theorem isName_run {c : UInt8} {r : List UInt8} (h : cls c = 1) : isName ((c :: r).takeWhile isPart) = decide (((c :: r).takeWhile isPart).length ≤ 32) := by
  have a := cls_letter c
  simp only [h, decide_true] at a
  have hp : isPart c = true := by simp [isPart, ← a]
  have h2 := takeWhile_idem (p := isPart) (c :: r)
  rw [List.takeWhile_cons, hp, if_pos rfl] at h2 ⊢
  unfold isName
  simp only [h2, ← a, Bool.true_and, Bool.and_true]

/-- digits -/
def numFrom (acc : Nat) (l : List UInt8) : Nat := l.foldl (fun a c => 10 * a + (c.toNat - 48)) acc
theorem numFrom_ge : ∀ (l : List UInt8) (acc : Nat), acc ≤ numFrom acc l
  | [], acc => Nat.le_refl _
  | c :: r, acc => by
    have := numFrom_ge r (10 * acc + (c.toNat - 48))
    unfold numFrom at this ⊢
    rw [List.foldl_cons]; omega
theorem isDigit_iff (c : UInt8) : isDigit c = true ↔ 48 ≤ c.toNat ∧ c.toNat ≤ 57 := all_bytes (p := fun c => isDigit c = true ↔ 48 ≤ c.toNat ∧ c.toNat ≤ 57) (by decide +kernel) c
theorem parse_digits : ∀ (l : List UInt8) (acc : Nat), l.all isDigit = true → Lib.parseUint10 acc l = if numFrom acc l < 18446744073709551616 ∨ l = [] then .ok (numFrom acc l) else .range
  | [], acc, _ => by simp [Lib.parseUint10, numFrom]
  | c :: r, acc, h => by
    simp only [List.all_cons, Bool.and_eq_true] at h
    have hd := (isDigit_iff c).1 h.1
    have hge := numFrom_ge r (10 * acc + (c.toNat - 48))
    have e : numFrom acc (c :: r) = numFrom (10 * acc + (c.toNat - 48)) r := rfl
    rw [Lib.parseUint10, if_pos hd, e]
    by_cases h1 : 1844674407370955162 ≤ acc
    · rw [if_pos h1, if_neg (by simp; omega)]
    · rw [if_neg h1]
      by_cases h2 : 18446744073709551616 ≤ acc * 10 + (c.toNat - 48)
      · rw [if_pos h2, if_neg (by simp; omega)]
      · rw [if_neg h2, show acc * 10 + (c.toNat - 48) = 10 * acc + (c.toNat - 48) by omega, parse_digits r _ h.2]
        by_cases h3 : numFrom (10 * acc + (c.toNat - 48)) r < 18446744073709551616
        · rw [if_pos (.inl h3), if_pos (.inl h3)]
        · by_cases h4 : r = []
          · subst h4; simp [numFrom] at h3; omega
          · rw [if_neg (by simp [h3, h4]), if_neg (by simp [h3])]
theorem atoi_digits {c : UInt8} {r : List UInt8} (h : (c :: r).all isDigit = true) :
    (num (c :: r) < 9223372036854775808 ∧ Lib.atoiAll (c :: r) = .ok (num (c :: r) : Int)) ∨ (9223372036854775808 ≤ num (c :: r) ∧ Lib.atoiAll (c :: r) = .range) := by
  have hp := parse_digits (c :: r) 0 h
  have hc := (isDigit_iff c).1 (by simp only [List.all_cons, Bool.and_eq_true] at h; exact h.1)
  have e : numFrom 0 (c :: r) = num (c :: r) := rfl
  have h43 : ¬ c.toNat = 43 := by omega
  have h45 : ¬ c.toNat = 45 := by omega
  simp only [Lib.atoiAll, h43, h45, or_false, Lib.parseMag, reduceCtorEq, if_false, hp, e]
  by_cases h1 : num (c :: r) < 18446744073709551616
  · by_cases h2 : 9223372036854775808 ≤ num (c :: r)
    · refine .inr ⟨h2, ?_⟩
      simp [h1, h2]
    · refine .inl ⟨by omega, ?_⟩
      simp [h1, h2]
  · refine .inr ⟨by omega, ?_⟩
    simp [h1]

/-- what is passed over: after white space, and after each comment with the white space behind it -/
theorem lexL_note_spaces {p : Nat} {l : List UInt8} (h : isNote l = true) : lexL p l = lexL (p + (lineLen l + ((l.drop (lineLen l)).takeWhile isSpace).length)) (l.drop (lineLen l + ((l.drop (lineLen l)).takeWhile isSpace).length)) := by
  rw [lexL_note h, lexL_spaces, List.drop_drop, Nat.add_assoc]
theorem takeWhile_stop {p : UInt8 → Bool} : ∀ (l : List UInt8), l.drop (l.takeWhile p).length = [] ∨ ∃ c r, l.drop (l.takeWhile p).length = c :: r ∧ p c = false
  | [] => .inl rfl
  | c :: r => by
    cases hc : p c
    · exact .inr ⟨c, r, by simp [hc], hc⟩
    · simpa [List.takeWhile_cons, hc] using takeWhile_stop (p := p) r
end Go.Proofs.YtilpcchcccbfcaaDoor
