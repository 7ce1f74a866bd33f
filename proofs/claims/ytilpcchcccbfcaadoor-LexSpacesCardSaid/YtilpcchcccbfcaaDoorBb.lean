/- What was written is read again; what was read is valid, and its text is not longer. -/
import Derived.Test.YtilpcchcccbfcaaDoorBa
import Derived.Test.YtilpcchcccbfcaaDoorJo
import Derived.Lib.ItoaLen
namespace Go.Proofs.YtilpcchcccbfcaaDoor

theorem alike_of {t : Tok} {kd x : Nat} {p : Int} (h1 : t.kind = kd) (h2 : t.n = x) : alikeT t ⟨kd, t.text, x, p⟩ = true := by simp [alikeT, h1, h2]
theorem join_two (a b : List UInt8) (r : List (List UInt8)) : Lib.join (a :: b :: r) [32] = a ++ 32 :: Lib.join (b :: r) [32] := by
  rw [Lib.join_cons, Lib.join_cons]
  simp [Lib.joinTail]
/-- the text of valid tokens is read as the same tokens -/
theorem text_back : ∀ (ts : List Tok) (p : Nat), ts.all validT = true → ∃ zs, lexL p (Lib.join (ts.map wordT) [32]) = (zs, none) ∧ sameL ts zs = true
  | [], p, _ => ⟨[], by rw [List.map_nil, Lib.join_nil, lexL_nil], rfl⟩
  | [t], p, h => by
    simp only [List.all_cons, List.all_nil, Bool.and_true] at h
    obtain ⟨kd, x, h1, h2, hb, hs⟩ := step_word h
    refine ⟨[⟨kd, t.text, x, p⟩], ?_, by simp [sameL, alike_of h1 h2]⟩
    rw [List.map_cons, List.map_nil, Lib.join_one, lexL_tok hb hs, List.drop_length, lexL_nil]
  | t :: u :: r, p, h => by
    rw [List.all_cons, Bool.and_eq_true] at h
    obtain ⟨kd, x, h1, h2, hb, hs⟩ := step_word h.1
    obtain ⟨zs, hz, hz2⟩ := text_back (u :: r) (p + (wordT t).length + 1) h.2
    refine ⟨⟨kd, t.text, x, p⟩ :: zs, ?_, by simp only [sameL, alike_of h1 h2, hz2, Bool.and_self]⟩
    have hc : isSpace 32 = true := by decide
    rw [List.map_cons, List.map_cons, join_two, lexL_tok (begins_sep hc _ hb) (by rw [step_sep hc _ (begins_ne hb)]; exact hs), List.drop_left, lexL_space hc, ← List.map_cons, hz]

/-- what is read is valid -/
theorem step_valid {l : List UInt8} {k : Nat} {w : List UInt8} {x m : Nat} {p : Int} (h : step l = some (k, w, x, m)) : validT ⟨k, w, x, p⟩ = true ∧ TokOk ⟨k, w, x, p⟩ ∧ (wordT ⟨k, w, x, p⟩).length ≤ m := by
  have hp := step_pos h
  rcases step_len h with ⟨rfl, rfl, rfl, hm, hm2, c, r, rfl, hc⟩ | ⟨rfl, rfl, rfl, hok, hm, c, r, rfl, hc, hd⟩ | ⟨rfl, rfl, rfl, c, r, rfl, rfl, hc, hd, hs⟩
  · have hc1 : cls c = 1 := by have := cls_letter c; rw [hc] at this; simpa using this
    have hn : isName ((c :: r).takeWhile isPart) = true := by rw [isName_run hc1]; simp; omega
    refine ⟨by simp [validT, fitsName, hn], ⟨by show ((c :: r).takeWhile isPart).length ≤ _; omega, by show (-9223372036854775808 : Int) ≤ 0; omega, by show (0 : Int) ≤ 9223372036854775807; omega⟩, ?_⟩
    show (wordT ⟨1, _, 0, p⟩).length ≤ m
    rw [show wordT ⟨1, (c :: r).takeWhile isPart, 0, p⟩ = (c :: r).takeWhile isPart from rfl]; omega
  · have h40 : num ((c :: r).takeWhile isDigit) ≤ 1099511627776 := by
      simp only [numOk, Bool.and_eq_true, decide_eq_true_eq] at hok; exact hok.2
    have hall := takeWhile_idem (p := isDigit) (c :: r)
    generalize (c :: r).takeWhile isDigit = d at hok hm h40 hall
    refine ⟨by simp [validT, fitsNumber]; omega, ⟨by show (0 : Nat) ≤ _; omega, by show (-9223372036854775808 : Int) ≤ (num d : Int); omega, by show (num d : Int) ≤ 9223372036854775807; omega⟩, ?_⟩
    have hw : wordT ⟨((2 : Nat) : Int), [], (num d : Int), p⟩ = Lib.decDigits (num d) := by
      rw [(word_kind2 _ rfl).2, itoa_pos (show (0 : Int) ≤ (num d : Int) from Int.natCast_nonneg _)]; simp
    rw [hw, hm]
    refine dec_len d.length (num d) (by omega) ?_
    have := num_lt d 0 hall
    rw [Nat.zero_add, Nat.one_mul] at this
    exact this
  · refine ⟨by simp [validT, fitsSign, signText, hs], ⟨by show (1 : Nat) ≤ _; omega, by show (-9223372036854775808 : Int) ≤ 0; omega, by show (0 : Int) ≤ 9223372036854775807; omega⟩, ?_⟩
    show (wordT ⟨3, [c], 0, p⟩).length ≤ 1
    rw [show wordT ⟨3, [c], 0, p⟩ = [c] from rfl]; simp
theorem lexed_valid : ∀ p l, (lexL p l).1.all validT = true ∧ (∀ t ∈ (lexL p l).1, TokOk t) ∧ Lib.lens ((lexL p l).1.map wordT) ≤ l.length := by
  refine lex_ind (fun p => by simp [lexL_nil, Lib.lens]) (fun p c r hc ih => ?_) (fun p l hn ih => ?_) (fun p l hb hs => ?_) (fun p l k w x m hb hs ih => ?_)
  · rw [lexL_space hc, List.length_cons]; exact ⟨ih.1, ih.2.1, by have := ih.2.2; omega⟩
  · rw [lexL_note hn]
    have := ih.2.2
    rw [List.length_drop] at this
    exact ⟨ih.1, ih.2.1, by omega⟩
  · rw [lexL_bad hb hs]; simp [Lib.lens]
  · rw [lexL_tok hb hs]
    obtain ⟨h1, h2, h3⟩ := step_valid (p := (p : Int)) hs
    have hp := step_pos hs
    have h4 := ih.2.2
    rw [List.length_drop] at h4
    refine ⟨by rw [List.all_cons, h1, ih.1]; rfl, fun t ht => ?_, ?_⟩
    · rcases List.mem_cons.1 ht with rfl | ht
      · exact h2
      · exact ih.2.1 t ht
    · have h5 : Lib.lens (List.map wordT (⟨k, w, x, p⟩ :: (lexL (p + m) (l.drop m)).1)) = (wordT ⟨k, w, x, p⟩).length + Lib.lens ((lexL (p + m) (l.drop m)).1.map wordT) := by simp [Lib.lens]
      rw [h5]; omega
theorem join_le (ws : List (List UInt8)) : (Lib.join ws [32]).length ≤ ws.length + Lib.lens ws := by
  cases ws with
  | nil => simp [Lib.join_nil]
  | cons a r => rw [Lib.join_length]; simp
/-- the texts' lengths -/
def sumText (ts : List Tok) : Nat := (ts.map fun t => t.text.length).foldr (· + ·) 0
theorem words_le : ∀ (ts : List Tok), (∀ t ∈ ts, TokOk t) → Lib.lens (ts.map wordT) ≤ sumText ts + 21 * ts.length
  | [], _ => by simp [Lib.lens, sumText]
  | t :: r, h => by
    have ih := words_le r fun u hu => h u (by simp [hu])
    have ht := h t (by simp)
    have hw : (wordT t).length ≤ t.text.length + 21 := by
      unfold wordT
      split
      · have := Lib.itoa_length_le t.n ht.2.1 ht.2.2; omega
      · omega
    have h5 : Lib.lens (List.map wordT (t :: r)) = (wordT t).length + Lib.lens (r.map wordT) := by simp [Lib.lens]
    have h6 : sumText (t :: r) = t.text.length + sumText r := rfl
    rw [h5, h6, List.length_cons]; omega
end Go.Proofs.YtilpcchcccbfcaaDoor
