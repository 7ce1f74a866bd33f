/- Where the tokens of a source stand, and what stands between them: lists of bytes. -/
import Derived.Test.YtilpcchcccbfcaaDoorBa
namespace Go.Proofs.YtilpcchcccbfcaaDoor

theorem digit_back (c : UInt8) (h : isDigit c = true) : UInt8.ofNat (48 + (c.toNat - 48)) = c := by
  have h2 := (isDigit_iff c).1 h
  rw [show 48 + (c.toNat - 48) = c.toNat by omega]; simp
/-- digits without a zero in front are those of their number -/
theorem dec_num : ∀ (n : Nat) (ds : List UInt8), ds.length ≤ n → ds.all isDigit = true → ds ≠ [] → (ds.length = 1 ∨ ds.head? ≠ some 48) → Lib.decDigits (num ds) = ds := by
  intro n
  induction n with
  | zero => intro ds h _ h0 _; exact absurd (List.eq_nil_of_length_eq_zero (by omega)) h0
  | succ n ih =>
    intro ds hl hd h0 hz
    obtain ⟨l, c, rfl⟩ : ∃ l c, ds = l ++ [c] := ⟨ds.dropLast, ds.getLast h0, (List.dropLast_concat_getLast h0).symm⟩
    rw [List.all_append, Bool.and_eq_true] at hd
    have hc : isDigit c = true := by simpa using hd.2
    have hcd := (isDigit_iff c).1 hc
    rw [num_snoc]
    cases l with
    | nil =>
      rw [show num [] = 0 from rfl, Lib.decDigits_one (by omega)]
      simp only [Nat.mul_zero, Nat.zero_add, List.nil_append]
      rw [digit_back c hc]
    | cons d r =>
      have hr := ih (d :: r) (by simp at hl ⊢; omega) hd.1 (by simp) (by
        rcases hz with hz | hz
        · simp at hz
        · exact .inr (by simpa using hz))
      have hne : 1 ≤ num (d :: r) := by
        have h1 : num (d :: r) = numFrom (10 * 0 + (d.toNat - 48)) r := rfl
        have h2 := numFrom_ge r (10 * 0 + (d.toNat - 48))
        have h3 : isDigit d = true := by have := hd.1; rw [List.all_cons, Bool.and_eq_true] at this; exact this.1
        have h4 := (isDigit_iff d).1 h3
        have h5 : d.toNat ≠ 48 := by
          rcases hz with hz | hz
          · simp at hz
          · intro h; apply hz
            have : d = 48 := UInt8.toNat_inj.1 (by rw [h]; rfl)
            rw [this]; rfl
        omega
      rw [Lib.decDigits, dif_neg (by omega), show (10 * num (d :: r) + (c.toNat - 48)) / 10 = num (d :: r) by omega, show (10 * num (d :: r) + (c.toNat - 48)) % 10 = c.toNat - 48 by omega, hr, digit_back c hc]

/-- white space and comments: does the end lie inside a comment? -/
def gapF : Bool → List UInt8 → Option Bool
  | b, [] => some b
  | b, c :: r => if notLine c && (b || isNote (c :: r)) then gapF true r else if isSpace c then gapF false r else none
theorem gap_space {c : UInt8} {r : List UInt8} (h : isSpace c = true) : gapF false (c :: r) = gapF false r := by
  have hn : isNote (c :: r) = false := by
    cases hn : isNote (c :: r) with
    | false => rfl
    | true => obtain ⟨q, hq⟩ := isNote_not_space hn; injection hq with h1 _; subst h1; cases h
  rw [gapF, hn]; simp [h]
theorem gap_line (r : List UInt8) (b : Bool) : gapF b (10 :: r) = gapF false r := by
  rw [gapF]; simp [notLine, show isSpace 10 = true by decide]
theorem gap_in : ∀ (l : List UInt8), gapF true l = gapF true (l.drop (lineLen l))
  | [] => rfl
  | c :: r => by
    cases h : notLine c with
    | false => simp [lineLen, h]
    | true =>
      have h2 : lineLen (c :: r) = lineLen r + 1 := by simp [lineLen, h]
      rw [h2, List.drop_succ_cons, ← gap_in r, gapF]; simp [h]
theorem gap_note {l : List UInt8} (h : isNote l = true) : gapF false l = gapF true (l.drop (lineLen l)) := by
  obtain ⟨r, rfl⟩ := isNote_not_space h
  have h1 : gapF false (47 :: 47 :: r) = gapF true (47 :: r) := by rw [gapF]; simp [notLine, isNote]
  have h2 : lineLen (47 :: 47 :: r) = lineLen (47 :: r) + 1 := by unfold lineLen; rw [List.takeWhile_cons, if_pos (by decide)]; rfl
  rw [h1, gap_in, h2, List.drop_succ_cons]
theorem note_take {l : List UInt8} (n : Nat) (h : isNote l = true) (hn : 2 ≤ n) : isNote (l.take n) = true := by
  obtain ⟨r, rfl⟩ := isNote_not_space h
  obtain ⟨m, rfl⟩ : ∃ m, n = m + 2 := ⟨n - 2, by omega⟩
  rfl
/-- behind a comment stands nothing, or a line feed -/
theorem line_rest (l : List UInt8) : l.drop (lineLen l) = [] ∨ ∃ r, l.drop (lineLen l) = 10 :: r := by
  rcases takeWhile_stop (p := notLine) l with h | ⟨c, r, h, hc⟩
  · exact .inl h
  · refine .inr ⟨r, ?_⟩
    have : c = 10 := by simpa [notLine] using hc
    rw [← this]; exact h

/-- the tokens stand at their places in the bytes l, which begin at p; between them there are white space and comments alone -/
inductive Stand : Nat → List UInt8 → List Tok → Prop
  | done (p : Nat) (l : List UInt8) (b : Bool) : gapF false l = some b → Stand p l []
  | next (p g : Nat) (l : List UInt8) (t : Tok) (ts : List Tok) : g ≤ l.length → t.at' = ((p + g : Nat) : Int) → gapF false (l.take g) = some false → Begins (l.drop g) → wordT t ≠ [] →
      (l.drop g).take (wordT t).length = wordT t → g + (wordT t).length ≤ l.length → (0 ≤ t.n ∧ t.n ≤ 1099511627776) → Stand (p + g + (wordT t).length) (l.drop (g + (wordT t).length)) ts → Stand p l (t :: ts)

theorem tok_word {l : List UInt8} {k w x m} (p : Nat) (h : step l = some (k, w, x, m)) : (wordT ⟨k, w, x, p⟩).length = m ∧ l.take m = wordT ⟨k, w, x, p⟩ ∧ x ≤ 1099511627776 := by
  rcases step_len h with ⟨rfl, rfl, rfl, h4, _, _⟩ | ⟨rfl, rfl, rfl, hok, h4, c, r, rfl, hc, hd⟩ | ⟨rfl, rfl, rfl, c, r, rfl, rfl, _⟩
  · refine ⟨by simp [wordT, h4], ?_, by omega⟩
    show l.take m = l.takeWhile isPart
    rw [h4]; exact (List.prefix_iff_eq_take.1 (List.takeWhile_prefix _)).symm
  · have hn : wordT ⟨((2 : Nat) : Int), [], (num ((c :: r).takeWhile isDigit) : Nat), p⟩ = (c :: r).takeWhile isDigit := by
      show (if ((2 : Nat) : Int) = 2 then Lib.itoa ((num ((c :: r).takeWhile isDigit) : Nat) : Int) else []) = _
      rw [if_pos (show ((2 : Nat) : Int) = 2 from rfl), itoa_pos (by omega), Int.toNat_natCast]
      have h1 : (c :: r).takeWhile isDigit ≠ [] := by simp [hd]
      unfold numOk at hok
      simp only [Bool.and_eq_true, Bool.or_eq_true, beq_iff_eq, bne_iff_ne, ne_eq] at hok
      exact dec_num _ _ (Nat.le_refl _) (takeWhile_idem _) h1 hok.1
    rw [hn]
    refine ⟨h4.symm, ?_, ?_⟩
    · rw [h4]; exact (List.prefix_iff_eq_take.1 (List.takeWhile_prefix _)).symm
    · simp only [numOk, Bool.and_eq_true, decide_eq_true_eq] at hok; exact hok.2
  · exact ⟨rfl, rfl, by omega⟩

theorem stand : ∀ p l, (lexL p l).2 = none → Stand p l (lexL p l).1 := by
  refine lex_ind (fun p h => ?_) (fun p c r hc ih h => ?_) (fun p l hn ih h => ?_) (fun p l hb hs h => ?_) (fun p l k w x i hb hs ih h => ?_)
  · exact .done p [] false rfl
  · rw [lexL_space hc] at h ⊢
    have hi := ih h
    generalize lexL (p + 1) r = X at hi ⊢
    obtain ⟨ts, e⟩ := X
    simp only at hi ⊢
    cases hi with
    | done _ _ b h1 => exact .done _ _ b (by rw [gap_space hc]; exact h1)
    | next _ g _ t ts h1 h2 h3 h4 h5 h6 h7 h8 h9 =>
      refine .next p (g + 1) _ t ts (by simp; omega) (by rw [h2]; omega) (by rw [List.take_succ_cons, gap_space hc]; exact h3) h4 h5 h6 (by simp; omega) h8 ?_
      rw [show p + (g + 1) + (wordT t).length = p + 1 + g + (wordT t).length by omega, show g + 1 + (wordT t).length = g + (wordT t).length + 1 by omega, List.drop_succ_cons]
      exact h9
  · rw [lexL_note hn] at h ⊢
    have hi := ih h
    have hl2 := lineLen_pos hn
    have hle := lineLen_le l
    rcases line_rest l with hr | ⟨r, hr⟩
    · rw [hr, lexL_nil]
      exact .done p l true (by rw [gap_note hn, hr]; rfl)
    · generalize lexL (p + lineLen l) (l.drop (lineLen l)) = X at hi ⊢
      obtain ⟨ts, e⟩ := X
      simp only at hi ⊢
      cases hi with
      | done _ _ b h1 => exact .done _ _ b (by rw [gap_note hn, hr, gap_line]; rw [hr, gap_line] at h1; exact h1)
      | next _ g _ t ts h1 h2 h3 h4 h5 h6 h7 h8 h9 =>
        have hg : 0 < g := by
          rcases Nat.eq_zero_or_pos g with rfl | hg
          · obtain ⟨c, q, hq, hc, _⟩ := h4
            rw [List.drop_zero, hr] at hq
            injection hq with hq _
            subst hq
            cases hc
          · exact hg
        rw [List.length_drop] at h1 h7
        obtain ⟨g, rfl⟩ : ∃ k, g = k + 1 := ⟨g - 1, by omega⟩
        refine .next p (lineLen l + (g + 1)) l t ts (by omega) (by rw [h2]; omega) ?_ (by rw [← List.drop_drop]; exact h4) h5 (by rw [← List.drop_drop]; exact h6) (by omega) h8 ?_
        · rw [gap_note (note_take _ hn (by omega)), lineLen_take _ (by omega), take_drop_more _ _ _ (by omega), show lineLen l + (g + 1) - lineLen l = g + 1 by omega, hr, List.take_succ_cons, gap_line]
          rw [hr, List.take_succ_cons, gap_line] at h3
          exact h3
        · rw [List.drop_drop] at h9
          rw [show p + (lineLen l + (g + 1)) + (wordT t).length = p + lineLen l + (g + 1) + (wordT t).length by omega, show lineLen l + (g + 1) + (wordT t).length = lineLen l + (g + 1 + (wordT t).length) by omega]
          exact h9
  · rw [lexL_bad hb hs] at h; cases h
  · rw [lexL_tok hb hs] at h ⊢
    have hp := step_pos hs
    obtain ⟨h1, h2, h3⟩ := tok_word p hs
    refine .next p 0 l _ _ (Nat.zero_le _) (by simp) rfl (by rw [List.drop_zero]; exact hb) ?_ ?_ ?_ ⟨by simp, by simp; omega⟩ ?_
    · intro h0; rw [h0] at h1; simp at h1; omega
    · rw [h1, List.drop_zero]; exact h2
    · rw [h1]; omega
    · rw [h1, Nat.add_zero, Nat.zero_add]; exact ih h
end Go.Proofs.YtilpcchcccbfcaaDoor
