/- What follows from the way in which a source is read: errors, their places, sources behind one another. -/
import Derived.Test.YtilpcchcccbfcaaDoorM
namespace Go.Proofs.YtilpcchcccbfcaaDoor

theorem lex_ind {P : Nat → List UInt8 → Prop} (h0 : ∀ p, P p []) (h1 : ∀ p c r, isSpace c = true → P (p + 1) r → P p (c :: r))
    (h2 : ∀ p l, isNote l = true → P (p + lineLen l) (l.drop (lineLen l)) → P p l) (h3 : ∀ p l, Begins l → step l = none → P p l)
    (h4 : ∀ p l k w x m, Begins l → step l = some (k, w, x, m) → P (p + m) (l.drop m) → P p l) : ∀ p l, P p l := by
  intro p l
  obtain ⟨n, hn⟩ : ∃ n, n = l.length := ⟨_, rfl⟩
  induction n using Nat.strongRecOn generalizing p l with
  | ind n ih =>
    cases l with
    | nil => exact h0 p
    | cons c r =>
      simp only [List.length_cons] at hn
      cases hc : isSpace c with
      | true => exact h1 p c r hc (ih r.length (by omega) _ _ rfl)
      | false =>
        cases hd : isNote (c :: r) with
        | true =>
          have := lineLen_pos hd
          exact h2 p _ hd (ih _ (by rw [List.length_drop, List.length_cons]; omega) _ _ rfl)
        | false =>
          have hb : Begins (c :: r) := ⟨c, r, rfl, hc, hd⟩
          cases hs : step (c :: r) with
          | none => exact h3 p _ hb hs
          | some t =>
            obtain ⟨k, w, x, m⟩ := t
            have := step_pos hs
            exact h4 p _ k w x m hb hs (ih _ (by rw [List.length_drop, List.length_cons]; omega) _ _ rfl)

/-- at the place of an error begins what is no token -/
theorem err_at : ∀ p l q, (lexL p l).2 = some q → p ≤ q ∧ q < p + l.length ∧ Begins (l.drop (q - p)) ∧ step (l.drop (q - p)) = none := by
  refine lex_ind (fun p q h => by simp [lexL_nil] at h) (fun p c r hc ih q h => ?_) (fun p l hn ih q h => ?_) (fun p l hb hs q h => ?_) (fun p l k w x m hb hs ih q h => ?_)
  · rw [lexL_space hc] at h
    obtain ⟨a, b, d, e⟩ := ih q h
    rw [show q - p = (q - (p + 1)) + 1 by omega]
    exact ⟨by omega, by simp; omega, d, e⟩
  · rw [lexL_note hn] at h
    obtain ⟨a, b, d, e⟩ := ih q h
    have h3 := lineLen_le l
    rw [List.length_drop] at b
    rw [List.drop_drop, show lineLen l + (q - (p + lineLen l)) = q - p by omega] at d e
    exact ⟨by omega, by omega, d, e⟩
  · rw [lexL_bad hb hs] at h
    obtain rfl := Option.some.inj h
    obtain ⟨c, r, rfl, _⟩ := id hb
    simp only [Nat.sub_self, List.drop_zero]
    exact ⟨Nat.le_refl _, by simp, hb, hs⟩
  · rw [lexL_tok hb hs] at h
    obtain ⟨a, b, d, e⟩ := ih q h
    have h3 := step_pos hs
    rw [List.length_drop] at b
    rw [List.drop_drop, show m + (q - (p + m)) = q - p by omega] at d e
    exact ⟨by omega, by omega, d, e⟩

theorem wrong_rest {p q : Nat} {l : List UInt8} (h : (lexL p l).2 = some q) : (lexL 0 (l.drop (q - p))).2 = some 0 := by
  obtain ⟨_, _, hb, hs⟩ := err_at p l q h
  rw [lexL_bad hb hs]

theorem takeWhile_take {p : UInt8 → Bool} : ∀ (l : List UInt8) (n : Nat), (l.takeWhile p).length ≤ n → (l.take n).takeWhile p = l.takeWhile p
  | [], n, _ => by simp
  | c :: r, 0, h => by
    cases hc : p c <;> simp [hc] at h ⊢
  | c :: r, n + 1, h => by
    cases hc : p c
    · simp [hc]
    · simp only [List.takeWhile_cons, hc, if_true, List.length_cons] at h
      simp only [List.take_succ_cons, List.takeWhile_cons, hc, if_true]
      rw [takeWhile_take r n (by omega)]
theorem takeWhile_sep {p : UInt8 → Bool} {c : UInt8} (hc : p c = false) (m : List UInt8) : ∀ (l : List UInt8), (l ++ c :: m).takeWhile p = l.takeWhile p
  | [] => by simp [hc]
  | d :: r => by
    cases hd : p d
    · simp [hd]
    · simp only [List.cons_append, List.takeWhile_cons, hd, if_true]
      rw [takeWhile_sep hc m r]

theorem isNote_take {l : List UInt8} (n : Nat) (h : isNote l = false) : isNote (l.take n) = false := by
  cases hn : isNote (l.take n) with
  | false => rfl
  | true =>
    obtain ⟨r, hr⟩ := isNote_not_space hn
    have : l = 47 :: 47 :: (r ++ l.drop n) := by
      conv => lhs; rw [← List.take_append_drop n l, hr]
      simp
    rw [this] at h
    cases h
theorem begins_take {l : List UInt8} (n : Nat) (hn : 0 < n) (h : Begins l) : Begins (l.take n) := by
  obtain ⟨c, r, rfl, h1, h2⟩ := h
  cases n with
  | zero => omega
  | succ n => exact ⟨c, r.take n, rfl, h1, isNote_take (n + 1) h2⟩
theorem step_len {l : List UInt8} {k w x m} (h : step l = some (k, w, x, m)) : (k = 1 ∧ w = l.takeWhile isPart ∧ x = 0 ∧ m = w.length ∧ m ≤ 32 ∧ ∃ c r, l = c :: r ∧ isLetter c = true) ∨
    (k = 2 ∧ w = [] ∧ x = num (l.takeWhile isDigit) ∧ numOk (l.takeWhile isDigit) = true ∧ m = (l.takeWhile isDigit).length ∧ ∃ c r, l = c :: r ∧ isLetter c = false ∧ isDigit c = true) ∨
    (k = 3 ∧ x = 0 ∧ m = 1 ∧ ∃ c r, l = c :: r ∧ w = [c] ∧ isLetter c = false ∧ isDigit c = false ∧ isSign c = true) := by
  cases l with
  | nil => simp [step] at h
  | cons c r =>
    unfold step at h
    simp only at h
    split at h
    · rename_i hc
      split at h
      · rename_i hl
        simp only [Option.some.injEq, Prod.mk.injEq] at h
        obtain ⟨rfl, rfl, rfl, rfl⟩ := h
        exact .inl ⟨rfl, rfl, rfl, rfl, hl, c, r, rfl, hc⟩
      · cases h
    · rename_i hc
      split at h
      · rename_i hd
        split at h
        · rename_i hk
          simp only [Option.some.injEq, Prod.mk.injEq] at h
          obtain ⟨rfl, rfl, rfl, rfl⟩ := h
          exact .inr (.inl ⟨rfl, rfl, rfl, hk, rfl, c, r, rfl, by simpa using hc, hd⟩)
        · cases h
      · rename_i hd
        split at h
        · rename_i hk
          simp only [Option.some.injEq, Prod.mk.injEq] at h
          obtain ⟨rfl, rfl, rfl, rfl⟩ := h
          exact .inr (.inr ⟨rfl, rfl, rfl, c, r, rfl, rfl, by simpa using hc, by simpa using hd, hk⟩)
        · cases h
theorem step_name {c : UInt8} {r : List UInt8} (h : isLetter c = true) : step (c :: r) = (if ((c :: r).takeWhile isPart).length ≤ 32 then some (1, (c :: r).takeWhile isPart, 0, ((c :: r).takeWhile isPart).length) else none) := by
  rw [step, if_pos h]
theorem step_num {c : UInt8} {r : List UInt8} (h : isLetter c = false) (hd : isDigit c = true) : step (c :: r) = (if numOk ((c :: r).takeWhile isDigit) then some (2, [], num ((c :: r).takeWhile isDigit), ((c :: r).takeWhile isDigit).length) else none) := by
  rw [step, if_neg (by simp [h]), if_pos hd]
theorem step_sign {c : UInt8} {r : List UInt8} (h : isLetter c = false) (hd : isDigit c = false) : step (c :: r) = if isSign c then some (3, [c], 0, 1) else none := by
  rw [step, if_neg (by simp [h]), if_neg (by simp [hd])]

theorem step_take {l : List UInt8} {k w x m} (n : Nat) (h : step l = some (k, w, x, m)) (hm : m ≤ n) : step (l.take n) = some (k, w, x, m) := by
  have hp := step_pos h
  rcases step_len h with ⟨_, hw, _, hm2, _, c, r, rfl, hc⟩ | ⟨_, _, _, _, hm2, c, r, rfl, hc, hd⟩ | ⟨_, _, _, c, r, rfl, _, hc, hd, _⟩
  · obtain ⟨n, rfl⟩ : ∃ k, n = k + 1 := ⟨n - 1, by omega⟩
    rw [← h, List.take_succ_cons, step_name hc, step_name hc, ← List.take_succ_cons, takeWhile_take _ _ (by rw [← hw]; omega)]
  · obtain ⟨n, rfl⟩ : ∃ k, n = k + 1 := ⟨n - 1, by omega⟩
    rw [← h, List.take_succ_cons, step_num hc hd, step_num hc hd, ← List.take_succ_cons, takeWhile_take _ _ (by omega)]
  · obtain ⟨n, rfl⟩ : ∃ k, n = k + 1 := ⟨n - 1, by omega⟩
    rw [← h, List.take_succ_cons, step_sign hc hd, step_sign hc hd]
theorem lineLen_take {l : List UInt8} (n : Nat) (h : lineLen l ≤ n) : lineLen (l.take n) = lineLen l := by unfold lineLen; rw [takeWhile_take l n h]
theorem take_drop_more (l : List UInt8) (m n : Nat) (_ : m ≤ n) : (l.take n).drop m = (l.drop m).take (n - m) := by rw [List.drop_take]

/-- what stands before the place of an error has tokens -/
theorem wrong_before : ∀ p l q, (lexL p l).2 = some q → (lexL p (l.take (q - p))).2 = none := by
  refine lex_ind (fun p q h => by simp [lexL_nil] at h) (fun p c r hc ih q h => ?_) (fun p l hn ih q h => ?_) (fun p l hb hs q h => ?_) (fun p l k w x m hb hs ih q h => ?_)
  · rw [lexL_space hc] at h
    have := (err_at _ _ _ h).1
    rw [show q - p = (q - (p + 1)) + 1 by omega, List.take_succ_cons, lexL_space hc]
    exact ih q h
  · rw [lexL_note hn] at h
    have := (err_at _ _ _ h).1
    have h2 := lineLen_pos hn
    have hn2 : isNote (l.take (q - p)) = true := by
      obtain ⟨r, rfl⟩ := isNote_not_space hn
      obtain ⟨n, hq⟩ : ∃ n, q - p = n + 2 := ⟨q - p - 2, by omega⟩
      rw [hq]; rfl
    rw [lexL_note hn2, lineLen_take _ (by omega), take_drop_more _ _ _ (by omega), Nat.sub_sub]
    exact ih q h
  · rw [lexL_bad hb hs] at h
    obtain rfl := Option.some.inj h
    simp [lexL_nil]
  · rw [lexL_tok hb hs] at h
    have := (err_at _ _ _ h).1
    have h2 := step_pos hs
    rw [lexL_tok (begins_take _ (by omega) hb) (step_take (q - p) hs (by omega)), take_drop_more _ _ _ (by omega), Nat.sub_sub]
    exact ih q h

theorem isNote_sep {c : UInt8} (hc : isSpace c = true) (m : List UInt8) : ∀ (l : List UInt8), isNote (l ++ c :: m) = isNote l
  | [] => by
    cases h : isNote ([] ++ c :: m) with
    | false => rfl
    | true => obtain ⟨r, hr⟩ := isNote_not_space h; simp at hr; rw [hr.1] at hc; cases hc
  | [d] => by
    cases h : isNote ([d] ++ c :: m) with
    | false =>
      cases h3 : isNote [d] with
      | false => rfl
      | true => obtain ⟨r, hr⟩ := isNote_not_space h3; simp at hr
    | true => obtain ⟨r, hr⟩ := isNote_not_space h; simp at hr; rw [hr.2.1] at hc; cases hc
  | d :: e :: r => by
    cases h : isNote (d :: e :: r) with
    | true => obtain ⟨s, hs⟩ := isNote_not_space h; rw [hs]; rfl
    | false =>
      cases h2 : isNote (d :: e :: r ++ c :: m) with
      | false => rfl
      | true =>
        obtain ⟨s, hs⟩ := isNote_not_space h2
        simp at hs
        obtain ⟨rfl, rfl, _⟩ := hs
        cases h
theorem space_not {c : UInt8} (hc : isSpace c = true) : isPart c = false ∧ isDigit c = false ∧ isSign c = false ∧ isLetter c = false := by
  simp only [isSpace, Bool.or_eq_true, beq_iff_eq] at hc
  rcases hc with ((rfl | rfl) | rfl) | rfl <;> decide
theorem begins_sep {c : UInt8} (hc : isSpace c = true) (m : List UInt8) {l : List UInt8} (h : Begins l) : Begins (l ++ c :: m) := by
  obtain ⟨d, r, rfl, h1, h2⟩ := h
  exact ⟨d, r ++ c :: m, rfl, h1, by rw [isNote_sep hc]; exact h2⟩
theorem step_sep {c : UInt8} (hc : isSpace c = true) (m : List UInt8) {l : List UInt8} (h : l ≠ []) : step (l ++ c :: m) = step l := by
  cases l with
  | nil => exact absurd rfl h
  | cons d r =>
    obtain ⟨h1, h2, _, _⟩ := space_not hc
    cases hl : isLetter d with
    | true => rw [List.cons_append, step_name hl, step_name hl, ← List.cons_append, takeWhile_sep h1]
    | false =>
      cases hd : isDigit d with
      | true => rw [List.cons_append, step_num hl hd, step_num hl hd, ← List.cons_append, takeWhile_sep h2]
      | false => rw [List.cons_append, step_sign hl hd, step_sign hl hd]
theorem begins_ne {l : List UInt8} (h : Begins l) : l ≠ [] := by obtain ⟨c, r, rfl, _⟩ := h; simp

theorem takeWhile_len_app {p : UInt8 → Bool} (b : List UInt8) : ∀ (l : List UInt8), (l.takeWhile p).length < l.length → (l ++ b).takeWhile p = l.takeWhile p
  | [], h => by simp at h
  | c :: r, h => by
    cases hc : p c
    · simp [hc]
    · simp only [List.takeWhile_cons, hc, if_true, List.length_cons] at h
      simp only [List.cons_append, List.takeWhile_cons, hc, if_true]
      rw [takeWhile_len_app b r (by omega)]

/-- an error stays, whatever is written behind it after white space -/
theorem wrong_more {c : UInt8} (hc : isSpace c = true) (m : List UInt8) : ∀ p l q, (lexL p l).2 = some q → (lexL p (l ++ c :: m)).2 = some q := by
  refine lex_ind (fun p q h => by simp [lexL_nil] at h) (fun p c r hc ih q h => ?_) (fun p l hn ih q h => ?_) (fun p l hb hs q h => ?_) (fun p l k w x i hb hs ih q h => ?_)
  · rw [lexL_space hc] at h
    rw [List.cons_append, lexL_space hc]
    exact ih q h
  · rw [lexL_note hn] at h
    have h3 := lineLen_le l
    have h4 : lineLen l < l.length := by
      rcases Nat.lt_or_ge (lineLen l) l.length with h4 | h4
      · exact h4
      · rw [List.drop_eq_nil_of_le (by omega)] at h; simp [lexL_nil] at h
    have h5 : lineLen (l ++ c :: m) = lineLen l := by unfold lineLen at h4 ⊢; rw [takeWhile_len_app _ _ h4]
    have hn2 : isNote (l ++ c :: m) = true := by rw [isNote_sep hc]; exact hn
    rw [lexL_note hn2, h5, List.drop_append_of_le_length (by omega)]
    exact ih q h
  · rw [lexL_bad hb hs] at h
    rw [lexL_bad (begins_sep hc m hb) (by rw [step_sep hc m (begins_ne hb)]; exact hs)]
    exact h
  · rw [lexL_tok hb hs] at h
    have h2 := step_pos hs
    rw [lexL_tok (begins_sep hc m hb) (by rw [step_sep hc m (begins_ne hb)]; exact hs), List.drop_append_of_le_length (by omega)]
    exact ih q h

/-- two sources with a line feed between them -/
theorem lex_joined (m : List UInt8) : ∀ p l, (lexL p l).2 = none → lexL p (l ++ 10 :: m) = ((lexL p l).1 ++ (lexL (p + l.length + 1) m).1, (lexL (p + l.length + 1) m).2) := by
  have hc : isSpace 10 = true := by decide
  refine lex_ind (fun p h => ?_) (fun p c r hc ih h => ?_) (fun p l hn ih h => ?_) (fun p l hb hs h => ?_) (fun p l k w x i hb hs ih h => ?_)
  · rw [List.nil_append, lexL_space hc]; simp [lexL_nil]
  · rw [lexL_space hc] at h ⊢
    rw [List.cons_append, lexL_space hc, ih h, List.length_cons, show p + 1 + r.length + 1 = p + (r.length + 1) + 1 by omega]
  · have h3 := lineLen_le l
    have h5 : lineLen (l ++ 10 :: m) = lineLen l := by unfold lineLen; rw [takeWhile_sep (by decide)]
    have hn2 : isNote (l ++ 10 :: m) = true := by rw [isNote_sep hc]; exact hn
    rw [lexL_note hn] at h
    rw [lexL_note hn2, h5, List.drop_append_of_le_length (by omega), ih h, List.length_drop, ← lexL_note hn, show p + lineLen l + (l.length - lineLen l) + 1 = p + l.length + 1 by omega]
  · rw [lexL_bad hb hs] at h; cases h
  · have h2 := step_pos hs
    rw [lexL_tok hb hs] at h ⊢
    rw [lexL_tok (begins_sep hc m hb) (by rw [step_sep hc m (begins_ne hb)]; exact hs), List.drop_append_of_le_length (by omega), ih h, List.length_drop, show p + i + (l.length - i) + 1 = p + l.length + 1 by omega]
    simp

def Tok.shift (d : Nat) (t : Tok) : Tok := { t with at' := t.at' + d }
theorem lex_shift (d : Nat) : ∀ p l, lexL (p + d) l = ((lexL p l).1.map (Tok.shift d), (lexL p l).2.map (· + d)) := by
  refine lex_ind (fun p => by simp [lexL_nil]) (fun p c r hc ih => ?_) (fun p l hn ih => ?_) (fun p l hb hs => ?_) (fun p l k w x i hb hs ih => ?_)
  · rw [lexL_space hc, lexL_space hc, ← ih]; congr 1; omega
  · rw [lexL_note hn, lexL_note hn, ← ih]; congr 1; omega
  · rw [lexL_bad hb hs, lexL_bad hb hs]; simp
  · rw [lexL_tok hb hs, lexL_tok hb hs, show p + d + i = p + i + d by omega, ih]
    simp [Tok.shift]
theorem lex_shift0 (d : Nat) (l : List UInt8) : lexL d l = ((lexL 0 l).1.map (Tok.shift d), (lexL 0 l).2.map (· + d)) := by
  have := lex_shift d 0 l
  rwa [Nat.zero_add] at this
end Go.Proofs.YtilpcchcccbfcaaDoor
