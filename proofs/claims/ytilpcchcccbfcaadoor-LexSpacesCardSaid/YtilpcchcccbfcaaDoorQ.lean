/- Names and single tokens: a source is one name, from its beginning to its end, exactly if it is a name. -/
import Derived.Test.YtilpcchcccbfcaaDoorO
namespace Go.Proofs.YtilpcchcccbfcaaDoor

theorem at_ge : ∀ p l t, t ∈ (lexL p l).1 → (p : Int) ≤ t.at' := by
  refine lex_ind (fun p t h => by simp [lexL_nil] at h) (fun p c r hc ih t h => ?_) (fun p l hn ih t h => ?_) (fun p l hb hs t h => ?_) (fun p l k w x m hb hs ih t h => ?_)
  · rw [lexL_space hc] at h
    have := ih t h; omega
  · rw [lexL_note hn] at h
    have := ih t h; omega
  · rw [lexL_bad hb hs] at h; cases h
  · rw [lexL_tok hb hs] at h
    rcases List.mem_cons.1 h with rfl | h
    · exact Int.le_refl _
    · have := ih t h; omega
theorem first_at {l : List UInt8} {p : Nat} {t : Tok} {r : List Tok} (h : (lexL p l).1 = t :: r) (ht : t.at' = (p : Int)) :
    ∃ k w x m, Begins l ∧ step l = some (k, w, x, m) ∧ t = ⟨k, w, x, p⟩ ∧ lexL p l = (t :: (lexL (p + m) (l.drop m)).1, (lexL (p + m) (l.drop m)).2) := by
  cases l with
  | nil => simp [lexL_nil] at h
  | cons c s =>
    cases hc : isSpace c with
    | true =>
      rw [lexL_space hc] at h
      have := at_ge (p + 1) s t (by rw [h]; simp)
      omega
    | false =>
      cases hn : isNote (c :: s) with
      | true =>
        have h2 := lineLen_pos hn
        rw [lexL_note hn] at h
        have := at_ge _ _ t (by rw [h]; simp)
        omega
      | false =>
        have hb : Begins (c :: s) := ⟨c, s, rfl, hc, hn⟩
        cases hs : step (c :: s) with
        | none => rw [lexL_bad hb hs] at h; cases h
        | some q =>
          obtain ⟨k, w, x, m⟩ := q
          have hl := lexL_tok (p := p) hb hs
          rw [hl] at h
          injection h with h1 h2
          exact ⟨k, w, x, m, hb, rfl, h1.symm, by rw [← h1]; exact hl⟩
theorem isName_parts {l : List UInt8} (h : isName l = true) : ∃ c r, l = c :: r ∧ isLetter c = true ∧ l.length ≤ 32 ∧ l.takeWhile isPart = l := by
  cases l with
  | nil => simp [isName] at h
  | cons c r =>
    simp only [isName, Bool.and_eq_true, decide_eq_true_eq] at h
    refine ⟨c, r, rfl, h.1.1, h.1.2, ?_⟩
    have := (takeWhile_all (p := isPart) (c :: r)).2 h.2
    exact List.IsPrefix.eq_of_length (List.takeWhile_prefix _) this
theorem letter_not (c : UInt8) : isLetter c = true → isSpace c = false ∧ c ≠ 47 := all_bytes (p := fun c => isLetter c = true → isSpace c = false ∧ c ≠ 47) (by decide +kernel) c
theorem begins_letter {c : UInt8} {r : List UInt8} (h : isLetter c = true) : Begins (c :: r) := by
  obtain ⟨h1, h2⟩ := letter_not c h
  refine ⟨c, r, rfl, h1, ?_⟩
  cases hn : isNote (c :: r) with
  | false => rfl
  | true => obtain ⟨s, hs⟩ := isNote_not_space hn; injection hs with h3 _; exact absurd h3 h2
theorem name_lex {l : List UInt8} (h : isName l = true) (p : Nat) : lexL p l = ([⟨1, l, 0, p⟩], none) := by
  obtain ⟨c, r, rfl, hc, hl, ht⟩ := isName_parts h
  rw [lexL_tok (begins_letter hc) (by rw [step_name hc, ht, if_pos hl])]
  simp [lexL_nil]
theorem lex_name {l : List UInt8} {t : Tok} (h : lexL 0 l = ([t], none)) (hk : t.kind = 1) (ht : t.text = l) (ha : t.at' = 0) : isName l = true := by
  obtain ⟨k, w, x, m, hb, hs, rfl, he⟩ := first_at (p := 0) (l := l) (t := t) (r := []) (by rw [h]) (by simpa using ha)
  simp only at hk ht
  rcases step_len hs with ⟨rfl, hw, _, hm, hm2, c, r, rfl, hc⟩ | ⟨rfl, _⟩ | ⟨rfl, _⟩
  · subst ht
    have hp := takeWhile_idem (p := isPart) (c :: r)
    rw [← hw] at hp
    simp only [isName, hc, hp, Bool.true_and, Bool.and_true, decide_eq_true_eq]
    omega
  · simp at hk
  · simp at hk
/-- the answer of the law on names -/
def oneName (l : List UInt8) (q : List Tok × Option Nat) : Bool := match q with
  | ([t], none) => decide (t.kind = 1) && decide (t.text = l) && decide (t.at' = 0) && decide (t.n = 0)
  | _ => false
theorem oneName_eq (l : List UInt8) : oneName l (lexL 0 l) = isName l := by
  rw [Bool.eq_iff_iff]
  constructor
  · intro h
    unfold oneName at h
    split at h
    · rename_i t he
      simp only [Bool.and_eq_true, decide_eq_true_eq] at h
      exact lex_name he h.1.1.1 h.1.1.2 h.1.2
    · cases h
  · intro h
    rw [name_lex h 0]
    simp [oneName]
end Go.Proofs.YtilpcchcccbfcaaDoor
