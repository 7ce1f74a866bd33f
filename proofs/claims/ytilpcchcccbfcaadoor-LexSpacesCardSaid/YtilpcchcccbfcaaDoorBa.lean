/- Words of tokens: what is read when words stand behind one another. -/
import Derived.Test.YtilpcchcccbfcaaDoorW
import Derived.Lib.ItoaNum
namespace Go.Proofs.YtilpcchcccbfcaaDoor

theorem dg_digit (d : Nat) (h : d < 10) : isDigit (UInt8.ofNat (48 + d)) = true ∧ (UInt8.ofNat (48 + d)).toNat = 48 + d := by
  have h2 : (UInt8.ofNat (48 + d)).toNat = 48 + d := by simp; omega
  exact ⟨(isDigit_iff _).2 (by omega), h2⟩
theorem num_snoc (l : List UInt8) (c : UInt8) : num (l ++ [c]) = 10 * num l + (c.toNat - 48) := by unfold num; rw [List.foldl_append]; rfl
/-- the numeral of a number -/
theorem dec_spec : ∀ (n u : Nat), u ≤ n → (Lib.decDigits u).all isDigit = true ∧ num (Lib.decDigits u) = u ∧ Lib.decDigits u ≠ [] ∧ ((Lib.decDigits u).head? = some 48 → u = 0) ∧ (u = 0 → (Lib.decDigits u).length = 1) := by
  intro n
  induction n with
  | zero =>
    intro u hu
    obtain rfl : u = 0 := by omega
    rw [Lib.decDigits_one (by omega)]
    decide
  | succ n ih =>
    intro u hu
    by_cases h : u < 10
    · obtain ⟨h1, h2⟩ := dg_digit u h
      rw [Lib.decDigits_one h]
      refine ⟨by rw [List.all_cons, h1]; rfl, by simp only [num, List.foldl_cons, List.foldl_nil, h2]; omega, by simp, fun h3 => ?_, fun _ => rfl⟩
      simp only [List.head?_cons, Option.some.injEq] at h3
      have := congrArg UInt8.toNat h3
      rw [h2] at this
      have h48 : (48 : UInt8).toNat = 48 := rfl
      omega
    · obtain ⟨a1, a2, a3, a4, _⟩ := ih (u / 10) (by omega)
      obtain ⟨h1, h2⟩ := dg_digit (u % 10) (by omega)
      rw [Lib.decDigits, dif_neg h]
      refine ⟨by rw [List.all_append, a1, List.all_cons, h1]; rfl, by rw [num_snoc, a2, h2]; omega, by simp, fun h3 => ?_, fun h3 => by omega⟩
      obtain ⟨c, r, hcr⟩ := List.exists_cons_of_ne_nil a3
      have := a4 (by rw [hcr] at h3 ⊢; exact h3)
      omega
theorem itoa_pos {x : Int} (h : 0 ≤ x) : Lib.itoa x = Lib.decDigits x.toNat := by unfold Lib.itoa; rw [if_neg (by omega)]
theorem dec_numOk (u : Nat) (h : u ≤ 1099511627776) : numOk (Lib.decDigits u) = true := by
  obtain ⟨_, a2, _, a4, a5⟩ := dec_spec u u (Nat.le_refl _)
  unfold numOk
  rw [a2, decide_eq_true h, Bool.and_true]
  by_cases h0 : u = 0
  · rw [a5 h0]; rfl
  · have : ((Lib.decDigits u).head? != some 48) = true := by
      simp only [bne_iff_ne, ne_eq]
      exact fun h3 => h0 (a4 h3)
    rw [this, Bool.or_true]
theorem num_lt : ∀ (l : List UInt8) (acc : Nat), l.all isDigit = true → numFrom acc l < (acc + 1) * 10 ^ l.length
  | [], acc, _ => by simp [numFrom]
  | c :: r, acc, h => by
    simp only [List.all_cons, Bool.and_eq_true] at h
    have hc := (isDigit_iff c).1 h.1
    have := num_lt r (10 * acc + (c.toNat - 48)) h.2
    have e : numFrom acc (c :: r) = numFrom (10 * acc + (c.toNat - 48)) r := rfl
    rw [e, List.length_cons, Nat.pow_succ]
    have h3 : (10 * acc + (c.toNat - 48) + 1) * 10 ^ r.length ≤ ((acc + 1) * 10) * 10 ^ r.length := Nat.mul_le_mul_right _ (by omega)
    rw [Nat.mul_comm (10 ^ r.length) 10, ← Nat.mul_assoc]
    omega
theorem dec_len : ∀ (k u : Nat), 1 ≤ k → u < 10 ^ k → (Lib.decDigits u).length ≤ k := by
  intro k
  induction k with
  | zero => intro u h; omega
  | succ k ih =>
    intro u _ hu
    by_cases h : u < 10
    · rw [Lib.decDigits_one h]; simp
    · rw [Lib.decDigits, dif_neg h, List.length_append, List.length_singleton]
      have hk : 1 ≤ k := by
        rcases Nat.eq_zero_or_pos k with rfl | hk
        · simp at hu; omega
        · exact hk
      have := ih (u / 10) hk (by rw [Nat.pow_succ] at hu; omega)
      omega

theorem sign_not (c : UInt8) : isSign c = true → isSpace c = false ∧ isLetter c = false ∧ isDigit c = false := all_bytes (p := fun c => isSign c = true → isSpace c = false ∧ isLetter c = false ∧ isDigit c = false) (by decide +kernel) c
theorem digit_not (c : UInt8) : isDigit c = true → isSpace c = false ∧ isLetter c = false ∧ c ≠ 47 := all_bytes (p := fun c => isDigit c = true → isSpace c = false ∧ isLetter c = false ∧ c ≠ 47) (by decide +kernel) c
theorem note_one (c : UInt8) : isNote [c] = false := by
  cases h : isNote [c] with
  | false => rfl
  | true => obtain ⟨r, hr⟩ := isNote_not_space h; simp at hr
/-- the word of a valid token is read as this token -/
theorem step_word {t : Tok} (h : validT t = true) : ∃ kd x : Nat, t.kind = (kd : Int) ∧ t.n = (x : Int) ∧ Begins (wordT t) ∧ step (wordT t) = some (kd, t.text, x, (wordT t).length) := by
  rcases valid_kind h with hk | hk | hk
  · have hf : fitsName t = true := by unfold validT at h; rwa [if_pos hk] at h
    simp only [fitsName, Bool.and_eq_true, decide_eq_true_eq] at hf
    have hw : wordT t = t.text := (word_kind t (.inl hk)).2
    obtain ⟨c, r, he, hc, hl, ht⟩ := isName_parts hf.2
    refine ⟨1, 0, hk, hf.1, ?_, ?_⟩
    · rw [hw, he]; exact begins_letter hc
    · rw [hw]
      rw [he] at ht hl ⊢
      rw [step_name hc, ht, if_pos hl]
  · have hf : fitsNumber t = true := by unfold validT at h; rwa [if_neg (by omega), if_pos hk] at h
    simp only [fitsNumber, Bool.and_eq_true, decide_eq_true_eq] at hf
    have hw : wordT t = Lib.decDigits t.n.toNat := by rw [(word_kind2 t hk).2, itoa_pos hf.1.2]
    obtain ⟨a1, a2, a3, _, _⟩ := dec_spec t.n.toNat _ (Nat.le_refl _)
    have hok := dec_numOk t.n.toNat (by omega)
    obtain ⟨c, r, he⟩ := List.exists_cons_of_ne_nil a3
    have hall := (takeWhile_all (p := isDigit) (Lib.decDigits t.n.toNat)).2 a1
    have htw : (Lib.decDigits t.n.toNat).takeWhile isDigit = Lib.decDigits t.n.toNat := List.IsPrefix.eq_of_length (List.takeWhile_prefix _) hall
    have hc : isDigit c = true := by rw [he, List.all_cons, Bool.and_eq_true] at a1; exact a1.1
    obtain ⟨n1, n2, n3⟩ := digit_not c hc
    refine ⟨2, t.n.toNat, hk, by omega, ?_, ?_⟩
    · rw [hw, he]
      refine ⟨c, r, rfl, n1, ?_⟩
      cases hn : isNote (c :: r) with
      | false => rfl
      | true => obtain ⟨q, hq⟩ := isNote_not_space hn; injection hq with h3 _; exact absurd h3 n3
    · rw [hw, hf.1.1]
      rw [he] at htw hok a2 ⊢
      rw [step_num n2 hc, htw, if_pos hok, a2]
  · have hf : fitsSign t = true := by unfold validT at h; rwa [if_neg (by omega), if_neg (by omega), if_pos hk] at h
    simp only [fitsSign, Bool.and_eq_true, decide_eq_true_eq] at hf
    have hw : wordT t = t.text := (word_kind t (.inr hk)).2
    obtain ⟨c, hc⟩ : ∃ c, t.text = [c] := by
      match ht : t.text with
      | [] => rw [ht] at hf; cases hf.2
      | [c] => exact ⟨c, rfl⟩
      | _ :: _ :: _ => rw [ht] at hf; cases hf.2
    have hs : isSign c = true := by rw [hc] at hf; exact hf.2
    obtain ⟨n1, n2, n3⟩ := sign_not c hs
    refine ⟨3, 0, hk, hf.1, ?_, ?_⟩
    · rw [hw, hc]; exact ⟨c, [], rfl, n1, note_one c⟩
    · rw [hw, hc, step_sign n2 n3, if_pos hs]; rfl
end Go.Proofs.YtilpcchcccbfcaaDoor
