/- Sets combined, counted and indexed: plain mathematics. -/
import Derived.Test.YtiicjmbnkjociaaDoorO
namespace Go.Proofs.YtiicjmbnkjociaaDoor
open Go.RowKit

def b2n (b : Bool) : Nat := if b = true then 1 else 0
theorem foldF_half (Wf : Bool → Bool → Bool) : ∀ (pre : List Bn) (st : List Sp × Bool), 2 * (pre.foldl (stepF Wf) st).1.length + b2n st.2 ≤ pre.length + 2 * st.1.length + b2n (pre.foldl (stepF Wf) st).2
  | [], st => by simp
  | x :: r, st => by
    have h := foldF_half Wf r (stepF Wf st x)
    have h2 : 2 * (stepF Wf st x).1.length + b2n st.2 ≤ 1 + 2 * st.1.length + b2n (stepF Wf st x).2 := by
      obtain ⟨c, op⟩ := st
      unfold stepF
      split
      · simp <;> omega
      · cases op <;> simp [turnF, setEnd_len, b2n] <;> omega
    simp only [List.foldl_cons, List.length_cons]
    omega
theorem bns_len (a b : List Sp) : ∀ f i k, (bns a b f i k).length ≤ f
  | 0, _, _ => by simp [bns]
  | f + 1, i, k => by
    rw [bns]
    split
    · have := bns_len a b f (up a i (bday a b i k)) (up b k (bday a b i k)); simp; omega
    · simp
theorem combR_set {Wf : Bool → Bool → Bool} {a b : List Sp} (ha : Can a) (hb : Can b) (hW : Wf false false = false) : IsSet (comb Wf a b) (combR Wf a b) := (fold_all ha hb hW).2
theorem combR_len {Wf : Bool → Bool → Bool} {a b : List Sp} (ha : Can a) (hb : Can b) (hW : Wf false false = false) : (combR Wf a b).length ≤ a.length + b.length := by
  have h1 := foldF_half Wf (bns a b (2 * a.length + 2 * b.length) 0 0) ([], false)
  have h2 := bns_len a b (2 * a.length + 2 * b.length) 0 0
  have h3 : (List.foldl (stepF Wf) ([], false) (bns a b (2 * a.length + 2 * b.length) 0 0)).2 = false := (fold_all ha hb hW).1
  rw [h3] at h1
  have h4 : combR Wf a b = (List.foldl (stepF Wf) ([], false) (bns a b (2 * a.length + 2 * b.length) 0 0)).1 := rfl
  rw [h4]
  simp [b2n] at h1
  omega
theorem comb_ok {Wf : Bool → Bool → Bool} {a b : List Sp} (ha : chk a = 0) (hb : chk b = 0) (h : (combR Wf a b).length ≤ 256) : combE Wf a b = 0 ∧ combL Wf a b = combR Wf a b := by
  have h1 : combE Wf a b = 0 := by unfold combE; rw [if_neg (by omega), if_neg (by omega), if_neg (by omega)]
  exact ⟨h1, by unfold combL; rw [if_pos h1]⟩
theorem hasB_set {P : Int → Bool} {l : List Sp} (h : IsSet P l) (d : Int) : hasB l d = P d := by
  have h1 := h.says d
  rw [← hasB_iff] at h1
  cases hl : hasB l d <;> cases hp : P d <;> simp [hl, hp] at h1 ⊢
/-- the meet and the difference make the first set again -/
theorem again {a b : List Sp} (ha : Can a) (hb : Can b) : combR (fun p q => p || q) (combR (fun p q => p && q) a b) (combR (fun p q => p && !q) a b) = a := by
  have hm := combR_set (Wf := fun p q => p && q) ha hb rfl
  have hw := combR_set (Wf := fun p q => p && !q) ha hb rfl
  have hu := combR_set (Wf := fun p q => p || q) hm.can hw.can rfl
  refine can_inj hu.can ha fun d => (hu.says d).trans ?_
  unfold comb
  rw [hasB_set hm, hasB_set hw, ← hasB_iff]
  unfold comb
  cases hasB a d <;> cases hasB b d <;> simp
def bI (b : Bool) : Int := if b = true then 1 else 0
theorem bI_or (p q : Bool) : bI (p || q) + bI (p && q) = bI p + bI q := by cases p <;> cases q <;> rfl
theorem bI_not (p q : Bool) : bI (p && !q) = bI p - bI (p && q) := by cases p <;> cases q <;> rfl
/-- how many of the first n days are in a set -/
def card (P : Int → Bool) : Nat → Int
  | 0 => 0
  | n + 1 => card P n + bI (P (n : Int))
theorem card_congr {P Q : Int → Bool} (h : ∀ d, P d = Q d) : ∀ n, card P n = card Q n
  | 0 => rfl
  | n + 1 => by unfold card; rw [card_congr h n, h]
theorem card_or (P Q : Int → Bool) : ∀ n, card (fun d => P d || Q d) n + card (fun d => P d && Q d) n = card P n + card Q n
  | 0 => rfl
  | n + 1 => by
    have := card_or P Q n
    have := bI_or (P (n : Int)) (Q (n : Int))
    simp only [card]
    omega
theorem card_not (P Q : Int → Bool) : ∀ n, card (fun d => P d && !Q d) n = card P n - card (fun d => P d && Q d) n
  | 0 => rfl
  | n + 1 => by
    have := card_not P Q n
    have := bI_not (P (n : Int)) (Q (n : Int))
    simp only [card]
    omega
theorem card_span {a b : Int} (h : 0 ≤ a ∧ a ≤ b) : ∀ n : Nat, card (fun d => decide (a ≤ d) && decide (d ≤ b)) n = if (n : Int) ≤ a then 0 else if (n : Int) ≤ b + 1 then (n : Int) - a else b + 1 - a
  | 0 => by simp [card]; intro h2; omega
  | n + 1 => by
    have := card_span h n
    simp only [card, bI, Bool.and_eq_true, decide_eq_true_iff]
    rw [this]
    push_cast
    split <;> split <;> split <;> (try split) <;> (try split) <;> omega
theorem card_empty : ∀ n, card (fun d => hasB [] d) n = 0
  | 0 => rfl
  | n + 1 => by
    have := card_empty n
    simp only [card]
    rw [this]
    simp [hasB, bI]
theorem cntK_cons (x : Sp) (r : List Sp) : ∀ k, cntK (x :: r) (k + 1) = (x.2 - x.1 + 1) + cntK r k
  | 0 => by simp [cntK]
  | k + 1 => by
    have := cntK_cons x r k
    show cntK (x :: r) (k + 1) + _ = _ + (cntK r k + _)
    rw [this]
    simp only [List.getD_cons_succ]
    omega
theorem cnt_cons (x : Sp) (r : List Sp) : cnt (x :: r) = (x.2 - x.1 + 1) + cnt r := cntK_cons x r r.length
theorem cnt_card {N : Nat} (hN : (N : Int) = 73049) {l : List Sp} : ∀ {lo : Int}, 0 ≤ lo → CanF lo l → cnt l = card (hasB l) N := by
  induction l with
  | nil => intro lo _ _; rw [card_empty]; rfl
  | cons x r ih =>
    rintro lo h0 ⟨h1, h2, h3, h4⟩
    rw [cnt_cons, ih (by omega) h4]
    have hs := card_span (a := x.1) (b := x.2) ⟨by omega, h2⟩ N
    have h9 : card (fun d => decide (x.1 ≤ d) && decide (d ≤ x.2)) N = x.2 - x.1 + 1 := by
      rw [hs, hN]
      split
      · omega
      · split <;> omega
    have ho := card_or (fun d => decide (x.1 ≤ d) && decide (d ≤ x.2)) (hasB r) N
    have hz : card (fun d => (decide (x.1 ≤ d) && decide (d ≤ x.2)) && hasB r d) N = 0 := by
      rw [card_congr (Q := fun d => hasB [] d) (fun d => ?_) N]
      · exact card_empty _
      · cases hr : hasB r d with
        | false => simp [hasB]
        | true =>
          have := h4.ge d ((hasB_iff r d).1 hr)
          have h8 : decide (d ≤ x.2) = false := decide_eq_false (by omega)
          rw [h8]; simp [hasB]
    have hc : card (hasB (x :: r)) N = card (fun d => (decide (x.1 ≤ d) && decide (d ≤ x.2)) || hasB r d) N := card_congr (fun d => by simp [hasB]) _
    rw [hc]
    omega
theorem counts {a b : List Sp} (ha : Can a) (hb : Can b) :
    cnt (combR (fun p q => p || q) a b) + cnt (combR (fun p q => p && q) a b) = cnt a + cnt b ∧ cnt (combR (fun p q => p && !q) a b) = cnt a - cnt (combR (fun p q => p && q) a b) := by
  obtain ⟨N, hN⟩ : ∃ N : Nat, (N : Int) = 73049 := ⟨73049, rfl⟩
  have hcs : ∀ {P : Int → Bool} {l : List Sp}, IsSet P l → cnt l = card P N := fun h => by
    rw [cnt_card hN (Int.le_refl 0) h.can]; exact card_congr (hasB_set h) _
  have h1 := hcs (combR_set (Wf := fun p q => p || q) ha hb rfl)
  have h2 := hcs (combR_set (Wf := fun p q => p && q) ha hb rfl)
  have h3 := hcs (combR_set (Wf := fun p q => p && !q) ha hb rfl)
  have h4 := hcs ha.isSet
  have h5 := hcs hb.isSet
  have h6 := card_or (hasB a) (hasB b) N
  have h7 := card_not (hasB a) (hasB b) N
  simp only [show comb (fun p q => p || q) a b = fun d => hasB a d || hasB b d from rfl] at h1
  simp only [show comb (fun p q => p && q) a b = fun d => hasB a d && hasB b d from rfl] at h2
  simp only [show comb (fun p q => p && !q) a b = fun d => hasB a d && !hasB b d from rfl] at h3
  omega
/-- the days of a set up to one of them -/
def cutL : List Sp → Int → List Sp
  | [], _ => []
  | x :: r, d => if x.1 ≤ d then (x.1, min x.2 d) :: cutL r d else []
theorem cutL_len (d : Int) : ∀ l, (cutL l d).length ≤ l.length
  | [] => Nat.le_refl _
  | x :: r => by
    have := cutL_len d r
    unfold cutL; split <;> simp <;> omega
theorem cutL_can (d : Int) {l : List Sp} : ∀ {lo : Int}, CanF lo l → CanF lo (cutL l d) := by
  induction l with
  | nil => intro lo _; trivial
  | cons x r ih =>
    rintro lo ⟨h1, h2, h3, h4⟩
    unfold cutL
    split
    · exact ⟨h1, by show x.1 ≤ min x.2 d; omega, by show min x.2 d ≤ 73048; omega, (ih h4).mono (by show min x.2 d + 2 ≤ x.2 + 2; omega)⟩
    · trivial
theorem cutL_mem (d : Int) {l : List Sp} : ∀ {lo : Int}, CanF lo l → ∀ z, mem (cutL l d) z ↔ mem l z ∧ z ≤ d := by
  induction l with
  | nil => intro lo _ z; simp [cutL, mem_nil]
  | cons x r ih =>
    rintro lo ⟨h1, h2, h3, h4⟩ z
    unfold cutL
    split
    · rw [mem_cons, mem_cons, ih h4 z]
      show (x.1 ≤ z ∧ z ≤ min x.2 d) ∨ _ ↔ _
      constructor
      · rintro (h | h)
        · exact ⟨.inl (by omega), by omega⟩
        · exact ⟨.inr h.1, h.2⟩
      · rintro ⟨h | h, h9⟩
        · exact .inl (by omega)
        · exact .inr ⟨h, h9⟩
    · rw [mem_cons]
      constructor
      · intro h; exact absurd h (mem_nil _)
      · rintro ⟨h | h, h9⟩
        · omega
        · have := h4.ge z h; omega
theorem meet_cut {u : List Sp} (hu : Can u) {d : Int} (hd : 0 ≤ d ∧ d ≤ 73048) : combR (fun p q => p && q) u [(0, d)] = cutL u d := by
  have hb : Can [(0, d)] := ⟨Int.le_refl _, hd.1, hd.2, trivial⟩
  have hs := combR_set (Wf := fun p q => p && q) hu hb rfl
  refine can_inj hs.can (cutL_can d hu) fun z => (hs.says z).trans ?_
  rw [cutL_mem d hu z, ← hasB_iff]
  unfold comb
  have hge : hasB u z = true → 0 ≤ z := fun h => CanF.ge hu z ((hasB_iff u z).1 h)
  cases h1 : hasB u z with
  | false => simp
  | true =>
    have := hge h1
    simp [hasB]
    omega
theorem nthL_true {l : List Sp} : ∀ {lo k : Int}, 0 ≤ k → CanF lo l → (nthL l k).2 = true → lo ≤ (nthL l k).1 ∧ (nthL l k).1 ≤ 73048 ∧ hasB l (nthL l k).1 = true ∧ cnt (cutL l (nthL l k).1) = k + 1 := by
  induction l with
  | nil => intro lo k _ _ h; cases h
  | cons x r ih =>
    rintro lo k hk ⟨h1, h2, h3, h4⟩ h
    unfold nthL at h ⊢
    by_cases hlt : k < x.2 - x.1 + 1
    · rw [if_pos hlt] at h ⊢
      simp only
      refine ⟨by omega, by omega, ?_, ?_⟩
      · simp [hasB]; left; omega
      · have hc : cutL r (x.1 + k) = [] := by
          cases r with
          | nil => rfl
          | cons y t => unfold cutL; rw [if_neg (by have := h4.1; omega)]
        unfold cutL
        rw [if_pos (by omega), hc, cnt_cons]
        show min x.2 (x.1 + k) - x.1 + 1 + 0 = k + 1
        omega
    · rw [if_neg hlt] at h ⊢
      obtain ⟨i1, i2, i3, i4⟩ := ih (lo := x.2 + 2) (k := k - (x.2 - x.1 + 1)) (by omega) h4 h
      refine ⟨by omega, i2, ?_, ?_⟩
      · simp only [hasB, List.any_cons, Bool.or_eq_true]; right; exact i3
      · unfold cutL
        rw [if_pos (by omega), cnt_cons, i4]
        show min x.2 _ - x.1 + 1 + _ = k + 1
        omega
theorem nthL_ok {l : List Sp} : ∀ {lo k : Int}, 0 ≤ k → CanF lo l → (nthL l k).2 = decide (k < cnt l) ∧ ((nthL l k).2 = false → (nthL l k).1 = 0) := by
  induction l with
  | nil => intro lo k hk _; exact ⟨by simp [nthL, cnt, cntK]; omega, fun _ => rfl⟩
  | cons x r ih =>
    rintro lo k hk ⟨h1, h2, h3, h4⟩
    have hr := ih (lo := x.2 + 2) (k := k - (x.2 - x.1 + 1))
    have hc : 0 ≤ cnt r := by
      rcases Int.lt_or_le (x.2 + 2) 0 with h9 | h9
      · have : ∀ {l : List Sp} {lo : Int}, CanF lo l → 0 ≤ cnt l := by
          intro l
          induction l with
          | nil => intro lo _; exact Int.le_refl _
          | cons y t ih2 => rintro lo ⟨k1, k2, k3, k4⟩; rw [cnt_cons]; have := ih2 k4; omega
        exact this h4
      · have : ∀ {l : List Sp} {lo : Int}, CanF lo l → 0 ≤ cnt l := by
          intro l
          induction l with
          | nil => intro lo _; exact Int.le_refl _
          | cons y t ih2 => rintro lo ⟨k1, k2, k3, k4⟩; rw [cnt_cons]; have := ih2 k4; omega
        exact this h4
    unfold nthL
    rw [cnt_cons]
    by_cases hlt : k < x.2 - x.1 + 1
    · rw [if_pos hlt]
      exact ⟨by symm; simp; omega, fun h => by cases h⟩
    · rw [if_neg hlt]
      obtain ⟨h5, h6⟩ := hr (by omega) h4
      refine ⟨?_, h6⟩
      rw [h5]
      by_cases h7 : k - (x.2 - x.1 + 1) < cnt r
      · rw [decide_eq_true h7, decide_eq_true (by omega)]
      · rw [decide_eq_false h7, decide_eq_false (by omega)]
end Go.Proofs.YtiicjmbnkjociaaDoor
