/- The boundaries of two sets folded: plain mathematics. -/
import Derived.Test.YtiicjmbnkjociaaDoorJ
namespace Go.Proofs.YtiicjmbnkjociaaDoor
open Go.RowKit

def stepF (Wf : Bool → Bool → Bool) (st : List Sp × Bool) (x : Bn) : List Sp × Bool := if Wf x.2.1 x.2.2 = st.2 then st else turnF st x.1
def foldF (Wf : Bool → Bool → Bool) (pre : List Bn) : List Sp × Bool := pre.foldl (stepF Wf) ([], false)
theorem foldF_snoc (Wf : Bool → Bool → Bool) (pre : List Bn) (x : Bn) : foldF Wf (pre ++ [x]) = stepF Wf (foldF Wf pre) x := by simp [foldF]
theorem turnF_len (st : List Sp × Bool) (d : Int) : (turnF st d).1.length ≤ st.1.length + 1 ∧ (st.2 = false → (turnF st d).1 ≠ []) ∧ (turnF st d).2 = !st.2 := by
  obtain ⟨c, op⟩ := st
  cases op <;> simp [turnF, setEnd_len]
theorem stepF_len (Wf : Bool → Bool → Bool) (st : List Sp × Bool) (x : Bn) : (stepF Wf st x).1.length ≤ st.1.length + 1 := by
  unfold stepF; split
  · omega
  · exact (turnF_len st x.1).1
theorem foldF_len (Wf : Bool → Bool → Bool) : ∀ (pre : List Bn) (st : List Sp × Bool), (pre.foldl (stepF Wf) st).1.length ≤ st.1.length + pre.length
  | [], st => by simp
  | x :: r, st => by
    have h := foldF_len Wf r (stepF Wf st x)
    have h2 := stepF_len Wf st x
    simp only [List.foldl_cons, List.length_cons]
    omega
theorem stepF_ne (Wf : Bool → Bool → Bool) (st : List Sp × Bool) (x : Bn) (h : st.2 = true → st.1 ≠ []) : (stepF Wf st x).2 = true → (stepF Wf st x).1 ≠ [] := by
  unfold stepF; split
  · exact h
  · intro h2
    have h3 := turnF_len st x.1
    rw [h3.2.2] at h2
    exact h3.2.1 (by simpa using h2)
theorem foldF_ne (Wf : Bool → Bool → Bool) : ∀ (pre : List Bn) (st : List Sp × Bool), (st.2 = true → st.1 ≠ []) → (pre.foldl (stepF Wf) st).2 = true → (pre.foldl (stepF Wf) st).1 ≠ []
  | [], st => fun h => h
  | x :: r, st => fun h => foldF_ne Wf r (stepF Wf st x) (stepF_ne Wf st x h)
/-- the days that are wanted -/
def comb (Wf : Bool → Bool → Bool) (a b : List Sp) (d : Int) : Bool := Wf (hasB a d) (hasB b d)
theorem odd_t (i : Nat) : decide ((i + 1) % 2 = 1) = !decide (i % 2 = 1) := by
  rcases Nat.mod_two_eq_zero_or_one i with h | h <;> rcases Nat.mod_two_eq_zero_or_one (i + 1) with h2 | h2 <;> simp [h, h2] <;> omega
theorem fold_end {Wf : Bool → Bool → Bool} {a b : List Sp} (ha : Can a) (hb : Can b) (hW : Wf false false = false) {i k : Nat} (hi : i = 2 * a.length) (hk : k = 2 * b.length) {c : List Sp} {op : Bool} {s : Int}
    (hop : op = Wf (decide (i % 2 = 1)) (decide (k % 2 = 1))) (h : Way (comb Wf a b) (bday a b i k) c op s) : op = false ∧ IsSet (comb Wf a b) c := by
  have e1 : decide (i % 2 = 1) = false := by rw [decide_eq_false_iff_not]; omega
  have e2 : decide (k % 2 = 1) = false := by rw [decide_eq_false_iff_not]; omega
  rw [e1, e2, hW] at hop
  subst hop
  have e3 : bday a b i k = 73050 := by
    have h1 : bd a i = 73050 := by unfold bd; rw [if_pos hi]
    have h2 : bd b k = 73050 := by unfold bd; rw [if_pos hk]
    unfold bday; rw [h1, h2]; rfl
  rw [e3] at h
  exact ⟨rfl, Way.done ha hb Wf hW h⟩
theorem bday_le (a b : List Sp) (i k : Nat) : bday a b i k ≤ bd a i ∧ bday a b i k ≤ bd b k := ⟨Int.min_le_left _ _, Int.min_le_right _ _⟩
theorem up_at {l : List Sp} (h : Can l) {i : Nat} (hi : i ≤ 2 * l.length) {day : Int} (hle : day ≤ bd l i) (hlt : day ≤ 73049) (hp : i = 0 ∨ bd l (i - 1) < day) :
    day < bd l (up l i day) ∧ (up l i day = 0 ∨ bd l (up l i day - 1) ≤ day) := by
  have h0 : i = 2 * l.length → bd l i = 73050 := fun h => by unfold bd; rw [if_pos h]
  unfold up
  split
  · rename_i he
    have := bd_lt h i (by omega)
    exact ⟨by omega, .inr (by rw [Nat.add_sub_cancel]; omega)⟩
  · exact ⟨by omega, by rcases hp with hp | hp; exact .inl hp; exact .inr (by omega)⟩
theorem fold_way {Wf : Bool → Bool → Bool} {a b : List Sp} (ha : Can a) (hb : Can b) (hW : Wf false false = false) : ∀ (f i k : Nat) (c : List Sp) (op : Bool) (s : Int), i ≤ 2 * a.length → k ≤ 2 * b.length → 2 * a.length + 2 * b.length ≤ f + (i + k) →
    op = Wf (decide (i % 2 = 1)) (decide (k % 2 = 1)) → (i = 0 ∨ bd a (i - 1) < bday a b i k) → (k = 0 ∨ bd b (k - 1) < bday a b i k) → Way (comb Wf a b) (bday a b i k) c op s →
    ((bns a b f i k).foldl (stepF Wf) (if op = true then c ++ [(s, 0)] else c, op)).2 = false ∧ IsSet (comb Wf a b) ((bns a b f i k).foldl (stepF Wf) (if op = true then c ++ [(s, 0)] else c, op)).1
  | 0, i, k, c, op, s, hi, hk, hf, hop, _, _, h => by
    obtain ⟨rfl, h2⟩ := fold_end ha hb hW (show i = 2 * a.length by omega) (show k = 2 * b.length by omega) hop h
    exact ⟨rfl, h2⟩
  | f + 1, i, k, c, op, s, hi, hk, hf, hop, hpi, hpk, h => by
    rw [bns]
    by_cases hlt : i < 2 * a.length ∨ k < 2 * b.length
    · rw [if_pos hlt]
      have hu := up_le ha hb hi hk hlt
      have hle := bday_le a b i k
      obtain ⟨day, hday⟩ : ∃ day, day = bday a b i k := ⟨_, rfl⟩
      rw [← hday] at h hu hpi hpk hle ⊢
      obtain ⟨g1, g2⟩ := up_at ha hi hle.1 hu.2.2.2.2.2.2 hpi
      obtain ⟨g3, g4⟩ := up_at hb hk hle.2 hu.2.2.2.2.2.2 hpk
      obtain ⟨i2, hi2⟩ : ∃ i2, i2 = up a i day := ⟨_, rfl⟩
      obtain ⟨k2, hk2⟩ : ∃ k2, k2 = up b k day := ⟨_, rfl⟩
      rw [← hi2] at g1 g2 hu ⊢
      rw [← hk2] at g3 g4 hu ⊢
      have hN : day < bday a b i2 k2 := by unfold bday; rw [Int.min_def]; split <;> omega
      have hN2 := bday_le a b i2 k2
      have hP : ∀ d, day ≤ d → d < bday a b i2 k2 → comb Wf a b d = Wf (decide (i2 % 2 = 1)) (decide (k2 % 2 = 1)) := fun d h1 h2 => by
        unfold comb
        rw [mem_at ha hu.1 (by rcases g2 with g2 | g2; exact .inl g2; exact .inr (by omega)) (by omega), mem_at hb hu.2.1 (by rcases g4 with g4 | g4; exact .inl g4; exact .inr (by omega)) (by omega)]
      have hpi2 : i2 = 0 ∨ bd a (i2 - 1) < bday a b i2 k2 := by rcases g2 with g2 | g2; exact .inl g2; exact .inr (by omega)
      have hpk2 : k2 = 0 ∨ bd b (k2 - 1) < bday a b i2 k2 := by rcases g4 with g4 | g4; exact .inl g4; exact .inr (by omega)
      have IH := fun c op s => fold_way (Wf := Wf) ha hb hW f i2 k2 c op s hu.1 hu.2.1 (by omega)
      rw [List.foldl_cons]
      obtain ⟨v, hv⟩ : ∃ v, v = Wf (decide (i2 % 2 = 1)) (decide (k2 % 2 = 1)) := ⟨_, rfl⟩
      rw [← hv] at hP IH
      unfold stepF
      simp only
      rw [← hv]
      by_cases he : v = op
      · rw [if_pos he]
        subst he
        exact IH c v s rfl hpi2 hpk2 (h.stay hN hP)
      · rw [if_neg he]
        cases op with
        | true =>
          obtain rfl : v = false := by cases v <;> simp at he ⊢
          have h2 := IH (c ++ [(s, day - 1)]) false s rfl hpi2 hpk2 (h.shuts hu.2.2.2.2.2.2 hN hP)
          simp only [turnF, if_true, setEnd_snoc]
          exact h2
        | false =>
          obtain rfl : v = true := by cases v <;> simp at he ⊢
          have h2 := IH c true day rfl hpi2 hpk2 (h.opens hu.2.2.2.2.2.1 hN hP)
          simp only [turnF, Bool.false_eq_true, if_false]
          exact h2
    · rw [if_neg hlt]
      obtain ⟨rfl, h2⟩ := fold_end ha hb hW (show i = 2 * a.length by omega) (show k = 2 * b.length by omega) hop h
      exact ⟨rfl, h2⟩
/-- the list of a combination -/
theorem fold_all {Wf : Bool → Bool → Bool} {a b : List Sp} (ha : Can a) (hb : Can b) (hW : Wf false false = false) :
    (foldF Wf (bns a b (2 * a.length + 2 * b.length) 0 0)).2 = false ∧ IsSet (comb Wf a b) (foldF Wf (bns a b (2 * a.length + 2 * b.length) 0 0)).1 := by
  have h := fold_way (Wf := Wf) ha hb hW (2 * a.length + 2 * b.length) 0 0 [] false 0 (by omega) (by omega) (by omega) (by rw [← hW]; rfl) (.inl rfl) (.inl rfl)
    ⟨trivial, fun y hy => by simp at hy, fun h => (by cases h), fun d hd => ?_⟩
  · exact h
  · have hle := bday_le a b 0 0
    have : comb Wf a b d = false := by
      unfold comb
      rw [mem_at ha (Nat.zero_le _) (.inl rfl) (by omega), mem_at hb (Nat.zero_le _) (.inl rfl) (by omega)]
      exact hW
    rw [this]; simp [mem_nil]
end Go.Proofs.YtiicjmbnkjociaaDoor
