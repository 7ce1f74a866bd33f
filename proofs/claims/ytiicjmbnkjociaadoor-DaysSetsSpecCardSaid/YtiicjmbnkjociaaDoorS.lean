/- Sets of days as lists of spans: plain mathematics. -/
import Derived.Test.YtiicjmbnkjociaaDoorM
namespace Go.Proofs.YtiicjmbnkjociaaDoor

abbrev Sp := Int × Int
def mem (l : List Sp) (d : Int) : Prop := ∃ x, x ∈ l ∧ x.1 ≤ d ∧ d ≤ x.2
def hasB (l : List Sp) (d : Int) : Bool := l.any fun x => decide (x.1 ≤ d) && decide (d ≤ x.2)
theorem hasB_iff (l : List Sp) (d : Int) : hasB l d = true ↔ mem l d := by simp [hasB, mem]
/-- canonical, from a first day on -/
def CanF : Int → List Sp → Prop
  | _, [] => True
  | lo, x :: r => lo ≤ x.1 ∧ x.1 ≤ x.2 ∧ x.2 ≤ 73048 ∧ CanF (x.2 + 2) r
/-- where the span k may begin -/
def lst (lo : Int) (l : List Sp) : Nat → Int
  | 0 => lo
  | k + 1 => (l.getD k (0, 0)).2 + 2
def okAt (lo : Int) (l : List Sp) (k : Nat) : Prop := lst lo l k ≤ (l.getD k (0, 0)).1 ∧ (l.getD k (0, 0)).1 ≤ (l.getD k (0, 0)).2 ∧ (l.getD k (0, 0)).2 ≤ 73048
theorem lst_cons (lo : Int) (x : Sp) (r : List Sp) (k : Nat) : lst lo (x :: r) (k + 1) = lst (x.2 + 2) r k := by cases k <;> simp [lst]
theorem okAt_cons (lo : Int) (x : Sp) (r : List Sp) (k : Nat) : okAt lo (x :: r) (k + 1) ↔ okAt (x.2 + 2) r k := by
  unfold okAt; rw [lst_cons]; simp
theorem canF_iff (l : List Sp) : ∀ lo, CanF lo l ↔ ∀ k, k < l.length → okAt lo l k := by
  induction l with
  | nil => intro lo; simp [CanF]
  | cons x r ih =>
    intro lo
    constructor
    · rintro ⟨h1, h2, h3, h4⟩ k hk
      match k with
      | 0 => exact ⟨by simpa [lst] using h1, by simpa using h2, by simpa using h3⟩
      | k + 1 => rw [okAt_cons]; exact (ih _).1 h4 k (by simpa using hk)
    · intro h
      have h0 := h 0 (by simp)
      unfold okAt at h0
      simp [lst] at h0
      refine ⟨h0.1, h0.2.1, h0.2.2, (ih _).2 fun k hk => ?_⟩
      rw [← okAt_cons lo]
      exact h (k + 1) (by simpa using hk)
theorem CanF.mono {l : List Sp} {lo lo' : Int} (h : CanF lo l) (hl : lo' ≤ lo) : CanF lo' l := by
  cases l with
  | nil => trivial
  | cons x r => exact ⟨by have := h.1; omega, h.2⟩
theorem CanF.ge {l : List Sp} : ∀ {lo : Int}, CanF lo l → ∀ d, mem l d → lo ≤ d := by
  induction l with
  | nil => rintro lo _ d ⟨x, hx, _⟩; cases hx
  | cons y r ih =>
    rintro lo ⟨h1, h2, h3, h4⟩ d ⟨x, hx, h5, h6⟩
    rcases List.mem_cons.1 hx with rfl | hx
    · omega
    · have := ih h4 d ⟨x, hx, h5, h6⟩; omega
theorem CanF.le {l : List Sp} : ∀ {lo : Int}, CanF lo l → ∀ d, mem l d → d ≤ 73048 := by
  induction l with
  | nil => rintro lo _ d ⟨x, hx, _⟩; cases hx
  | cons y r ih =>
    rintro lo ⟨h1, h2, h3, h4⟩ d ⟨x, hx, h5, h6⟩
    rcases List.mem_cons.1 hx with rfl | hx
    · omega
    · exact ih h4 d ⟨x, hx, h5, h6⟩
theorem mem_cons (x : Sp) (r : List Sp) (d : Int) : mem (x :: r) d ↔ (x.1 ≤ d ∧ d ≤ x.2) ∨ mem r d := by simp [mem]
theorem mem_append (l r : List Sp) (d : Int) : mem (l ++ r) d ↔ mem l d ∨ mem r d := by
  unfold mem; constructor
  · rintro ⟨x, hx, h⟩; rcases List.mem_append.1 hx with hx | hx
    · exact .inl ⟨x, hx, h⟩
    · exact .inr ⟨x, hx, h⟩
  · rintro (⟨x, hx, h⟩ | ⟨x, hx, h⟩)
    · exact ⟨x, List.mem_append.2 (.inl hx), h⟩
    · exact ⟨x, List.mem_append.2 (.inr hx), h⟩
theorem mem_nil (d : Int) : ¬ mem [] d := by rintro ⟨x, hx, _⟩; cases hx
/-- one list for each set -/
theorem canF_inj (l : List Sp) : ∀ (l' : List Sp) (lo lo' : Int), CanF lo l → CanF lo' l' → (∀ d, mem l d ↔ mem l' d) → l = l' := by
  induction l with
  | nil =>
    intro l' lo lo' _ h' he
    cases l' with
    | nil => rfl
    | cons y t => exact absurd ((he y.1).2 ((mem_cons _ _ _).2 (.inl ⟨Int.le_refl _, h'.2.1⟩))) (mem_nil _)
  | cons x r ih =>
    intro l' lo lo' h h' he
    cases l' with
    | nil => exact absurd ((he x.1).1 ((mem_cons _ _ _).2 (.inl ⟨Int.le_refl _, h.2.1⟩))) (mem_nil _)
    | cons y t =>
      obtain ⟨h1, h2, h3, h4⟩ := h
      obtain ⟨k1, k2, k3, k4⟩ := h'
      have e1 : x.1 = y.1 := by
        have a1 := (he x.1).1 ((mem_cons _ _ _).2 (.inl ⟨Int.le_refl _, h2⟩))
        have a2 := (he y.1).2 ((mem_cons _ _ _).2 (.inl ⟨Int.le_refl _, k2⟩))
        have b1 := CanF.ge (l := y :: t) (lo := y.1) ⟨Int.le_refl _, k2, k3, k4⟩ _ a1
        have b2 := CanF.ge (l := x :: r) (lo := x.1) ⟨Int.le_refl _, h2, h3, h4⟩ _ a2
        omega
      have e2 : x.2 = y.2 := by
        rcases Int.lt_trichotomy x.2 y.2 with hlt | h0 | hgt
        · have a := (he (x.2 + 1)).2 ((mem_cons _ _ _).2 (.inl ⟨by omega, by omega⟩))
          rcases (mem_cons _ _ _).1 a with a | a
          · omega
          · have := h4.ge _ a; omega
        · exact h0
        · have a := (he (y.2 + 1)).1 ((mem_cons _ _ _).2 (.inl ⟨by omega, by omega⟩))
          rcases (mem_cons _ _ _).1 a with a | a
          · omega
          · have := k4.ge _ a; omega
      have e : x = y := Prod.ext e1 e2
      subst e
      congr 1
      refine ih t _ _ h4 k4 fun d => ?_
      have hd := he d
      rw [mem_cons, mem_cons] at hd
      constructor
      · intro hm
        have := h4.ge _ hm
        rcases hd.1 (.inr hm) with h | h
        · omega
        · exact h
      · intro hm
        have := k4.ge _ hm
        rcases hd.2 (.inr hm) with h | h
        · omega
        · exact h
def Can (l : List Sp) : Prop := CanF 0 l
def canB : Int → List Sp → Bool
  | _, [] => true
  | lo, x :: r => decide (lo ≤ x.1) && (decide (x.1 ≤ x.2) && (decide (x.2 ≤ 73048) && canB (x.2 + 2) r))
theorem canB_iff (l : List Sp) : ∀ lo, canB lo l = true ↔ CanF lo l := by
  induction l with
  | nil => intro lo; simp [canB, CanF]
  | cons x r ih => intro lo; simp [canB, CanF, ih]
/-- what Check answers -/
def chk (l : List Sp) : Int := if 256 < l.length then 2 else if canB 0 l = true then 0 else 120
theorem chk_ok {l : List Sp} (h : chk l = 0) : l.length ≤ 256 ∧ Can l := by
  unfold chk at h
  split at h
  · omega
  · split at h
    · rename_i h1 h2; exact ⟨by omega, (canB_iff l 0).1 h2⟩
    · omega
theorem chk_of {l : List Sp} (h : l.length ≤ 256) (hc : Can l) : chk l = 0 := by
  unfold chk; rw [if_neg (by omega), if_pos ((canB_iff l 0).2 hc)]
theorem can_inj {l l' : List Sp} (h : Can l) (h' : Can l') (he : ∀ d, mem l d ↔ mem l' d) : l = l' := canF_inj l l' 0 0 h h' he
theorem CanF.append {l : List Sp} {x : Sp} : ∀ {lo : Int}, CanF lo l → lo ≤ x.1 → x.1 ≤ x.2 → x.2 ≤ 73048 → (∀ y, y ∈ l → y.2 + 2 ≤ x.1) → CanF lo (l ++ [x]) := by
  induction l with
  | nil => intro lo _ h1 h2 h3 _; exact ⟨h1, h2, h3, trivial⟩
  | cons y r ih =>
    rintro lo ⟨k1, k2, k3, k4⟩ h1 h2 h3 h4
    exact ⟨k1, k2, k3, ih k4 (h4 y (by simp)) h2 h3 fun z hz => h4 z (by simp [hz])⟩
/-- the boundaries -/
def bd (l : List Sp) (i : Nat) : Int := if i = 2 * l.length then 73050 else if i % 2 = 0 then (l.getD (i / 2) (0, 0)).1 else (l.getD (i / 2) (0, 0)).2 + 1
theorem bd_even (l : List Sp) (j : Nat) (h : j < l.length) : bd l (2 * j) = (l.getD j (0, 0)).1 := by
  unfold bd; rw [if_neg (by omega), if_pos (by omega), show 2 * j / 2 = j by omega]
theorem bd_odd (l : List Sp) (j : Nat) (h : j < l.length) : bd l (2 * j + 1) = (l.getD j (0, 0)).2 + 1 := by
  unfold bd; rw [if_neg (by omega), if_neg (by omega), show (2 * j + 1) / 2 = j by omega]
theorem lst_ge {l : List Sp} (h : Can l) : ∀ k, k ≤ l.length → 0 ≤ lst 0 l k
  | 0, _ => Int.le_refl _
  | k + 1, hk => by
    have h1 := (canF_iff l 0).1 h k (by omega)
    have h2 := lst_ge h k (by omega)
    unfold okAt at h1
    show 0 ≤ (l.getD k (0, 0)).2 + 2
    omega
theorem bd_rng {l : List Sp} (h : Can l) (i : Nat) (hi : i < 2 * l.length) : 0 ≤ bd l i ∧ bd l i ≤ 73049 := by
  have h1 := (canF_iff l 0).1 h (i / 2) (by omega)
  have h2 := lst_ge h (i / 2) (by omega)
  unfold okAt at h1
  unfold bd
  rw [if_neg (by omega)]
  split <;> omega
theorem bd_lt {l : List Sp} (h : Can l) (i : Nat) (hi : i < 2 * l.length) : bd l i < bd l (i + 1) := by
  by_cases he : i + 1 = 2 * l.length
  · have := bd_rng h i hi
    have : bd l (i + 1) = 73050 := by unfold bd; rw [if_pos he]
    omega
  · have h1 := (canF_iff l 0).1 h (i / 2) (by omega)
    unfold okAt at h1
    rcases Nat.mod_two_eq_zero_or_one i with h0 | h0
    · obtain ⟨j, rfl⟩ : ∃ j, i = 2 * j := ⟨i / 2, by omega⟩
      rw [bd_even l j (by omega), bd_odd l j (by omega)]
      rw [show 2 * j / 2 = j by omega] at h1
      omega
    · obtain ⟨j, rfl⟩ : ∃ j, i = 2 * j + 1 := ⟨i / 2, by omega⟩
      have h2 := (canF_iff l 0).1 h (j + 1) (by omega)
      unfold okAt at h2
      have h3 : lst 0 l (j + 1) = (l.getD j (0, 0)).2 + 2 := rfl
      rw [bd_odd l j (by omega), show 2 * j + 1 + 1 = 2 * (j + 1) by omega, bd_even l (j + 1) (by omega)]
      omega
theorem bd_le {l : List Sp} (h : Can l) {i j : Nat} (hij : i ≤ j) (hj : j ≤ 2 * l.length) : bd l i ≤ bd l j := by
  induction j with
  | zero => rw [show i = 0 by omega]; exact Int.le_refl _
  | succ j ih =>
    rcases Nat.lt_or_ge i (j + 1) with h1 | h1
    · have := ih (by omega) (by omega)
      have := bd_lt h j (by omega)
      omega
    · rw [show i = j + 1 by omega]; exact Int.le_refl _
theorem mem_bd {l : List Sp} (d : Int) : mem l d ↔ ∃ j, j < l.length ∧ bd l (2 * j) ≤ d ∧ d < bd l (2 * j + 1) := by
  have hb : ∀ j, j < l.length → bd l (2 * j) = (l.getD j (0, 0)).1 ∧ bd l (2 * j + 1) = (l.getD j (0, 0)).2 + 1 := fun j hj => ⟨bd_even l j hj, bd_odd l j hj⟩
  constructor
  · rintro ⟨x, hx, h1, h2⟩
    obtain ⟨j, hj, rfl⟩ := List.mem_iff_getElem.1 hx
    refine ⟨j, hj, ?_⟩
    rw [(hb j hj).1, (hb j hj).2]
    simp [hj]
    omega
  · rintro ⟨j, hj, h1, h2⟩
    rw [(hb j hj).1] at h1
    rw [(hb j hj).2] at h2
    simp [hj] at h1 h2
    exact ⟨l[j], List.getElem_mem hj, h1, by omega⟩
/-- between two boundaries -/
theorem mem_at {l : List Sp} (h : Can l) {i : Nat} (hi : i ≤ 2 * l.length) {d : Int} (h1 : i = 0 ∨ bd l (i - 1) ≤ d) (h2 : d < bd l i) : hasB l d = decide (i % 2 = 1) := by
  have hiff : mem l d ↔ i % 2 = 1 := by
    rw [mem_bd]
    constructor
    · rintro ⟨j, hj, h3, h4⟩
      rcases Nat.lt_or_ge i (2 * j + 1) with h5 | h5
      · have := bd_le h (show i ≤ 2 * j by omega) (by omega); omega
      · rcases Nat.lt_or_ge (2 * j + 1) i with h6 | h6
        · have := bd_le h (show 2 * j + 1 ≤ i - 1 by omega) (by omega)
          rcases h1 with h1 | h1 <;> omega
        · omega
    · intro ho
      refine ⟨i / 2, by omega, ?_, ?_⟩
      · rcases h1 with h1 | h1
        · omega
        · rw [show 2 * (i / 2) = i - 1 by omega]; exact h1
      · rw [show 2 * (i / 2) + 1 = i by omega]; exact h2
  by_cases hm : mem l d
  · rw [(hasB_iff l d).2 hm]; simp [hiff.1 hm]
  · have : hasB l d = false := by
      rw [Bool.eq_false_iff]; exact fun h => hm ((hasB_iff l d).1 h)
    rw [this]
    have h9 : ¬ i % 2 = 1 := fun h => hm (hiff.2 h)
    simp only [Bool.false_eq, decide_eq_false_iff_not]; exact h9
/-- the result on its way: what is over (all days before N) -/
structure Way (P : Int → Bool) (N : Int) (c : List Sp) (op : Bool) (s : Int) : Prop where
  can : Can c
  far : ∀ y, y ∈ c → y.2 + 1 < N
  open_ : op = true → 0 ≤ s ∧ s < N ∧ ∀ y, y ∈ c → y.2 + 2 ≤ s
  says : ∀ d, d < N → (P d = true ↔ mem c d ∨ (op = true ∧ s ≤ d))
theorem not_mem_far {c : List Sp} {N d : Int} (h : ∀ y, y ∈ c → y.2 + 1 < N) (hd : N ≤ d + 1) : ¬ mem c d := by
  rintro ⟨y, hy, _, h2⟩; have := h y hy; omega
theorem Way.stay {P : Int → Bool} {N N' : Int} {c : List Sp} {op : Bool} {s : Int} (h : Way P N c op s) (hN : N < N') (hv : ∀ d, N ≤ d → d < N' → P d = op) : Way P N' c op s := by
  refine ⟨h.can, fun y hy => by have := h.far y hy; omega, fun ho => ⟨(h.open_ ho).1, by have := (h.open_ ho).2.1; omega, (h.open_ ho).2.2⟩, fun d hd => ?_⟩
  rcases Int.lt_or_le d N with h1 | h1
  · exact h.says d h1
  · rw [hv d h1 hd]
    have hn : ¬ mem c d := not_mem_far h.far (by omega)
    constructor
    · intro ho; exact .inr ⟨ho, by have := (h.open_ ho).2.1; omega⟩
    · rintro (h2 | h2)
      · exact absurd h2 hn
      · exact h2.1
theorem Way.opens {P : Int → Bool} {N N' : Int} {c : List Sp} {s : Int} (h : Way P N c false s) (h0 : 0 ≤ N) (hN : N < N') (hv : ∀ d, N ≤ d → d < N' → P d = true) : Way P N' c true N := by
  refine ⟨h.can, fun y hy => by have := h.far y hy; omega, fun _ => ⟨h0, hN, fun y hy => by have := h.far y hy; omega⟩, fun d hd => ?_⟩
  rcases Int.lt_or_le d N with h1 | h1
  · rw [h.says d h1]
    constructor
    · rintro (h2 | h2)
      · exact .inl h2
      · cases h2.1
    · rintro (h2 | h2)
      · exact .inl h2
      · omega
  · rw [hv d h1 hd]; simp [h1]
theorem Way.shuts {P : Int → Bool} {N N' : Int} {c : List Sp} {s : Int} (h : Way P N c true s) (h0 : N ≤ 73049) (hN : N < N') (hv : ∀ d, N ≤ d → d < N' → P d = false) : Way P N' (c ++ [(s, N - 1)]) false s := by
  obtain ⟨s1, s2, s3⟩ := h.open_ rfl
  refine ⟨CanF.append h.can s1 (by show s ≤ N - 1; omega) (by show N - 1 ≤ 73048; omega) s3, fun y hy => ?_, fun ho => (by cases ho), fun d hd => ?_⟩
  · rcases List.mem_append.1 hy with hy | hy
    · have := h.far y hy; omega
    · simp at hy; subst hy; simp; omega
  · rw [mem_append, mem_cons]
    simp only [mem_nil, or_false]
    rcases Int.lt_or_le d N with h1 | h1
    · rw [h.says d h1]
      constructor
      · rintro (h2 | h2)
        · exact .inl (.inl h2)
        · exact .inl (.inr ⟨h2.2, by omega⟩)
      · rintro ((h2 | h2) | h2)
        · exact .inl h2
        · exact .inr ⟨rfl, h2.1⟩
        · cases h2.1
    · rw [hv d h1 hd]
      have hn : ¬ mem c d := not_mem_far h.far (by omega)
      constructor
      · intro h; cases h
      · rintro ((h2 | h2) | h2)
        · exact absurd h2 hn
        · omega
        · cases h2.1
/-- a list that holds just the days of a set -/
structure IsSet (P : Int → Bool) (l : List Sp) : Prop where
  can : Can l
  says : ∀ d, mem l d ↔ P d = true
theorem IsSet.inj {P : Int → Bool} {l l' : List Sp} (h : IsSet P l) (h' : IsSet P l') : l = l' := can_inj h.can h'.can fun d => (h.says d).trans (h'.says d).symm
theorem Can.isSet {l : List Sp} (h : Can l) : IsSet (hasB l) l := ⟨h, fun d => (hasB_iff l d).symm⟩
theorem hasB_out {l : List Sp} (h : Can l) {d : Int} (hd : 73048 < d) : hasB l d = false := by
  rw [Bool.eq_false_iff]; intro h1; have := CanF.le h d ((hasB_iff l d).1 h1); omega
/-- at the end -/
theorem Way.done {a b : List Sp} (ha : Can a) (hb : Can b) (W : Bool → Bool → Bool) (hW : W false false = false) {c : List Sp} {s : Int} (h : Way (fun d => W (hasB a d) (hasB b d)) 73050 c false s) : IsSet (fun d => W (hasB a d) (hasB b d)) c := by
  refine ⟨h.can, fun d => ?_⟩
  rcases Int.lt_or_le d 73050 with h1 | h1
  · rw [h.says d h1]; simp
  · simp only [hasB_out ha (show 73048 < d by omega), hasB_out hb (show 73048 < d by omega), hW]
    constructor
    · intro hm; have := CanF.le h.can d hm; omega
    · intro h; cases h
theorem way_start (P : Int → Bool) (hP : ∀ d, d < 0 → P d = false) {N : Int} (hN : ∀ d, d < N → P d = false) : Way P N [] false 0 :=
  ⟨trivial, fun y hy => by simp at hy, fun h => (by cases h), fun d hd => by rw [hN d hd]; simp [mem_nil]⟩
end Go.Proofs.YtiicjmbnkjociaaDoor
