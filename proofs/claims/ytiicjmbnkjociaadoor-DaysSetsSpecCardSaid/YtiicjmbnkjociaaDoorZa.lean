/- The specification's way to combine two sets: plain mathematics. -/
import Derived.Test.YtiicjmbnkjociaaDoorW
namespace Go.Proofs.YtiicjmbnkjociaaDoor
open Go.RowKit

/-- strictly increasing, from a number on -/
def SI : Int → List Int → Prop
  | _, [] => True
  | lo, x :: r => lo < x ∧ SI x r
def putF : List Int → Int → List Int
  | [], n => [n]
  | x :: r, n => if x < n then x :: putF r n else if x = n then n :: r else n :: x :: r
theorem putF_si {l : List Int} : ∀ {lo n : Int}, SI lo l → lo < n → SI lo (putF l n) := by
  induction l with
  | nil => intro lo n _ h; exact ⟨h, trivial⟩
  | cons x r ih =>
    rintro lo n ⟨h1, h2⟩ h
    unfold putF
    split
    · exact ⟨h1, ih h2 (by assumption)⟩
    · split
      · rename_i h3; subst h3; exact ⟨h, h2⟩
      · exact ⟨h, by omega, h2⟩
theorem putF_mem (l : List Int) (n z : Int) : z ∈ putF l n ↔ z = n ∨ z ∈ l := by
  induction l with
  | nil => simp [putF]
  | cons x r ih =>
    unfold putF
    split
    · simp only [List.mem_cons, ih]
      constructor
      · rintro (h | h | h) <;> simp [h]
      · rintro (h | h | h) <;> simp [h]
    · split
      · rename_i h3; subst h3; simp
      · simp
theorem putF_len (l : List Int) (n : Int) : (putF l n).length ≤ l.length + 1 := by
  induction l with
  | nil => simp [putF]
  | cons x r ih => unfold putF; split <;> (try split) <;> simp <;> omega
/-- the place where a number is put -/
theorem putF_at (n : Int) : ∀ (l : List Int) (k : Nat), k ≤ l.length → (∀ j, j < k → l.getD j 0 < n) → (k < l.length → ¬ l.getD k 0 < n) →
    putF l n = l.take k ++ [n] ++ (if k < l.length ∧ l.getD k 0 = n then l.drop (k + 1) else l.drop k)
  | [], k, hk, _, _ => by simp at hk; subst hk; simp [putF]
  | x :: r, 0, _, _, h3 => by
    have h4 : ¬ x < n := by simpa using h3 (by simp)
    unfold putF
    rw [if_neg h4]
    by_cases h5 : x = n
    · rw [if_pos h5, if_pos ⟨by simp, by simpa using h5⟩]; simp
    · rw [if_neg h5, if_neg (fun h => h5 (by simpa using h.2))]; simp
  | x :: r, k + 1, hk, h2, h3 => by
    have h4 : x < n := by simpa using h2 0 (by omega)
    have ih := putF_at n r k (by simpa using hk) (fun j hj => by simpa using h2 (j + 1) (by omega)) (fun h => by simpa using h3 (by simpa using h))
    unfold putF
    rw [if_pos h4, ih]
    simp
def endsF (z : List Int) (l : List Sp) : List Int := l.foldl (fun z x => putF (putF z x.1) (x.2 + 1)) z
theorem endsF_snoc (z : List Int) (l : List Sp) (x : Sp) : endsF z (l ++ [x]) = putF (putF (endsF z l) x.1) (x.2 + 1) := by simp [endsF]
theorem endsF_si {l : List Sp} : ∀ {z : List Int} {lo : Int}, SI lo z → (∀ x, x ∈ l → lo < x.1 ∧ lo < x.2 + 1) → SI lo (endsF z l) := by
  induction l with
  | nil => intro z lo h _; exact h
  | cons x r ih =>
    intro z lo h h2
    have hx := h2 x (by simp)
    exact ih (putF_si (putF_si h hx.1) hx.2) fun y hy => h2 y (by simp [hy])
theorem endsF_mem (l : List Sp) : ∀ (z : List Int) (d : Int), d ∈ endsF z l ↔ d ∈ z ∨ ∃ x, x ∈ l ∧ (d = x.1 ∨ d = x.2 + 1) := by
  induction l with
  | nil => intro z d; simp [endsF]
  | cons x r ih =>
    intro z d
    show d ∈ endsF (putF (putF z x.1) (x.2 + 1)) r ↔ _
    rw [ih, putF_mem, putF_mem]
    simp only [List.mem_cons]
    constructor
    · rintro ((h | h | h) | ⟨y, hy, h⟩)
      · exact .inr ⟨x, .inl rfl, .inr h⟩
      · exact .inr ⟨x, .inl rfl, .inl h⟩
      · exact .inl h
      · exact .inr ⟨y, .inr hy, h⟩
    · rintro (h | ⟨y, rfl | hy, h⟩)
      · exact .inl (.inr (.inr h))
      · rcases h with h | h
        · exact .inl (.inr (.inl h))
        · exact .inl (.inl h)
      · exact .inr ⟨y, hy, h⟩
theorem endsF_len (l : List Sp) : ∀ (z : List Int), (endsF z l).length ≤ z.length + 2 * l.length := by
  induction l with
  | nil => intro z; simp [endsF]
  | cons x r ih =>
    intro z
    have h1 := ih (putF (putF z x.1) (x.2 + 1))
    have h2 := putF_len (putF z x.1) (x.2 + 1)
    have h3 := putF_len z x.1
    show (endsF (putF (putF z x.1) (x.2 + 1)) r).length ≤ _
    simp only [List.length_cons]
    omega
/-- the boundaries of two sets -/
def atF (a b : List Sp) : List Int := endsF (endsF [] a) b
theorem si_lt {l : List Int} : ∀ {lo : Int}, SI lo l → ∀ i, i < l.length → lo < l.getD i 0 ∧ ∀ j, i < j → j < l.length → l.getD i 0 < l.getD j 0 := by
  induction l with
  | nil => intro lo _ i h; simp at h
  | cons x r ih =>
    rintro lo ⟨h1, h2⟩ i hi
    cases i with
    | zero =>
      refine ⟨by simpa using h1, fun j hj hj2 => ?_⟩
      obtain ⟨j, rfl⟩ : ∃ q, j = q + 1 := ⟨j - 1, by omega⟩
      have := (ih h2 j (by simpa using hj2)).1
      simpa using this
    | succ i =>
      have h3 := ih h2 i (by simpa using hi)
      refine ⟨by have := h3.1; rw [List.getD_cons_succ]; omega, fun j hj hj2 => ?_⟩
      obtain ⟨j, rfl⟩ : ∃ q, j = q + 1 := ⟨j - 1, by omega⟩
      have := h3.2 j (by omega) (by simpa using hj2)
      simpa using this
/-- between two boundaries nothing turns -/
theorem hasB_const {l : List Sp} {p d : Int} (hpd : p ≤ d) (h : ∀ x, x ∈ l → ¬ (p < x.1 ∧ x.1 ≤ d) ∧ ¬ (p < x.2 + 1 ∧ x.2 + 1 ≤ d)) : hasB l d = hasB l p := by
  unfold hasB
  induction l with
  | nil => rfl
  | cons x r ih =>
    have hx := h x (by simp)
    rw [List.any_cons, List.any_cons, ih fun y hy => h y (by simp [hy])]
    congr 1
    have e1 : decide (x.1 ≤ d) = decide (x.1 ≤ p) := by by_cases h1 : x.1 ≤ p <;> simp [h1] <;> omega
    have e2 : decide (d ≤ x.2) = decide (p ≤ x.2) := by by_cases h1 : p ≤ x.2 <;> simp [h1] <;> omega
    rw [e1, e2]
def stepO (Wf : Bool → Bool → Bool) (a b : List Sp) (out : List Sp) (i : Nat) : List Sp :=
  if comb Wf a b ((atF a b).getD i 0) = true then
    (if out ≠ [] ∧ (out.getD (out.length - 1) (0, 0)).2 + 1 = (atF a b).getD i 0 then setEnd out ((atF a b).getD (i + 1) 0 - 1)
     else out ++ [((atF a b).getD i 0, (atF a b).getD (i + 1) 0 - 1)])
  else out
def outF (Wf : Bool → Bool → Bool) (a b : List Sp) : Nat → List Sp
  | 0 => []
  | i + 1 => stepO Wf a b (outF Wf a b i) i
theorem outF_len (Wf : Bool → Bool → Bool) (a b : List Sp) : ∀ i, (outF Wf a b i).length ≤ i
  | 0 => by simp [outF]
  | i + 1 => by
    have := outF_len Wf a b i
    show (stepO Wf a b (outF Wf a b i) i).length ≤ i + 1
    unfold stepO
    split
    · split
      · rw [setEnd_len]; omega
      · simp; omega
    · omega
/-- what is over before the boundary N -/
structure Over (P : Int → Bool) (N : Int) (c : List Sp) : Prop where
  can : Can c
  far : ∀ y, y ∈ c → y.2 + 1 ≤ N
  says : ∀ d, d < N → (P d = true ↔ mem c d)
theorem last_snoc (c : List Sp) (x : Sp) : (c ++ [x]).getD ((c ++ [x]).length - 1) (0, 0) = x := by simp
theorem Over.skip {P : Int → Bool} {N N' : Int} {c : List Sp} (h : Over P N c) (hN : N < N') (hv : ∀ d, N ≤ d → d < N' → P d = false) : Over P N' c := by
  refine ⟨h.can, fun y hy => by have := h.far y hy; omega, fun d hd => ?_⟩
  rcases Int.lt_or_le d N with h1 | h1
  · exact h.says d h1
  · rw [hv d h1 hd]
    constructor
    · intro h; cases h
    · rintro ⟨y, hy, _, h2⟩; have := h.far y hy; omega
theorem Over.new {P : Int → Bool} {N N' : Int} {c : List Sp} (h : Over P N c) (h0 : 0 ≤ N) (hN : N < N') (hN' : N' ≤ 73049) (hg : ∀ y, y ∈ c → y.2 + 2 ≤ N) (hv : ∀ d, N ≤ d → d < N' → P d = true) : Over P N' (c ++ [(N, N' - 1)]) := by
  refine ⟨CanF.append h.can h0 (by show N ≤ N' - 1; omega) (by show N' - 1 ≤ 73048; omega) hg, fun y hy => ?_, fun d hd => ?_⟩
  · rcases List.mem_append.1 hy with hy | hy
    · have := h.far y hy; omega
    · simp at hy; subst hy; show N' - 1 + 1 ≤ N'; omega
  · rw [mem_append, mem_cons]
    simp only [mem_nil, or_false]
    rcases Int.lt_or_le d N with h1 | h1
    · rw [h.says d h1]
      constructor
      · exact .inl
      · rintro (h2 | h2)
        · exact h2
        · omega
    · rw [hv d h1 hd]
      simp only [true_iff]
      exact .inr (by omega)
theorem canF_snoc {c : List Sp} {x : Sp} : ∀ {lo : Int}, CanF lo (c ++ [x]) → CanF lo c ∧ lo ≤ x.1 ∧ x.1 ≤ x.2 ∧ x.2 ≤ 73048 ∧ ∀ y, y ∈ c → y.2 + 2 ≤ x.1 := by
  induction c with
  | nil => rintro lo ⟨h1, h2, h3, _⟩; exact ⟨trivial, h1, h2, h3, fun y hy => by simp at hy⟩
  | cons z r ih =>
    rintro lo ⟨h1, h2, h3, h4⟩
    obtain ⟨i1, i2, i3, i4, i5⟩ := ih h4
    refine ⟨⟨h1, h2, h3, i1⟩, by omega, i3, i4, fun y hy => ?_⟩
    rcases List.mem_cons.1 hy with rfl | hy
    · exact i2
    · exact i5 y hy
theorem Over.grow {P : Int → Bool} {N N' : Int} {c : List Sp} {x : Sp} (h : Over P N (c ++ [x])) (hx : x.2 + 1 = N) (hN : N < N') (hN' : N' ≤ 73049) (hv : ∀ d, N ≤ d → d < N' → P d = true) : Over P N' (c ++ [(x.1, N' - 1)]) := by
  obtain ⟨h1, h2, h3, h4, h5⟩ := canF_snoc h.can
  refine ⟨CanF.append h1 h2 (by show x.1 ≤ N' - 1; omega) (by show N' - 1 ≤ 73048; omega) h5, fun y hy => ?_, fun d hd => ?_⟩
  · rcases List.mem_append.1 hy with hy | hy
    · have := h.far y (by simp [hy]); omega
    · simp at hy; subst hy; show N' - 1 + 1 ≤ N'; omega
  · have hs := h.says d
    rw [mem_append, mem_cons] at hs ⊢
    simp only [mem_nil, or_false] at hs ⊢
    rcases Int.lt_or_le d N with h6 | h6
    · rw [hs h6]
      constructor
      · rintro (h7 | h7)
        · exact .inl h7
        · exact .inr (by omega)
      · rintro (h7 | h7)
        · exact .inl h7
        · exact .inr (by omega)
    · rw [hv d h6 hd]
      simp only [true_iff]
      exact .inr (by omega)
theorem atF_rng {a b : List Sp} (ha : Can a) (hb : Can b) : SI (-1) (atF a b) ∧ (∀ z, z ∈ atF a b → 0 ≤ z ∧ z ≤ 73049) ∧ (∀ x, x ∈ a ∨ x ∈ b → x.1 ∈ atF a b ∧ x.2 + 1 ∈ atF a b) := by
  have hr : ∀ x, x ∈ a ∨ x ∈ b → 0 ≤ x.1 ∧ x.1 ≤ x.2 ∧ x.2 ≤ 73048 := fun x hx => by
    rcases hx with hx | hx
    · obtain ⟨j, hj, rfl⟩ := List.mem_iff_getElem.1 hx
      have := span_rng ha j hj
      simpa [hj] using this
    · obtain ⟨j, hj, rfl⟩ := List.mem_iff_getElem.1 hx
      have := span_rng hb j hj
      simpa [hj] using this
  have hm : ∀ z, z ∈ atF a b ↔ (∃ x, x ∈ a ∧ (z = x.1 ∨ z = x.2 + 1)) ∨ ∃ x, x ∈ b ∧ (z = x.1 ∨ z = x.2 + 1) := fun z => by
    unfold atF; rw [endsF_mem, endsF_mem]; simp
  refine ⟨endsF_si (endsF_si trivial fun x hx => ?_) fun x hx => ?_, fun z hz => ?_, fun x hx => ?_⟩
  · have := hr x (.inl hx); omega
  · have := hr x (.inr hx); omega
  · rcases (hm z).1 hz with ⟨x, hx, h⟩ | ⟨x, hx, h⟩
    · have := hr x (.inl hx); omega
    · have := hr x (.inr hx); omega
  · rcases hx with hx | hx
    · exact ⟨(hm _).2 (.inl ⟨x, hx, .inl rfl⟩), (hm _).2 (.inl ⟨x, hx, .inr rfl⟩)⟩
    · exact ⟨(hm _).2 (.inr ⟨x, hx, .inl rfl⟩), (hm _).2 (.inr ⟨x, hx, .inr rfl⟩)⟩
theorem getD_mem {l : List Int} {i : Nat} (h : i < l.length) : l.getD i 0 ∈ l := by
  rw [List.getD_eq_getElem?_getD, List.getElem?_eq_getElem h]; exact List.getElem_mem h
theorem mem_getD {l : List Int} {z : Int} (h : z ∈ l) : ∃ i, i < l.length ∧ l.getD i 0 = z := by
  obtain ⟨j, hj, rfl⟩ := List.mem_iff_getElem.1 h
  exact ⟨j, hj, by rw [List.getD_eq_getElem?_getD, List.getElem?_eq_getElem hj]; rfl⟩
theorem comb_const {Wf : Bool → Bool → Bool} {a b : List Sp} {p d : Int} (hpd : p ≤ d) (h : ∀ x, x ∈ a ∨ x ∈ b → ¬ (p < x.1 ∧ x.1 ≤ d) ∧ ¬ (p < x.2 + 1 ∧ x.2 + 1 ≤ d)) : comb Wf a b d = comb Wf a b p := by
  unfold comb
  rw [hasB_const hpd fun x hx => h x (.inl hx), hasB_const hpd fun x hx => h x (.inr hx)]
theorem outF_over {Wf : Bool → Bool → Bool} {a b : List Sp} (ha : Can a) (hb : Can b) (hW : Wf false false = false) : ∀ i, i < (atF a b).length → Over (comb Wf a b) ((atF a b).getD i 0) (outF Wf a b i)
  | 0, hi => by
    obtain ⟨h1, h2, h3⟩ := atF_rng ha hb
    refine ⟨trivial, fun y hy => by simp [outF] at hy, fun d hd => ?_⟩
    have hlow : ∀ z, z ∈ atF a b → d < z := fun z hz => by
      obtain ⟨j, hj, rfl⟩ := mem_getD hz
      rcases Nat.eq_zero_or_pos j with rfl | hp
      · exact hd
      · have := (si_lt h1 0 hi).2 j hp hj; omega
    have hn : ∀ l : List Sp, (∀ x, x ∈ l → x ∈ a ∨ x ∈ b) → hasB l d = false := fun l hl => by
      rw [Bool.eq_false_iff]
      intro h
      obtain ⟨x, hx, h4, _⟩ := (hasB_iff l d).1 h
      have := hlow _ (h3 x (hl x hx)).1
      omega
    have : comb Wf a b d = false := by unfold comb; rw [hn a fun x hx => .inl hx, hn b fun x hx => .inr hx, hW]
    rw [this]
    show false = true ↔ mem [] d
    constructor
    · intro h; cases h
    · intro h; exact absurd h (mem_nil d)
  | i + 1, hi => by
    obtain ⟨h1, h2, h3⟩ := atF_rng ha hb
    have ih := outF_over (Wf := Wf) ha hb hW i (by omega)
    have hlt := (si_lt h1 i (by omega)).2 (i + 1) (by omega) hi
    have hr0 := h2 _ (getD_mem (show i < (atF a b).length by omega))
    have hr1 := h2 _ (getD_mem hi)
    have hc : ∀ d, (atF a b).getD i 0 ≤ d → d < (atF a b).getD (i + 1) 0 → comb Wf a b d = comb Wf a b ((atF a b).getD i 0) := fun d hd1 hd2 => by
      have hno : ∀ z, z ∈ atF a b → ¬ ((atF a b).getD i 0 < z ∧ z ≤ d) := fun z hz ⟨q1, q2⟩ => by
        obtain ⟨j, hj, rfl⟩ := mem_getD hz
        rcases Nat.lt_or_ge i j with hij | hij
        · rcases Nat.lt_or_ge (i + 1) j with h8 | h8
          · have := (si_lt h1 (i + 1) hi).2 j h8 hj; omega
          · rw [show j = i + 1 by omega] at q2; omega
        · rcases Nat.lt_or_ge j i with h8 | h8
          · have := (si_lt h1 j hj).2 i h8 (by omega); omega
          · rw [show j = i by omega] at q1; omega
      exact comb_const hd1 fun x hx => ⟨hno _ (h3 x hx).1, hno _ (h3 x hx).2⟩
    show Over _ _ (stepO Wf a b (outF Wf a b i) i)
    unfold stepO
    generalize outF Wf a b i = out at *
    generalize (atF a b).getD i 0 = N at *
    generalize (atF a b).getD (i + 1) 0 = N' at *
    by_cases hp : comb Wf a b N = true
    · rw [if_pos hp]
      have hv : ∀ d, N ≤ d → d < N' → comb Wf a b d = true := fun d q1 q2 => (hc d q1 q2).trans hp
      by_cases hl : out ≠ [] ∧ (out.getD (out.length - 1) (0, 0)).2 + 1 = N
      · rw [if_pos hl]
        obtain ⟨c, x, rfl⟩ : ∃ c x, out = c ++ [x] := ⟨out.dropLast, out.getLast hl.1, (List.dropLast_concat_getLast hl.1).symm⟩
        rw [last_snoc] at hl
        rw [setEnd_snoc]
        exact ih.grow hl.2 hlt hr1.2 hv
      · rw [if_neg hl]
        refine ih.new hr0.1 hlt hr1.2 (fun y hy => ?_) hv
        have hne : out ≠ [] := fun e => by rw [e] at hy; simp at hy
        obtain ⟨c, x, rfl⟩ : ∃ c x, out = c ++ [x] := ⟨out.dropLast, out.getLast hne, (List.dropLast_concat_getLast hne).symm⟩
        rw [last_snoc] at hl
        have hx : x.2 + 1 ≠ N := fun e => hl ⟨hne, e⟩
        have hx2 := ih.far x (by simp)
        obtain ⟨_, _, h6, _, h5⟩ := canF_snoc ih.can
        rcases List.mem_append.1 hy with hy | hy
        · have := h5 y hy; omega
        · simp at hy; subst hy; omega
    · rw [if_neg hp]
      exact ih.skip hlt fun d q1 q2 => (hc d q1 q2).trans (by simpa using hp)
/-- what the specification makes -/
theorem outF_set {Wf : Bool → Bool → Bool} {a b : List Sp} (ha : Can a) (hb : Can b) (hW : Wf false false = false) : outF Wf a b ((atF a b).length - 1) = combR Wf a b := by
  refine IsSet.inj (P := comb Wf a b) ?_ (combR_set ha hb hW)
  obtain ⟨h1, h2, h3⟩ := atF_rng ha hb
  rcases Nat.eq_zero_or_pos (atF a b).length with h0 | h0
  · rw [h0]
    refine ⟨trivial, fun d => ?_⟩
    have hn : atF a b = [] := List.eq_nil_of_length_eq_zero h0
    have hz : ∀ x, ¬ (x ∈ a ∨ x ∈ b) := fun x hx => by have := (h3 x hx).1; rw [hn] at this; simp at this
    have ea : a = [] := List.eq_nil_iff_forall_not_mem.2 fun x hx => hz x (.inl hx)
    have eb : b = [] := List.eq_nil_iff_forall_not_mem.2 fun x hx => hz x (.inr hx)
    subst ea eb
    show mem [] d ↔ Wf (hasB [] d) (hasB [] d) = true
    simp [mem_nil, hasB, hW]
  · have ho := outF_over (Wf := Wf) ha hb hW ((atF a b).length - 1) (by omega)
    refine ⟨ho.can, fun d => ?_⟩
    rcases Int.lt_or_le d ((atF a b).getD ((atF a b).length - 1) 0) with h4 | h4
    · exact (ho.says d h4).symm
    · have hall : ∀ z, z ∈ atF a b → z ≤ d := fun z hz => by
        obtain ⟨j, hj, rfl⟩ := mem_getD hz
        rcases Nat.lt_or_ge j ((atF a b).length - 1) with h5 | h5
        · have := (si_lt h1 j hj).2 _ h5 (by omega); omega
        · rw [show j = (atF a b).length - 1 by omega]; exact h4
      have hn : ∀ l : List Sp, (∀ x, x ∈ l → x ∈ a ∨ x ∈ b) → hasB l d = false := fun l hl => by
        rw [Bool.eq_false_iff]
        intro h
        obtain ⟨x, hx, _, h5⟩ := (hasB_iff l d).1 h
        have := hall _ (h3 x (hl x hx)).2
        omega
      have : comb Wf a b d = false := by unfold comb; rw [hn a fun x hx => .inl hx, hn b fun x hx => .inr hx, hW]
      rw [this]
      constructor
      · rintro ⟨y, hy, _, h5⟩; have := ho.far y hy; omega
      · intro h; cases h
end Go.Proofs.YtiicjmbnkjociaaDoor
