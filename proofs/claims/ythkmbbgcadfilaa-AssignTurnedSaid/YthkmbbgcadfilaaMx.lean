/- Lists of rows, in their order: plain mathematics. -/
import Derived.Test.YthkmbbgcadfilaaPa
namespace Go.Proofs.Ythkmbbgcadfilaa

/-- rows below n, strictly increasing -/
def SL (n : Nat) (l : List Nat) : Prop := (∀ i, i < l.length → l.getD i 0 < n) ∧ ∀ i j, i < j → j < l.length → l.getD i 0 < l.getD j 0
theorem SL.gap {n : Nat} {l : List Nat} (h : SL n l) {i : Nat} : ∀ {d : Nat}, i + d < l.length → l.getD i 0 + d ≤ l.getD (i + d) 0
  | 0, _ => by simp
  | d + 1, hd => by
    have h1 := SL.gap h (i := i) (d := d) (by omega)
    have h2 := h.2 (i + d) (i + (d + 1)) (by omega) hd
    omega
theorem SL.low {n : Nat} {l : List Nat} (h : SL n l) {i : Nat} (hi : i < l.length) : i ≤ l.getD i 0 := by
  have := h.gap (i := 0) (d := i) (by omega)
  rw [Nat.zero_add] at this
  omega
theorem SL.high {n : Nat} {l : List Nat} (h : SL n l) {i : Nat} (hi : i < l.length) : l.getD i 0 + l.length ≤ n + i := by
  have h1 := h.gap (i := i) (d := l.length - 1 - i) (by omega)
  have h2 := h.1 (i + (l.length - 1 - i)) (by omega)
  omega
theorem SL.len {n : Nat} {l : List Nat} (h : SL n l) : l.length ≤ n := by
  rcases Nat.eq_zero_or_pos l.length with h0 | h0
  · omega
  · have := h.high (i := 0) h0
    omega
def LtL (a b : List Nat) : Prop := ∃ d, d < a.length ∧ (∀ i, i < d → a.getD i 0 = b.getD i 0) ∧ a.getD d 0 < b.getD d 0
def LeL (a b : List Nat) : Prop := a = b ∨ LtL a b
theorem leL_of_le : ∀ {a b : List Nat}, a.length = b.length → (∀ i, i < a.length → a.getD i 0 ≤ b.getD i 0) → LeL a b
  | [], [], _, _ => .inl rfl
  | [], _ :: _, h, _ => by simp at h
  | _ :: _, [], h, _ => by simp at h
  | x :: a, y :: b, h, hl => by
    have h0 : x ≤ y := hl 0 (by simp)
    rcases Nat.lt_or_ge x y with h1 | h1
    · exact .inr ⟨0, by simp, fun i hi => by omega, h1⟩
    · obtain rfl : x = y := by omega
      rcases leL_of_le (a := a) (b := b) (by simpa using h) (fun i hi => hl (i + 1) (by simp; omega)) with h2 | ⟨d, h3, h4, h5⟩
      · exact .inl (by rw [h2])
      · refine .inr ⟨d + 1, by simp; omega, fun i hi => ?_, h5⟩
        cases i with
        | zero => rfl
        | succ i => exact h4 i (by omega)
theorem LeL.antisymm {a b : List Nat} (h : LeL a b) (k : LeL b a) : a = b := by
  rcases h with h | ⟨d, h1, h2, h3⟩
  · exact h
  · rcases k with k | ⟨e, k1, k2, k3⟩
    · exact k.symm
    · exfalso
      rcases Nat.lt_trichotomy d e with h9 | h9 | h9
      · have := k2 d h9; omega
      · subst h9; omega
      · have := h2 e h9; omega
theorem nextAt_len {l : List Nat} {k : Nat} (h : k ≤ l.length) : (nextAt l k).length = l.length := by simp [nextAt]; omega
theorem nextAt_get {l : List Nat} {k i : Nat} (hk : k < l.length) (hi : i < l.length) : (nextAt l k).getD i 0 = if i < k then l.getD i 0 else l.getD k 0 + 1 + (i - k) := by
  have e1 : (l.take k).length = k := by simp; omega
  unfold nextAt
  by_cases h : i < k
  · rw [if_pos h, List.getD_eq_getElem?_getD, List.getElem?_append_left (by omega), List.getElem?_take_of_lt h, ← List.getD_eq_getElem?_getD]
  · rw [if_neg h, List.getD_eq_getElem?_getD, List.getElem?_append_right (by omega), e1, List.getElem?_map, List.getElem?_range (by omega)]
    rfl
theorem nx_spec {n : Nat} {l : List Nat} : ∀ {k : Nat}, (nx n l k = none → ∀ i, i < k → n + i ≤ l.getD i 0 + l.length) ∧
    (∀ l', nx n l k = some l' → ∃ d, d < k ∧ l' = nextAt l d ∧ l.getD d 0 + l.length < n + d ∧ ∀ i, d < i → i < k → n + i ≤ l.getD i 0 + l.length)
  | 0 => ⟨fun _ i hi => by omega, fun l' h => (by cases h)⟩
  | k + 1 => by
    have ih := nx_spec (n := n) (l := l) (k := k)
    unfold nx
    by_cases h : l.getD k 0 + l.length < n + k
    · rw [if_pos h]
      refine ⟨fun h => (by cases h), fun l' h9 => ?_⟩
      injection h9 with h9
      exact ⟨k, by omega, h9.symm, h, fun i hi hk => by omega⟩
    · rw [if_neg h]
      refine ⟨fun h9 i hi => ?_, fun l' h9 => ?_⟩
      · rcases Nat.lt_or_ge i k with h8 | h8
        · exact ih.1 h9 i h8
        · obtain rfl : i = k := by omega
          omega
      · obtain ⟨d, h1, h2, h3, h4⟩ := ih.2 l' h9
        refine ⟨d, by omega, h2, h3, fun i hi hk => ?_⟩
        rcases Nat.lt_or_ge i k with h8 | h8
        · exact h4 i hi h8
        · obtain rfl : i = k := by omega
          omega
theorem next_none {n : Nat} {l R : List Nat} (h : nextL n l = none) (hR : SL n R) (hl : R.length = l.length) : ¬ LtL l R := by
  rintro ⟨d, h1, h2, h3⟩
  have h4 := (nx_spec (n := n) (l := l) (k := l.length)).1 h d h1
  have h5 := hR.high (i := d) (by omega)
  omega
theorem next_some {n : Nat} {l l' : List Nat} (hl : SL n l) (h : nextL n l = some l') : SL n l' ∧ l'.length = l.length ∧ ∀ R, SL n R → R.length = l.length → LtL l R → LeL l' R := by
  obtain ⟨d, h1, rfl, h3, h4⟩ := (nx_spec (n := n) (l := l) (k := l.length)).2 l' h
  have hlen : (nextAt l d).length = l.length := nextAt_len (by omega)
  refine ⟨⟨fun i hi => ?_, fun i j hij hj => ?_⟩, hlen, fun R hR hRl hlt => ?_⟩
  · rw [hlen] at hi
    rw [nextAt_get h1 hi]
    by_cases e : i < d
    · rw [if_pos e]; exact hl.1 i hi
    · rw [if_neg e]; omega
  · rw [hlen] at hj
    rw [nextAt_get h1 (by omega), nextAt_get h1 hj]
    by_cases e : j < d
    · rw [if_pos e, if_pos (by omega)]; exact hl.2 i j hij hj
    · rw [if_neg e]
      by_cases e2 : i < d
      · rw [if_pos e2]
        have := hl.2 i d e2 h1
        omega
      · rw [if_neg e2]; omega
  · obtain ⟨d0, k1, k2, k3⟩ := hlt
    have k4 := hR.high (i := d0) (by omega)
    rcases Nat.lt_trichotomy d0 d with h9 | h9 | h9
    · refine .inr ⟨d0, by omega, fun i hi => ?_, ?_⟩
      · rw [nextAt_get h1 (by omega), if_pos (by omega)]; exact k2 i hi
      · rw [nextAt_get h1 k1, if_pos h9]; exact k3
    · subst h9
      rcases Nat.lt_or_ge (l.getD d0 0 + 1) (R.getD d0 0) with h8 | h8
      · refine .inr ⟨d0, by omega, fun i hi => ?_, ?_⟩
        · rw [nextAt_get h1 (by omega), if_pos hi]; exact k2 i hi
        · rw [nextAt_get h1 k1, if_neg (by omega)]; omega
      · refine leL_of_le (by omega) (fun i hi => ?_)
        rw [hlen] at hi
        rw [nextAt_get h1 hi]
        by_cases e : i < d0
        · rw [if_pos e, k2 i e]; exact Nat.le_refl _
        · rw [if_neg e]
          have h7 := hR.gap (i := d0) (d := i - d0) (by omega)
          rw [show d0 + (i - d0) = i by omega] at h7
          omega
    · have := h4 d0 h9 k1
      omega
/-- the list that follows a list, the shorter ones first -/
def succL (n : Nat) (l : List Nat) : Option (List Nat) :=
  match nextL n l with
  | some l' => some l'
  | none => if l.length + 1 ≤ n then some (List.range (l.length + 1)) else none
theorem range_get {s i : Nat} (h : i < s) : (List.range s).getD i 0 = i := by
  rw [List.getD_eq_getElem?_getD, List.getElem?_range h]; rfl
theorem range_SL {n s : Nat} (h : s ≤ n) : SL n (List.range s) :=
  ⟨fun i hi => by rw [List.length_range] at hi; rw [range_get hi]; omega, fun i j hij hj => by rw [List.length_range] at hj; rw [range_get hj, range_get (by omega)]; exact hij⟩
theorem range_le {n s : Nat} {R : List Nat} (hR : SL n R) (hl : R.length = s) : LeL (List.range s) R :=
  leL_of_le (by simp [hl]) (fun i hi => by rw [List.length_range] at hi; rw [range_get hi]; exact hR.low (by omega))
/-- a list comes before another one, or is it -/
def Bef (l R : List Nat) : Prop := l.length < R.length ∨ (R.length = l.length ∧ LeL l R)
theorem Bef.antisymm {a b : List Nat} (h : Bef a b) (k : Bef b a) : a = b := by
  rcases h with h | ⟨h1, h2⟩
  · rcases k with k | ⟨k1, -⟩ <;> omega
  · rcases k with k | ⟨-, k2⟩
    · omega
    · exact h2.antisymm k2
/-- what is known when a list is looked at: all before it are not wanted -/
def LsO (n : Nat) (cr : List Nat → Prop) : Option (List Nat) → Prop
  | some l => SL n l ∧ 1 ≤ l.length ∧ ∀ R, SL n R → 1 ≤ R.length → cr R → Bef l R
  | none => ∀ R, SL n R → 1 ≤ R.length → ¬ cr R
def firstO (n : Nat) : Option (List Nat) := if 1 ≤ n then some (List.range 1) else none
theorem LsO.first (n : Nat) (cr : List Nat → Prop) : LsO n cr (firstO n) := by
  unfold firstO
  by_cases h : 1 ≤ n
  · rw [if_pos h]
    refine ⟨range_SL h, by simp, fun R hR h1 _ => ?_⟩
    rcases Nat.lt_or_ge 1 R.length with h2 | h2
    · exact .inl (by simpa using h2)
    · exact .inr ⟨by simp; omega, range_le hR (by omega)⟩
  · rw [if_neg h]
    intro R hR h1
    have := hR.len
    omega
theorem LsO.next {n : Nat} {cr : List Nat → Prop} {l : List Nat} (h : LsO n cr (some l)) (hno : ¬ cr l) : LsO n cr (succL n l) := by
  obtain ⟨h1, h2, h3⟩ := h
  unfold succL
  cases hn : nextL n l with
  | some l' =>
    obtain ⟨k1, k2, k3⟩ := next_some h1 hn
    refine ⟨k1, by omega, fun R hR hR1 hc => ?_⟩
    rcases h3 R hR hR1 hc with h4 | ⟨h4, h5⟩
    · exact .inl (by omega)
    · rcases h5 with rfl | h5
      · exact absurd hc hno
      · exact .inr ⟨by omega, k3 R hR h4 h5⟩
  | none =>
    show LsO n cr (if l.length + 1 ≤ n then some (List.range (l.length + 1)) else none)
    have hlong : ∀ R, SL n R → 1 ≤ R.length → cr R → l.length < R.length := fun R hR hR1 hc => by
      rcases h3 R hR hR1 hc with h4 | ⟨h4, h5⟩
      · exact h4
      · rcases h5 with rfl | h5
        · exact absurd hc hno
        · exact absurd h5 (next_none hn hR h4)
    by_cases hs : l.length + 1 ≤ n
    · rw [if_pos hs]
      refine ⟨range_SL hs, by simp, fun R hR hR1 hc => ?_⟩
      have := hlong R hR hR1 hc
      rcases Nat.lt_or_ge (l.length + 1) R.length with h4 | h4
      · exact .inl (by simpa using h4)
      · exact .inr ⟨by simp; omega, range_le hR (by omega)⟩
    · rw [if_neg hs]
      intro R hR hR1 hc
      have := hlong R hR hR1 hc
      have := hR.len
      omega
end Go.Proofs.Ythkmbbgcadfilaa
