/- The search for a column: plain mathematics. -/
import Derived.Test.YthkmbbgcadfilaaM
namespace Go.Proofs.Ythkmbbgcadfilaa

/-- longer than any path -/
def farI : Int := 1152921504606846976
/-- prices that fit, and columns of the first k rows -/
structure Deal (n m : Nat) (c : Nat → Nat → Int) (u v to row : Nat → Int) (k : Nat) : Prop where
  fit : Fit n m c u v
  cst : ∀ i j, c i j ≠ -1 → 0 ≤ c i j ∧ c i j ≤ 1073741824
  n16 : n ≤ 16
  m16 : m ≤ 16
  row1 : ∀ j, j < m → row j ≠ -1 → ∃ i : Nat, i < n ∧ row j = (i : Int) ∧ to i = (j : Int)
  to1 : ∀ i, i < n → to i ≠ -1 → ∃ j : Nat, j < m ∧ to i = (j : Int) ∧ row j = (i : Int) ∧ c i j ≠ -1 ∧ u i + v j = c i j
  free : ∀ j, j < m → row j = -1 → v j = 0
  done : ∀ i, i < k → to i ≠ -1
  rest : ∀ i, k ≤ i → i < n → to i = -1 ∧ u i = 0
  ub : ∀ i, i < n → 0 ≤ u i ∧ u i ≤ k * 34359738368
  vb : ∀ j, j < m → -((k : Int) * 34359738368) ≤ v j
/-- the rows of a tree: its root, and those of its columns -/
def inT (row : Nat → Int) (r : Nat) (S : List Nat) (i : Nat) : Prop := i = r ∨ ∃ j, j ∈ S ∧ row j = (i : Int)
/-- how long the path to a row is -/
def dst (to len : Nat → Int) (r i : Nat) : Int := if i = r then 0 else len (to i).toNat
/-- a tree of shortest paths; B rows are not looked at yet, D is the greatest length -/
structure Tree (n m : Nat) (c : Nat → Nat → Int) (u v to row : Nat → Int) (r : Nat) (S : List Nat) (len frm : Nat → Int) (sure : Nat → Bool) (B : Nat → Prop) (D : Int) (h : Int) : Prop where
  nd : S.Nodup
  sm : ∀ j, sure j = true ↔ j ∈ S
  sin : ∀ j, j ∈ S → j < m ∧ row j ≠ -1
  relax : ∀ i, inT row r S i → ¬ B i → ∀ j, j < m → c i j ≠ -1 → len j ≤ dst to len r i + (c i j - u i - v j)
  src : ∀ j, j < m → len j < farI → ∃ i : Nat, inT row r S i ∧ frm j = (i : Int) ∧ c i j ≠ -1 ∧ len j = dst to len r i + (c i j - u i - v j)
  ord : ∀ S1 j S2, S = S1 ++ j :: S2 → ∃ i : Nat, frm j = (i : Int) ∧ inT row r S2 i
  le : ∀ j, j ∈ S → len j ≤ D
  ge : ∀ j, j < m → ¬ j ∈ S → D ≤ len j
  dn : 0 ≤ D
  nn : ∀ j, j ∈ S → 0 ≤ len j
  lt : ∀ j, j ∈ S → len j < farI
  bd : ∀ j, j < m → len j < farI → -(h * 1073741824) ≤ len j + v j ∧ len j + v j ≤ h * 1073741824
section
variable {n m : Nat} {c : Nat → Nat → Int} {u v to row : Nat → Int} {k r : Nat}
theorem Deal.red (h : Deal n m c u v to row k) {i j : Nat} (hi : i < n) (hj : j < m) (hc : c i j ≠ -1) : 0 ≤ c i j - u i - v j := by
  have := h.fit.le i j hi hj hc
  omega
theorem Deal.row_in (h : Deal n m c u v to row k) {j i : Nat} (hj : j < m) (he : row j = (i : Int)) : i < n ∧ to i = (j : Int) := by
  obtain ⟨i', h1, h2, h3⟩ := h.row1 j hj (by omega)
  have : i = i' := by omega
  subst this
  exact ⟨h1, h3⟩
section
variable {S : List Nat} {len frm : Nat → Int} {sure : Nat → Bool} {B : Nat → Prop} {D q : Int}
theorem Tree.in_lt (t : Tree n m c u v to row r S len frm sure B D q) (h : Deal n m c u v to row k) (hr : r < n) {i : Nat} (hi : inT row r S i) : i < n := by
  rcases hi with rfl | ⟨j, hj, he⟩
  · exact hr
  · exact (h.row_in (t.sin j hj).1 he).1
/-- the length of the path to a row of the tree -/
theorem Tree.dst_row (t : Tree n m c u v to row r S len frm sure B D q) (h : Deal n m c u v to row k) (hr : to r = -1) {i j : Nat} (hj : j ∈ S) (he : row j = (i : Int)) : dst to len r i = len j ∧ i ≠ r := by
  have h1 := (h.row_in (t.sin j hj).1 he).2
  have hne : i ≠ r := fun e => by rw [e, hr] at h1; omega
  refine ⟨?_, hne⟩
  unfold dst
  rw [if_neg hne, h1, Int.toNat_natCast]
theorem Tree.dst_nn (t : Tree n m c u v to row r S len frm sure B D q) (h : Deal n m c u v to row k) (hr : to r = -1) {i : Nat} (hi : inT row r S i) : 0 ≤ dst to len r i ∧ dst to len r i ≤ D := by
  rcases hi with rfl | ⟨j, hj, he⟩
  · unfold dst; rw [if_pos rfl]; exact ⟨Int.le_refl _, t.dn⟩
  · rw [(t.dst_row h hr hj he).1]; exact ⟨t.nn j hj, t.le j hj⟩
/-- nothing is found yet -/
theorem Tree.first (u v to row : Nat → Int) (r : Nat) (frm : Nat → Int) : Tree n m c u v to row r [] (fun _ => farI) frm (fun _ => false) (fun i => i = r) 0 0 :=
  ⟨List.nodup_nil, by simp, by simp, fun i hi hb => by rcases hi with rfl | ⟨j, hj, _⟩; exact absurd rfl hb; simp at hj, fun j _ h => by simp [farI] at h, fun S1 j S2 h => by simp at h, by simp, fun j _ _ => by simp [farI], Int.le_refl _, by simp, by simp, fun j _ h => by simp [farI] at h⟩
/-- what the paths over one more row are -/
def hitB (m : Nat) (c : Nat → Nat → Int) (u v len : Nat → Int) (sure : Nat → Bool) (i : Nat) (D : Int) (j : Nat) : Prop := j < m ∧ c i j ≠ -1 ∧ sure j = false ∧ D + c i j - u i - v j < len j
instance (m : Nat) (c : Nat → Nat → Int) (u v len : Nat → Int) (sure : Nat → Bool) (i : Nat) (D : Int) (j : Nat) : Decidable (hitB m c u v len sure i D j) := by unfold hitB; infer_instance
def extL (m : Nat) (c : Nat → Nat → Int) (u v len : Nat → Int) (sure : Nat → Bool) (i : Nat) (D : Int) (j : Nat) : Int := if hitB m c u v len sure i D j then D + c i j - u i - v j else len j
def extF (m : Nat) (c : Nat → Nat → Int) (u v len frm : Nat → Int) (sure : Nat → Bool) (i : Nat) (D : Int) (j : Nat) : Int := if hitB m c u v len sure i D j then (i : Int) else frm j
theorem Tree.extend {a0 : Nat} (t : Tree n m c u v to row r S len frm sure (fun i => i = a0) D q) (h : Deal n m c u v to row k) (hrn : r < n) (hr : to r = -1) (hur : u r = 0) (ha : inT row r S a0) (hD : dst to len r a0 = D) (hq : 0 ≤ q) (hq0 : a0 = r → D = 0) :
    Tree n m c u v to row r S (extL m c u v len sure a0 D) (extF m c u v len frm sure a0 D) sure (fun _ => False) D (q + 1) := by
  have han : a0 < n := t.in_lt h hrn ha
  have hsu : ∀ j, j ∈ S → extL m c u v len sure a0 D j = len j ∧ extF m c u v len frm sure a0 D j = frm j := fun j hj => by
    have h1 : ¬ hitB m c u v len sure a0 D j := fun hh => by
      have := (t.sm j).2 hj
      rw [hh.2.2.1] at this; cases this
    unfold extL extF
    rw [if_neg h1, if_neg h1]; exact ⟨rfl, rfl⟩
  have hds : ∀ i, inT row r S i → dst to (extL m c u v len sure a0 D) r i = dst to len r i := fun i hi => by
    rcases hi with rfl | ⟨j, hj, he⟩
    · unfold dst; rw [if_pos rfl, if_pos rfl]
    · have h1 := (h.row_in (t.sin j hj).1 he).2
      unfold dst
      by_cases e : i = r
      · rw [if_pos e, if_pos e]
      · rw [if_neg e, if_neg e, h1, Int.toNat_natCast, (hsu j hj).1]
  have hle : ∀ j, extL m c u v len sure a0 D j ≤ len j := fun j => by
    unfold extL
    split
    · rename_i hh; have := hh.2.2.2; omega
    · exact Int.le_refl _
  refine ⟨t.nd, t.sm, t.sin, fun i hi _ j hj hc => ?_, fun j hj hl => ?_, fun S1 j S2 e => ?_, fun j hj => ?_, fun j hj hn => ?_, t.dn, fun j hj => ?_, fun j hj => ?_, fun j hj hl => ?_⟩
  · rw [hds i hi]
    by_cases e : i = a0
    · subst e
      rw [hD]
      by_cases hh : hitB m c u v len sure i D j
      · unfold extL; rw [if_pos hh]; omega
      · unfold extL; rw [if_neg hh]
        cases hs : sure j with
        | true =>
          have h1 := t.le j ((t.sm j).1 hs)
          have h2 := h.red han hj hc
          omega
        | false =>
          have h1 : ¬ (D + c i j - u i - v j < len j) := fun h9 => hh ⟨hj, hc, hs, h9⟩
          omega
    · exact Int.le_trans (hle j) (t.relax i hi e j hj hc)
  · by_cases hh : hitB m c u v len sure a0 D j
    · refine ⟨a0, ha, by unfold extF; rw [if_pos hh], hh.2.1, ?_⟩
      rw [hds a0 ha, hD]
      unfold extL; rw [if_pos hh]; omega
    · have h1 : extL m c u v len sure a0 D j = len j := by unfold extL; rw [if_neg hh]
      rw [h1] at hl
      obtain ⟨i, h2, h3, h4, h5⟩ := t.src j hj hl
      exact ⟨i, h2, by unfold extF; rw [if_neg hh]; exact h3, h4, by rw [h1, hds i h2]; exact h5⟩
  · obtain ⟨i, h1, h2⟩ := t.ord S1 j S2 e
    exact ⟨i, by rw [(hsu j (by rw [e]; simp)).2]; exact h1, h2⟩
  · rw [(hsu j hj).1]; exact t.le j hj
  · have h1 := t.ge j hj hn
    unfold extL
    split
    · rename_i hh
      have := h.red han hj hh.2.1
      omega
    · exact h1
  · rw [(hsu j hj).1]; exact t.nn j hj
  · rw [(hsu j hj).1]; exact t.lt j hj
  · by_cases hh : hitB m c u v len sure a0 D j
    · have h1 : extL m c u v len sure a0 D j = D + c a0 j - u a0 - v j := by unfold extL; rw [if_pos hh]
      rw [h1]
      have h2 := h.cst a0 j hh.2.1
      rcases ha with e | ⟨j0, hj0, he⟩
      · have h3 := hq0 e
        have hu : u a0 = 0 := by rw [e]; exact hur
        omega
      · obtain ⟨h3, h4⟩ := h.row_in (t.sin j0 hj0).1 he
        obtain ⟨j1, k1, k2, k3, k4, k5⟩ := h.to1 a0 h3 (by omega)
        have hj1 : j1 = j0 := by omega
        subst hj1
        have h5 := t.dst_row h hr hj0 he
        have h6 := t.bd j1 k1 (t.lt j1 hj0)
        have h7 := h.cst a0 j1 k4
        omega
    · have h1 : extL m c u v len sure a0 D j = len j := by unfold extL; rw [if_neg hh]
      rw [h1] at hl ⊢
      have := t.bd j hj hl
      omega
/-- the nearest column joins the tree -/
theorem Tree.join (t : Tree n m c u v to row r S len frm sure (fun _ => False) D q) (h : Deal n m c u v to row k) (hr : to r = -1) {e a0 : Nat} (he : e < m) (hs : sure e = false) (hl : len e < farI) (hmin : ∀ j, j < m → sure j = false → len e ≤ len j) (hrow : row e = (a0 : Int)) :
    Tree n m c u v to row r (e :: S) len frm (fun j => if j = e then true else sure j) (fun i => i = a0) (len e) q ∧ inT row r (e :: S) a0 ∧ dst to len r a0 = len e ∧ a0 ≠ r := by
  have hes : ¬ e ∈ S := fun h9 => by rw [(t.sm e).2 h9] at hs; cases hs
  have hde : D ≤ len e := t.ge e he hes
  obtain ⟨h1, h2⟩ := h.row_in he hrow
  have hne : a0 ≠ r := fun e9 => by rw [e9, hr] at h2; omega
  have hup : ∀ i S2, inT row r S2 i → inT row r (e :: S2) i := fun i S2 hi => by
    rcases hi with rfl | ⟨j, hj, hx⟩
    · exact .inl rfl
    · exact .inr ⟨j, by simp [hj], hx⟩
  refine ⟨⟨List.nodup_cons.2 ⟨hes, t.nd⟩, fun j => ?_, fun j hj => ?_, fun i hi hb j hj hc => ?_, fun j hj hl2 => ?_, fun S1 j S2 e2 => ?_, fun j hj => ?_, fun j hj hn => ?_, by have := t.dn; omega, fun j hj => ?_, fun j hj => ?_, t.bd⟩, .inr ⟨e, by simp, hrow⟩, ?_, hne⟩
  · by_cases e9 : j = e
    · simp [e9]
    · simp [e9, t.sm j]
  · rcases List.mem_cons.1 hj with rfl | hj
    · exact ⟨he, by omega⟩
    · exact t.sin j hj
  · refine t.relax i ?_ (fun h9 => h9) j hj hc
    rcases hi with rfl | ⟨j2, hj2, hx⟩
    · exact .inl rfl
    · rcases List.mem_cons.1 hj2 with rfl | hj2
      · exact absurd (show i = a0 by omega) hb
      · exact .inr ⟨j2, hj2, hx⟩
  · obtain ⟨i, k1, k2⟩ := t.src j hj hl2
    exact ⟨i, hup i S k1, k2⟩
  · cases S1 with
    | nil =>
      simp only [List.nil_append, List.cons.injEq] at e2
      obtain ⟨rfl, rfl⟩ := e2
      obtain ⟨i, k1, k2, -⟩ := t.src e he hl
      exact ⟨i, k2, k1⟩
    | cons x S1 =>
      simp only [List.cons_append, List.cons.injEq] at e2
      exact t.ord S1 j S2 e2.2
  · rcases List.mem_cons.1 hj with rfl | hj
    · exact Int.le_refl _
    · have := t.le j hj; omega
  · simp only [List.mem_cons, not_or] at hn
    refine hmin j hj ?_
    cases hs2 : sure j with
    | false => rfl
    | true => exact absurd ((t.sm j).1 hs2) hn.2
  · rcases List.mem_cons.1 hj with rfl | hj
    · have := t.dn; omega
    · exact t.nn j hj
  · rcases List.mem_cons.1 hj with rfl | hj
    · exact hl
    · exact t.lt j hj
  · unfold dst
    rw [if_neg hne, h2, Int.toNat_natCast]
/-- no column is left: too few columns for the rows of the tree -/
theorem Tree.crowd (t : Tree n m c u v to row r S len frm sure (fun _ => False) D q) (h : Deal n m c u v to row k) (hrn : r < n) (hr : to r = -1) (hk : k ≤ 16) (hq : q ≤ 20) (hno : ∀ j, j < m → sure j = false → farI ≤ len j) :
    Crowd n m c (r :: S.map (fun j => (row j).toNat)) S := by
  have hmem : ∀ i, i ∈ r :: S.map (fun j => (row j).toNat) → inT row r S i := fun i hi => by
    rcases List.mem_cons.1 hi with rfl | hi
    · exact .inl rfl
    · obtain ⟨j, hj, rfl⟩ := List.mem_map.1 hi
      obtain ⟨i', h1, h2, h3⟩ := h.row1 j (t.sin j hj).1 (t.sin j hj).2
      exact .inr ⟨j, hj, by rw [h2, Int.toNat_natCast]⟩
  refine ⟨fun i hi => t.in_lt h hrn (hmem i hi), List.nodup_cons.2 ⟨fun hi => ?_, nodup_map t.nd fun j j2 hj hj2 he => ?_⟩, fun i j hi hj hc => ?_, by simp⟩
  · obtain ⟨j, hj, he⟩ := List.mem_map.1 hi
    obtain ⟨i', h1, h2, h3⟩ := h.row1 j (t.sin j hj).1 (t.sin j hj).2
    rw [h2, Int.toNat_natCast] at he
    rw [he, hr] at h3
    omega
  · obtain ⟨i1, a1, a2, a3⟩ := h.row1 j (t.sin j hj).1 (t.sin j hj).2
    obtain ⟨i2, b1, b2, b3⟩ := h.row1 j2 (t.sin j2 hj2).1 (t.sin j2 hj2).2
    have h9 : i1 = i2 := by
      have : (row j).toNat = (row j2).toNat := he
      rw [a2, b2, Int.toNat_natCast, Int.toNat_natCast] at this
      exact this
    subst h9
    omega
  · have hT := hmem i hi
    have hin := t.in_lt h hrn hT
    have h1 := t.relax i hT (fun h9 => h9) j hj hc
    have h2 := h.cst i j hc
    have h3 := h.ub i hin
    have h4 := h.vb j hj
    have h5 : dst to len r i ≤ q * 1073741824 + k * 34359738368 := by
      rcases hT with rfl | ⟨j0, hj0, he⟩
      · unfold dst; rw [if_pos rfl]
        have := t.bd
        by_cases hqn : 0 ≤ q
        · omega
        · exfalso
          have hz : len j < farI ∨ farI ≤ len j := by omega
          rcases hz with hz | hz
          · have := t.bd j hj hz; omega
          · have : dst to len i i = 0 := by unfold dst; rw [if_pos rfl]
            rw [this] at h1
            unfold farI at hz
            have h8 : (k : Int) * 34359738368 ≤ 16 * 34359738368 := by omega
            omega
      · rw [(t.dst_row h hr hj0 he).1]
        have h6 := t.bd j0 (t.sin j0 hj0).1 (t.lt j0 hj0)
        have h7 := h.vb j0 (t.sin j0 hj0).1
        omega
    cases hs : sure j with
    | true => exact (t.sm j).1 hs
    | false =>
      have h6 := hno j hj hs
      unfold farI at h6
      omega
end
end
end Go.Proofs.Ythkmbbgcadfilaa
