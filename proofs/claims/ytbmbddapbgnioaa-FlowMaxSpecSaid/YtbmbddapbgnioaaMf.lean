/- What the functions answer, as plain functions. -/
import Derived.Test.YtbmbddapbgnioaaMd
namespace Go.Proofs.Ytbmbddapbgnioaa

def arcB (N : Int) (a : Ar) : Bool := decide (0 ≤ a.1 ∧ a.1 < N ∧ 0 ≤ a.2.1 ∧ a.2.1 < N ∧ a.1 ≠ a.2.1 ∧ 0 ≤ a.2.2 ∧ a.2.2 ≤ 1073741824)
/-- the error of a network -/
def netE (N s t : Int) (A : List Ar) : Int :=
  if 2 ≤ N ∧ N ≤ 64 ∧ (0 ≤ s ∧ s < N) ∧ (0 ≤ t ∧ t < N) ∧ s ≠ t then (if A.length ≤ 512 then (if A.all (arcB N) = true then 0 else 130) else 2) else 1
structure NetOk (N s t : Int) (A : List Ar) : Prop where
  net : Netw N.toNat s t A
  few : A.length ≤ 512
  rng : 2 ≤ N ∧ N ≤ 64
  caps : ∀ a, a ∈ A → 0 ≤ a.2.2 ∧ a.2.2 ≤ 1073741824
  loops : ∀ a, a ∈ A → a.1 ≠ a.2.1
theorem net_ok {N s t : Int} {A : List Ar} (h : netE N s t A = 0) : NetOk N s t A := by
  unfold netE at h
  split at h
  · rename_i h1
    split at h
    · rename_i h2
      split at h
      · rename_i h3
        have h4 : ∀ a, a ∈ A → 0 ≤ a.1 ∧ a.1 < N ∧ 0 ≤ a.2.1 ∧ a.2.1 < N ∧ a.1 ≠ a.2.1 ∧ 0 ≤ a.2.2 ∧ a.2.2 ≤ 1073741824 := fun a ha => by
          have := List.all_eq_true.1 h3 a ha
          simpa [arcB] using this
        obtain ⟨q1, q2, q3, q4, q5⟩ := h1
        exact ⟨⟨fun a ha => by have := h4 a ha; omega, by omega, by omega, q5⟩, h2, ⟨q1, q2⟩, fun a ha => by have := h4 a ha; omega, fun a ha => (h4 a ha).2.2.2.2.1⟩
      · omega
    · omega
  · omega
theorem net_rng (N s t : Int) (A : List Ar) : netE N s t A = 0 ∨ netE N s t A = 1 ∨ netE N s t A = 2 ∨ netE N s t A = 130 := by
  unfold netE
  split
  · split
    · split
      · exact .inl rfl
      · exact .inr (.inr (.inr rfl))
    · exact .inr (.inr (.inl rfl))
  · exact .inr (.inl rfl)
theorem net_arc {N : Int} {A : List Ar} {k : Nat} (hk : k < A.length) (h : arcB N (A.getD k (0, 0, 0)) = false) : A.all (arcB N) = false := by
  rw [Bool.eq_false_iff]
  intro h1
  have := List.all_eq_true.1 h1 (A.getD k (0, 0, 0)) (by rw [List.getD_eq_getElem?_getD, List.getElem?_eq_getElem hk]; exact List.getElem_mem hk)
  rw [h] at this; cases this
theorem net_arcs {N : Int} {A : List Ar} (h : ∀ k, k < A.length → arcB N (A.getD k (0, 0, 0)) = true) : A.all (arcB N) = true := by
  refine List.all_eq_true.2 fun a ha => ?_
  obtain ⟨j, hj, rfl⟩ := List.mem_iff_getElem.1 ha
  have := h j hj
  rwa [List.getD_eq_getElem?_getD, List.getElem?_eq_getElem hj] at this
open Classical in
/-- the error of a flow -/
noncomputable def valE (N s t : Int) (A : List Ar) (X : List Int) : Int := if netE N s t A ≠ 0 then netE N s t A else if Flo N.toNat s t A X then 0 else 130
noncomputable def valV (N s t : Int) (A : List Ar) (X : List Int) : Int := if valE N s t A X = 0 then surp A X s else 0
theorem val_ok {N s t : Int} {A : List Ar} {X : List Int} (h : valE N s t A X = 0) : netE N s t A = 0 ∧ Flo N.toNat s t A X := by
  unfold valE at h
  split at h
  · rename_i h1; exact absurd h h1
  · rename_i h1
    split at h
    · rename_i h2; exact ⟨by omega, h2⟩
    · omega
theorem val_of {N s t : Int} {A : List Ar} {X : List Int} (h : netE N s t A = 0) (hF : Flo N.toNat s t A X) : valE N s t A X = 0 ∧ valV N s t A X = surp A X s := by
  have h1 : valE N s t A X = 0 := by unfold valE; rw [if_neg (by omega), if_pos hF]
  exact ⟨h1, by unfold valV; rw [if_pos h1]⟩
theorem val_no {N s t : Int} {A : List Ar} {X : List Int} (h : netE N s t A = 0) (hF : ¬ Flo N.toNat s t A X) : valE N s t A X = 130 ∧ valV N s t A X = 0 := by
  have h1 : valE N s t A X = 130 := by unfold valE; rw [if_neg (by omega), if_neg hF]
  exact ⟨h1, by unfold valV; rw [if_neg (by omega)]⟩
theorem val_bad {N s t : Int} {A : List Ar} {X : List Int} (h : netE N s t A ≠ 0) : valE N s t A X = netE N s t A ∧ valV N s t A X = 0 := by
  have h1 : valE N s t A X = netE N s t A := by unfold valE; rw [if_pos h]
  exact ⟨h1, by unfold valV; rw [if_neg (by rw [h1]; exact h)]⟩
/-- a side as a list -/
def sidB (N s t : Int) (l : List Bool) : Bool := decide ((l.length : Int) = N) && (l.getD s.toNat false && !l.getD t.toNat false)
def ofL (l : List Bool) : Int → Bool := fun v => l.getD v.toNat false
def cutE (N s t : Int) (A : List Ar) (l : List Bool) : Int := if netE N s t A ≠ 0 then netE N s t A else if sidB N s t l = true then 0 else 130
def cutV (N s t : Int) (A : List Ar) (l : List Bool) : Int := if cutE N s t A l = 0 then cutF A (ofL l) else 0
theorem cut_ok {N s t : Int} {A : List Ar} {l : List Bool} (h : cutE N s t A l = 0) : netE N s t A = 0 ∧ (l.length : Int) = N ∧ Sid s t (ofL l) ∧ cutV N s t A l = cutF A (ofL l) := by
  have h' := h
  unfold cutE at h
  split at h
  · rename_i h1; exact absurd h h1
  · rename_i h1
    split at h
    · rename_i h2
      unfold sidB at h2
      simp only [Bool.and_eq_true, decide_eq_true_eq, Bool.not_eq_true'] at h2
      exact ⟨by omega, h2.1, ⟨h2.2.1, h2.2.2⟩, by unfold cutV; rw [if_pos h']⟩
    · omega
/-- not a flow: a number that is no number of its arc, or a vertex that is out of balance, or another length -/
theorem not_flo_len {N : Nat} {s t : Int} {A : List Ar} {X : List Int} (h : X.length ≠ A.length) : ¬ Flo N s t A X := fun hf => h ((okF_iff A X).1 hf.ok).1
theorem not_flo_at {N : Nat} {s t : Int} {A : List Ar} {X : List Int} {k : Nat} (hk : k < A.length) (h : ¬ (0 ≤ X.getD k 0 ∧ X.getD k 0 ≤ (A.getD k (0, 0, 0)).2.2)) : ¬ Flo N s t A X := fun hf => h (((okF_iff A X).1 hf.ok).2 k hk)
theorem not_flo_bal {N : Nat} {s t v : Int} {A : List Ar} {X : List Int} (h0 : 0 ≤ v) (h1 : v < N) (h2 : v ≠ s) (h3 : v ≠ t) (h : surp A X v ≠ 0) : ¬ Flo N s t A X := fun hf => h (hf.bal v h0 h1 h2 h3)
end Go.Proofs.Ytbmbddapbgnioaa
