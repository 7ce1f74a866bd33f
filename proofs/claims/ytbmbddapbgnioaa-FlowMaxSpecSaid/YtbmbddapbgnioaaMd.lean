/- Sums and searches as loops reckon them: plain mathematics. -/
import Derived.Test.YtbmbddapbgnioaaMc
namespace Go.Proofs.Ytbmbddapbgnioaa

theorem surp_take (v : Int) : ∀ (A : List Ar) (X : List Int) (k : Nat), X.length = A.length → k < A.length →
    surp (A.take (k + 1)) (X.take (k + 1)) v = surp (A.take k) (X.take k) v + ((if (A.getD k (0, 0, 0)).1 = v then X.getD k 0 else 0) - (if (A.getD k (0, 0, 0)).2.1 = v then X.getD k 0 else 0))
  | [], _, k, _, h => by simp at h
  | a :: A, [], k, h, _ => by simp at h
  | a :: A, x :: X, 0, _, _ => by
    show (if a.1 = v then x else 0) - (if a.2.1 = v then x else 0) + surp (A.take 0) (X.take 0) v = 0 + ((if a.1 = v then x else 0) - (if a.2.1 = v then x else 0))
    rw [show surp (A.take 0) (X.take 0) v = 0 from rfl]; omega
  | a :: A, x :: X, k + 1, h, hk => by
    have ih := surp_take v A X k (by simpa using h) (by simpa using hk)
    show (if a.1 = v then x else 0) - (if a.2.1 = v then x else 0) + surp (A.take (k + 1)) (X.take (k + 1)) v = (if a.1 = v then x else 0) - (if a.2.1 = v then x else 0) + surp (A.take k) (X.take k) v + _
    rw [ih]
    simp only [List.getD_cons_succ]
    omega
theorem cut_take (S : Int → Bool) : ∀ (A : List Ar) (k : Nat), k < A.length →
    cutF (A.take (k + 1)) S = cutF (A.take k) S + (if S (A.getD k (0, 0, 0)).1 = true ∧ S (A.getD k (0, 0, 0)).2.1 = false then (A.getD k (0, 0, 0)).2.2 else 0)
  | [], k, h => by simp at h
  | a :: A, 0, _ => by
    show (if S a.1 = true ∧ S a.2.1 = false then a.2.2 else 0) + cutF (A.take 0) S = 0 + (if S a.1 = true ∧ S a.2.1 = false then a.2.2 else 0)
    rw [show cutF (A.take 0) S = 0 from rfl]; omega
  | a :: A, k + 1, hk => by
    have ih := cut_take S A k (by simpa using hk)
    show (if S a.1 = true ∧ S a.2.1 = false then a.2.2 else 0) + cutF (A.take (k + 1)) S = (if S a.1 = true ∧ S a.2.1 = false then a.2.2 else 0) + cutF (A.take k) S + _
    rw [ih]
    simp only [List.getD_cons_succ]
    omega
/-- the sums of loops stay small -/
theorem surp_small (v M : Int) (hM : 0 ≤ M) : ∀ (A : List Ar) (X : List Int), (∀ x, x ∈ X → 0 ≤ x ∧ x ≤ M) → -(X.length * M) ≤ surp A X v ∧ surp A X v ≤ X.length * M
  | [], [], _ => by simp [surp]
  | [], x :: X, _ => by
    have : (0 : Int) ≤ ((x :: X).length : Int) * M := Int.mul_nonneg (by omega) hM
    show -(((x :: X).length : Int) * M) ≤ 0 ∧ 0 ≤ ((x :: X).length : Int) * M
    omega
  | _ :: _, [], _ => by simp [surp]
  | a :: A, x :: X, h => by
    have ih := surp_small v M hM A X (fun y hy => h y (by simp [hy]))
    have h1 := h x (by simp)
    have e : ((x :: X).length : Int) * M = X.length * M + M := by rw [List.length_cons, Int.natCast_succ, Int.add_mul, Int.one_mul]
    rw [e]
    show _ ≤ (if a.1 = v then x else 0) - (if a.2.1 = v then x else 0) + surp A X v ∧ (if a.1 = v then x else 0) - (if a.2.1 = v then x else 0) + surp A X v ≤ _
    split <;> split <;> omega
theorem cut_nonneg (S : Int → Bool) : ∀ (A : List Ar), (∀ a, a ∈ A → 0 ≤ a.2.2) → 0 ≤ cutF A S
  | [], _ => Int.le_refl _
  | a :: A, h => by
    have ih := cut_nonneg S A (fun b hb => h b (by simp [hb]))
    have := h a (by simp)
    unfold cutF
    split <;> omega
/-- the arcs up to i lead from u to no vertex that is not in the list -/
def Dn (A : List Ar) (X : List Int) (u : Int) (i : Nat) (l : List Int) : Prop := ∀ j, j < i → ∀ v, Res (A.getD j (0, 0, 0), X.getD j 0) u v → v ∈ l
theorem Dn.zero (A : List Ar) (X : List Int) (u : Int) (l : List Int) : Dn A X u 0 l := fun j hj => by omega
theorem Dn.more {A : List Ar} {X : List Int} {u : Int} {i : Nat} {l l' : List Int} (h : Dn A X u i l) (hl : ∀ v, v ∈ l → v ∈ l') : Dn A X u i l' := fun j hj v hv => hl v (h j hj v hv)
theorem Dn.step {A : List Ar} {X : List Int} {u : Int} {i : Nat} {l l' : List Int} (h : Dn A X u i l) (hl : ∀ v, v ∈ l → v ∈ l')
    (h1 : (A.getD i (0, 0, 0)).1 = u → X.getD i 0 < (A.getD i (0, 0, 0)).2.2 → (A.getD i (0, 0, 0)).2.1 ∈ l') (h2 : (A.getD i (0, 0, 0)).2.1 = u → 0 < X.getD i 0 → (A.getD i (0, 0, 0)).1 ∈ l') : Dn A X u (i + 1) l' := fun j hj v hv => by
  by_cases e : j = i
  · subst e
    rcases hv with ⟨q1, q2, q3⟩ | ⟨q1, q2, q3⟩
    · exact q2 ▸ h1 q1 q3
    · exact q2 ▸ h2 q1 q3
  · exact hl v (h j (by omega) v hv)
theorem Dn.all {A : List Ar} {X : List Int} {u : Int} {l : List Int} (hX : X.length = A.length) (h : Dn A X u A.length l) : ∀ v p, p ∈ A.zip X → Res p u v → v ∈ l := fun v p hp hr => by
  obtain ⟨j, hj⟩ := List.getElem?_of_mem hp
  have h1 := List.getElem?_zip_eq_some.1 hj
  have h2 := (List.getElem?_eq_some_iff.1 h1.1).1
  have e : p = (A.getD j (0, 0, 0), X.getD j 0) := by
    rw [List.getD_eq_getElem?_getD, List.getD_eq_getElem?_getD, h1.1, h1.2]; rfl
  exact h j h2 v (e ▸ hr)
/-- the way back, a step at a time -/
theorem Chn.next {s : Int} {par : Int → Int} {v : Int} {L : List Int} (h : Chn s par v L) (hv : v ≠ s) : ∃ L', L = v :: L' ∧ Chn s par (par v) L' := by
  cases L with
  | nil => exact absurd h hv
  | cons u L => obtain ⟨rfl, _, h3⟩ := h; exact ⟨L, rfl, h3⟩
theorem Chn.last {s : Int} {par : Int → Int} {L : List Int} (h : Chn s par s L) : L = [] := by
  cases L with
  | nil => rfl
  | cons u L => exact absurd rfl h.2.1
end Go.Proofs.Ytbmbddapbgnioaa
