/- The vertices that are reached, level by level: plain mathematics. -/
import Derived.Test.YtbmbddapbgnioaaMa
namespace Go.Proofs.Ytbmbddapbgnioaa

theorem closed_reach {A : List Ar} {X : List Int} {s : Int} {S : Int → Prop} (hs : S s) (hc : ∀ u v p, S u → p ∈ A.zip X → Res p u v → S v) {v : Int} (h : Reach A X s v) : S v := by
  induction h with
  | here => exact hs
  | step _ hp hr ih => exact hc _ _ _ ih hp hr
def byB (by' : List Int) (v : Int) : Int := by'.getD v.toNat 0
def idxB (by' : List Int) (v : Int) : Nat := if 0 < byB by' v then (byB by' v - 1).toNat else (-byB by' v - 1).toNat
def fwB (by' : List Int) (v : Int) : Bool := decide (0 < byB by' v)
def parB (A : List Ar) (by' : List Int) (v : Int) : Int := if 0 < byB by' v then (A.getD (idxB by' v) (0, 0, 0)).1 else (A.getD (idxB by' v) (0, 0, 0)).2.1
structure BI (N : Nat) (s : Int) (A : List Ar) (X : List Int) (by' : List Int) (sd : List Bool) (l : List Int) : Prop where
  lb : by'.length = N
  ls : sd.length = N
  inn : ∀ v, v ∈ l → 0 ≤ v ∧ v < N
  says : ∀ v : Int, 0 ≤ v → v < N → (sd.getD v.toNat false = true ↔ v ∈ l)
  src : s ∈ l
  stp : ∀ v, v ∈ l → v ≠ s → Stp A X (fun u => l.idxOf u) (idxB by') (fwB by') (parB A by') v ∧ parB A by' v ∈ l
  rch : ∀ v, v ∈ l → Reach A X s v
  cnt : sd.count true = l.length
theorem BI.len {N : Nat} {s : Int} {A : List Ar} {X by' : List Int} {sd : List Bool} {l : List Int} (h : BI N s A X by' sd l) : l.length ≤ N := by
  rw [← h.cnt, ← h.ls]; exact List.count_le_length
theorem getD_set_ne {α : Type} (l : List α) (i j : Nat) (x d : α) (h : i ≠ j) : (l.set i x).getD j d = l.getD j d := by
  rw [List.getD_eq_getElem?_getD, List.getElem?_set_ne h, ← List.getD_eq_getElem?_getD]
theorem getD_set_self {α : Type} (l : List α) (i : Nat) (x d : α) (h : i < l.length) : (l.set i x).getD i d = x := by
  rw [List.getD_eq_getElem?_getD, List.getElem?_set_self h, Option.getD_some]
theorem idxOf_app {l : List Int} {u v : Int} (h : u ∈ l) : (l ++ [v]).idxOf u = l.idxOf u := by
  induction l with
  | nil => simp at h
  | cons a l ih =>
    rw [List.cons_append, List.idxOf_cons, List.idxOf_cons]
    by_cases h1 : a = u
    · simp [h1]
    · have h2 : u ∈ l := by rcases List.mem_cons.1 h with h3 | h3; exact absurd h3.symm h1; exact h3
      simp [h1, ih h2]
theorem idxOf_lt {l : List Int} {u : Int} (h : u ∈ l) : l.idxOf u < l.length := List.idxOf_lt_length_of_mem h
theorem idxOf_new {l : List Int} {v : Int} (h : ¬ v ∈ l) : (l ++ [v]).idxOf v = l.length := by
  induction l with
  | nil => simp
  | cons a l ih =>
    rw [List.cons_append, List.idxOf_cons]
    have h1 : ¬ a = v := fun e => h (by simp [e])
    have h2 : ¬ v ∈ l := fun e => h (by simp [e])
    have h3 : (a == v) = false := by simpa using h1
    simp [h3, ih h2]
theorem zip_mem {A : List Ar} {X : List Int} {i : Nat} (h1 : i < A.length) (h2 : X.length = A.length) : (A.getD i (0, 0, 0), X.getD i 0) ∈ A.zip X := by
  have h3 : i < X.length := by omega
  rw [List.getD_eq_getElem?_getD, List.getElem?_eq_getElem h1, List.getD_eq_getElem?_getD, List.getElem?_eq_getElem h3]
  have h4 : (A.zip X)[i]? = some (A[i], X[i]) := by rw [List.getElem?_zip_eq_some]; exact ⟨List.getElem?_eq_getElem h1, List.getElem?_eq_getElem h3⟩
  exact List.mem_of_getElem? h4
/-- a vertex more -/
theorem BI.add {N : Nat} {s : Int} {A : List Ar} {X by' : List Int} {sd : List Bool} {l : List Int} (h : BI N s A X by' sd l) (hX : X.length = A.length) {u v b : Int} {i : Nat} (hi : i < A.length) (hu : u ∈ l) (hv : 0 ≤ v ∧ v < N) (hn : ¬ v ∈ l)
    (hb : (b = (i : Int) + 1 ∧ (A.getD i (0, 0, 0)).1 = u ∧ (A.getD i (0, 0, 0)).2.1 = v ∧ X.getD i 0 < (A.getD i (0, 0, 0)).2.2) ∨ (b = -(i : Int) - 1 ∧ (A.getD i (0, 0, 0)).2.1 = u ∧ (A.getD i (0, 0, 0)).1 = v ∧ 0 < X.getD i 0)) :
    BI N s A X (by'.set v.toNat b) (sd.set v.toNat true) (l ++ [v]) := by
  have hvn : v.toNat < N := by omega
  have hother : ∀ w, w ∈ l → byB (by'.set v.toNat b) w = byB by' w := fun w hw => by
    unfold byB
    have := h.inn w hw
    exact getD_set_ne _ _ _ _ _ (fun e => hn (by rw [show v = w by omega]; exact hw))
  have hself : byB (by'.set v.toNat b) v = b := by unfold byB; exact getD_set_self _ _ _ _ (by rw [h.lb]; exact hvn)
  have hidx : idxB (by'.set v.toNat b) v = i := by
    unfold idxB; rw [hself]
    rcases hb with ⟨rfl, _⟩ | ⟨rfl, _⟩
    · rw [if_pos (by omega)]; omega
    · rw [if_neg (by omega)]; omega
  have hoidx : ∀ w, w ∈ l → idxB (by'.set v.toNat b) w = idxB by' w := fun w hw => by unfold idxB; rw [hother w hw]
  refine ⟨by simp [h.lb], by simp [h.ls], fun w hw => ?_, fun w h0 h1 => ?_, by simp [h.src], fun w hw hws => ?_, fun w hw => ?_, ?_⟩
  · rcases List.mem_append.1 hw with hw | hw
    · exact h.inn w hw
    · simp at hw; subst hw; exact hv
  · by_cases hwv : w = v
    · subst hwv
      rw [getD_set_self _ _ _ _ (by rw [h.ls]; exact hvn)]; simp
    · rw [getD_set_ne _ _ _ _ _ (fun e => hwv (by omega)), h.says w h0 h1]; simp [hwv]
  · rcases List.mem_append.1 hw with hw | hw
    · obtain ⟨⟨q1, q2, q3⟩, q4⟩ := h.stp w hw hws
      have hp : parB A (by'.set v.toNat b) w = parB A by' w := by unfold parB; rw [hother w hw, hoidx w hw]
      have hf : fwB (by'.set v.toNat b) w = fwB by' w := by unfold fwB; rw [hother w hw]
      refine ⟨⟨by rw [hoidx w hw]; exact q1, by rw [hoidx w hw, hp, hf]; exact q2, ?_⟩, by rw [hp]; simp [q4]⟩
      show (l ++ [v]).idxOf _ < (l ++ [v]).idxOf w
      rw [hp, idxOf_app q4, idxOf_app hw]
      exact q3
    · simp at hw; subst hw
      have hp : parB A (by'.set w.toNat b) w = u := by
        unfold parB; rw [hself, hidx]
        rcases hb with ⟨rfl, q1, _⟩ | ⟨rfl, q1, _⟩
        · rw [if_pos (by omega)]; exact q1
        · rw [if_neg (by omega)]; exact q1
      refine ⟨⟨by rw [hidx]; exact hi, ?_, ?_⟩, by rw [hp]; simp [hu]⟩
      · rw [hidx, hp]
        unfold fwB; rw [hself]
        rcases hb with ⟨rfl, q1, q2, q3⟩ | ⟨rfl, q1, q2, q3⟩
        · rw [if_pos (by simp <;> omega)]; exact ⟨q1, q2, q3⟩
        · rw [if_neg (by simp <;> omega)]; exact ⟨q2, q1, q3⟩
      · show (l ++ [w]).idxOf _ < (l ++ [w]).idxOf w
        rw [hp, idxOf_app hu, idxOf_new hn]
        exact idxOf_lt hu
  · rcases List.mem_append.1 hw with hw | hw
    · exact h.rch w hw
    · simp at hw; subst hw
      refine (h.rch u hu).step (zip_mem hi hX) ?_
      rcases hb with ⟨_, q1, q2, q3⟩ | ⟨_, q1, q2, q3⟩
      · exact .inl ⟨q1, q2, q3⟩
      · exact .inr ⟨q1, q2, q3⟩
  · have hlt : v.toNat < sd.length := by rw [h.ls]; exact hvn
    have hf : sd[v.toNat] = false := by
      have := h.says v hv.1 hv.2
      cases e : sd[v.toNat] with
      | false => rfl
      | true => exact absurd (this.1 (by rw [List.getD_eq_getElem?_getD, List.getElem?_eq_getElem hlt, e]; rfl)) hn
    rw [List.count_set hlt, hf, h.cnt]
    simp
/-- the way back from a vertex that was reached -/
theorem BI.way {N : Nat} {s : Int} {A : List Ar} {X by' : List Int} {sd : List Bool} {l : List Int} (h : BI N s A X by' sd l) :
    ∀ (f : Nat) (v : Int), v ∈ l → l.idxOf v ≤ f → ∃ L, Chn s (parB A by') v L ∧ (∀ u, u ∈ L → u ∈ l ∧ u ≠ s) ∧ L.length ≤ f
  | f, v, hv, hf => by
    by_cases e : v = s
    · exact ⟨[], e, by simp, by simp⟩
    · obtain ⟨q1, q2⟩ := h.stp v hv e
      have hp := q1.pos
      match f with
      | 0 => exact absurd hp (by show ¬ l.idxOf _ < l.idxOf v; omega)
      | f + 1 =>
        obtain ⟨L, k1, k2, k3⟩ := BI.way h f (parB A by' v) q2 (by have : l.idxOf (parB A by' v) < l.idxOf v := hp; omega)
        refine ⟨v :: L, ⟨rfl, e, k1⟩, fun u hu => ?_, by simp; omega⟩
        rcases List.mem_cons.1 hu with rfl | hu
        · exact ⟨hv, e⟩
        · exact k2 u hu
/-- when every step has been looked at, what is reached is known -/
theorem BI.done {N : Nat} {s t : Int} {A : List Ar} {X by' : List Int} {sd : List Bool} {l : List Int} (h : BI N s A X by' sd l) (hn : Netw N s t A) (hc : ∀ u v p, u ∈ l → p ∈ A.zip X → Res p u v → v ∈ l) : ∀ v : Int, 0 ≤ v → v < N → (sd.getD v.toNat false = true ↔ Reach A X s v) := by
  intro v h0 h1
  rw [h.says v h0 h1]
  exact ⟨h.rch v, fun hr => closed_reach (S := fun v => v ∈ l) h.src (fun u v p => hc u v p) hr⟩
end Go.Proofs.Ytbmbddapbgnioaa
