/- A round of the search: plain mathematics. -/
import Derived.Test.YtbmbddapbgnioaaMb
namespace Go.Proofs.Ytbmbddapbgnioaa

/-- how much more goes along a way -/
def roomL (sl : Int → Int) : List Int → Int → Int
  | [], m => m
  | v :: L, m => roomL sl L (min m (sl v))
theorem roomL_le (sl : Int → Int) : ∀ (L : List Int) (m : Int), roomL sl L m ≤ m ∧ ∀ v, v ∈ L → roomL sl L m ≤ sl v
  | [], m => ⟨Int.le_refl _, by simp⟩
  | w :: L, m => by
    obtain ⟨h1, h2⟩ := roomL_le sl L (min m (sl w))
    refine ⟨Int.le_trans h1 (Int.min_le_left _ _), fun v hv => ?_⟩
    rcases List.mem_cons.1 hv with rfl | hv
    · exact Int.le_trans h1 (Int.min_le_right _ _)
    · exact h2 v hv
theorem roomL_pos (sl : Int → Int) : ∀ (L : List Int) (m : Int), 0 < m → (∀ v, v ∈ L → 0 < sl v) → 0 < roomL sl L m
  | [], _, h, _ => h
  | w :: L, m, h, hs => roomL_pos sl L _ (by have := hs w (by simp); show 0 < min m (sl w); omega) (fun v hv => hs v (by simp [hv]))
theorem Stp.slk_pos {A : List Ar} {X : List Int} {pos : Int → Nat} {idx : Int → Nat} {fw : Int → Bool} {par : Int → Int} {v : Int} (h : Stp A X pos idx fw par v) : 0 < slk A X idx fw v := by
  have := h.arc
  unfold slk
  split at this
  · rename_i h1; rw [if_pos h1]; omega
  · rename_i h1; rw [if_neg h1]; omega
/-- a search that reached the sink makes the flow greater -/
theorem BI.more {N : Nat} {s t : Int} {A : List Ar} {X by' : List Int} {sd : List Bool} {l : List Int} (h : BI N s A X by' sd l) (hst : s ≠ t) (hF : Flo N s t A X) (ht : t ∈ l) (M : Int) (hM : 0 < M) :
    ∃ L, Chn s (parB A by') t L ∧ (∀ u, u ∈ L → u ∈ l ∧ u ≠ s) ∧ L.length ≤ N ∧ 0 < roomL (slk A X (idxB by') (fwB by')) L M ∧
      Flo N s t A (sendL (idxB by') (fwB by') (roomL (slk A X (idxB by') (fwB by')) L M) L X) ∧
      surp A (sendL (idxB by') (fwB by') (roomL (slk A X (idxB by') (fwB by')) L M) L X) s = surp A X s + roomL (slk A X (idxB by') (fwB by')) L M := by
  obtain ⟨L, h1, h2, h3⟩ := h.way (l.idxOf t) t ht (Nat.le_refl _)
  have hlen := h.len
  have hlt := idxOf_lt ht
  have hp := roomL_pos (slk A X (idxB by') (fwB by')) L M hM (fun v hv => (h.stp v (h2 v hv).1 (h2 v hv).2).1.slk_pos)
  have hm := more_flow (pos := fun u => l.idxOf u) (Int.le_of_lt hp) hst hF h1 (fun u hu => ⟨(h.stp u (h2 u hu).1 (h2 u hu).2).1, (roomL_le _ L M).2 u hu⟩)
  exact ⟨L, h1, h2, by omega, hp, hm.1, hm.2⟩
/-- a search that did not reach the sink shows that the flow is greatest -/
theorem BI.isMax {N : Nat} {s t : Int} {A : List Ar} {X by' : List Int} {sd : List Bool} {l : List Int} (h : BI N s A X by' sd l) (hn : Netw N s t A) (hF : Flo N s t A X) (ht : ¬ t ∈ l) (hc : ∀ u v p, u ∈ l → p ∈ A.zip X → Res p u v → v ∈ l) :
    IsMax N s t A X (fun v => sd.getD v.toNat false) := by
  refine ⟨hF, ⟨(h.says s hn.src.1 hn.src.2).2 h.src, ?_⟩, h.done hn hc⟩
  cases e : sd.getD t.toNat false with
  | false => rfl
  | true => exact absurd ((h.says t hn.snk.1 hn.snk.2).1 e) ht
/-- the first state of a search -/
theorem BI.first {N : Nat} {s t : Int} {A : List Ar} {X : List Int} (hn : Netw N s t A) : BI N s A X (List.replicate N 0) ((List.replicate N false).set s.toNat true) [s] := by
  have hs := hn.src
  have hsn : s.toNat < N := by omega
  refine ⟨by simp, by simp, fun v hv => by simp at hv; subst hv; exact hs, fun v h0 h1 => ?_, by simp, fun v hv hne => absurd (by simpa using hv) hne, fun v hv => by simp at hv; subst hv; exact .here, ?_⟩
  · by_cases e : v = s
    · subst e; rw [getD_set_self _ _ _ _ (by simpa using hsn)]; simp
    · rw [getD_set_ne _ _ _ _ _ (fun h => e (by omega)), List.getD_eq_getElem?_getD, List.getElem?_replicate, if_pos (by omega)]; simp [e]
  · rw [List.count_set (by simpa using hsn)]
    simp [List.count_replicate]
/-- the value is bounded by all Caps together -/
theorem Flo.bound {N : Nat} {s t : Int} {A : List Ar} {X : List Int} {M : Int} (hn : Netw N s t A) (h : Flo N s t A X) (hA : ∀ a, a ∈ A → 0 ≤ a.2.2 ∧ a.2.2 ≤ M) : surp A X s ≤ A.length * M :=
  Int.le_trans (h.le_cut hn (S := fun v => decide (v = s)) ⟨by simp, by simpa using fun e => hn.ne e.symm⟩) (cut_le hA)
/-- the flow of nothing -/
theorem Flo.zero {N : Nat} {s t : Int} {A : List Ar} (hA : ∀ a, a ∈ A → 0 ≤ a.2.2) : Flo N s t A (List.replicate A.length 0) ∧ ∀ v, surp A (List.replicate A.length 0) v = 0 := by
  have h0 : ∀ (A : List Ar) (v : Int), surp A (List.replicate A.length 0) v = 0 := by
    intro A
    induction A with
    | nil => intro v; rfl
    | cons a A ih =>
      intro v
      show (if a.1 = v then (0 : Int) else 0) - (if a.2.1 = v then 0 else 0) + surp A (List.replicate A.length 0) v = 0
      rw [ih]; simp
  exact ⟨⟨(okF_iff _ _).2 ⟨by simp, fun i hi => by
    rw [List.getD_eq_getElem?_getD, List.getElem?_replicate, if_pos hi]
    exact ⟨Int.le_refl _, by rw [List.getD_eq_getElem?_getD, List.getElem?_eq_getElem hi]; exact hA _ (List.getElem_mem hi)⟩⟩, fun v _ _ _ _ => h0 A v⟩, h0 A⟩
end Go.Proofs.Ytbmbddapbgnioaa
