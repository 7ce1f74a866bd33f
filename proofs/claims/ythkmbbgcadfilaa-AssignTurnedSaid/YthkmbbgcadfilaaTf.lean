/- AssignTurned: rows grown in their cells, and costs turned. -/
import Derived.Test.YthkmbbgcadfilaaPh
import Derived.Test.YthkmbbgcadfilaaTd
namespace Go.Proofs.Ythkmbbgcadfilaa
open Go.RowKit Go.Shelf

/-- a row grown, and written back into its cell -/
theorem CpR.turn {b0 : Nat} {W W1 : World} {g cap n : Nat} {C : List (List Int)} {rvs : List Value} (h : CpR b0 W (.slice (some ⟨g, 0, none⟩) n cap) C n rvs) (hc : C.length = n) {j : Nat} (hj : j < n) {v1 : Value} {L : List Int} (hr : IBuf W1 v1 L)
    (hw : Wrote W W1 (rvs.getD j nilV) v1) (hge : b0 ≤ W.heap.size) : CpR b0 (W1.setCell ⟨g, j, none⟩ v1) (.slice (some ⟨g, 0, none⟩) n cap) (C.set j L) n (rvs.set j v1) := by
  have hgl : g < W.heap.size := owns_lt h.own g rfl
  have hs := hw.grown.size
  have hot : ∀ q, q ≠ g → (W1.setCell ⟨g, j, none⟩ v1).heap[q]? = W1.heap[q]? := fun q hq => heap_setCell_other W1 _ q _ hq
  have hold : ∀ q, q < W.heap.size → (rvs.getD j nilV).ownBlock ≠ some q → W1.heap[q]? = W.heap[q]? := fun q hq hne => hw.grown.block q hq fun e => hne e.symm
  have hg1 : ∀ i, i ≠ j → (rvs.set j v1).getD i nilV = rvs.getD i nilV := fun i hi => by simp [List.getElem?_set, Ne.symm hi]
  have hg2 : (rvs.set j v1).getD j nilV = v1 := by simp [h.len, hj]
  have hv1 : ∀ b, v1.ownBlock = some b → (rvs.getD j nilV).ownBlock = some b ∨ W.heap.size ≤ b := fun b hb => by
    rcases hw.own with e | e
    · rw [e] at hb; exact .inl hb
    · exact .inr (e b hb)
  have hv1g : ∀ b, v1.ownBlock = some b → b0 ≤ b ∧ b ≠ g := fun b hb => by
    rcases hv1 b hb with e | e
    · have := h.off j hj b e
      exact ⟨this.1, fun e2 => this.2 (by rw [e2]; rfl)⟩
    · exact ⟨by omega, by omega⟩
  refine ⟨by rw [List.length_set]; exact h.len, ?_, fun i hi => ?_, fun i hi b hb => ?_, fun i k hi hk hik b hb => ?_, h.out⟩
  · rcases h.own.2 with ⟨h0, -⟩ | ⟨g', cap', cur, e, k1, k2, k3, k4, k5, k6⟩
    · cases h0
    · injection e with e1 e2 e3
      injection e1 with e1
      injection e1 with e1 _ _
      subst e1 e3
      refine ⟨by rw [List.length_set]; exact h.own.1, .inr ⟨g, cap, cur.setIfInBounds j v1, rfl, k1, ?_, k3, k4, by simpa using k5, ?_⟩⟩
      · have h9 := (hold g hgl (fun e => (h.off j hj g e).2 rfl)).trans k2
        rw [heap_setCell_same W1 g j cur _ v1 h9]
      · rw [Array.toList_setIfInBounds, List.take_set, k6]
  · by_cases e : i = j
    · subst e
      rw [hg2, show (C.set i L).getD i [] = L by simp [hc, hj]]
      exact hr.same fun q hq => hot q (hv1g q hq).2
    · rw [hg1 i e, show (C.set j L).getD i [] = C.getD i [] by simp [List.getElem?_set, Ne.symm e]]
      refine (h.row i hi).same fun q hq => ?_
      have h1 := h.off i hi q hq
      rw [hot q (fun e2 => h1.2 (by rw [e2]; rfl))]
      exact hold q (h.lt hi q hq) (fun e2 => h.dif i j hi hj e q hq e2)
  · by_cases e : i = j
    · subst e
      rw [hg2] at hb
      exact ⟨(hv1g b hb).1, fun e2 => (hv1g b hb).2 (by injection e2 with e2; exact e2.symm)⟩
    · rw [hg1 i e] at hb
      exact h.off i hi b hb
  · by_cases e : i = j
    · subst e
      rw [hg2] at hb
      rw [hg1 k (Ne.symm hik)]
      intro e2
      rcases hv1 b hb with e3 | e3
      · exact h.dif i k hi hk hik b e3 e2
      · have := h.lt hk b e2; omega
    · rw [hg1 i e] at hb
      by_cases e4 : k = j
      · subst e4
        rw [hg2]
        intro e2
        rcases hv1 b e2 with e3 | e3
        · exact h.dif i k hi hk hik b hb e3
        · have := h.lt hi b hb; omega
      · rw [hg1 k e4]
        exact h.dif i k hi hk hik b hb
/-- the first i rows, and of row i the first j elements, turned -/
def tr (C : List (List Int)) (n i j : Nat) : List (List Int) := (List.range n).map fun q => (List.range (if q < j then i + 1 else i)).map fun p => cst C p q
theorem tr_len (C : List (List Int)) (n i j : Nat) : (tr C n i j).length = n := by unfold tr; simp
theorem tr_get {C : List (List Int)} {n i j q : Nat} (hq : q < n) : (tr C n i j).getD q [] = (List.range (if q < j then i + 1 else i)).map fun p => cst C p q := by
  unfold tr; simp [hq]
theorem tr_zero (C : List (List Int)) (n : Nat) : tr C n 0 0 = List.replicate n [] := by
  refine List.ext_getElem (by rw [tr_len]; simp) fun q h1 h2 => ?_
  have hq : q < n := by rwa [tr_len] at h1
  have := tr_get (C := C) (i := 0) (j := 0) hq
  rw [List.getD_eq_getElem?_getD, List.getElem?_eq_getElem h1] at this
  simpa using this
theorem tr_step {C : List (List Int)} {n i j : Nat} (hj : j < n) : (tr C n i j).set j ((tr C n i j).getD j [] ++ [cst C i j]) = tr C n i (j + 1) := by
  refine List.ext_getElem (by rw [List.length_set, tr_len, tr_len]) fun q h1 h2 => ?_
  have hq : q < n := by rwa [tr_len] at h2
  have g1 : ∀ k, (tr C n i k)[q]'(by rw [tr_len]; exact hq) = (List.range (if q < k then i + 1 else i)).map fun p => cst C p q := fun k => by
    have := tr_get (C := C) (i := i) (j := k) hq
    rw [List.getD_eq_getElem?_getD, List.getElem?_eq_getElem (by rw [tr_len]; exact hq)] at this
    simpa using this
  rw [List.getElem_set, g1, g1, tr_get hj]
  by_cases e : j = q
  · subst e
    rw [if_pos rfl, if_neg (Nat.lt_irrefl _), if_pos (by omega), List.range_succ, List.map_append]
    rfl
  · rw [if_neg e]
    by_cases e2 : q < j
    · rw [if_pos e2, if_pos (by omega)]
    · rw [if_neg e2, if_neg (by omega)]
theorem tr_next (C : List (List Int)) (n i : Nat) : tr C n i n = tr C n (i + 1) 0 := by
  refine List.ext_getElem (by rw [tr_len, tr_len]) fun q h1 h2 => ?_
  have hq : q < n := by rwa [tr_len] at h2
  have g1 : ∀ i k, (tr C n i k)[q]'(by rw [tr_len]; exact hq) = (List.range (if q < k then i + 1 else i)).map fun p => cst C p q := fun i k => by
    have := tr_get (C := C) (i := i) (j := k) hq
    rw [List.getD_eq_getElem?_getD, List.getElem?_eq_getElem (by rw [tr_len]; exact hq)] at this
    simpa using this
  rw [g1, g1, if_pos hq, if_neg (by omega)]
theorem tr_cst {C : List (List Int)} {n q p : Nat} (hq : q < n) (hp : p < n) : cst (tr C n n 0) q p = cst C p q := by
  show ((tr C n n 0).getD q []).getD p (-1) = _
  rw [tr_get hq, if_neg (by omega)]
  simp [hp]
theorem tr_mat {C : List (List Int)} {n : Nat} (hM : Mat C n n) : Mat (tr C n n 0) n n :=
  ⟨tr_len .., hM.n16, hM.n16, fun i hi => by rw [tr_get hi, if_neg (by omega)]; simp, fun i j hi hj => by rw [tr_cst hi hj]; exact hM.el j i hj hi⟩
/-- an injection of n numbers is onto -/
theorem inj_onto {n : Nat} {t : Nat → Nat} (h : Inj n n t) {j : Nat} (hj : j < n) : ∃ i, i < n ∧ t i = j := by
  apply Classical.byContradiction
  intro hno
  have h1 : (j :: (List.range n).map t).Nodup := by
    rw [List.nodup_cons]
    refine ⟨fun hm => ?_, nodup_map List.nodup_range (fun i k hi hk => h.2 i k (List.mem_range.1 hi) (List.mem_range.1 hk))⟩
    obtain ⟨i, hi, e⟩ := List.mem_map.1 hm
    exact hno ⟨i, List.mem_range.1 hi, e⟩
  have h2 := nodup_le h1 (S := List.range n) (fun x hx => by
    rcases List.mem_cons.1 hx with rfl | hx
    · exact List.mem_range.2 hj
    · obtain ⟨i, hi, rfl⟩ := List.mem_map.1 hx
      exact List.mem_range.2 (h.1 i (List.mem_range.1 hi)))
  simp at h2
  omega
theorem inj_inv {n : Nat} {t : Nat → Nat} (h : Inj n n t) : ∃ s, Inj n n s ∧ (∀ j, j < n → t (s j) = j) ∧ ∀ i, i < n → s (t i) = i := by
  have hch : ∀ j, ∃ i, j < n → i < n ∧ t i = j := fun j => by
    by_cases hj : j < n
    · obtain ⟨i, hi⟩ := inj_onto h hj
      exact ⟨i, fun _ => hi⟩
    · exact ⟨0, fun h => absurd h hj⟩
  refine ⟨fun j => Classical.choose (hch j), ⟨fun j hj => (Classical.choose_spec (hch j) hj).1, fun i k hi hk e => ?_⟩, fun j hj => (Classical.choose_spec (hch j) hj).2, fun i hi => ?_⟩
  · have h1 := (Classical.choose_spec (hch i) hi).2
    have h2 := (Classical.choose_spec (hch k) hk).2
    have e' : Classical.choose (hch i) = Classical.choose (hch k) := e
    rw [e'] at h1
    exact h1.symm.trans h2
  · have h1 := Classical.choose_spec (hch (t i)) (h.1 i hi)
    exact h.2 _ _ h1.1 hi h1.2
theorem sm_perm {n : Nat} {s t : Nat → Nat} (hs : Inj n n s) (ht : Inj n n t) (h : ∀ i, i < n → s (t i) = i) (f : Nat → Int) (B : Int) (hf : ∀ i, i < n → f i ≤ B) : sm n (fun j => f (s j)) = sm n f := by
  have hsub : ∀ (N : Nat) (g : Nat → Int), sm N (fun i => g i - B) = sm N g - N * B := fun N g => by
    induction N with
    | zero => simp [sm]
    | succ N ih =>
      show sm N (fun i => g i - B) + (g N - B) = sm N g + g N - _
      rw [ih]
      have : ((N + 1 : Nat) : Int) * B = N * B + B := by rw [Int.natCast_succ, Int.add_mul, Int.one_mul]
      omega
  have h1 := sm_inj (v := fun i => f i - B) hs (fun j hj => by have := hf j hj; omega)
  have h2 := sm_inj (v := fun i => f (s i) - B) ht (fun j hj => by have := hf (s j) (hs.1 j hj); omega)
  rw [hsub n f, hsub n (fun i => f (s i))] at h1
  rw [hsub n (fun i => f (s i)), hsub n (fun i => f (s (t i))), sm_congr (f := fun i => f (s (t i))) (g := f) (fun i hi => by rw [h i hi])] at h2
  omega
theorem asg_turn {n : Nat} {c c' : Nat → Nat → Int} (h : ∀ i j, i < n → j < n → c' j i = c i j) {B : Int} (hB : ∀ i j, i < n → j < n → c i j ≤ B) {t : Nat → Nat} (ha : Asg n n c t) : ∃ s, Asg n n c' s ∧ costOf n c' s = costOf n c t := by
  obtain ⟨s, h1, h2, h3⟩ := inj_inv ha.inj
  refine ⟨s, ⟨h1, fun j hj => ?_⟩, ?_⟩
  · rw [h (s j) j (h1.1 j hj) hj]
    have := ha.may (s j) (h1.1 j hj)
    rwa [h2 j hj] at this
  · unfold costOf
    rw [← sm_perm h1 ha.inj h3 (fun i => c i (t i)) B (fun i hi => hB i (t i) hi (ha.inj.1 i hi))]
    exact sm_congr fun j hj => by rw [h (s j) j (h1.1 j hj) hj, h2 j hj]
/-- the best of both, and whether the turned ones are denied -/
theorem best_turn {C : List (List Int)} {n : Nat} {v v' vd : Value} {c c' : Int} {ok ok' okd : Bool} {w w' wd : World} (hA : Mat C n n) (hn : 0 < n) (hb : BestP C v c ok w) (hb' : BestP (tr C n n 0) v' c' ok' w') (hd : DenP (tr C n n 0) vd okd wd) :
    ok' = ok ∧ c' = c ∧ okd = !ok := by
  have hB := tr_mat hA
  have h0 := mat_chk hA hn
  have h0' := mat_chk hB hn
  have hup : ∀ i j, i < n → j < n → cst C i j ≤ 1073741824 := fun i j hi hj => (hA.el i j hi hj).2
  have hup' : ∀ i j, i < n → j < n → cst (tr C n n 0) i j ≤ 1073741824 := fun i j hi hj => (hB.el i j hi hj).2
  have e1 : ∀ i j, i < n → j < n → cst (tr C n n 0) j i = cst C i j := fun i j hi hj => tr_cst hj hi
  have e2 : ∀ i j, i < n → j < n → cst C j i = cst (tr C n n 0) i j := fun i j hi hj => (tr_cst hi hj).symm
  unfold BestP at hb hb'
  unfold DenP at hd
  rw [mat_cols hA hn, hA.len] at hb
  rw [mat_cols hB hn, hB.len] at hb' hd
  rcases hb with ⟨rfl, -, p, -, -, b3⟩ | ⟨rfl, rfl, rfl, b1⟩
  · obtain ⟨s, hs, hsc⟩ := asg_turn e1 hup b3.bst.1
    have hdd : okd = false := by
      rcases hd with ⟨-, -, l, -, d1, -, d2, -⟩ | ⟨d1, -, -⟩
      · exact absurd hs ((crF_crowd d1 d2).none _)
      · exact d1
    rcases hb' with ⟨rfl, -, q, -, -, d3⟩ | ⟨-, -, -, d1⟩
    · obtain ⟨s2, hs2, hsc2⟩ := asg_turn e2 hup' d3.bst.1
      have h1 := d3.all s hs
      have h2 := b3.all s2 hs2
      rw [hsc, b3.bst.2] at h1
      rw [hsc2, d3.bst.2] at h2
      exact ⟨rfl, by omega, hdd⟩
    · obtain ⟨R, S, hc⟩ := d1 h0'
      exact absurd hs (hc.none _)
  · obtain ⟨R, S, hc⟩ := b1 h0
    rcases hb' with ⟨rfl, -, q, -, -, d3⟩ | ⟨rfl, -, rfl, d1⟩
    · obtain ⟨s2, hs2, -⟩ := asg_turn e2 hup' d3.bst.1
      exact absurd hs2 (hc.none _)
    · refine ⟨rfl, rfl, ?_⟩
      rcases hd with ⟨rfl, -⟩ | ⟨-, -, d4⟩
      · rfl
      · obtain ⟨R2, S2, hc2⟩ := d1 h0'
        obtain ⟨l, l1, l2, l3⟩ := crowd_crF hc2
        exact absurd l3 (d4 h0' l l1 l2)
end Go.Proofs.Ythkmbbgcadfilaa
