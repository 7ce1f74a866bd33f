/- AssignShift: what a number added to a row does. -/
import Derived.Test.YthkmbbgcadfilaaTb
namespace Go.Proofs.Ythkmbbgcadfilaa
open Go.RowKit Go.Shelf

theorem mat_chk {C : List (List Int)} {n m : Nat} (hM : Mat C n m) (hn : 0 < n) : chkE C = 0 := by
  have hcol := mat_cols hM hn
  have hlen := hM.len
  have hn16 := hM.n16
  have hm16 := hM.m16
  refine chk_good ?_ fun i hi => ?_
  · unfold smallB smallR
    rw [Bool.and_eq_true]
    refine ⟨decide_eq_true (by omega), all_upto (k := n) (d := []) (by omega) fun i hi => decide_eq_true (by rw [hM.row i hi]; exact hm16)⟩
  · unfold rowB
    rw [Bool.and_eq_true, hcol]
    refine ⟨decide_eq_true (hM.row i (by omega)), all_upto (k := m) (d := 0) (by rw [hM.row i (by omega)]; exact Nat.le_refl _) fun j hj => ?_⟩
    unfold elB
    rw [getDD hM (by omega) hj]
    exact decide_eq_true (hM.el i j (by omega) hj)
/-- more on all permitted elements of row k -/
def Sh (n m : Nat) (c c' : Nat → Nat → Int) (k : Nat) (M : Int) : Prop := ∀ i j, i < n → j < m → c' i j = if i = k ∧ c i j ≠ -1 then c i j + M else c i j
theorem Sh.may {n m : Nat} {c c' : Nat → Nat → Int} {k : Nat} {M : Int} (h : Sh n m c c' k M) (hM : 0 ≤ M) (hel : ∀ i j, i < n → j < m → -1 ≤ c i j) {i j : Nat} (hi : i < n) (hj : j < m) : c' i j = -1 ↔ c i j = -1 := by
  have := hel i j hi hj
  rw [h i j hi hj]
  split <;> omega
theorem Sh.cost {n m : Nat} {c c' : Nat → Nat → Int} {k : Nat} {M : Int} (h : Sh n m c c' k M) {t : Nat → Nat} (ha : Asg n m c t) : ∀ N, N ≤ n → costOf N c' t = costOf N c t + if k < N then M else 0
  | 0, _ => by simp [costOf, sm]
  | N + 1, hN => by
    have ih := Sh.cost h ha N (by omega)
    show costOf N c' t + c' N (t N) = costOf N c t + c N (t N) + _
    rw [ih, h N (t N) (by omega) (ha.inj.1 N (by omega))]
    have hmy := ha.may N (by omega)
    by_cases e : N = k
    · subst e
      have e1 : (if N = N ∧ c N (t N) ≠ -1 then c N (t N) + M else c N (t N)) = c N (t N) + M := if_pos ⟨rfl, hmy⟩
      have e2 : (if N < N then M else (0 : Int)) = 0 := if_neg (by omega)
      have e3 : (if N < N + 1 then M else (0 : Int)) = M := if_pos (by omega)
      rw [e1, e2, e3]; omega
    · have e1 : (if N = k ∧ c N (t N) ≠ -1 then c N (t N) + M else c N (t N)) = c N (t N) := if_neg (fun h => e h.1)
      have e2 : (if k < N + 1 then M else (0 : Int)) = if k < N then M else 0 := by
        by_cases e2 : k < N
        · rw [if_pos e2, if_pos (by omega)]
        · rw [if_neg e2, if_neg (by omega)]
      rw [e1, e2]; omega
theorem asg_may {n m : Nat} {c c' : Nat → Nat → Int} (h : ∀ i j, i < n → j < m → (c' i j = -1 ↔ c i j = -1)) {t : Nat → Nat} : Asg n m c t ↔ Asg n m c' t :=
  ⟨fun ha => ⟨ha.inj, fun i hi e => ha.may i hi ((h i (t i) hi (ha.inj.1 i hi)).1 e)⟩, fun ha => ⟨ha.inj, fun i hi e => ha.may i hi ((h i (t i) hi (ha.inj.1 i hi)).2 e)⟩⟩
theorem Sh.lx {n m : Nat} {c c' : Nat → Nat → Int} {k : Nat} {M : Int} (h : Sh n m c c' k M) (hM : 0 ≤ M) (hel : ∀ i j, i < n → j < m → -1 ≤ c i j) (hk : k < n) {K : Int} {p : Nat → Nat} (hl : Lx n m c K p) : Lx n m c' (K + M) p := by
  have hA := fun t => asg_may (t := t) (fun i j hi hj => h.may hM hel hi hj)
  have hC : ∀ t, Asg n m c t → costOf n c' t = costOf n c t + M := fun t ht => by rw [h.cost ht n (Nat.le_refl _), if_pos hk]
  refine ⟨⟨(hA p).1 hl.bst.1, by rw [hC p hl.bst.1, hl.bst.2]⟩, fun t ht => ?_, fun i hi t ht hp => ?_⟩
  · have h1 := (hA t).2 ht
    rw [hC t h1]
    have := hl.all t h1
    omega
  · have h1 := (hA t).2 ht.1
    have h2 := ht.2
    rw [hC t h1] at h2
    exact hl.first i hi t ⟨h1, by omega⟩ hp
theorem crowd_may {n m : Nat} {c c' : Nat → Nat → Int} (h : ∀ i j, i < n → j < m → (c' i j = -1 ↔ c i j = -1)) {R S : List Nat} (hc : Crowd n m c R S) : Crowd n m c' R S :=
  ⟨hc.rows, hc.nodup, fun i j hi hj hn => hc.cols i j hi hj fun e => hn ((h i j (hc.rows i hi) hj).2 e), hc.few⟩
theorem gN_ext {p q : List Nat} (h : p.length = q.length) (he : ∀ i, i < p.length → gN p i = gN q i) : p = q := by
  refine List.ext_getElem h fun i h1 h2 => ?_
  have := he i h1
  unfold gN at this
  simpa [h1, h2] using this
theorem lx_i64 {C : List (List Int)} {n m : Nat} {K : Int} {p : List Nat} (hm : m ≤ 16) (hl : p.length = n) (h : Lx n m (cst C) K (gN p)) : ∀ x, x ∈ ofN p → I64 x := fun x hx => by
  obtain ⟨y, hy, rfl⟩ := List.mem_map.1 hx
  obtain ⟨k, hk, rfl⟩ := List.getElem_of_mem hy
  have h1 := h.bst.1.inj.1 k (by omega)
  unfold gN at h1
  rw [List.getD_eq_getElem?_getD, List.getElem?_eq_getElem hk, Option.getD_some] at h1
  exact ⟨by omega, by omega⟩
theorem lx_cost {C : List (List Int)} {n m : Nat} {K : Int} {p : Nat → Nat} (hM : Mat C n m) (h : Lx n m (cst C) K p) : 0 ≤ K ∧ K ≤ 17179869184 := by
  have h2 : ∀ i, i < n → 0 ≤ cst C i (p i) ∧ cst C i (p i) ≤ 1073741824 := fun i hi => by
    have h3 := hM.el i (p i) hi (h.bst.1.inj.1 i hi)
    have h4 := h.bst.1.may i hi
    omega
  have h5 := sm_below (n := n) (f := fun i => cst C i (p i)) (b := 0) (fun i hi => (h2 i hi).1)
  have h6 := sm_bound (n := n) (f := fun i => cst C i (p i)) (b := 1073741824) (fun i hi => (h2 i hi).2)
  have h7 := h.bst.2
  have h8 := hM.n16
  unfold costOf at h7
  rw [h7] at h5 h6
  have h9 : (n : Int) * 1073741824 ≤ 16 * 1073741824 := by omega
  exact ⟨by simpa using h5, by omega⟩
/-- the best of both costs -/
theorem best_shift {C C' : List (List Int)} {n m k : Nat} {M : Int} {v v' : Value} {c c' : Int} {ok ok' : Bool} {w w' : World} (hA : Mat C n m) (hB : Mat C' n m) (hn : 0 < n) (hk : k < n) (hM : 0 ≤ M) (h : Sh n m (cst C) (cst C') k M) (hb : BestP C v c ok w) (hb' : BestP C' v' c' ok' w') :
    ∃ X, IBuf w v X ∧ IBuf w' v' X ∧ (∀ x, x ∈ X → I64 x) ∧ ok' = ok ∧ (ok = true → c' = c + M ∧ 0 ≤ c ∧ c ≤ 17179869184) := by
  have h0 := mat_chk hA hn
  have h0' := mat_chk hB hn
  have hcol := mat_cols hA hn
  have hcol' := mat_cols hB hn
  have hel : ∀ i j, i < n → j < m → -1 ≤ cst C i j := fun i j hi hj => (hA.el i j hi hj).1
  have hmy := fun i j hi hj => h.may hM hel (i := i) (j := j) hi hj
  unfold BestP at hb hb'
  rw [hcol, hA.len] at hb
  rw [hcol', hB.len] at hb'
  rcases hb with ⟨rfl, -, p, b1, b2, b3⟩ | ⟨rfl, rfl, rfl, b1⟩
  · rcases hb' with ⟨rfl, -, q, d1, d2, d3⟩ | ⟨rfl, -, -, d1⟩
    · have b4 := h.lx hM hel hk b3
      have e : p = q := gN_ext (by omega) fun i hi => b4.unique d3 n (Nat.le_refl _) i (by omega)
      subst e
      exact ⟨ofN p, b1, d1, lx_i64 hA.m16 b2 b3, rfl, fun _ => ⟨(b4.same d3).symm, lx_cost hA b3⟩⟩
    · obtain ⟨R, S, hc⟩ := d1 h0'
      exact absurd b3.bst.1 ((crowd_may (fun i j hi hj => (hmy i j hi hj).symm) hc).none _)
  · rcases hb' with ⟨rfl, -, q, d1, d2, d3⟩ | ⟨rfl, rfl, rfl, d1⟩
    · obtain ⟨R, S, hc⟩ := b1 h0
      exact absurd d3.bst.1 ((crowd_may hmy hc).none _)
    · exact ⟨[], ibuf_nil w, ibuf_nil w', fun x hx => (by cases hx), rfl, fun h => (by cases h)⟩
/-- the first j elements of a row with more on those that are permitted -/
def shf (M : Int) (L : List Int) (j : Nat) : List Int := L.mapIdx fun q c => if q < j ∧ 0 ≤ c then c + M else c
theorem shf_len (M : Int) (L : List Int) (j : Nat) : (shf M L j).length = L.length := by unfold shf; simp
theorem shf_at {M : Int} {L : List Int} {j i : Nat} (h : i < (shf M L j).length) (hi : i < L.length) : (shf M L j)[i] = if i < j ∧ 0 ≤ L[i] then L[i] + M else L[i] := by
  simp [shf]
theorem shf_get {M : Int} {L : List Int} {j q : Nat} (d : Int) (hq : q < L.length) : (shf M L j).getD q d = if q < j ∧ 0 ≤ L.getD q 0 then L.getD q 0 + M else L.getD q 0 := by
  unfold shf
  simp [List.getD_eq_getElem?_getD, hq]
theorem shf_zero (M : Int) (L : List Int) : shf M L 0 = L := by
  refine List.ext_getElem (shf_len ..) fun i h1 h2 => ?_
  unfold shf; simp
theorem shf_skip {M : Int} {L : List Int} {j : Nat} (h : ¬ 0 ≤ L.getD j 0) : shf M L (j + 1) = shf M L j := by
  refine List.ext_getElem (by rw [shf_len, shf_len]) fun i h1 h2 => ?_
  have hi : i < L.length := by rwa [shf_len] at h1
  rw [shf_at h1 hi, shf_at h2 hi]
  by_cases e : i = j
  · subst e
    rw [show L.getD i 0 = L[i] by simp [hi]] at h
    rw [if_neg (fun k => h k.2), if_neg (fun k => h k.2)]
  · by_cases e2 : i < j ∧ 0 ≤ L[i]
    · rw [if_pos ⟨by omega, e2.2⟩, if_pos e2]
    · rw [if_neg (fun k => e2 ⟨by omega, k.2⟩), if_neg e2]
theorem shf_put {M : Int} {L : List Int} {j : Nat} (hj : j < L.length) (h : 0 ≤ L.getD j 0) : (shf M L j).set j (L.getD j 0 + M) = shf M L (j + 1) := by
  refine List.ext_getElem (by rw [List.length_set, shf_len, shf_len]) fun i h1 h2 => ?_
  have hi : i < L.length := by rwa [shf_len] at h2
  have e0 : L.getD i 0 = L[i] := by simp [hi]
  rw [List.getElem_set, shf_at h2 hi]
  by_cases e : j = i
  · subst e
    rw [e0] at h
    rw [if_pos rfl, if_pos ⟨by omega, h⟩, e0]
  · rw [if_neg e, shf_at (by rw [shf_len]; exact hi) hi]
    by_cases e2 : i < j ∧ 0 ≤ L[i]
    · rw [if_pos e2, if_pos ⟨by omega, e2.2⟩]
    · rw [if_neg e2, if_neg (fun k => e2 ⟨by omega, k.2⟩)]
theorem shf_end {C : List (List Int)} {n m k : Nat} {M : Int} (hA : Mat C n m) (hk : k < n) (hM : 0 ≤ M) (hb : ∀ j, j < m → cst C k j ≤ 1073741824 - M) :
    Mat (C.set k (shf M (C.getD k []) m)) n m ∧ Sh n m (cst C) (cst (C.set k (shf M (C.getD k []) m))) k M := by
  have hL := hA.len
  have hrow : ∀ i, (C.set k (shf M (C.getD k []) m)).getD i [] = if i = k then shf M (C.getD k []) m else C.getD i [] := fun i => by
    by_cases e : i = k
    · subst e; simp [hL, hk]
    · rw [if_neg e]; simp [List.getElem?_set, Ne.symm e]
  have hS : Sh n m (cst C) (cst (C.set k (shf M (C.getD k []) m))) k M := fun i j hi hj => by
    unfold cst
    rw [hrow i]
    by_cases e : i = k
    · subst e
      have h1 := hA.el i j hi hj
      have h2 := getDD hA hi hj
      rw [if_pos rfl, shf_get (-1) (by rw [hA.row i hi]; exact hj), h2]
      unfold cst at h1 ⊢
      by_cases h3 : (C.getD i []).getD j (-1) = -1
      · rw [if_neg (by omega), if_neg (fun h => h.2 h3)]
      · rw [if_pos ⟨hj, by omega⟩, if_pos ⟨rfl, h3⟩]
    · rw [if_neg e, if_neg (fun h => e h.1)]
  refine ⟨⟨by rw [List.length_set]; exact hL, hA.n16, hA.m16, fun i hi => ?_, fun i j hi hj => ?_⟩, hS⟩
  · rw [hrow i]
    split
    · rw [shf_len]; exact hA.row k hk
    · exact hA.row i hi
  · rw [hS i j hi hj]
    have h1 := hA.el i j hi hj
    split
    · rename_i h
      obtain ⟨rfl, h⟩ := h
      have := hb j hj
      omega
    · exact h1
end Go.Proofs.Ythkmbbgcadfilaa
