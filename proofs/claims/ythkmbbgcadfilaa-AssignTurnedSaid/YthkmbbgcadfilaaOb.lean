/- takes: can a row have a column, and the rest still cost the least? Memory and mathematics. -/
import Derived.Test.YthkmbbgcadfilaaOa
namespace Go.Proofs.Ythkmbbgcadfilaa
open Go.RowKit Go.Shelf

def oneL (m j : Nat) (x : Int) : List Int := (List.replicate m (-1)).set j x
def onlyL (C : List (List Int)) (m i j : Nat) : List (List Int) := C.set i (oneL m j (cst C i j))
theorem onlyL_cst {C : List (List Int)} {n m i j : Nat} (hM : Mat C n m) (hi : i < n) (hj : j < m) : ∀ i' j', i' < n → j' < m → cst (onlyL C m i j) i' j' = only (cst C) i j i' j' := by
  intro i' j' hi' hj'
  have hl := hM.len
  unfold only
  by_cases e : i' = i
  · subst e
    rw [if_pos rfl]
    show ((C.set i' (oneL m j (cst C i' j))).getD i' []).getD j' (-1) = _
    have e2 : (C.set i' (oneL m j (cst C i' j))).getD i' [] = oneL m j (cst C i' j) := by
      rw [List.getD_eq_getElem?_getD, List.getElem?_set_self (by omega)]; rfl
    rw [e2]
    unfold oneL
    by_cases e3 : j' = j
    · subst e3
      rw [if_pos rfl, List.getD_eq_getElem?_getD, List.getElem?_set_self (by simp; omega)]; rfl
    · rw [if_neg e3, List.getD_eq_getElem?_getD, List.getElem?_set_ne (Ne.symm e3), List.getElem?_replicate, if_pos hj']; rfl
  · rw [if_neg e]
    show ((C.set i (oneL m j (cst C i j))).getD i' []).getD j' (-1) = _
    rw [List.getD_eq_getElem?_getD (l := C.set i _), List.getElem?_set_ne (Ne.symm e), ← List.getD_eq_getElem?_getD]
    rfl
theorem onlyL_mat {C : List (List Int)} {n m i j : Nat} (hM : Mat C n m) (hi : i < n) (hj : j < m) : Mat (onlyL C m i j) n m := by
  refine ⟨by unfold onlyL; rw [List.length_set]; exact hM.len, hM.n16, hM.m16, fun i' hi' => ?_, fun i' j' hi' hj' => ?_⟩
  · unfold onlyL
    by_cases e : i' = i
    · subst e
      rw [List.getD_eq_getElem?_getD, List.getElem?_set_self (by have := hM.len; omega)]
      show (oneL m j (cst C i' j)).length = m
      unfold oneL
      simp
    · rw [List.getD_eq_getElem?_getD, List.getElem?_set_ne (Ne.symm e), ← List.getD_eq_getElem?_getD]
      exact hM.row i' hi'
  · rw [onlyL_cst hM hi hj i' j' hi' hj']
    unfold only
    by_cases e : i' = i
    · rw [if_pos e]
      by_cases e2 : j' = j
      · rw [if_pos e2]; exact hM.el i j hi hj
      · rw [if_neg e2]; omega
    · rw [if_neg e]; exact hM.el i' j' hi' hj'
theorem mat_cols {C : List (List Int)} {n m : Nat} (hM : Mat C n m) (hn : 0 < n) : colsN C = m := hM.row 0 hn
theorem Asg.eqc {n m : Nat} {c c' : Nat → Nat → Int} (h : ∀ i j, i < n → j < m → c i j = c' i j) {t : Nat → Nat} (ha : Asg n m c t) : Asg n m c' t ∧ costOf n c' t = costOf n c t :=
  ⟨⟨ha.inj, fun i hi => by rw [← h i (t i) hi (ha.inj.1 i hi)]; exact ha.may i hi⟩, sm_congr (fun i hi => (h i (t i) hi (ha.inj.1 i hi)).symm)⟩
/-- the bound of a deal, as it is reckoned -/
theorem deal_bound {g gu gv gt gr n m : Nat} {vc : Value} {U V TO RW : List Int} {w : World} {c : Nat → Nat → Int} {tof row : Nat → Int} (hd : DMem g gu gv gt gr n m vc U V TO RW w) (hD : Deal n m c (gI U 0) (gI V 0) tof row n) :
    IntKind.i64.wrap (sumW U + sumW V) = bnd n m (gI U 0) (gI V 0) ∧ (∀ i, i < n → -1099511627776 ≤ gI U 0 i ∧ gI U 0 i ≤ 1099511627776) ∧ (∀ j, j < m → -1099511627776 ≤ gI V 0 j ∧ gI V 0 j ≤ 0) := by
  have hn := hD.n16
  have hm := hD.m16
  have hu : ∀ i, i < n → -1099511627776 ≤ gI U 0 i ∧ gI U 0 i ≤ 1099511627776 := fun i hi => by have := hD.ub i hi; omega
  have hv : ∀ j, j < m → -1099511627776 ≤ gI V 0 j ∧ gI V 0 j ≤ 0 := fun j hj => by have := hD.vb j hj; have := hD.fit.neg j hj; omega
  refine ⟨?_, hu, hv⟩
  have h1 := (bound_eq (U := U) (V := V) (by rw [hd.lu]; exact hn) (by rw [hd.lv]; exact hm) (fun i hi => hu i (by rw [← hd.lu]; exact hi)) (fun i hi => by have := hv i (by rw [← hd.lv]; exact hi); unfold gI at this; omega)).1
  rw [h1]
  unfold lsum bnd
  rw [hd.lu, hd.lv]
  rfl
theorem set_back {C : List (List Int)} {i : Nat} (hi : i < C.length) (L : List Int) : (C.set i L).set i (C.getD i []) = C := by
  rw [List.set_set]
  apply List.ext_getElem (by simp)
  intro k h1 h2
  rw [List.getElem_set]
  by_cases e : i = k
  · subst e; rw [if_pos rfl]; simp [hi]
  · rw [if_neg e]
theorem kp_gl {gl : Nat} {w w' : World} (hs : w.heap.size ≤ w'.heap.size) (hk : ∀ b, b < w.heap.size → b ≠ gl → w'.heap[b]? = w.heap[b]?) (h1 : w'.os = w.os) (h2 : w'.tape = w.tape) (h3 : w'.output = w.output) : Kp2 (fun b => b ≠ gl) w w' :=
  ⟨hs, fun b hb hl => hk b hl hb, h1, h2, h3⟩
/-- what the cells of a block hold now: what they held, or slices of new blocks -/
def Fresh (gl n : Nat) (w w' : World) : Prop := ∀ i, i < n → w'.cell? ⟨gl, i, none⟩ = w.cell? ⟨gl, i, none⟩ ∨ ∃ gn k c, w'.cell? ⟨gl, i, none⟩ = some (.slice (some ⟨gn, 0, none⟩) k c) ∧ w.heap.size ≤ gn
theorem LMem.cells {gl cap n : Nat} {C : List (List Int)} {w : World} (h : LMem gl cap n C w) : ∃ cur, w.heap[gl]? = some (.cells cur 23 (0, 0)) ∧ n ≤ cur.size := by
  obtain ⟨rvs, h1, -⟩ := h
  rcases h1.2 with ⟨h0, _⟩ | ⟨g, cap2, cur, he, _, hg, h5, h6, h7, _⟩
  · cases h0
  · injection he with e1 e2 e3
    injection e1 with e1
    injection e1 with e1
    subst e1
    exact ⟨cur, hg, by omega⟩
theorem set_cell_at {w : World} {g T i i' : Nat} {cur : Array Value} {v : Value} (hg : w.heap[g]? = some (.cells cur T (0, 0))) (hi : i < cur.size) : (w.setCell ⟨g, i, none⟩ v).cell? ⟨g, i', none⟩ = if i' = i then some v else w.cell? ⟨g, i', none⟩ := by
  rw [cell_of_row _ g i' _ _ _ (heap_setCell_same w g i cur T v hg), cell_of_row w g i' _ _ _ hg]
  by_cases e : i' = i
  · subst e; rw [if_pos rfl]; simp [hi]
  · rw [if_neg e]; simp [Array.getElem?_setIfInBounds, Ne.symm e]
/-- what lies where when a row has been given one column alone -/
structure TkM (gl cap n m i j : Nat) (C : List (List Int)) (w w' : World) : Prop where
  mem : LMem gl cap n (onlyL C m i j) w'
  kp : Kp2 (fun b => b ≠ gl) w w'
  fresh : Fresh gl n w w'
theorem TkM.make {gl cap n m i j gn : Nat} {C : List (List Int)} {w w5 w6 w7 : World} (hM : Mat C n m) (hi : i < n) (hj : j < m) (hl : LMem gl cap n C w) (hb : Below w.heap.size w w5) (hge : w.heap.size ≤ gn) (hr : Row w5 gn 3 (nums (List.replicate m (-1))))
    (h6 : w6 = w5.setCell ⟨gl, i, none⟩ (.slice (some ⟨gn, 0, none⟩) m m)) (h7 : w7 = w6.setCell ⟨gn, j, none⟩ (.int .i64 (cst C i j))) : TkM gl cap n m i j C w w7 := by
  have hgl := hl.parts.2.2
  have hne : gn ≠ gl := by omega
  have hr6 : Row w6 gn 3 (nums (List.replicate m (-1))) := by rw [h6]; exact hr.setFar _ _ hne
  have hr7 : Row w7 gn 3 (nums (oneL m j (cst C i j))) := by rw [h7]; exact nrow_set hr6 j _
  have hs : w.heap.size ≤ w7.heap.size := by rw [h7, h6]; have := hb.size; simpa using this
  have hk : ∀ b, b < w.heap.size → b ≠ gl → w7.heap[b]? = w.heap[b]? := fun b hb1 hb2 => by
    rw [h7, heap_setCell_other w6 ⟨gn, j, none⟩ b _ (by simp; omega), h6, heap_setCell_other w5 ⟨gl, i, none⟩ b _ (by simp; omega)]
    exact hb.block b hb1
  have hel := hM.el i j hi hj
  refine ⟨hl.turn (rv := .slice (some ⟨gn, 0, none⟩) m m) hi hM.len hs hk ?_ ⟨?_, fun b off n' c' hv _ => ?_⟩, kp_gl hs hk (by rw [h7, h6]; exact hb.os) (by rw [h7, h6]; exact hb.tape) (by rw [h7, h6]; exact hb.output), fun i' hi' => ?_⟩
  · rw [h7, heap_setCell_other w6 ⟨gn, j, none⟩ gl _ (by simp; omega), h6]
    obtain ⟨rvs, h1, -⟩ := hl
    rcases h1.2 with ⟨h0, _⟩ | ⟨g, cap2, cur, he, _, hg, _⟩
    · cases h0
    · injection he with e1 e2 e3
      injection e1 with e1
      injection e1 with e1
      subst e1
      rw [heap_setCell_same w gl i cur _ _ hg, heap_setCell_same w5 gl i cur _ _ ((hb.block gl hgl).trans hg)]
  · refine irest_rowN hr7 (by unfold oneL; simp) (by have := hM.m16; unfold maxLen; omega) (fun x hx => ?_)
    unfold oneL at hx
    rcases List.mem_or_eq_of_mem_set hx with h9 | h9
    · rw [List.eq_of_mem_replicate h9]; unfold I64; omega
    · rw [h9]; unfold I64; omega
  · injection hv with hv
    injection hv with hv
    injection hv with hv
    omega
  · obtain ⟨cur, hc, hcn⟩ := (hl.keep hb).cells
    rw [h7, cell_same (heap_setCell_other w6 ⟨gn, j, none⟩ gl _ (by simp; omega)), h6, set_cell_at hc (by omega)]
    by_cases e : i' = i
    · rw [if_pos e]; exact .inr ⟨gn, m, m, rfl, hge⟩
    · rw [if_neg e]; exact .inl (cell_same (hb.block gl hgl))
/-- .. and when it is given all its columns back -/
theorem TkM.back {gl cap n m i j : Nat} {C : List (List Int)} {w w7 w8 w9 : World} {rv : Value} (hM : Mat C n m) (hi : i < n) (hl : LMem gl cap n C w) (hc : w.cell? ⟨gl, i, none⟩ = some rv) (h : TkM gl cap n m i j C w w7) (hb : Below w7.heap.size w7 w8) (h9 : w9 = w8.setCell ⟨gl, i, none⟩ rv) :
    LMem gl cap n C w9 ∧ Kp2 (fun b => b ≠ gl) w w9 ∧ Fresh gl n w w9 := by
  have hgl := hl.parts.2.2
  have h8 := h.mem.keep hb
  have hs8 : w.heap.size ≤ w8.heap.size := Nat.le_trans h.kp.size hb.size
  have hs : w.heap.size ≤ w9.heap.size := by rw [h9]; simpa using hs8
  have hk : ∀ b, b < w.heap.size → b ≠ gl → w9.heap[b]? = w.heap[b]? := fun b hb1 hb2 => by
    rw [h9, heap_setCell_other w8 ⟨gl, i, none⟩ b _ (by simp; omega), hb.block b (Nat.lt_of_lt_of_le hb1 h.kp.size)]
    exact h.kp.keep b hb2 hb1
  obtain ⟨rv2, hc2, hr2⟩ := hl.at hi
  rw [hc] at hc2
  cases hc2
  have h10 := h8.turn (W' := w9) (L := C.getD i []) (rv := rv) hi (by unfold onlyL; rw [List.length_set]; exact hM.len) (by rw [h9]; simp) (fun b hb1 hb2 => by rw [h9, heap_setCell_other w8 ⟨gl, i, none⟩ b _ (by simp; omega)]) (by rw [h9]) (hr2.to hs hk)
  rw [show (onlyL C m i j).set i (C.getD i []) = C from set_back (by have := hM.len; omega) _] at h10
  have hfr : Fresh gl n w w9 := fun i' hi' => by
    obtain ⟨cur, hcu, hcn⟩ := h8.cells
    rw [h9, set_cell_at hcu (by omega)]
    by_cases e : i' = i
    · subst e; rw [if_pos rfl]; exact .inl hc.symm
    · rw [if_neg e, cell_same (hb.block gl h.mem.parts.2.2)]; exact h.fresh i' hi'
  exact ⟨h10, kp_gl hs hk (by rw [h9]; exact hb.os.trans h.kp.os) (by rw [h9]; exact hb.tape.trans h.kp.tape) (by rw [h9]; exact hb.output.trans h.kp.output), hfr⟩
end Go.Proofs.Ythkmbbgcadfilaa
