/- least: memory of its loops. -/
import Derived.Test.YthkmbbgcadfilaaOc
import Derived.Test.YthkmbbgcadfilaaNd
namespace Go.Proofs.Ythkmbbgcadfilaa
open Go.RowKit Go.Shelf

def ofN (p : List Nat) : List Int := p.map (fun x : Nat => (x : Int))
def gN (p : List Nat) (i : Nat) : Nat := p.getD i 0
theorem ofN_len (p : List Nat) : (ofN p).length = p.length := by simp [ofN]
theorem ofN_app (p : List Nat) (j : Nat) : ofN (p ++ [j]) = ofN p ++ [(j : Int)] := by simp [ofN]
theorem gN_app {p : List Nat} {k j : Nat} (h : p.length = k) : gN (p ++ [j]) = upP (gN p) k j := by
  funext i
  unfold gN upP
  by_cases e : i = k
  · subst e; rw [if_pos rfl, ← h]; simp
  · rw [if_neg e]
    show (p ++ [j]).getD i 0 = p.getD i 0
    rcases Nat.lt_or_ge i k with h1 | h1
    · rw [List.getD_eq_getElem?_getD, List.getElem?_append_left (by omega), ← List.getD_eq_getElem?_getD]
    · rw [List.getD_eq_getElem?_getD, List.getElem?_eq_none (by simp; omega), List.getD_eq_getElem?_getD, List.getElem?_eq_none (by omega)]
theorem LI.eqc {n m : Nat} {c : Nat → Nat → Int} {K : Int} {k : Nat} {p : Nat → Nat} {c' c'' : Nat → Nat → Int} (h : LI n m c K k p c') (he : ∀ i j, i < n → j < m → c' i j = c'' i j) : LI n m c K k p c'' :=
  ⟨⟨fun i j hk hi hj => by rw [← he i j hi hj]; exact h.res.below i j hk hi hj, fun i j hk hi hj => by rw [← he i j hi hj]; exact h.res.rest i j hk hi hj⟩, h.some, h.first⟩
/-- no row of the block gl lies in the block of v -/
def Avoid (gl n : Nat) (W : World) (v : Value) : Prop := ∀ i, i < n → ∀ b off k c, W.cell? ⟨gl, i, none⟩ = some (.slice (some ⟨b, off, none⟩) k c) → some b ≠ v.ownBlock
theorem Avoid.fresh {gl n : Nat} {W W' : World} {v : Value} (h : Avoid gl n W v) (hf : Fresh gl n W W') (hv : ∀ k, v.ownBlock = some k → k < W.heap.size) : Avoid gl n W' v := by
  intro i hi b off k c hc he
  rcases hf i hi with h1 | ⟨gn, k2, c2, h1, h2⟩
  · rw [h1] at hc; exact h i hi b off k c hc he
  · rw [h1] at hc
    injection hc with hc
    injection hc with hc
    injection hc with hc
    injection hc with hc
    have := hv b he.symm
    omega
theorem LMem.wrote {gl cap n : Nat} {C : List (List Int)} {W W' : World} {v v' : Value} (h : LMem gl cap n C W) (ha : Avoid gl n W v) (hg : some gl ≠ v.ownBlock) (hw : Wrote W W' v v') : LMem gl cap n C W' := by
  have hat := fun i (hi : i < n) => h.at (i := i) hi
  obtain ⟨rvs, h1, h2⟩ := h
  have hgl := owns_lt h1 gl rfl
  refine ⟨rvs, ⟨h1.1, ?_⟩, fun i hi => ?_⟩
  · rcases h1.2 with ⟨h0, _⟩ | ⟨g, cap2, cur, he, h3, hcur, h4⟩
    · cases h0
    · injection he with e1 e2 e3
      injection e1 with e1
      injection e1 with e1
      subst e1 e3
      exact .inr ⟨gl, cap, cur, rfl, h3, (hw.grown.block gl hgl hg).trans hcur, h4⟩
  · obtain ⟨rv, h3, h4⟩ := h2 i hi
    obtain ⟨rv2, h5, -⟩ := hat i hi
    have h6 := World.ownsRow.cells h1 (g := gl) rfl i rv h3
    rw [Addr.add_lit, Nat.zero_add] at h6
    refine ⟨rv, h3, irest_cells h4.1 hw.grown.size (fun b off n' c' k hv hk hb => cell_same (hw.grown.block b hb ?_)), h4.2⟩
    rw [hv] at h6
    exact ha i hi b off n' c' h6
theorem Avoid.wrote {gl cap n m : Nat} {C : List (List Int)} {W W' : World} {v v' : Value} (h : Avoid gl n W v) (hl : LMem gl cap n C W) (hM : Mat C n m) (hm : 0 < m) (hg : some gl ≠ v.ownBlock) (hw : Wrote W W' v v') : Avoid gl n W' v' := by
  intro i hi b off k c hc he
  have hgl := hl.parts.2.2
  rw [cell_same (hw.grown.block gl hgl hg)] at hc
  rcases hw.own with h1 | h1
  · exact h i hi b off k c hc (he.trans h1)
  · have h2 := h1 b he.symm
    obtain ⟨rv, h3, h4, -⟩ := hl.at hi
    rw [hc] at h3
    injection h3 with h3
    subst h3
    obtain ⟨a2, c2, e2, -, -, -, h7⟩ := h4
    rcases h7 with h7 | ⟨b2, off2, e3, hb2, -⟩
    · rw [hM.row i hi] at h7; omega
    · rw [e3] at e2
      injection e2 with e2
      injection e2 with e2
      injection e2 with e2
      omega
/-- what lies where during the loops of least -/
structure Lsi (w1 : World) (gl cap n m : Nat) (C : List (List Int)) (v : Value) (p : List Nat) (W : World) : Prop where
  mem : LMem gl cap n C W
  mat : Mat C n m
  buf : IBuf W v (ofN p)
  av : Avoid gl n W v
  own : ∀ k, v.ownBlock = some k → w1.heap.size ≤ k
  gl1 : gl < w1.heap.size
  kp : Kp2 (fun b => b ≠ gl ∧ b < w1.heap.size) w1 W
section
variable {w1 W W' : World} {gl cap n m : Nat} {C C' : List (List Int)} {v v' : Value} {p : List Nat}
theorem Lsi.ne (h : Lsi w1 gl cap n m C v p W) : some gl ≠ v.ownBlock := fun e => by have := h.own gl e.symm; have := h.gl1; omega
theorem Kp2.w {S S' : Nat → Prop} {A B : World} (h : Kp2 S A B) (hs : ∀ b, S' b → S b) : Kp2 S' A B := ⟨h.size, h.keep.weak hs, h.os, h.tape, h.output⟩
theorem Lsi.keep (h : Lsi w1 gl cap n m C v p W) (hb : Below W.heap.size W W') : Lsi w1 gl cap n m C v p W' :=
  ⟨h.mem.keep hb, h.mat, h.buf.keep hb, h.av.fresh (fun i hi => .inl (cell_same (hb.block gl h.mem.parts.2.2))) (owns_lt h.buf), h.own, h.gl1, h.kp.trans (Kp2.below hb)⟩
theorem Lsi.take (h : Lsi w1 gl cap n m C v p W) (hk : Kp2 (fun b => b ≠ gl) W W') (hf : Fresh gl n W W') (hl : LMem gl cap n C' W') (hM : Mat C' n m) : Lsi w1 gl cap n m C' v p W' := by
  have hlt := owns_lt h.buf
  exact ⟨hl, hM, h.buf.same (fun k hk2 => hk.keep k (fun e => h.ne (by rw [hk2, e])) (hlt k hk2)), h.av.fresh hf hlt, h.own, h.gl1, h.kp.trans (hk.w (fun b hb => hb.1))⟩
theorem Lsi.app (h : Lsi w1 gl cap n m C v p W) (hm : 0 < m) {j : Nat} (hb : IBuf W' v' (ofN p ++ [(j : Int)])) (hw : Wrote W W' v v') : Lsi w1 gl cap n m C v' (p ++ [j]) W' := by
  have hs1 := h.kp.size
  refine ⟨h.mem.wrote h.av h.ne hw, h.mat, by rw [ofN_app]; exact hb, h.av.wrote h.mem h.mat hm h.ne hw, fun k hk => ?_, h.gl1, h.kp.trans ⟨hw.grown.size, fun b hb hl => hw.grown.block b hl (fun e => by have := h.own b e.symm; have := hb.2; omega), hw.grown.os, hw.grown.tape, hw.grown.output⟩⟩
  rcases hw.own with h1 | h1
  · exact h.own k (by rw [← h1]; exact hk)
  · have := h1 k hk; omega
theorem Lsi.row (h : Lsi w1 gl cap n m C v p W) {g T : Nat} {cs : List Value} (hr : Row w1 g T cs) (hne : gl ≠ g) : Row W g T cs := row_kp hr h.kp ⟨Ne.symm hne, hr.lt⟩
theorem Lsi.deal (h : Lsi w1 gl cap n m C v p W) {g gu gv gt gr : Nat} {vc : Value} {U V TO RW : List Int} (hd : DMem g gu gv gt gr n m vc U V TO RW w1) (hne : gl ≠ g ∧ gl ≠ gu ∧ gl ≠ gv ∧ gl ≠ gt ∧ gl ≠ gr) : DMem g gu gv gt gr n m vc U V TO RW W :=
  ⟨h.row hd.rg hne.1, h.row hd.ru hne.2.1, h.row hd.rv hne.2.2.1, h.row hd.rt hne.2.2.2.1, h.row hd.rr hne.2.2.2.2, hd.lu, hd.lv, hd.lt, hd.lr⟩
theorem Lsi.costs (h : Lsi w1 gl cap n m C v p W) {C0 : List (List Int)} {B : Nat} {vc : Value} (hC : NRest B w1 C0 vc) (hB : B ≤ gl) : NRest W.heap.size W C0 vc :=
  (hC.kp h.kp (fun b hb => ⟨by omega, by have := h.gl1; omega⟩) (by have := h.gl1; omega)).mono (by have := h.gl1; have := h.kp.size; omega)
end
theorem only_ge {n m k j : Nat} {C C2 : List (List Int)} {K : Int} {p : Nat → Nat} (h : LI n m (cst C) K k p (cst C2)) (hM : Mat C2 n m) (hk : k < n) (hj : j < m) (hl : Least n m (cst C) K) : ∀ t, Asg n m (cst (onlyL C2 m k j)) t → K ≤ costOf n (cst (onlyL C2 m k j)) t := by
  intro t ht
  obtain ⟨h1, h2⟩ := ht.eqc (onlyL_cst hM hk hj)
  obtain ⟨h3, -, h5⟩ := (h.res.only hk hj).to h1
  have := hl.all t h3
  omega
theorem only_next {n m k j : Nat} {C C2 : List (List Int)} {K : Int} {p : Nat → Nat} (h : LI n m (cst C) K k p (cst C2)) (hM : Mat C2 n m) (hk : k < n) (hj : j < m)
    (hno : ∀ j', j' < j → ∀ t, Bst n m (cst C) K t → (∀ i, i < k → t i = p i) → t k ≠ j') (hyes : ∃ t, Asg n m (cst (onlyL C2 m k j)) t ∧ costOf n (cst (onlyL C2 m k j)) t = K) : LI n m (cst C) K (k + 1) (upP p k j) (cst (onlyL C2 m k j)) := by
  obtain ⟨t, h1, h2⟩ := hyes
  obtain ⟨h3, h4⟩ := h1.eqc (onlyL_cst hM hk hj)
  exact (h.next hk hj hno ⟨t, h3, by omega⟩).eqc (fun i' j' hi' hj' => (onlyL_cst hM hk hj i' j' hi' hj').symm)
theorem only_no {n m k j : Nat} {C C2 : List (List Int)} {K : Int} {p : Nat → Nat} (h : LI n m (cst C) K k p (cst C2)) (hM : Mat C2 n m) (hk : k < n) (hj : j < m)
    (hno : ∀ t, Asg n m (cst (onlyL C2 m k j)) t → costOf n (cst (onlyL C2 m k j)) t ≠ K) : ∀ t, Bst n m (cst C) K t → (∀ i, i < k → t i = p i) → t k ≠ j := by
  intro t ht hag he
  obtain ⟨t2, h1, h2⟩ := h.more hk hj ht hag he
  obtain ⟨h3, h4⟩ := h1.eqc (fun i' j' hi' hj' => (onlyL_cst hM hk hj i' j' hi' hj').symm)
  exact hno t2 h3 (by omega)
end Go.Proofs.Ythkmbbgcadfilaa
