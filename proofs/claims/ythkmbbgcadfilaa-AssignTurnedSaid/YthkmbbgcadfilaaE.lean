/- A deal and its paths in memory; extend. -/
import Derived.Test.YthkmbbgcadfilaaD
import Derived.Test.YthkmbbgcadfilaaMb
namespace Go.Proofs.Ythkmbbgcadfilaa
open Go.RowKit Go.Shelf

def sl (g n : Nat) : Value := .slice (some ⟨g, 0, none⟩) n n
def bls (L : List Bool) : List Value := L.map Value.bool
/-- a deal in memory -/
structure DMem (g gu gv gt gr n m : Nat) (vc : Value) (U V TO RW : List Int) (W : World) : Prop where
  rg : Row W g 66 [vc, .slice (some ⟨gu, 0, none⟩) n n, .slice (some ⟨gv, 0, none⟩) m m, .slice (some ⟨gt, 0, none⟩) n n, .slice (some ⟨gr, 0, none⟩) m m]
  ru : Row W gu 3 (nums U)
  rv : Row W gv 3 (nums V)
  rt : Row W gt 3 (nums TO)
  rr : Row W gr 3 (nums RW)
  lu : U.length = n
  lv : V.length = m
  lt : TO.length = n
  lr : RW.length = m
/-- paths in memory -/
structure PMem (gp : Nat) (LN FR : List Int) (SU : List Bool) (W : World) : Prop where
  row : Row W gp 82 (nums LN ++ (nums FR ++ bls SU))
  ll : LN.length = 16
  lf : FR.length = 16
  ls : SU.length = 16
/-- all blocks are different -/
def Dis (g gu gv gt gr gp : Nat) : Prop := g ≠ gu ∧ g ≠ gv ∧ g ≠ gt ∧ g ≠ gr ∧ g ≠ gp ∧ gu ≠ gv ∧ gu ≠ gt ∧ gu ≠ gr ∧ gu ≠ gp ∧ gv ≠ gt ∧ gv ≠ gr ∧ gv ≠ gp ∧ gt ≠ gr ∧ gt ≠ gp ∧ gr ≠ gp
theorem row_kp {S : Nat → Prop} {W W' : World} {g T : Nat} {cs : List Value} (h : Row W g T cs) (hk : Kp2 S W W') (hs : S g) : Row W' g T cs := (hk.2 g hs h.lt).trans h
theorem NRest.kp {S : Nat → Prop} {B : Nat} {W W' : World} {C : List (List Int)} {v : Value} (h : NRest B W C v) (hk : Kp2 S W W') (hs : ∀ b, b < B → S b) (hB : B ≤ W.heap.size) : NRest B W' C v :=
  h.stays ⟨hk.os, hk.tape, hk.output, hk.size, fun b hb => hk.keep b (hs b hb) (Nat.lt_of_lt_of_le hb hB)⟩
section
variable {g gu gv gt gr n m gp : Nat} {vc : Value} {U V TO RW LN FR : List Int} {SU : List Bool} {W W' : World}
theorem DMem.kp (h : DMem g gu gv gt gr n m vc U V TO RW W) (hd : Dis g gu gv gt gr gp) (hk : Kp2 (fun b => b ≠ gp) W W') : DMem g gu gv gt gr n m vc U V TO RW W' := by
  unfold Dis at hd
  exact ⟨row_kp h.rg hk (by omega), row_kp h.ru hk (by omega), row_kp h.rv hk (by omega), row_kp h.rt hk (by omega), row_kp h.rr hk (by omega), h.lu, h.lv, h.lt, h.lr⟩
theorem PMem.at_len (h : PMem gp LN FR SU W) {j : Nat} (hj : j < 16) (d : Int) : W.cell? ⟨gp, j, none⟩ = some (.int .i64 (LN.getD j d)) := by
  have := h.ll
  refine h.row.cell (i := j) ?_
  rw [List.getElem?_append_left (by simp; omega)]
  have hj2 : j < LN.length := by omega
  simp [hj2]
theorem PMem.at_frm (h : PMem gp LN FR SU W) {j : Nat} (hj : j < 16) (d : Int) : W.cell? ⟨gp, 16 + j, none⟩ = some (.int .i64 (FR.getD j d)) := by
  have := h.ll
  have := h.lf
  refine h.row.cell (i := 16 + j) ?_
  rw [List.getElem?_append_right (by simp; omega), List.getElem?_append_left (by simp; omega)]
  have hj2 : j < FR.length := by omega
  have e : 16 + j - (nums LN).length = j := by simp; omega
  rw [e]
  simp [hj2]
theorem PMem.at_sure (h : PMem gp LN FR SU W) {j : Nat} (hj : j < 16) : W.cell? ⟨gp, 32 + j, none⟩ = some (.bool (SU.getD j false)) := by
  have := h.ll
  have := h.lf
  have := h.ls
  refine h.row.cell (i := 32 + j) ?_
  rw [List.getElem?_append_right (by simp; omega), List.getElem?_append_right (by simp; omega)]
  have hj2 : j < SU.length := by omega
  have e : 32 + j - (nums LN).length - (nums FR).length = j := by simp; omega
  rw [e]
  unfold bls
  simp [hj2]
theorem PMem.put_len (h : PMem gp LN FR SU W) {j : Nat} (hj : j < 16) (x : Int) : PMem gp (LN.set j x) FR SU (W.setCell ⟨gp, j, none⟩ (.int .i64 x)) := by
  have := h.ll
  refine ⟨h.row.set j (.int .i64 x) ?_, by simp [h.ll], h.lf, h.ls⟩
  rw [List.set_append_left _ _ (by simp; omega)]
  simp [List.map_set]
theorem PMem.put_frm (h : PMem gp LN FR SU W) {j : Nat} (hj : j < 16) (x : Int) : PMem gp LN (FR.set j x) SU (W.setCell ⟨gp, 16 + j, none⟩ (.int .i64 x)) := by
  have := h.ll
  have := h.lf
  refine ⟨h.row.set (16 + j) (.int .i64 x) ?_, h.ll, by simp [h.lf], h.ls⟩
  rw [List.set_append_right _ _ (by simp; omega), List.set_append_left _ _ (by simp; omega)]
  have e : 16 + j - (nums LN).length = j := by simp; omega
  rw [e]
  simp [List.map_set]
theorem PMem.put_sure (h : PMem gp LN FR SU W) {j : Nat} (hj : j < 16) (x : Bool) : PMem gp LN FR (SU.set j x) (W.setCell ⟨gp, 32 + j, none⟩ (.bool x)) := by
  have := h.ll
  have := h.lf
  have := h.ls
  refine ⟨h.row.set (32 + j) (.bool x) ?_, h.ll, h.lf, by simp [h.ls]⟩
  rw [List.set_append_right _ _ (by simp; omega), List.set_append_right _ _ (by simp; omega)]
  have e : 32 + j - (nums LN).length - (nums FR).length = j := by simp; omega
  rw [e]
  simp [bls, List.map_set]
theorem kp_cell (W : World) (g o : Nat) (x : Value) : Kp2 (fun b => b ≠ g) W (W.setCell ⟨g, o, none⟩ x) :=
  ⟨by simp, fun b hb _ => heap_setCell_other W ⟨g, o, none⟩ b x hb, rfl, rfl, rfl⟩
end
def cst (C : List (List Int)) (i j : Nat) : Int := (C.getD i []).getD j (-1)
def gI (L : List Int) (d : Int) (j : Nat) : Int := L.getD j d
def gB (L : List Bool) (j : Nat) : Bool := L.getD j false
theorem gI_set {L : List Int} {d x : Int} {i : Nat} (h : i < L.length) (j : Nat) : gI (L.set i x) d j = if j = i then x else gI L d j := by
  unfold gI
  by_cases e : j = i
  · subst e; simp [h]
  · rw [if_neg e]
    simp [List.getD_eq_getElem?_getD, List.getElem?_set_ne (Ne.symm e)]
/-- costs that are right -/
structure Mat (C : List (List Int)) (n m : Nat) : Prop where
  len : C.length = n
  n16 : n ≤ 16
  m16 : m ≤ 16
  row : ∀ i, i < n → (C.getD i []).length = m
  el : ∀ i j, i < n → j < m → -1 ≤ cst C i j ∧ cst C i j ≤ 1073741824
end Go.Proofs.Ythkmbbgcadfilaa
