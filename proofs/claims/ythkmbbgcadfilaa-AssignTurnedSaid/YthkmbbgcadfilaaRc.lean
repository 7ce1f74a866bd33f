/- The chapter's examples: mathematics. -/
import Derived.Test.YthkmbbgcadfilaaRb
namespace Go.Proofs.Ythkmbbgcadfilaa
open Go.RowKit Go.Shelf

def C2 : List (List Int) := [[1, 2], [1, 4]]
def C3 : List (List Int) := [[1, 2], [3, -1], [4, -1]]
theorem chk2 : chkE C2 = 0 := by kernel_rfl
theorem chk3 : chkE C3 = 0 := by kernel_rfl
theorem chk1 : chkE [[]] = 0 := by kernel_rfl
theorem chkm : chkE [[-2]] = 140 := by kernel_rfl
theorem chkn : chkE [[1, 2], [1]] = 140 := by kernel_rfl
theorem chk17 : chkE (List.replicate 17 []) = 2 := by kernel_rfl
theorem lt2 {i : Nat} (h : i < 2) : i = 0 ∨ i = 1 := by omega
theorem asg_two {t : Nat → Nat} (h : Asg 2 2 (cst C2) t) : (t 0 = 0 ∧ t 1 = 1 ∧ costOf 2 (cst C2) t = 5) ∨ (t 0 = 1 ∧ t 1 = 0 ∧ costOf 2 (cst C2) t = 3) := by
  have h0 := h.inj.1 0 (by omega)
  have h1 := h.inj.1 1 (by omega)
  have hne : t 0 ≠ t 1 := fun e => by have := h.inj.2 0 1 (by omega) (by omega) e; omega
  have hc : costOf 2 (cst C2) t = 0 + cst C2 0 (t 0) + cst C2 1 (t 1) := rfl
  rcases lt2 h0 with e0 | e0 <;> rcases lt2 h1 with e1 | e1
  · omega
  · left; refine ⟨e0, e1, ?_⟩; rw [hc, e0, e1]; decide
  · right; refine ⟨e0, e1, ?_⟩; rw [hc, e0, e1]; decide
  · omega
def tTwo (i : Nat) : Nat := if i = 0 then 1 else 0
theorem asg_tTwo : Asg 2 2 (cst C2) tTwo := by
  refine ⟨⟨fun i hi => ?_, fun i k hi hk e => ?_⟩, fun i hi => ?_⟩
  · rcases lt2 hi with rfl | rfl <;> decide
  · rcases lt2 hi with rfl | rfl <;> rcases lt2 hk with rfl | rfl
    · rfl
    · revert e; decide
    · revert e; decide
    · rfl
  · rcases lt2 hi with rfl | rfl <;> decide
theorem lx_two {K : Int} {p : List Nat} (hl : p.length = 2) (h : Lx 2 2 (cst C2) K (gN p)) : K = 3 ∧ p = [1, 0] := by
  have h1 := h.all tTwo asg_tTwo
  have h2 : costOf 2 (cst C2) tTwo = 3 := by decide
  have h3 := h.bst.2
  have hp : gN p 0 = 1 ∧ gN p 1 = 0 ∧ K = 3 := by
    rcases asg_two h.bst.1 with ⟨e0, e1, e2⟩ | ⟨e0, e1, e2⟩
    · omega
    · exact ⟨e0, e1, by omega⟩
  refine ⟨hp.2.2, ?_⟩
  match p, hl with
  | [a, b], _ =>
    have h4 : a = 1 := hp.1
    have h5 : b = 0 := hp.2.1
    rw [h4, h5]
theorem best_two {v : Value} {c : Int} {ok : Bool} {w : World} (h : BestP C2 v c ok w) : ok = true ∧ c = 3 ∧ IBuf w v [1, 0] := by
  rcases h with ⟨h1, -, p, h2, h3, h4⟩ | ⟨-, -, -, h5⟩
  · obtain ⟨h6, rfl⟩ := lx_two h3 h4
    exact ⟨h1, h6, h2⟩
  · obtain ⟨R, S, hc⟩ := h5 chk2
    exact absurd asg_tTwo (hc.none _)
theorem best_none {v : Value} {c : Int} {ok : Bool} {w : World} (h : BestP [[]] v c ok w) : ok = false := by
  rcases h with ⟨h1, -, p, h2, h3, h4⟩ | ⟨h1, -⟩
  · have := h4.bst.1.inj.1 0 (by decide)
    exact absurd this (by show ¬ gN p 0 < 0; omega)
  · exact h1
theorem cost_two : costR C2 [0, 1] = (5, 0) := by
  have h : AsgL C2 2 2 [0, 1] := by
    refine ⟨rfl, fun i hi => ?_, fun i k hi hk e => ?_⟩
    · rcases lt2 hi with rfl | rfl <;> decide
    · rcases lt2 hi with rfl | rfl <;> rcases lt2 hk with rfl | rfl
      · rfl
      · revert e; decide
      · revert e; decide
      · rfl
  unfold costR
  rw [if_pos chk2, if_pos (show AsgL C2 C2.length (colsN C2) [0, 1] from h)]
  decide
theorem prv_two : prvR C2 [2, 2] [-1, 0] = (3, true, 0) := by
  have h : FitL C2 2 2 [2, 2] [-1, 0] := by
    refine ⟨rfl, rfl, by decide, by decide, fun i j hi hj _ => ?_⟩
    rcases lt2 hi with rfl | rfl <;> rcases lt2 hj with rfl | rfl <;> decide
  unfold prvR
  rw [if_pos chk2, if_pos (show FitL C2 C2.length (colsN C2) [2, 2] [-1, 0] from h)]
  decide
theorem prv_odd : prvR C2 [2, 2] [0, 0] = (0, false, 0) := by
  unfold prvR
  rw [if_pos chk2, if_neg]
  intro h
  have := h.2.2.2.2 0 0 (by decide) (by decide) (by decide)
  revert this; decide
theorem den_two {v : Value} {ok : Bool} {w : World} (h : DenP C2 v ok w) : ok = false := by
  rcases h with ⟨-, -, l, -, h2, -, h3, -⟩ | ⟨h1, -⟩
  · exact absurd asg_tTwo ((crF_crowd (m := 2) h2 h3).none _)
  · exact h1
theorem sl12 : SL 3 [1, 2] := ⟨fun i hi => by rcases lt2 hi with rfl | rfl <;> decide, fun i j hij hj => by
  rcases lt2 hj with rfl | rfl
  · omega
  · obtain rfl : i = 0 := by omega
    decide⟩
theorem den_three {v : Value} {ok : Bool} {w : World} (h : DenP C3 v ok w) : ok = true ∧ IBuf w v [1, 2] := by
  have hc12 : crF C3 2 [1, 2] := by unfold crF; decide
  rcases h with ⟨h1, -, l, h2, h3, h4, h5, h6⟩ | ⟨-, -, h5⟩
  · refine ⟨h1, ?_⟩
    have hb := h6 [1, 2] sl12 (by decide) hc12
    have hl : l = [1, 2] := by
      have h3' : SL 3 l := h3
      have h5' : crF C3 2 l := h5
      match l, h4, h3', h5', hb with
      | [a], _, k1, k2, _ =>
        have ha : a < 3 := k1.1 0 (by simp)
        have : a = 0 ∨ a = 1 ∨ a = 2 := by omega
        unfold crF at k2
        rcases this with rfl | rfl | rfl <;> (revert k2; decide)
      | [a, b], _, k1, k2, _ =>
        have ha : a < 3 := k1.1 0 (by simp)
        have hb2 : b < 3 := k1.1 1 (by simp)
        have hab : a < b := k1.2 0 1 (by omega) (by simp)
        have : (a = 0 ∧ b = 1) ∨ (a = 0 ∧ b = 2) ∨ (a = 1 ∧ b = 2) := by omega
        unfold crF at k2
        rcases this with ⟨rfl, rfl⟩ | ⟨rfl, rfl⟩ | ⟨rfl, rfl⟩
        · revert k2; decide
        · revert k2; decide
        · rfl
      | a :: b :: c :: l, _, _, _, hb =>
        exfalso
        rcases hb with hb | ⟨hb, -⟩
        · simp at hb; omega
        · simp at hb
    rw [hl] at h2
    exact h2
  · exact absurd hc12 (h5 chk3 [1, 2] sl12 (by decide))
theorem pri_two {vu vv : Value} {ok : Bool} {w : World} (h : PriP C2 vu vv ok w) : ok = true ∧ ∃ U V, U.length = 2 ∧ V.length = 2 ∧ IRest w.heap.size w U vu ∧ IRest w.heap.size w V vv := by
  rcases h with ⟨h1, -, U, V, h2, h3, h4, -⟩ | ⟨-, -, -, h5⟩
  · exact ⟨h1, U, V, h4.1, h4.2.1, h2, h3⟩
  · obtain ⟨R, S, hc⟩ := h5 chk2
    exact absurd asg_tTwo (hc.none _)
end Go.Proofs.Ythkmbbgcadfilaa
