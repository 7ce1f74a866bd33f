/- Copies changed. -/
import Derived.Test.YthkmbbgcadfilaaTa
namespace Go.Proofs.Ythkmbbgcadfilaa
open Go.RowKit Go.Shelf

theorem IBuf.slice {w : World} {v : Value} {zs : List Int} (h : IBuf w v zs) : ∃ a cap, v = .slice a zs.length cap ∧ zs.length ≤ cap ∧ cap ≤ maxLen ∧ (0 < zs.length → ∃ g, a = some ⟨g, 0, none⟩) := by
  rcases h.2 with ⟨rfl, h0⟩ | ⟨g, cap, cur, rfl, _, _, h1, h2, _⟩
  · exact ⟨none, 0, by rw [h0], by omega, by unfold maxLen; omega, fun h => by omega⟩
  · exact ⟨_, cap, rfl, h1, h2, fun _ => ⟨g, rfl⟩⟩
theorem CpR.shape {b0 : Nat} {W : World} {v : Value} {C : List (List Int)} {n : Nat} {rvs : List Value} (h : CpR b0 W v C n rvs) (hn : 0 < n) :
    ∃ g cap, v = .slice (some ⟨g, 0, none⟩) n cap ∧ n ≤ cap ∧ cap ≤ maxLen ∧ g < W.heap.size ∧ b0 ≤ g ∧ ∀ i, i < n → W.cell? ⟨g, i, none⟩ = some (rvs.getD i nilV) := by
  rcases h.own.2 with ⟨rfl, h0⟩ | ⟨g, cap, cur, rfl, _, hg, h1, h2, _, _⟩
  · omega
  · refine ⟨g, cap, rfl, h1, h2, (owns_lt h.own g rfl), h.out g rfl, fun i hi => ?_⟩
    have h9 : rvs[i]? = some (rvs.getD i nilV) := by
      have : i < rvs.length := by rw [h.len]; exact hi
      simp [this]
    have := World.ownsRow.cells h.own (g := g) rfl i _ h9
    rw [Addr.add_lit, Nat.zero_add] at this
    exact this
theorem CpR.nrest {b0 : Nat} {W : World} {v : Value} {C : List (List Int)} {n : Nat} {rvs : List Value} (h : CpR b0 W v C n rvs) (hn : 0 < n) (hc : C.length = n) (hI : ∀ i, i < n → ∀ x, x ∈ C.getD i [] → I64 x) : NRest W.heap.size W C v := by
  obtain ⟨g, cap, rfl, h1, h2, h3, -, h4⟩ := h.shape hn
  subst hc
  refine ⟨_, _, rfl, h1, h2, .inr ⟨g, 0, rfl, h3, fun i hi => ?_⟩⟩
  rw [Nat.zero_add]
  have e : C.getD i [] = C[i] := by simp [hi]
  have h5 := (h.row i hi).rest (hI i hi)
  rw [e] at h5
  exact ⟨_, h4 i hi, h5⟩
/-- one number of one row written -/
theorem CpR.put {b0 : Nat} {W : World} {v : Value} {C : List (List Int)} {n : Nat} {rvs : List Value} (h : CpR b0 W v C n rvs) (hc : C.length = n) {i j b : Nat} (hi : i < n) (hj : j < (C.getD i []).length) (hb : (rvs.getD i nilV).ownBlock = some b) (y : Int) :
    CpR b0 (W.setCell ⟨b, j, none⟩ (.int .i64 y)) v (C.set i ((C.getD i []).set j y)) n rvs := by
  have hne := (h.off i hi b hb)
  have hot : ∀ q, q ≠ b → (W.setCell ⟨b, j, none⟩ (.int .i64 y)).heap[q]? = W.heap[q]? := fun q hq => heap_setCell_other W _ q _ hq
  refine ⟨h.len, ?_, fun i' hi' => ?_, h.off, h.dif, h.out⟩
  · refine ⟨h.own.1, ?_⟩
    rcases h.own.2 with h0 | ⟨g, cap, cur, rfl, k1, k2, k3⟩
    · exact .inl h0
    · exact .inr ⟨g, cap, cur, rfl, k1, (hot g (fun e => by subst e; exact hne.2 rfl)).trans k2, k3⟩
  · by_cases e : i' = i
    · subst e
      rw [show (C.set i' ((C.getD i' []).set j y)).getD i' [] = (C.getD i' []).set j y by simp [hc, hi]]
      exact (h.row i' hi).put hj hb y
    · rw [show (C.set i ((C.getD i []).set j y)).getD i' [] = C.getD i' [] by simp [List.getElem?_set, Ne.symm e]]
      exact (h.row i' hi').same fun q hq => hot q fun e2 => by subst e2; exact h.dif i' i hi' hi e q hq hb
/-- the row at i, as it lies -/
theorem CpR.at {b0 : Nat} {W : World} {v : Value} {C : List (List Int)} {n : Nat} {rvs : List Value} (h : CpR b0 W v C n rvs) {i : Nat} (hi : i < n) : ∃ a cap, rvs.getD i nilV = .slice a (C.getD i []).length cap ∧ (C.getD i []).length ≤ cap ∧ cap ≤ maxLen ∧
    (0 < (C.getD i []).length → ∃ b, a = some ⟨b, 0, none⟩ ∧ b0 ≤ b ∧ (rvs.getD i nilV).ownBlock = some b ∧ (∀ j, W.frozen? ⟨b, j, none⟩ = false) ∧ ∀ j, j < (C.getD i []).length → W.cell? ⟨b, j, none⟩ = some (.int .i64 ((C.getD i []).getD j 0))) := by
  obtain ⟨a, cap, e, h1, h2, h3⟩ := (h.row i hi).slice
  refine ⟨a, cap, e, h1, h2, fun hp => ?_⟩
  obtain ⟨b, rfl⟩ := h3 hp
  have hob : (rvs.getD i nilV).ownBlock = some b := by rw [e]; rfl
  refine ⟨b, rfl, (h.off i hi b hob).1, hob, (h.row i hi).free hob, fun j hj => ?_⟩
  obtain ⟨a2, c2, e2, -, -, h5⟩ := (h.row i hi).shape
  rw [e] at e2
  obtain ⟨g, e3, h6⟩ := h5 j hj
  injection e2 with e4 _ _
  rw [e3] at e4
  injection e4 with e4
  injection e4 with e4 _ _
  subst e4
  rw [Nat.zero_add] at h6
  exact h6
end Go.Proofs.Ythkmbbgcadfilaa
