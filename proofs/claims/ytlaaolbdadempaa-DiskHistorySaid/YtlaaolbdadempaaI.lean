/- A block of byte slices that the call itself made: read, stored into. -/
import Derived.Test.YtlaaolbdadempaaBs
namespace Go.Proofs.Ytlaaolbdadempaa
open Go.RowKit

/-- Block g, of cap cells, holds the slices vs, which read as xs and lie in S. -/
structure Tab (S : Nat → Prop) (g cap : Nat) (w : World) (xs : List (List UInt8)) (vs : List Value) : Prop where
  row : ∃ ex, Row w g 35 (vs ++ ex) ∧ (vs ++ ex).length = cap
  len : vs.length = xs.length
  el : ∀ (i : Nat) x, xs[i]? = some x → ∃ u, vs[i]? = some u ∧ RestS S w x u
section
variable {S : Nat → Prop} {g cap : Nat} {w w' : World} {xs : List (List UInt8)} {vs : List Value}
theorem Tab.keep (h : Tab S g cap w xs vs) (hb : Below w.heap.size w w') : Tab S g cap w' xs vs := by
  obtain ⟨ex, h1, h2⟩ := h.row
  refine ⟨⟨ex, h1.keep hb, h2⟩, h.len, fun i x hi => ?_⟩
  obtain ⟨u, h3, h4⟩ := h.el i x hi
  exact ⟨u, h3, h4.keep (.below hb)⟩
theorem Tab.lt (h : Tab S g cap w xs vs) : g < w.heap.size := by obtain ⟨ex, h1, _⟩ := h.row; exact h1.lt
theorem Tab.cap_le (h : Tab S g cap w xs vs) : xs.length ≤ cap := by obtain ⟨ex, _, h2⟩ := h.row; rw [List.length_append, h.len] at h2; omega
theorem Tab.cell (h : Tab S g cap w xs vs) {i : Nat} {u : Value} (hi : vs[i]? = some u) : w.cell? ⟨g, i, none⟩ = some u := by
  obtain ⟨ex, h1, _⟩ := h.row
  exact h1.cell (by rw [List.getElem?_append_left (List.getElem?_eq_some_iff.1 hi).1]; exact hi)
theorem Tab.free (h : Tab S g cap w xs vs) (i : Nat) : w.frozen? ⟨g, i, none⟩ = false := by obtain ⟨ex, h1, _⟩ := h.row; exact h1.free i
theorem Tab.set (h : Tab S g cap w xs vs) {i : Nat} (hi : i < xs.length) {x : List UInt8} {u : Value} (hu : RestS S w x u) (hg : ¬ S g) :
    Tab S g cap (w.setCell ⟨g, i, none⟩ u) (xs.set i x) (vs.set i u) := by
  obtain ⟨ex, h1, h2⟩ := h.row
  have hl := h.len
  refine ⟨⟨ex, h1.set i u (by rw [List.set_append_left _ _ (by omega)]), by rw [← h2]; simp⟩, by simp [hl], fun j y hj => ?_⟩
  by_cases hij : i = j
  · subst hij
    rw [List.getElem?_set_self hi] at hj
    injection hj with hj
    subst hj
    exact ⟨u, List.getElem?_set_self (by omega), hu.keep (.setCell w g i u hg)⟩
  · rw [List.getElem?_set_ne hij] at hj ⊢
    obtain ⟨v, h3, h4⟩ := h.el j y hj
    exact ⟨v, h3, h4.keep (.setCell w g i u hg)⟩
theorem Tab.nrest {S' : Nat → Prop} (h : Tab S g cap w xs vs) (hc : cap ≤ maxLen) (hg : S' g) (hs : ∀ b, S b → b < w.heap.size → S' b) : NRestS S' w xs (.slice (some ⟨g, 0, none⟩) xs.length cap) := by
  refine ⟨_, _, rfl, h.cap_le, hc, (fun h => by cases h), .inr ⟨g, 0, rfl, hg, fun i x hi => ?_⟩⟩
  obtain ⟨u, h1, h2⟩ := h.el i x hi
  rw [Nat.zero_add]
  exact ⟨u, h.cell h1, h2.weak hs⟩
theorem Tab.weak {S' : Nat → Prop} (h : Tab S g cap w xs vs) (hs : ∀ b, S b → b < w.heap.size → S' b) : Tab S' g cap w xs vs :=
  ⟨h.row, h.len, fun i x hi => by obtain ⟨u, h1, h2⟩ := h.el i x hi; exact ⟨u, h1, h2.weak hs⟩⟩
end
/-- the values of a slice of slices -/
theorem NRestS.vals {S : Nat → Prop} {w : World} {xs a n cap} (h : NRestS S w xs (.slice a n cap)) (h0 : 0 < n) :
    ∃ (b off : Nat) (vs : List Value), a = some ⟨b, off, none⟩ ∧ S b ∧ b < w.heap.size ∧ vs.length = xs.length ∧ (∀ (j : Nat) u, vs[j]? = some u → w.cell? ⟨b, off + j, none⟩ = some u ∧ u.oneCell' = true) ∧ ∀ (i : Nat) x, xs[i]? = some x → ∃ u, vs[i]? = some u ∧ RestS S w x u := by
  obtain ⟨a2, cap2, he, h2, h3, h4, h5⟩ := h
  injection he with he1 he2 he3
  subst he1 he2 he3
  rcases h5 with h5 | ⟨b, off, rfl, hb, hc⟩
  · omega
  · have hget : ∀ i, i < xs.length → ((List.range xs.length).map fun i => (w.cell? ⟨b, off + i, none⟩).getD undef)[i]? = some ((w.cell? ⟨b, off + i, none⟩).getD undef) := fun i hi => by
      rw [List.getElem?_map, List.getElem?_range hi]; rfl
    obtain ⟨u0, k6, _⟩ := hc 0 _ (List.getElem?_eq_getElem h0)
    refine ⟨b, off, (List.range xs.length).map fun i => (w.cell? ⟨b, off + i, none⟩).getD undef, rfl, hb, lt_of_cell k6, by simp, fun j u hj => ?_, fun i x hi => ?_⟩
    · have hjl : j < xs.length := by have := (List.getElem?_eq_some_iff.1 hj).1; simpa using this
      rw [hget j hjl] at hj
      obtain ⟨v, h6, h7⟩ := hc j _ (List.getElem?_eq_getElem hjl)
      rw [h6] at hj
      injection hj with hj
      subst hj
      obtain ⟨a3, c3, rfl, _⟩ := h7
      exact ⟨h6, rfl⟩
    · have hil := (List.getElem?_eq_some_iff.1 hi).1
      obtain ⟨v, h6, h7⟩ := hc i x hi
      exact ⟨v, by rw [hget i hil, h6]; rfl, h7⟩
end Go.Proofs.Ytlaaolbdadempaa
