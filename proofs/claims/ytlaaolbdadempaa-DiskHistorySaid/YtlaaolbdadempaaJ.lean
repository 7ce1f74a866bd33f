/- Slices of slices cloned; a new disk. -/
import Derived.Test.YtlaaolbdadempaaI
import Derived.Deep.RegionLaw
import Derived.Deep.RegionHeld
import Derived.BigRegion
import Derived.WalkSpells
namespace Go.Proofs.Ytlaaolbdadempaa
open Go.RowKit

theorem Try.info35 : (Try.prog.info? 35).map (fun i => (i.zero, i.size, i.bytes)) = some (some (.slice none 0 0), 1, 24) := by kernel_rfl
theorem tab_of_owns {S : Nat → Prop} {w : World} {v : Value} {n : Nat} {xs : List (List UInt8)} {vs : List Value} (h : w.ownsRow 0 35 1 v n vs) (h0 : 0 < n) (hn : n = xs.length) (hl : vs.length = xs.length)
    (hel : ∀ (i : Nat) x, xs[i]? = some x → ∃ u, vs[i]? = some u ∧ RestS S w x u) :
    ∃ g cap, v = .slice (some ⟨g, 0, none⟩) n cap ∧ Tab S g cap w xs vs ∧ cap ≤ maxLen := by
  rcases h.2 with ⟨rfl, h1⟩ | ⟨g, cap, cur, rfl, hbg, hg, hnc, hcm, hcs, htake⟩
  · omega
  · refine ⟨g, cap, rfl, ⟨⟨cur.toList.drop n, ?_, ?_⟩, hl, hel⟩, hcm⟩
    · have htk : cur.toList.take n = vs := by simpa using htake
      show w.heap[g]? = some (.cells (vs ++ cur.toList.drop n).toArray 35 (0, 0))
      rw [← htk, List.take_append_drop]
      simpa using hg
    · have htk : cur.toList.take n = vs := by simpa using htake
      rw [← htk, List.take_append_drop]; simp; omega
theorem owns_none (w : World) (e size : Nat) : (w.alloc (.cells #[] e)).ownsRow 0 e size (.slice (some ⟨w.heap.size, 0, none⟩) 0 0) 0 [] := by
  refine ⟨by simp, .inr ⟨w.heap.size, 0, #[], rfl, Nat.zero_le _, heap_alloc_new w _, Nat.le_refl _, by simp [maxLen], by simp, by simp⟩⟩

set_option maxHeartbeats 2000000 in
set_option maxRecDepth 100000 in
theorem clone_call (S : Nat → Prop) (xs : List (List UInt8)) (v : Value) (w : World) (h : NRestS S w xs v) (h0 : 0 < xs.length) (hn : xs.length ≤ 1099511627776) :
    Calls Try.prog 79 #[v] w fun e w' => ∃ g cap vs, e = .returned (.slice (some ⟨g, 0, none⟩) xs.length cap) ∧ Tab (Cut S w.heap.size) g cap w' xs vs ∧ cap ≤ maxLen ∧ w.heap.size ≤ g ∧ Below w.heap.size w w' := by
  obtain ⟨a, cap, rfl, hc1, hc2⟩ := h.rest.shape
  obtain ⟨b, off, vs, rfl, -, hb, hl, hcell, hel⟩ := h.vals h0
  obtain ⟨i0, hi, hz0, hz1, hz2⟩ := info_parts Try.info35
  have q22 : ∀ W : World, (binOp .eql 22 (.slice (some ⟨b, off, none⟩) xs.length cap) (.slice none 0 0)).run Try.prog W = .ok (.bool false) W := fun W => run_eql_nil_slice W 22 35 (some ⟨b, off, none⟩) xs.length cap 0 0 Try.underlying22
  clear h
  go_enter Try.func79, Try.ntmps79
  go_wp2_with (refine wpList_append_mine _ rfl (.tmp 5) (.tmp 6) 22 rfl 35 i0 _ 1 24 Try.underlying22 hi hz0 hz1 hz2 rfl (by decide) _ 0 [] rfl (owns_none w 35 1) ⟨b, off, none⟩ xs.length cap vs rfl (by rw [hl, Nat.mul_one]) (fun j u hj => by rw [Addr.add_lit]; exact ((Joins.below_alloc1 w _).cell (p := ⟨b, off + j, none⟩) hb).trans (hcell j u hj).1) (fun u hu => by obtain ⟨j, hj⟩ := List.getElem?_of_mem hu; exact (hcell j u hj).2) (by unfold maxLen; omega) (by omega) ?_; intro v' w2 hown hwr)
  go_ret
  have hb2 : Below w.heap.size w w2 := (Joins.below_alloc1 w (.cells #[] 35)).trans (hwr.toBelow (B := w.heap.size) (by simp) (fun k hk => by cases hk; exact Nat.le_refl _))
  have hvk : ∀ k, v'.ownBlock = some k → w.heap.size ≤ k := fun k hk => by
    rcases hwr.own with h1 | h1
    · rw [h1] at hk; cases hk; exact Nat.le_refl _
    · have := h1 k hk; simp at this; omega
  obtain ⟨g, c, rfl, ht, hc⟩ := tab_of_owns (S := Cut S w.heap.size) (xs := xs) (vs := vs) (n := xs.length) (by simpa using hown) h0 rfl hl (fun i x hi => by
    obtain ⟨u, h1, h2⟩ := hel i x hi
    exact ⟨u, h1, h2.later hb2⟩)
  exact ⟨g, c, vs, rfl, ht, hc, hvk g rfl, hb2⟩
end Go.Proofs.Ytlaaolbdadempaa
