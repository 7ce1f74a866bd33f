/- net, and the mathematics of the examples. -/
import Derived.Test.YtbmbddapbgnioaaHd
namespace Go.Proofs.Ytbmbddapbgnioaa
open Go.RowKit Go.Shelf

set_option maxRecDepth 100000 in
set_option maxHeartbeats 4000000 in
theorem net_call (N k : Int) (hk : wrap64 (N - 1) = k) (a : Option Addr) (n c : Nat) (w : World) :
    Calls Try.prog 23 #[.int .i64 N, .slice a n c] w fun e w' => e = .returned (netV N 0 k (.slice a n c)) ∧ Below w.heap.size w w' := by
  go_enter Try.func23, Try.ntmps23
  go_wp2_with fail
  refine bodyPost_ret (results_cell_row rfl _ _ w.heap.size 24 #[.int .i64 N, .int .i64 0, .int .i64 k, .slice a n c] (0, 0) _ rfl (heap_alloc_new w _) Try.underlying24 rfl (by kernel_rfl)) rfl ?_
  exact ⟨rfl, Joins.below_alloc1 w _⟩
def A4 : List Ar := [(0, 1, 3), (0, 2, 2), (1, 2, 5), (1, 3, 2), (2, 3, 3)]
def A3 : List Ar := [(0, 1, 9), (1, 2, 4)]
theorem netE4 : netE 4 0 3 A4 = 0 := by decide
theorem netE3 : netE 3 0 2 A3 = 0 := by decide
theorem netE2 : netE 2 0 1 [] = 0 := by decide
theorem netEb : netE 2 0 1 [(1, 0, 2)] = 0 := by decide
theorem netE1 : netE 1 0 0 [] = 1 := by decide
theorem netE0 : netE 2 0 1 [(0, 0, 0)] = 130 := by decide
theorem netEm : netE 2 0 1 (List.replicate 513 (0, 0, 0)) = 2 := by unfold netE; rw [if_pos (by omega), if_neg (by rw [List.length_replicate]; omega)]
theorem ofL_at (l : List Bool) (v : Nat) : ofL l (v : Int) = l.getD v false := rfl
theorem list_of {l : List Bool} {k : List Bool} (h : l.length = k.length) (h2 : ∀ v, v < k.length → l.getD v false = k.getD v false) : l = k := by
  refine List.ext_getElem h fun i h3 h4 => ?_
  have := h2 i h4
  simpa [h3, h4] using this
theorem flo4 : Flo 4 0 3 A4 [3, 2, 1, 2, 3] := ⟨(okF_iff _ _).2 ⟨rfl, by decide⟩, fun v h0 h1 h2 h3 => by
  have : v = 1 ∨ v = 2 := by omega
  rcases this with rfl | rfl <;> decide⟩
theorem flo3 : Flo 3 0 2 A3 [4, 4] := ⟨(okF_iff _ _).2 ⟨rfl, by decide⟩, fun v h0 h1 h2 h3 => by
  have : v = 1 := by omega
  subst this; decide⟩
theorem ex4 {X : List Int} {l : List Bool} (hl : l.length = 4) (h : IsMax 4 0 3 A4 X (ofL l)) : surp A4 X 0 = 5 ∧ l = [true, false, false, false] := by
  have hn : Netw 4 0 3 A4 := (net_ok netE4).net
  have h1 : (5 : Int) ≤ surp A4 X 0 := h.most hn flo4
  have hS : Sid 0 3 (fun v => decide (v = 0)) := ⟨by decide, by decide⟩
  have h2 : surp A4 X 0 ≤ 5 := h.flo.le_cut hn hS
  have e : surp A4 X 0 = 5 := by omega
  refine ⟨e, list_of hl fun v hv => ?_⟩
  have hv4 : v < 4 := hv
  rcases Nat.eq_zero_or_pos v with rfl | hp
  · exact h.sid.src
  · have hk : ([true, false, false, false] : List Bool).getD v false = false := by
      have : v = 1 ∨ v = 2 ∨ v = 3 := by omega
      rcases this with rfl | rfl | rfl <;> rfl
    rw [hk]
    cases hq : l.getD v false with
    | false => rfl
    | true =>
      have := h.least hn hS (by rw [e]; decide) (v := (v : Int)) (by omega) (by omega) hq
      have := of_decide_eq_true this
      omega
theorem ex3 {X : List Int} {l : List Bool} (hl : l.length = 3) (h : IsMax 3 0 2 A3 X (ofL l)) : X = [4, 4] ∧ l = [true, true, false] := by
  have hn : Netw 3 0 2 A3 := (net_ok netE3).net
  have h1 : (4 : Int) ≤ surp A3 X 0 := h.most hn flo3
  have hS : Sid 0 2 (fun v => decide (v ≠ 2)) := ⟨by decide, by decide⟩
  have h2 : surp A3 X 0 ≤ 4 := h.flo.le_cut hn hS
  have e : surp A3 X 0 = 4 := by omega
  have hX := ((okF_iff A3 X).1 h.flo.ok).1
  have hb := h.flo.bal 1 (by omega) (by omega) (by omega) (by omega)
  have hv := h.val hn
  constructor
  · match X, hX with
    | [x, y], _ =>
      have e1 : surp A3 [x, y] 0 = x := by simp [A3, surp]
      have e2 : surp A3 [x, y] 1 = y - x := by simp [A3, surp]; omega
      rw [e1] at e
      rw [e2] at hb
      rw [show x = 4 by omega, show y = 4 by omega]
  · have s0 : l.getD 0 false = true := h.sid.src
    have s2 : l.getD 2 false = false := h.sid.snk
    have s1 : l.getD 1 false = true := by
      cases hq : l.getD 1 false with
      | true => rfl
      | false =>
        have o0 : ofL l 0 = true := s0
        have o1 : ofL l 1 = false := hq
        have o2 : ofL l 2 = false := s2
        have : cutF A3 (ofL l) = 9 := by simp [A3, cutF, o0, o1]
        omega
    refine list_of hl fun v hv => ?_
    have hv3 : v < 3 := hv
    have : v = 0 ∨ v = 1 ∨ v = 2 := by omega
    rcases this with rfl | rfl | rfl
    · exact s0
    · exact s1
    · exact s2
theorem ex2 {X : List Int} {l : List Bool} (hl : l.length = 2) (h : IsMax 2 0 1 [] X (ofL l)) : X = [] ∧ l = [true, false] := by
  refine ⟨List.eq_nil_of_length_eq_zero ((okF_iff [] X).1 h.flo.ok).1, list_of hl fun v hv => ?_⟩
  have hv2 : v < 2 := hv
  have : v = 0 ∨ v = 1 := by omega
  rcases this with rfl | rfl
  · exact h.sid.src
  · exact h.sid.snk
theorem valb : valE 2 0 1 [(1, 0, 2)] [2] = 0 ∧ valV 2 0 1 [(1, 0, 2)] [2] = -2 :=
  val_of netEb ⟨(okF_iff _ _).2 ⟨rfl, by decide⟩, fun v h0 h1 h2 h3 => by omega⟩
theorem val3 : valE 3 0 2 A3 [4, 3] = 130 := (val_no netE3 (fun h => by
  have := h.bal 1 (by omega) (by omega) (by omega) (by omega)
  revert this; decide)).1
theorem cutb : cutE 2 0 1 [(1, 0, 2)] [true, false] = 0 ∧ cutV 2 0 1 [(1, 0, 2)] [true, false] = 0 := by decide
theorem cut3' : cutE 3 0 2 A3 [true, true, true] = 130 := by decide
end Go.Proofs.Ytbmbddapbgnioaa
