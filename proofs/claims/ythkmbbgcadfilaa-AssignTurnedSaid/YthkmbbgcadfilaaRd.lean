/- sane. -/
import Derived.Test.YthkmbbgcadfilaaRc
namespace Go.Proofs.Ythkmbbgcadfilaa
open Go.RowKit Go.Shelf

theorem nrest_row {w : World} {g n : Nat} {rvs : List Value} {C : List (List Int)} (h : Row w g 23 rvs) (hn : rvs.length = n) (hc : C.length = n) (hm : n ≤ maxLen) (hr : ∀ i, i < n → ∃ rv, rvs[i]? = some rv ∧ IRest w.heap.size w (C.getD i []) rv) : NRest w.heap.size w C (.slice (some ⟨g, 0, none⟩) n n) := by
  subst hn
  refine ⟨_, _, by rw [hc], by omega, hm, ?_⟩
  rcases Nat.eq_zero_or_pos C.length with h0 | h0
  · exact .inl h0
  · refine .inr ⟨g, 0, rfl, h.lt, fun i hi => ?_⟩
    obtain ⟨rv, h1, h2⟩ := hr i (by omega)
    rw [Nat.zero_add]
    have e : C.getD i [] = C[i] := by simp [hi]
    rw [e] at h2
    exact ⟨rv, h.cell h1, h2⟩
theorem i64_small {xs : List Int} (h : xs.all (fun x => decide (-100 ≤ x ∧ x ≤ 100)) = true) : ∀ x, x ∈ xs → I64 x := fun x hx => by
  rw [List.all_eq_true] at h
  have := of_decide_eq_true (h x hx)
  unfold I64; omega
theorem irest_new (w : World) (xs : List Int) (n : Nat) (hn : xs.length = n) (hm : n ≤ 100) (h : xs.all (fun x => decide (-100 ≤ x ∧ x ≤ 100)) = true) : IRest (w.alloc (.cells (nums xs).toArray 3)).heap.size (w.alloc (.cells (nums xs).toArray 3)) xs (.slice (some ⟨w.heap.size, 0, none⟩) n n) :=
  irest_rowN (row_new w 3 (nums xs)) hn (by unfold maxLen; omega) (i64_small h)
/-- two rows of two numbers, new -/
theorem mat_two (w : World) (a b c d : Int) (h : [a, b].all (fun x => decide (-100 ≤ x ∧ x ≤ 100)) = true) (k : [c, d].all (fun x => decide (-100 ≤ x ∧ x ≤ 100)) = true) :
    ∃ W, W = ((w.alloc (.cells #[.int .i64 a, .int .i64 b] 3)).alloc (.cells #[.int .i64 c, .int .i64 d] 3)).alloc (.cells #[.slice (some ⟨w.heap.size, 0, none⟩) 2 2, .slice (some ⟨w.heap.size + 1, 0, none⟩) 2 2] 23) ∧ Below w.heap.size w W ∧ NRest W.heap.size W [[a, b], [c, d]] (.slice (some ⟨w.heap.size + 1 + 1, 0, none⟩) 2 2) := by
  refine ⟨_, rfl, below_next (below_next (Joins.below_alloc1 w _) (Joins.below_alloc1 _ _)) (Joins.below_alloc1 _ _), ?_⟩
  have h1 := irest_new w [a, b] 2 rfl (by omega) h
  have h2 := irest_new (w.alloc (.cells #[.int .i64 a, .int .i64 b] 3)) [c, d] 2 rfl (by omega) k
  have hb1 := Joins.below_alloc1 (w.alloc (.cells #[.int .i64 a, .int .i64 b] 3)) (.cells #[.int .i64 c, .int .i64 d] 3)
  have hb2 := Joins.below_alloc1 ((w.alloc (.cells #[.int .i64 a, .int .i64 b] 3)).alloc (.cells #[.int .i64 c, .int .i64 d] 3)) (.cells #[.slice (some ⟨w.heap.size, 0, none⟩) 2 2, .slice (some ⟨w.heap.size + 1, 0, none⟩) 2 2] 23)
  have h3 := (IRest.keep h1 hb1).keep hb2
  have h4 := IRest.keep h2 hb2
  have hr := row_new ((w.alloc (.cells #[.int .i64 a, .int .i64 b] 3)).alloc (.cells #[.int .i64 c, .int .i64 d] 3)) 23 [.slice (some ⟨w.heap.size, 0, none⟩) 2 2, .slice (some ⟨w.heap.size + 1, 0, none⟩) 2 2]
  have e1 : (w.alloc (.cells #[.int .i64 a, .int .i64 b] 3)).heap.size = w.heap.size + 1 := World.size_alloc ..
  have e2 : ((w.alloc (.cells #[.int .i64 a, .int .i64 b] 3)).alloc (.cells #[.int .i64 c, .int .i64 d] 3)).heap.size = w.heap.size + 1 + 1 := by rw [World.size_alloc, e1]
  rw [e1] at h4
  rw [e2] at hr
  refine nrest_row hr rfl rfl (by unfold maxLen; omega) fun i hi => ?_
  rcases lt2 hi with rfl | rfl
  · exact ⟨_, rfl, h3⟩
  · exact ⟨_, rfl, h4⟩
theorem mat_three (w : World) : ∃ W, W = (((w.alloc (.cells #[.int .i64 1, .int .i64 2] 3)).alloc (.cells #[.int .i64 3, .int .i64 (-1)] 3)).alloc (.cells #[.int .i64 4, .int .i64 (-1)] 3)).alloc (.cells #[.slice (some ⟨w.heap.size, 0, none⟩) 2 2, .slice (some ⟨w.heap.size + 1, 0, none⟩) 2 2, .slice (some ⟨w.heap.size + 1 + 1, 0, none⟩) 2 2] 23) ∧ Below w.heap.size w W ∧ NRest W.heap.size W [[1, 2], [3, -1], [4, -1]] (.slice (some ⟨w.heap.size + 1 + 1 + 1, 0, none⟩) 3 3) := by
  refine ⟨_, rfl, below_next (below_next (below_next (Joins.below_alloc1 w _) (Joins.below_alloc1 _ _)) (Joins.below_alloc1 _ _)) (Joins.below_alloc1 _ _), ?_⟩
  have h0 := irest_new w [1, 2] 2 rfl (by omega) (by decide)
  have h1 := irest_new (w.alloc (.cells #[.int .i64 1, .int .i64 2] 3)) [3, -1] 2 rfl (by omega) (by decide)
  have h2 := irest_new ((w.alloc (.cells #[.int .i64 1, .int .i64 2] 3)).alloc (.cells #[.int .i64 3, .int .i64 (-1)] 3)) [4, -1] 2 rfl (by omega) (by decide)
  have e0 : (w.alloc (.cells #[.int .i64 1, .int .i64 2] 3)).heap.size = w.heap.size + 1 := by rw [World.size_alloc]
  have e1 : ((w.alloc (.cells #[.int .i64 1, .int .i64 2] 3)).alloc (.cells #[.int .i64 3, .int .i64 (-1)] 3)).heap.size = w.heap.size + 1 + 1 := by rw [World.size_alloc, e0]
  have e2 : (((w.alloc (.cells #[.int .i64 1, .int .i64 2] 3)).alloc (.cells #[.int .i64 3, .int .i64 (-1)] 3)).alloc (.cells #[.int .i64 4, .int .i64 (-1)] 3)).heap.size = w.heap.size + 1 + 1 + 1 := by rw [World.size_alloc, e1]
  have k0 := (IRest.keep (IRest.keep (IRest.keep h0 (Joins.below_alloc1 (w.alloc (.cells #[.int .i64 1, .int .i64 2] 3)) (.cells #[.int .i64 3, .int .i64 (-1)] 3))) (Joins.below_alloc1 ((w.alloc (.cells #[.int .i64 1, .int .i64 2] 3)).alloc (.cells #[.int .i64 3, .int .i64 (-1)] 3)) (.cells #[.int .i64 4, .int .i64 (-1)] 3))) (Joins.below_alloc1 (((w.alloc (.cells #[.int .i64 1, .int .i64 2] 3)).alloc (.cells #[.int .i64 3, .int .i64 (-1)] 3)).alloc (.cells #[.int .i64 4, .int .i64 (-1)] 3)) (.cells #[.slice (some ⟨w.heap.size, 0, none⟩) 2 2, .slice (some ⟨w.heap.size + 1, 0, none⟩) 2 2, .slice (some ⟨w.heap.size + 1 + 1, 0, none⟩) 2 2] 23)))
  have k1 := (IRest.keep (IRest.keep h1 (Joins.below_alloc1 ((w.alloc (.cells #[.int .i64 1, .int .i64 2] 3)).alloc (.cells #[.int .i64 3, .int .i64 (-1)] 3)) (.cells #[.int .i64 4, .int .i64 (-1)] 3))) (Joins.below_alloc1 (((w.alloc (.cells #[.int .i64 1, .int .i64 2] 3)).alloc (.cells #[.int .i64 3, .int .i64 (-1)] 3)).alloc (.cells #[.int .i64 4, .int .i64 (-1)] 3)) (.cells #[.slice (some ⟨w.heap.size, 0, none⟩) 2 2, .slice (some ⟨w.heap.size + 1, 0, none⟩) 2 2, .slice (some ⟨w.heap.size + 1 + 1, 0, none⟩) 2 2] 23)))
  rw [e0] at k1
  have k2 := (IRest.keep h2 (Joins.below_alloc1 (((w.alloc (.cells #[.int .i64 1, .int .i64 2] 3)).alloc (.cells #[.int .i64 3, .int .i64 (-1)] 3)).alloc (.cells #[.int .i64 4, .int .i64 (-1)] 3)) (.cells #[.slice (some ⟨w.heap.size, 0, none⟩) 2 2, .slice (some ⟨w.heap.size + 1, 0, none⟩) 2 2, .slice (some ⟨w.heap.size + 1 + 1, 0, none⟩) 2 2] 23)))
  rw [e1] at k2
  have hr := row_new (((w.alloc (.cells #[.int .i64 1, .int .i64 2] 3)).alloc (.cells #[.int .i64 3, .int .i64 (-1)] 3)).alloc (.cells #[.int .i64 4, .int .i64 (-1)] 3)) 23 [.slice (some ⟨w.heap.size, 0, none⟩) 2 2, .slice (some ⟨w.heap.size + 1, 0, none⟩) 2 2, .slice (some ⟨w.heap.size + 1 + 1, 0, none⟩) 2 2]
  rw [e2] at hr
  refine nrest_row hr rfl rfl (by unfold maxLen; omega) fun i hi => ?_
  have : i = 0 ∨ i = 1 ∨ i = 2 := by omega
  rcases this with rfl | rfl | rfl
  · exact ⟨_, rfl, k0⟩
  · exact ⟨_, rfl, k1⟩
  · exact ⟨_, rfl, k2⟩
theorem mat_e (w : World) : ∃ W, W = (w.alloc (.cells #[] 3)).alloc (.cells #[.slice (some ⟨w.heap.size, 0, none⟩) 0 0] 23) ∧ Below w.heap.size w W ∧ NRest W.heap.size W [[]] (.slice (some ⟨w.heap.size + 1, 0, none⟩) 1 1) := by
  refine ⟨_, rfl, below_next (Joins.below_alloc1 w _) (Joins.below_alloc1 _ _), ?_⟩
  have h0 := irest_new w [] 0 rfl (by omega) (by decide)
  have e0 : (w.alloc (.cells #[] 3)).heap.size = w.heap.size + 1 := by rw [World.size_alloc]
  have k0 := (IRest.keep h0 (Joins.below_alloc1 (w.alloc (.cells #[] 3)) (.cells #[.slice (some ⟨w.heap.size, 0, none⟩) 0 0] 23)))
  have hr := row_new (w.alloc (.cells #[] 3)) 23 [.slice (some ⟨w.heap.size, 0, none⟩) 0 0]
  rw [e0] at hr
  refine nrest_row hr rfl rfl (by unfold maxLen; omega) fun i hi => ?_
  obtain rfl : i = 0 := by omega
  exact ⟨_, rfl, k0⟩
theorem mat_m (w : World) : ∃ W, W = (w.alloc (.cells #[.int .i64 (-2)] 3)).alloc (.cells #[.slice (some ⟨w.heap.size, 0, none⟩) 1 1] 23) ∧ Below w.heap.size w W ∧ NRest W.heap.size W [[-2]] (.slice (some ⟨w.heap.size + 1, 0, none⟩) 1 1) := by
  refine ⟨_, rfl, below_next (Joins.below_alloc1 w _) (Joins.below_alloc1 _ _), ?_⟩
  have h0 := irest_new w [-2] 1 rfl (by omega) (by decide)
  have e0 : (w.alloc (.cells #[.int .i64 (-2)] 3)).heap.size = w.heap.size + 1 := by rw [World.size_alloc]
  have k0 := (IRest.keep h0 (Joins.below_alloc1 (w.alloc (.cells #[.int .i64 (-2)] 3)) (.cells #[.slice (some ⟨w.heap.size, 0, none⟩) 1 1] 23)))
  have hr := row_new (w.alloc (.cells #[.int .i64 (-2)] 3)) 23 [.slice (some ⟨w.heap.size, 0, none⟩) 1 1]
  rw [e0] at hr
  refine nrest_row hr rfl rfl (by unfold maxLen; omega) fun i hi => ?_
  obtain rfl : i = 0 := by omega
  exact ⟨_, rfl, k0⟩
theorem mat_n (w : World) : ∃ W, W = ((w.alloc (.cells #[.int .i64 1, .int .i64 2] 3)).alloc (.cells #[.int .i64 1] 3)).alloc (.cells #[.slice (some ⟨w.heap.size, 0, none⟩) 2 2, .slice (some ⟨w.heap.size + 1, 0, none⟩) 1 1] 23) ∧ Below w.heap.size w W ∧ NRest W.heap.size W [[1, 2], [1]] (.slice (some ⟨w.heap.size + 1 + 1, 0, none⟩) 2 2) := by
  refine ⟨_, rfl, below_next (below_next (Joins.below_alloc1 w _) (Joins.below_alloc1 _ _)) (Joins.below_alloc1 _ _), ?_⟩
  have h0 := irest_new w [1, 2] 2 rfl (by omega) (by decide)
  have h1 := irest_new (w.alloc (.cells #[.int .i64 1, .int .i64 2] 3)) [1] 1 rfl (by omega) (by decide)
  have e0 : (w.alloc (.cells #[.int .i64 1, .int .i64 2] 3)).heap.size = w.heap.size + 1 := by rw [World.size_alloc]
  have e1 : ((w.alloc (.cells #[.int .i64 1, .int .i64 2] 3)).alloc (.cells #[.int .i64 1] 3)).heap.size = w.heap.size + 1 + 1 := by rw [World.size_alloc, e0]
  have k0 := (IRest.keep (IRest.keep h0 (Joins.below_alloc1 (w.alloc (.cells #[.int .i64 1, .int .i64 2] 3)) (.cells #[.int .i64 1] 3))) (Joins.below_alloc1 ((w.alloc (.cells #[.int .i64 1, .int .i64 2] 3)).alloc (.cells #[.int .i64 1] 3)) (.cells #[.slice (some ⟨w.heap.size, 0, none⟩) 2 2, .slice (some ⟨w.heap.size + 1, 0, none⟩) 1 1] 23)))
  have k1 := (IRest.keep h1 (Joins.below_alloc1 ((w.alloc (.cells #[.int .i64 1, .int .i64 2] 3)).alloc (.cells #[.int .i64 1] 3)) (.cells #[.slice (some ⟨w.heap.size, 0, none⟩) 2 2, .slice (some ⟨w.heap.size + 1, 0, none⟩) 1 1] 23)))
  rw [e0] at k1
  have hr := row_new ((w.alloc (.cells #[.int .i64 1, .int .i64 2] 3)).alloc (.cells #[.int .i64 1] 3)) 23 [.slice (some ⟨w.heap.size, 0, none⟩) 2 2, .slice (some ⟨w.heap.size + 1, 0, none⟩) 1 1]
  rw [e1] at hr
  refine nrest_row hr rfl rfl (by unfold maxLen; omega) fun i hi => ?_
  rcases lt2 hi with rfl | rfl
  · exact ⟨_, rfl, k0⟩
  · exact ⟨_, rfl, k1⟩
theorem two_new (w : World) (a b c d : Int) (h : [a, b].all (fun x => decide (-100 ≤ x ∧ x ≤ 100)) = true) (k : [c, d].all (fun x => decide (-100 ≤ x ∧ x ≤ 100)) = true) :
    ∃ W, W = (w.alloc (.cells #[.int .i64 a, .int .i64 b] 3)).alloc (.cells #[.int .i64 c, .int .i64 d] 3) ∧ Below w.heap.size w W ∧ IRest W.heap.size W [a, b] (.slice (some ⟨w.heap.size, 0, none⟩) 2 2) ∧ IRest W.heap.size W [c, d] (.slice (some ⟨w.heap.size + 1, 0, none⟩) 2 2) := by
  have h1 := irest_new w [a, b] 2 rfl (by omega) h
  have h2 := irest_new (w.alloc (.cells #[.int .i64 a, .int .i64 b] 3)) [c, d] 2 rfl (by omega) k
  have e1 : (w.alloc (.cells #[.int .i64 a, .int .i64 b] 3)).heap.size = w.heap.size + 1 := World.size_alloc ..
  rw [e1] at h2
  exact ⟨_, rfl, below_next (Joins.below_alloc1 w _) (Joins.below_alloc1 _ _), IRest.keep h1 (Joins.below_alloc1 _ _), h2⟩
theorem made_rows (n : Nat) : madeCells (Value.slice none 0 0).cells (n * 1) = (List.replicate n nilV).toArray := by
  apply Array.ext'
  rw [Nat.mul_one, show (Value.slice none 0 0).cells = #[Value.slice none 0 0] from rfl, toList_madeCells_one]
theorem mk_rows (W : World) (n : Nat) (hn : n ≤ 1000) : (Instr.makeSlice 22 (.int .i64 (n : Int)) (.int .i64 (n : Int))).run Try.prog W = .ok (.slice (some ⟨W.heap.size, 0, none⟩) n n) (W.alloc (.cells (List.replicate n nilV).toArray 23)) := by
  obtain ⟨i0, hi, hz⟩ := info_parts Try.infoR
  simp only [Prod.mk.injEq] at hz
  obtain ⟨hz0, hz1, hz2⟩ := hz
  have hr := run_makeSlice (P := Try.prog) W 22 23 i0 (.slice none 0 0) Try.underlying22 hi hz0 .i64 .i64 (n : Int) (n : Int) (by omega) (by omega) (by rw [hz1, Int.toNat_natCast]; omega) (by rw [hz2]; omega) (by omega)
  rw [hz1, Int.toNat_natCast, made_rows] at hr
  exact hr
theorem nrest_made (w : World) (n : Nat) (hn : n ≤ 1000) : NRest (w.alloc (.cells (List.replicate n nilV).toArray 23)).heap.size (w.alloc (.cells (List.replicate n nilV).toArray 23)) (List.replicate n []) (.slice (some ⟨w.heap.size, 0, none⟩) n n) := by
  refine nrest_row (row_new w 23 (List.replicate n nilV)) (by simp) (by simp) (by unfold maxLen; omega) fun i hi => ⟨nilV, ?_, ?_⟩
  · rw [List.getElem?_replicate, if_pos hi]
  · have e : (List.replicate n ([] : List Int)).getD i [] = [] := by rw [List.getD_eq_getElem?_getD, List.getElem?_replicate, if_pos hi]; rfl
    rw [e]
    exact irest_nil _ _
theorem sn_best (W : World) (v : Value) (h : NRest W.heap.size W C2 v) : Calls Try.prog 15 #[v] W fun e w' => ∃ va, e = .returned (.tuple #[va, .int .i64 3, .bool true, .int .i64 0]) ∧ IBuf w' va [1, 0] ∧ Below W.heap.size W w' := by
  refine (best_call C2 v W h).mono ?_
  rintro e w' ⟨hb, va, c, ok, rfl, hp⟩
  obtain ⟨rfl, rfl, hi⟩ := best_two hp
  exact ⟨va, by rw [chk2], hi, hb⟩
theorem sn_none (W : World) (v : Value) (h : NRest W.heap.size W [[]] v) : Calls Try.prog 15 #[v] W fun e w' => ∃ va c, e = .returned (.tuple #[va, .int .i64 c, .bool false, .int .i64 0]) ∧ Below W.heap.size W w' := by
  refine (best_call [[]] v W h).mono ?_
  rintro e w' ⟨hb, va, c, ok, rfl, hp⟩
  obtain rfl := best_none hp
  exact ⟨va, c, by rw [chk1], hb⟩
theorem sn_cost (W : World) (v t : Value) (h : NRest W.heap.size W C2 v) (k : IRest W.heap.size W [0, 1] t) : Calls Try.prog 13 #[v, t] W fun e w' => e = .returned (.tuple #[.int .i64 5, .int .i64 0]) ∧ Below W.heap.size W w' := by
  have := cost_call C2 [0, 1] v t W h k
  rwa [cost_two] at this
theorem sn_prv (W : World) (v a b : Value) (h : NRest W.heap.size W C2 v) (k : IRest W.heap.size W [2, 2] a) (l : IRest W.heap.size W [-1, 0] b) : Calls Try.prog 20 #[v, a, b] W fun e w' => e = .returned (.tuple #[.int .i64 3, .bool true, .int .i64 0]) ∧ Below W.heap.size W w' := by
  have := proves_call C2 [2, 2] [-1, 0] v a b W h k l
  rwa [prv_two] at this
theorem sn_odd (W : World) (v a b : Value) (h : NRest W.heap.size W C2 v) (k : IRest W.heap.size W [2, 2] a) (l : IRest W.heap.size W [0, 0] b) : Calls Try.prog 20 #[v, a, b] W fun e w' => e = .returned (.tuple #[.int .i64 0, .bool false, .int .i64 0]) ∧ Below W.heap.size W w' := by
  have := proves_call C2 [2, 2] [0, 0] v a b W h k l
  rwa [prv_odd] at this
theorem sn_den3 (W : World) (v : Value) (h : NRest W.heap.size W C3 v) : Calls Try.prog 22 #[v] W fun e w' => ∃ va, e = .returned (.tuple #[va, .bool true, .int .i64 0]) ∧ IBuf w' va [1, 2] ∧ Below W.heap.size W w' := by
  refine (deny_call C3 v W h).mono ?_
  rintro e w' ⟨hb, va, ok, rfl, hp⟩
  obtain ⟨rfl, hi⟩ := den_three hp
  exact ⟨va, by rw [chk3], hi, hb⟩
theorem sn_den2 (W : World) (v : Value) (h : NRest W.heap.size W C2 v) : Calls Try.prog 22 #[v] W fun e w' => ∃ va, e = .returned (.tuple #[va, .bool false, .int .i64 0]) ∧ Below W.heap.size W w' := by
  refine (deny_call C2 v W h).mono ?_
  rintro e w' ⟨hb, va, ok, rfl, hp⟩
  obtain rfl := den_two hp
  exact ⟨va, by rw [chk2], hb⟩
theorem sn_pri (W : World) (v : Value) (h : NRest W.heap.size W C2 v) : Calls Try.prog 24 #[v] W fun e w' => ∃ a c b d, e = .returned (.tuple #[.slice a 2 c, .slice b 2 d, .bool true, .int .i64 0]) ∧ Below W.heap.size W w' := by
  refine (prices_call C2 v W h).mono ?_
  rintro e w' ⟨hb, va, vb, ok, rfl, hp⟩
  obtain ⟨rfl, U, V, h1, h2, h3, h4⟩ := pri_two hp
  obtain ⟨a, c, rfl⟩ := irest_shape h3
  obtain ⟨b, d, rfl⟩ := irest_shape h4
  rw [h1, h2]
  exact ⟨a, c, b, d, by rw [chk2], hb⟩
theorem sn_chk (C : List (List Int)) (W : World) (v : Value) (h : NRest W.heap.size W C v) : Calls Try.prog 17 #[v] W fun e w' => e = .returned (.int .i64 (chkE C)) ∧ w' = W := check_call C v W h
set_option maxRecDepth 100000 in
set_option maxHeartbeats 16000000 in
theorem sane_call (w : World) : Calls Try.prog 11 #[] w fun e w' => e = .returned (.bool true) ∧ Below w.heap.size w w' := by
  obtain ⟨w1, hw1, hb1, hm1⟩ := mat_two w 1 2 1 4 (by decide) (by decide)
  have HW1 := Lib.hid hw1
  have HB1 := Lib.hid hb1
  have HT : Hid (∀ W, Below w1.heap.size w1 W → NRest W.heap.size W C2 (.slice (some ⟨w.heap.size + 1 + 1, 0, none⟩) 2 2)) := Lib.hid (fun W hW => hm1.keep hW)
  clear hw1 hb1 hm1
  go_enter Try.func11, Try.ntmps11
  go_upto_region 2 with (fail)
  rw [← HW1.out]
  obtain ⟨g2, hg2⟩ : ∃ g, g = w.heap.size + 1 + 1 := ⟨_, rfl⟩
  rw [← hg2] at HT ⊢
  clear hg2
  go_upto_region 3 with (go_at_call 15; refine (sn_best w1 _ (HT.out w1 (Below.refl _ _))).mono ?_; rintro e w2 ⟨v1, rfl, hi1, hb⟩; have HV1 := Lib.hid hi1; have HB2 := Lib.hid hb; clear hb hi1)
  have hn3 := irest_new w2 [0, 1] 2 rfl (by omega) (by decide)
  have HT : Hid (∀ W, Below w2.heap.size w2 W → NRest W.heap.size W C2 (.slice (some ⟨g2, 0, none⟩) 2 2)) := Lib.hid (fun W hW => HT.out W (below_next HB2.out hW))
  have hb3 := Joins.below_alloc1 w2 (.cells (nums [0, 1]).toArray 3)
  have HC3 := Lib.hid (sn_cost _ _ _ (HT.out _ hb3) hn3)
  have HB3 := Lib.hid hb3
  clear hn3 hb3
  go_upto_region 4 with (go_at_call 13; refine HC3.out.mono ?_; rintro e w4 ⟨rfl, hb⟩; have HB4 := Lib.hid (below_next HB3.out hb); clear hb)
  obtain ⟨w5, hw5, hb5, hx5, hy5⟩ := two_new w4 2 2 (-1) 0 (by decide) (by decide)
  have HW5 := Lib.hid hw5
  have HB5 := Lib.hid (below_next HB4.out hb5)
  have HC5 := Lib.hid (sn_prv w5 _ _ _ (HT.out _ HB5.out) hx5 hy5)
  clear hw5 hb5 hx5 hy5 HC3 HB3
  go_upto_region 5 with (rw [← HW5.out]; go_at_call 20; refine HC5.out.mono ?_; rintro e w6 ⟨rfl, hb⟩; have HB6 := Lib.hid (below_next HB5.out hb); clear hb)
  obtain ⟨w7, hw7, hb7, hx7, hy7⟩ := two_new w6 2 2 0 0 (by decide) (by decide)
  have HW7 := Lib.hid hw7
  have HB7 := Lib.hid (below_next HB6.out hb7)
  have HC7 := Lib.hid (sn_odd w7 _ _ _ (HT.out _ HB7.out) hx7 hy7)
  clear hw7 hb7 hx7 hy7 HB4 HW5 HB5 HC5
  go_upto_region 6 with (rw [← HW7.out]; go_at_call 20; refine HC7.out.mono ?_; rintro e w8 ⟨rfl, hb⟩; have HB8 := Lib.hid (below_next HB7.out hb); clear hb)
  obtain ⟨w9, hw9, hb9, hx9⟩ := mat_three w8
  have HW9 := Lib.hid hw9
  have HB9 := Lib.hid (below_next HB8.out hb9)
  have HC9 := Lib.hid (sn_den3 w9 _ hx9)
  clear hw9 hb9 hx9 HB6 HW7 HB7 HC7
  go_upto_region 7 with (rw [← HW9.out]; go_at_call 22; refine HC9.out.mono ?_; rintro e w10 ⟨v2, rfl, hi, hb⟩; have HB10 := Lib.hid (below_next HB9.out hb); have HV2 := Lib.hid hi; clear hb hi)
  have HC10 := Lib.hid (sn_den2 w10 _ (HT.out _ HB10.out))
  clear HW9 HB9 HC9 HB8
  go_upto_region 8 with (go_at_call 22; refine HC10.out.mono ?_; rintro e w11 ⟨v3, rfl, hb⟩; have HK11 := Lib.hid hb; have HB11 := Lib.hid (below_next HB10.out hb); clear hb)
  have HC11 := Lib.hid (sn_pri w11 _ (HT.out _ HB11.out))
  clear HC10
  go_upto_region 9 with (go_at_call 24; refine HC11.out.mono ?_; rintro e w12 ⟨a5, c5, a6, c6, rfl, hb⟩; have HK12 := Lib.hid hb; have HB12 := Lib.hid (below_next HB11.out hb); clear hb)
  obtain ⟨w13, hw13, hb13, hx13⟩ := mat_e w12
  have HW13 := Lib.hid hw13
  have HB13 := Lib.hid (below_next HB12.out hb13)
  have HC13 := Lib.hid (sn_none w13 _ hx13)
  have HK13 := Lib.hid hb13
  clear hw13 hb13 hx13 HC11
  go_upto_region 10 with (rw [← HW13.out]; go_at_call 15; refine HC13.out.mono ?_; rintro e w14 ⟨v4, c4, rfl, hb⟩; have HK14 := Lib.hid hb; have HB14 := Lib.hid (below_next HB13.out hb); clear hb)
  clear HC13 HW13
  go_upto_region 12 with (fail)
  obtain ⟨w15, hw15, hb15, hx15⟩ := mat_m w14
  have HW15 := Lib.hid hw15
  have HB15 := Lib.hid (below_next HB14.out hb15)
  have HCA := Lib.hid (sn_chk [[-2]] w15 _ hx15)
  rw [chkm] at HCA
  obtain ⟨w16, hw16, hb16, hx16⟩ := mat_n w15
  have HW16 := Lib.hid hw16
  have HB16 := Lib.hid (below_next HB15.out hb16)
  have HCB := Lib.hid (sn_chk [[1, 2], [1]] w16 _ hx16)
  rw [chkn] at HCB
  obtain ⟨Z, hZ⟩ : ∃ Z, Z = (List.replicate 17 nilV).toArray := ⟨_, rfl⟩
  have HMK : Hid (∀ W : World, (Instr.makeSlice 22 (.int .i64 17) (.int .i64 17)).run Try.prog W = .ok (.slice (some ⟨W.heap.size, 0, none⟩) 17 17) (W.alloc (.cells Z 23))) := Lib.hid (by rw [hZ]; exact fun W => mk_rows W 17 (by omega))
  obtain ⟨w17, hw17⟩ : ∃ w17, w17 = w16.alloc (.cells Z 23) := ⟨_, rfl⟩
  have HW17 := Lib.hid hw17
  have HB17 : Hid (Below w2.heap.size w2 w17) := Lib.hid (by rw [hw17]; exact HB16.out.trans ((Joins.below_alloc1 _ _).mono HB16.out.size))
  have HCD : Hid (Calls Try.prog 17 #[.slice (some ⟨w16.heap.size, 0, none⟩) 17 17] w17 fun e w' => e = .returned (.int .i64 2) ∧ w' = w17) := Lib.hid (by
    have := sn_chk (List.replicate 17 []) w17 (.slice (some ⟨w16.heap.size, 0, none⟩) 17 17) (by rw [hw17, hZ]; exact nrest_made w16 17 (by omega))
    rwa [chk17] at this)
  have HK17 : Hid (Below w10.heap.size w10 w17) := Lib.hid (by
    have h1 := below_next (below_next (below_next HK11.out HK12.out) HK13.out) HK14.out
    rw [hw17]
    exact below_next (below_next (below_next h1 hb15) hb16) (Joins.below_alloc1 _ _))
  have hmk := HMK.out
  clear hw15 hb15 hx15 hw16 hb16 hx16 hw17 hZ HMK
  go_upto_region 14 with (first
    | (rw [← HW17.out]; go_at_call 17; have _ := doneB; refine HCD.out.mono ?_; rintro e w20 ⟨rfl, rfl⟩)
    | (rw [← HW16.out]; go_at_call 17; have _ := doneA; refine HCB.out.mono ?_; rintro e w19 ⟨rfl, rfl⟩; have doneB : True := trivial)
    | (rw [← HW15.out]; go_at_call 17; refine HCA.out.mono ?_; rintro e w18 ⟨rfl, rfl⟩; have doneA : True := trivial))
  clear HCA HCB HCD HW15 HW16 HW17 hmk HB15 HB16 doneA doneB
  have HX1 := Lib.hid ((HV1.out.keep HB17.out).rest (i64_small (by decide)))
  have HX2 := Lib.hid ((HV2.out.keep HK17.out).rest (i64_small (by decide)))
  have HN1 := Lib.hid (irest_new w20 [1, 0] 2 rfl (by omega) (by decide))
  have HBL := Lib.hid (Joins.below_alloc1 w20 (.cells (nums [1, 0]).toArray 3))
  have HSA := Lib.hid (same_call [1, 0] [1, 0] v1 _ _ (HX1.out.keep HBL.out) HN1.out)
  rw [show decide (([1, 0] : List Int) = [1, 0]) = true by decide] at HSA
  go_wp2_with (first
    | (go_at_call 19; have _ := doneA; refine (same_call [1, 2] [1, 2] v2 _ _ (HX2.out.keep (below_next (below_next HBL.out HB21.out) (Joins.below_alloc1 w21 (.cells (nums [1, 2]).toArray 3)))) (irest_new w21 [1, 2] 2 rfl (by omega) (by decide))).mono ?_; rintro e w22 ⟨rfl, hb⟩; rw [show decide (([1, 2] : List Int) = [1, 2]) = true by decide]; have HB22 := Lib.hid hb; clear hb)
    | (go_at_call 19; refine HSA.out.mono ?_; rintro e w21 ⟨rfl, hb⟩; have HB21 := Lib.hid hb; clear hb; have doneA : True := trivial))
  refine bodyPost_ret (results_tmp rfl _ _ _) rfl ?_
  refine ⟨rfl, ?_⟩
  have h1 := below_next (below_next HB1.out HB2.out) HB17.out
  exact below_next (below_next (below_next (below_next h1 HBL.out) HB21.out) (Joins.below_alloc1 w21 (.cells (nums [1, 2]).toArray 3))) HB22.out
end Go.Proofs.Ythkmbbgcadfilaa
