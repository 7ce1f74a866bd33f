/- The chapter's examples hold. -/
import Derived.Test.YtbigkcemcdokaaaI
namespace Go.Proofs.Ytbigkcemcdokaaa
open Go.RowKit

theorem Try.info35 : (Try.prog.info? 35).map (fun i => (i.zero, i.size, i.bytes)) = some (some (.agg #[.int .i64 0, .int .i64 0]), 2, 16) := by kernel_rfl
theorem mk_points (W : World) : ∃ cs : Array Value, (Instr.makeSlice 31 (.int .i64 65) (.int .i64 65)).run Try.prog W = .ok (.slice (some ⟨W.heap.size, 0, none⟩) 65 65) (W.alloc (.cells cs 35)) ∧ cs = Array.replicate 130 (.int .i64 0) := by
  obtain ⟨i0, hi, hz0, hz1, hz2⟩ := info_parts Try.info35
  have hr := run_makeSlice (P := Try.prog) W 31 35 i0 (.agg #[.int .i64 0, .int .i64 0]) Try.underlying31 hi hz0 .i64 .i64 65 65 (by omega) (by omega) (by rw [hz1]; decide) (by rw [hz2]; decide) (by omega)
  refine ⟨_, hr, ?_⟩
  rw [hz1]
  kernel_rfl
theorem ex_inv0 : invV 0 = .tuple #[.int .i64 0, .int .i64 90] := by unfold invV; rw [if_pos (by decide)]
theorem ex_invQ : invV 1073741789 = .tuple #[.int .i64 0, .int .i64 90] := by unfold invV; rw [if_pos (by decide)]
theorem ex_inv2 : invV 2 = .tuple #[.int .i64 536870895, .int .i64 0] := by unfold invV; rw [if_neg (by decide), finv_eq (b := 536870895) (by omega) (by decide)]
theorem ex_line : lag [1, 2] [3, 5] 0 % 1073741789 = 1 := by
  have hd : Dif [1, 2] := fun i j h1 h2 => by
    simp at h2
    obtain rfl : i = 0 := by omega
    obtain rfl : j = 1 := by omega
    decide
  have h := lag_only [1, 2] [3, 5] hd (f := evalP [1, 2]) (isPoly_eval [1, 2]) (fun j hj => by
    simp at hj
    rcases (show j = 0 ∨ j = 1 by omega) with rfl | rfl
    · exact ⟨0, by decide⟩
    · exact ⟨0, by decide⟩) 0
  rw [h.eq]; decide
theorem ex_same : ¬ Dif [1, -1073741788] := fun h => h 0 1 (by omega) (by simp) (by decide)
theorem prest_two {w : World} {b : Nat} (p q : Int × Int) (hb : b < w.heap.size) (hI : I64 p.1 ∧ I64 p.2 ∧ I64 q.1 ∧ I64 q.2) (h0 : w.cell? ⟨b, 0, none⟩ = some (.int .i64 p.1)) (h1 : w.cell? ⟨b, 1, none⟩ = some (.int .i64 p.2)) (h2 : w.cell? ⟨b, 2, none⟩ = some (.int .i64 q.1)) (h3 : w.cell? ⟨b, 3, none⟩ = some (.int .i64 q.2)) :
    PRest w.heap.size w [p, q] (.slice (some ⟨b, 0, none⟩) 2 2) := by
  refine ⟨_, _, rfl, by simp, by simp [maxLen], ?_, .inr ⟨b, 0, rfl, hb, fun i hi => ?_⟩⟩
  · intro x hx
    simp at hx
    rcases hx with rfl | rfl
    · exact ⟨hI.1, hI.2.1⟩
    · exact hI.2.2
  · match i, hi with
    | 0, _ => exact ⟨h0, h1⟩
    | 1, _ => exact ⟨h2, h3⟩
set_option maxHeartbeats 4000000 in
set_option maxRecDepth 100000 in
theorem sane_call (w : World) : Calls Try.prog 7 #[] w fun e w' => e = .returned (.bool true) ∧ Below w.heap.size w w' := by
  go_enter Try.func7, Try.ntmps7
  go_wp2_with fail
  refine (Inverse_call 0 w ⟨by omega, by omega⟩).mono ?_
  rintro e w1 ⟨rfl, rfl⟩
  rw [ex_inv0]
  go_wp2_with fail
  refine (Inverse_call 1073741789 w1 ⟨by omega, by omega⟩).mono ?_
  rintro e w1 ⟨rfl, rfl⟩
  rw [ex_invQ]
  go_wp2_with fail
  refine (Inverse_call 2 w1 ⟨by omega, by omega⟩).mono ?_
  rintro e w1 ⟨rfl, rfl⟩
  rw [ex_inv2]
  go_wp2_with fail
  have hb1 := Joins.below_alloc1 w1 (.cells #[.int .i64 1, .int .i64 3, .int .i64 2, .int .i64 5] 35)
  refine (at_call [(1, 3), (2, 5)] _ 0 _ (prest_two (1, 3) (2, 5) (by simp) ⟨⟨by simp, by simp⟩, ⟨by simp, by simp⟩, ⟨by simp, by simp⟩, by simp, by simp⟩ (by simp) (by simp) (by simp) (by simp)) (by simp) ?d1 ⟨by omega, by omega⟩).mono ?_
  case d1 =>
    intro i j h1 h2
    simp at h2
    obtain rfl : i = 0 := by omega
    obtain rfl : j = 1 := by omega
    decide
  rintro e w2 ⟨rfl, hb2⟩
  have HB2 := Lib.hid (below_next hb1 hb2)
  clear hb1 hb2
  rw [show lag (([(1, 3), (2, 5)] : List (Int × Int)).map (·.1)) (([(1, 3), (2, 5)] : List (Int × Int)).map (·.2)) 0 % 1073741789 = 1 from ex_line]
  go_wp2_with fail
  refine (at_call [] _ 7 w2 (prest_nil _ _) (by simp) (fun i j _ h => by simp at h) ⟨by omega, by omega⟩).mono ?_
  rintro e w3 ⟨rfl, hb3⟩
  replace HB2 := Lib.hid (below_next HB2.out hb3)
  clear hb3
  rw [show lag (([] : List (Int × Int)).map (·.1)) (([] : List (Int × Int)).map (·.2)) 7 % 1073741789 = 0 from rfl]
  go_wp2_with fail
  have hb1 := Joins.below_alloc1 w3 (.cells #[.int .i64 1, .int .i64 5, .int .i64 (-1073741788), .int .i64 5] 35)
  refine (same_call [(1, 5), (-1073741788, 5)] _ 0 _ (prest_two (1, 5) (-1073741788, 5) (by simp) ⟨⟨by simp, by simp⟩, ⟨by simp, by simp⟩, ⟨by simp, by simp⟩, by simp, by simp⟩ (by simp) (by simp) (by simp) (by simp)) (by simp) ex_same).mono ?_
  rintro e w4 ⟨rfl, hb4⟩
  replace HB2 := Lib.hid (below_next HB2.out (below_next hb1 hb4))
  clear hb1 hb4
  obtain ⟨ZA, hmk, hZA⟩ := mk_points w4
  have HZA := Lib.hid hZA
  clear hZA
  go_wp2_with fail
  have hb1 := Joins.below_alloc1 w4 (.cells ZA 35)
  obtain ⟨Z, hZ⟩ : ∃ Z : List (Int × Int), Z = List.replicate 65 (0, 0) := ⟨_, rfl⟩
  have hZl : Z.length = 65 := by rw [hZ]; exact List.length_replicate
  refine (many_call Z _ 0 _ ?d2 (by omega)).mono ?_
  case d2 =>
    refine ⟨_, 65, by rw [hZl], by omega, by simp [maxLen], fun p hp => ?_, .inr ⟨w4.heap.size, 0, rfl, by simp, fun i hi => ?_⟩⟩
    · rw [hZ] at hp; obtain ⟨_, rfl⟩ := List.mem_replicate.1 hp
      exact ⟨⟨by simp, by simp⟩, by simp, by simp⟩
    · have hn := heap_alloc_new w4 (.cells ZA 35)
      rw [HZA.out] at hn ⊢
      have he : Z[i] = (0, 0) := by subst hZ; exact List.getElem_replicate _
      rw [he, cell_of_row _ _ _ _ _ _ hn, cell_of_row _ _ _ _ _ _ hn, Array.getElem?_replicate, Array.getElem?_replicate, if_pos (by omega), if_pos (by omega)]
      exact ⟨rfl, rfl⟩
  rintro e w5 ⟨rfl, rfl⟩
  replace HB2 := Lib.hid (below_next HB2.out hb1)
  clear hb1 hmk HZA
  generalize w4.alloc (.cells ZA 35) = w5 at *
  go_wp2_with (first
    | (go_at_call 10; refine (mod_call _ _ ⟨by omega, by omega⟩).mono ?_; rintro e w6 ⟨rfl, rfl⟩)
    | (go_at_call 14; refine (mul_call _ _ _ ⟨by omega, by omega⟩ ⟨by omega, by omega⟩).mono ?_; rintro e w6 ⟨rfl, rfl⟩)
    | (go_at_call 12; refine (add_call _ _ _ ⟨by omega, by omega⟩ ⟨by omega, by omega⟩).mono ?_; rintro e w6 ⟨rfl, hb6⟩; replace HB2 := Lib.hid (below_next HB2.out hb6); clear hb6))
  have hb7 := Joins.below_alloc1 w6 (.cells #[.int .i64 1, .int .i64 2, .int .i64 3] 3)
  refine (value_call [1, 2, 3] _ 10 _ ⟨_, 3, rfl, by simp, by simp [maxLen], by simp [I64], .inr ⟨w6.heap.size, 0, rfl, by simp, fun i hi => ?_⟩⟩ ⟨by omega, by omega⟩).mono ?_
  · match i, hi with
    | 0, _ => simp
    | 1, _ => simp
    | 2, _ => simp
  rintro e w8 ⟨rfl, hb8⟩
  replace HB2 := Lib.hid (below_next HB2.out (below_next hb7 hb8))
  clear hb7 hb8
  rw [show evalP [1, 2, 3] 10 % 1073741789 = 321 by decide]
  go_wp2_with fail
  refine (value_call [] _ 7 _ (irest_nil _ _) ⟨by omega, by omega⟩).mono ?_
  rintro e w9 ⟨rfl, hb9⟩
  replace HB2 := Lib.hid (below_next HB2.out hb9)
  clear hb9
  rw [show evalP [] 7 % 1073741789 = 0 by decide]
  go_wp2_with fail
  go_ret
  exact ⟨rfl, HB2.out⟩
end Go.Proofs.Ytbigkcemcdokaaa
