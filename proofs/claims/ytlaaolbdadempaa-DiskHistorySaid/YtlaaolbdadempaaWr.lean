/- The reference's Write where it refuses. -/
import Derived.Test.YtlaaolbdadempaaNr
import Derived.Test.YtlaaolbdadempaaN
namespace Go.Proofs.Ytlaaolbdadempaa
open Go.RowKit

theorem valid_pend {d : Dsk} (h : validB d = true) : d.pend.length ≤ 4096 := by
  unfold validB at h
  simp only [Bool.and_eq_true, decide_eq_true_eq] at h
  exact h.2.2.2.1
theorem writeD_cases (d : Dsk) (at' : Int) (b : List UInt8) :
    ((validB d = false ∨ (validB d = true ∧ d.stop = true) ∨ (validB d = true ∧ d.stop = false ∧ at' < 0) ∨ (validB d = true ∧ d.stop = false ∧ ¬ at' < 0 ∧ (d.secs.length : Int) ≤ at')) ∧ writeD d at' b = (zeroD, 40)) ∨
    (validB d = true ∧ d.stop = false ∧ ¬ at' < 0 ∧ ¬ (d.secs.length : Int) ≤ at' ∧
      ((128 < b.length ∧ writeD d at' b = (zeroD, 1)) ∨ (b.length ≤ 128 ∧ d.pend.length = 4096 ∧ writeD d at' b = (zeroD, 2)) ∨
       (b.length ≤ 128 ∧ d.pend.length < 4096 ∧ writeD d at' b = (⟨d.secs, d.pend ++ [(at', sectorL [b])], d.left, d.stop⟩, 0)))) := by
  unfold writeD
  by_cases hr : (runsB d && hasB d.secs.length at') = true
  · rw [if_pos hr]
    right
    rw [Bool.and_eq_true] at hr
    obtain ⟨h1, h2⟩ := hr
    have hv : validB d = true ∧ d.stop = false := by unfold runsB at h1; simpa using h1
    have hh : 0 ≤ at' ∧ at' < d.secs.length := by unfold hasB at h2; simpa using h2
    have hp := valid_pend hv.1
    refine ⟨hv.1, hv.2, by omega, by omega, ?_⟩
    by_cases h128 : 128 < b.length
    · rw [if_pos h128]; exact .inl ⟨h128, rfl⟩
    · rw [if_neg h128]
      by_cases h4 : 4096 ≤ d.pend.length
      · rw [if_pos h4]; exact .inr (.inl ⟨by omega, by omega, rfl⟩)
      · rw [if_neg h4]; exact .inr (.inr ⟨by omega, by omega, rfl⟩)
  · rw [if_neg hr]
    refine .inl ⟨?_, rfl⟩
    unfold runsB hasB at hr
    rcases hb : validB d with _ | _ <;> rcases hs : d.stop with _ | _ <;> simp [hb, hs] at hr ⊢
    rcases Int.lt_or_le at' 0 with k | k
    · exact .inl k
    · exact .inr ⟨k, hr k⟩
set_option maxHeartbeats 8000000 in
set_option maxRecDepth 100000 in
theorem refwrite_refuse (S : Nat → Prop) (d : Dsk) (v : Value) (at' : Int) (b : List UInt8) (bv : Value) (w : World) (h : DRestS S w d v) (hbv : Rest w.heap.size w b bv) (hno : (writeD d at' b).2 ≠ 0) :
    Calls Try.prog 27 #[v, .int .i64 at', bv] w (AnswersS S w (writeD d at' b)) := by
  have hcase := writeD_cases d at' b
  obtain ⟨s, p, rfl, hs, hp⟩ := h
  have HV : Hid (∀ W, Below w.heap.size w W → Calls Try.prog 23 #[dskOf s p d] W fun e w' => e = .returned (.int .i64 (if validB d then 0 else 40)) ∧ Below W.heap.size W w') := Lib.hid (fun W hW => refcheck_call d _ W ⟨s, p, rfl, hs.rest.keep hW, hp.rest.keep hW⟩)
  obtain ⟨a, cap, rfl, hc1, hc2⟩ := hs.rest.shape
  obtain ⟨a2, cap2, rfl, hc3, hc4⟩ := hp.rest.shape
  obtain ⟨ba, bc, rfl, hb1, hb2⟩ := hbv.shape
  clear hs hp hbv
  unfold dskOf dskCells at *
  generalize validB d = vb at *
  generalize d.stop = st at *
  generalize d.left = left at *
  generalize d.secs.length = n at *
  generalize hpl : d.pend.length = m at *
  have HRB : Hid (Row ((w.alloc (.cells #[.slice a n cap, .slice a2 m cap2, .int .i64 left, .bool st] 25)).alloc (.cells #[.slice none 0 0, .slice none 0 0, .int .i64 0, .bool false] 25)) w.heap.size 25 [.slice a n cap, .slice a2 m cap2, .int .i64 left, .bool st]) := Lib.hid ((row_new w 25 _).keep (Joins.below_alloc1 _ _))
  have HRR := Lib.hid (row_new (w.alloc (.cells #[.slice a n cap, .slice a2 m cap2, .int .i64 left, .bool st] 25)) 25 [.slice none 0 0, .slice none 0 0, .int .i64 0, .bool false])
  have HB0 := Lib.hid (below_two w (.cells #[.slice a n cap, .slice a2 m cap2, .int .i64 left, .bool st] 25) (.cells #[.slice none 0 0, .slice none 0 0, .int .i64 0, .bool false] 25))
  rw [World.size_alloc] at HRR
  have hall : (vb = false ∧ writeD d at' b = (zeroD, 40)) ∨ (vb = true ∧ st = true ∧ writeD d at' b = (zeroD, 40)) ∨ (vb = true ∧ st = false ∧ at' < 0 ∧ writeD d at' b = (zeroD, 40)) ∨ (vb = true ∧ st = false ∧ ¬ at' < 0 ∧ (n : Int) ≤ at' ∧ writeD d at' b = (zeroD, 40)) ∨
      (vb = true ∧ st = false ∧ ¬ at' < 0 ∧ ¬ (n : Int) ≤ at' ∧ (128 : Int) < (b.length : Int) ∧ writeD d at' b = (zeroD, 1)) ∨ (vb = true ∧ st = false ∧ ¬ at' < 0 ∧ ¬ (n : Int) ≤ at' ∧ ¬ (128 : Int) < (b.length : Int) ∧ m = 4096 ∧ writeD d at' b = (zeroD, 2)) := by
    rcases hcase with ⟨h1, h2⟩ | ⟨h1, h2, h3, h4, h5⟩
    · rcases h1 with h1 | ⟨h1, h3⟩ | ⟨h1, h3, h4⟩ | ⟨h1, h3, h4, h5⟩
      · exact .inl ⟨h1, h2⟩
      · exact .inr (.inl ⟨h1, h3, h2⟩)
      · exact .inr (.inr (.inl ⟨h1, h3, h4, h2⟩))
      · exact .inr (.inr (.inr (.inl ⟨h1, h3, h4, h5, h2⟩)))
    · rcases h5 with ⟨h5, h6⟩ | ⟨h5, h6, h7⟩ | ⟨_, _, h7⟩
      · exact .inr (.inr (.inr (.inr (.inl ⟨h1, h2, h3, h4, by omega, h6⟩))))
      · exact .inr (.inr (.inr (.inr (.inr ⟨h1, h2, h3, h4, by omega, h6, h7⟩))))
      · rw [h7] at hno; exact absurd rfl hno
  clear hcase hno hpl
  rcases hall with ⟨h1, h9⟩ | ⟨h1, h2, h9⟩ | ⟨h1, h2, h3, h9⟩ | ⟨h1, h2, h3, h4, h9⟩ | ⟨h1, h2, h3, h4, h5, h9⟩ | ⟨h1, h2, h3, h4, h5, h6, h9⟩
  all_goals rw [h9]
  all_goals clear h9
  all_goals subst h1
  all_goals try subst h2
  all_goals try subst h6
  all_goals go_enter Try.func27, Try.ntmps27
  all_goals go_wp2_with fail
  all_goals refine (HV.out _ HB0.out).mono ?_
  all_goals rintro e w1 ⟨rfl, hb⟩
  all_goals have HB1 := Lib.hid (below_next HB0.out hb)
  all_goals have HRB1 := Lib.hid (HRB.out.keep hb)
  all_goals have HRR1 := Lib.hid (HRR.out.keep hb)
  all_goals have c0 := HRB1.out.cell (i := 0) rfl
  all_goals have c1 := HRB1.out.cell (i := 1) rfl
  all_goals have c3 := HRB1.out.cell (i := 3) rfl
  all_goals clear hb HRB HRR HB0
  all_goals try simp only [Bool.false_eq_true, if_false, if_true]
  all_goals go_wp2_with (first
    | (refine wpList_store_ag rfl 25 (.tmp 6) (.tmp 27) rfl (w.heap.size + 1) [.slice none 0 0, .slice none 0 0, .int .i64 0, .bool false] _ size25 (by rfl) rfl rfl HRR1.out (by rfl) HB1.out (by omega) ?_; intro w9 hr hb hf)
    | (refine wpList_store_ag rfl 25 (.tmp 6) (.tmp 31) rfl (w.heap.size + 1) [.slice none 0 0, .slice none 0 0, .int .i64 0, .bool false] _ size25 (by rfl) rfl rfl HRR1.out (by rfl) HB1.out (by omega) ?_; intro w9 hr hb hf)
    | (refine wpList_store_ag rfl 25 (.tmp 6) (.tmp 36) rfl (w.heap.size + 1) [.slice none 0 0, .slice none 0 0, .int .i64 0, .bool false] _ size25 (by rfl) rfl rfl HRR1.out (by rfl) HB1.out (by omega) ?_; intro w9 hr hb hf))
  all_goals exact bodyPost_ret (results_dsk Try.results27 _ w9 (w.heap.size + 1) _ rfl rfl _ rfl hr) rfl ⟨_, rfl, drests_zero _ _, hb⟩
end Go.Proofs.Ytlaaolbdadempaa
