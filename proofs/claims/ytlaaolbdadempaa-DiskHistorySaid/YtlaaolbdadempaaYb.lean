/- The reference's Read where it refuses; a sector made of one part. -/
import Derived.Test.YtlaaolbdadempaaY
import Derived.Test.YtlaaolbdadempaaV
namespace Go.Proofs.Ytlaaolbdadempaa
open Go.RowKit

theorem sectorL_pad (x : List UInt8) (h : x.length ≤ 128) : sectorL [x] = x ++ List.replicate (128 - x.length) 0 := by
  unfold sectorL overlay
  rw [List.foldl_cons, List.foldl_nil, List.length_replicate, List.drop_replicate, List.take_of_length_le h]
theorem sectorL_one (x : List UInt8) (h : x.length = 128) : sectorL [x] = x := by
  rw [sectorL_pad x (by omega), h]; exact List.append_nil x
set_option maxHeartbeats 8000000 in
set_option maxRecDepth 100000 in
theorem refread_refuse (d : Dsk) (at' : Int) (v : Value) (w : World) (h : DRest w.heap.size w d v) (hno : runsB d = false ∨ hasB d.secs.length at' = false) :
    Calls Try.prog 29 #[v, .int .i64 at'] w (RefuseRead w) := by
  have hcase : validB d = false ∨ (validB d = true ∧ d.stop = true) ∨ (validB d = true ∧ d.stop = false ∧ at' < 0) ∨ (validB d = true ∧ d.stop = false ∧ ¬ at' < 0 ∧ (d.secs.length : Int) ≤ at') := by
    unfold runsB hasB at hno
    rcases hb : validB d with _ | _ <;> rcases hs : d.stop with _ | _ <;> simp [hb, hs] at hno ⊢
    rcases Int.lt_or_le at' 0 with k | k
    · exact .inl k
    · exact .inr ⟨k, hno k⟩
  clear hno
  obtain ⟨s, p, rfl, hs, hp⟩ := h
  have HV : Hid (∀ W, Below w.heap.size w W → Calls Try.prog 23 #[dskOf s p d] W fun e w' => e = .returned (.int .i64 (if validB d then 0 else 40)) ∧ Below W.heap.size W w') := Lib.hid (fun W hW => refcheck_call d _ W ⟨s, p, rfl, hs.keep hW, hp.keep hW⟩)
  obtain ⟨a, cap, rfl, hc1, hc2⟩ := hs.shape
  obtain ⟨a2, cap2, rfl, hc3, hc4⟩ := hp.shape
  clear hs hp
  unfold dskOf dskCells at *
  generalize validB d = b at *
  generalize d.stop = st at *
  generalize d.left = left at *
  generalize d.secs.length = n at *
  generalize d.pend.length = m at *
  have HB0 := Lib.hid (Joins.below_alloc1 w (.cells #[.slice a n cap, .slice a2 m cap2, .int .i64 left, .bool st] 25))
  have HR0 := Lib.hid (row_new w 25 [.slice a n cap, .slice a2 m cap2, .int .i64 left, .bool st])
  rcases hcase with h1 | ⟨h1, h2⟩ | ⟨h1, h2, h3⟩ | ⟨h1, h2, h3, h4⟩
  all_goals subst h1
  all_goals try subst h2
  all_goals go_enter Try.func29, Try.ntmps29
  all_goals go_wp2_with fail
  all_goals refine (HV.out _ HB0.out).mono ?_
  all_goals rintro e w1 ⟨rfl, hb⟩
  all_goals have HB1 := Lib.hid (below_next HB0.out hb)
  all_goals have HR1 := Lib.hid (HR0.out.keep hb)
  all_goals have c0 := HR1.out.cell (i := 0) rfl
  all_goals have c3 := HR1.out.cell (i := 3) rfl
  all_goals clear hb HR0 HB0
  all_goals try simp only [Bool.false_eq_true, if_false, if_true]
  all_goals go_wp2_with fail
  all_goals go_ret2
  all_goals exact ⟨rfl, HB1.out⟩
end Go.Proofs.Ytlaaolbdadempaa
