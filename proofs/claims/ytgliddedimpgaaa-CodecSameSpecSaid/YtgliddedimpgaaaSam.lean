/- The statement on Same and its specification, as a walk: for every two values the law returns true and changes nothing that was there. -/
import Derived.Test.YtgliddedimpgaaaDif
import Derived.Test.YtgliddedimpgaaaSr
namespace Go.Proofs.Ytgliddedimpgaaa
open Go.RowKit

theorem self_iff (x : V) : true = true ↔ x = x := ⟨fun _ => rfl, fun _ => rfl⟩

theorem at_args {P : Program} {f : Nat} {args args' : Array Value} {w : World} {Q : Ending → World → Prop} (h : Calls P f args' w Q) (e : args = args') : Calls P f args w Q := e ▸ h

theorem keep8 {w1 w2 : World} {p0 p1 p2 p3 p4 p5 p6 p7 : Addr} {v0 v1 v2 v3 v4 v5 v6 v7 : Value} (hb : Below w1.heap.size w1 w2)
    (h : w1.cell? p0 = some v0 ∧ w1.cell? p1 = some v1 ∧ w1.cell? p2 = some v2 ∧ w1.cell? p3 = some v3 ∧ w1.cell? p4 = some v4 ∧ w1.cell? p5 = some v5 ∧ w1.cell? p6 = some v6 ∧ w1.cell? p7 = some v7) :
    w2.cell? p0 = some v0 ∧ w2.cell? p1 = some v1 ∧ w2.cell? p2 = some v2 ∧ w2.cell? p3 = some v3 ∧ w2.cell? p4 = some v4 ∧ w2.cell? p5 = some v5 ∧ w2.cell? p6 = some v6 ∧ w2.cell? p7 = some v7 := by
  obtain ⟨h0, h1, h2, h3, h4, h5, h6, h7⟩ := h
  exact ⟨keepC hb h0, keepC hb h1, keepC hb h2, keepC hb h3, keepC hb h4, keepC hb h5, keepC hb h6, keepC hb h7⟩

set_option maxHeartbeats 4000000 in
set_option maxRecDepth 100000 in
theorem samespec_walk (x y : V) (v u : Value) (W : World) (hx : Is W x v) (hy : Is W y u) : Calls Try.prog 5 #[v, u] W fun e w' => e = .returned (.bool true) ∧ Below W.heap.size W w' := by
  have HX := Lib.hid hx
  have HY := Lib.hid hy
  obtain ⟨k, n, s, l, a, c, _, _, _, _, _, _, _, _, _, _, _, _⟩ := hx
  obtain ⟨k', n', s', l', a', c', _, _, _, _, _, _, _, _, _, _, _, _⟩ := hy
  have HB2 := Lib.hid (Joins.below_alloc2 W (.cells #[.int .i64 k, .int .i64 n, .string s, .slice a l.length c] 24) (.cells #[.int .i64 k', .int .i64 n', .string s', .slice a' l'.length c'] 24))
  go_enter Try.func5, Try.ntmps5
  go_wp2_with fail
  refine (sane_call _).mono ?_
  rintro e w1 ⟨rfl, hb1⟩
  have HB1 : Hid (Below (W.heap.size + 2) ((W.alloc (.cells #[.int .i64 k, .int .i64 n, .string s, .slice a l.length c] 24)).alloc (.cells #[.int .i64 k', .int .i64 n', .string s', .slice a' l'.length c'] 24)) w1) := hb1.mono (by simp)
  have HW1 := Lib.hid (below_next HB2.out hb1)
  clear hb1
  obtain ⟨p0, p1, p2, p3, q0, q1, q2, q3, hsz⟩ := boxes_kept HB1.out
  go_wp2_with fail
  have HP : Hid ((w1.alloc (.cells #[.int .i64 k, .int .i64 n, .string s, .slice a l.length c, .int .i64 k', .int .i64 n', .string s', .slice a' l'.length c'] 24)).heap[w1.heap.size]? = some (.cells #[.int .i64 k, .int .i64 n, .string s, .slice a l.length c, .int .i64 k', .int .i64 n', .string s', .slice a' l'.length c'] 24)) := heap_alloc_new w1 _
  have HWA := Lib.hid (HW1.out.alloc HW1.out.size (.cells #[.int .i64 k, .int .i64 n, .string s, .slice a l.length c, .int .i64 k', .int .i64 n', .string s', .slice a' l'.length c'] 24))
  have HBA := Lib.hid (HB1.out.alloc hsz (.cells #[.int .i64 k, .int .i64 n, .string s, .slice a l.length c, .int .i64 k', .int .i64 n', .string s', .slice a' l'.length c'] 24))
  refine (few_call [.mk k n s l, .mk k' n' s' l'] (some ⟨w1.heap.size, 0, none⟩) 2 _ (is_two HP.out (Is.stays HX.out HWA.out) (Is.stays HY.out HWA.out))).mono ?_
  rintro e w2 ⟨rfl, hb2⟩
  have HW2 := Lib.hid (below_next HWA.out hb2)
  have HB3 := Lib.hid (HBA.out.trans (hb2.mono (by have := HBA.out.size; simp at this ⊢; omega)))
  clear hb2 p0 p1 p2 p3 q0 q1 q2 q3 hsz
  cases hfew : fewL [.mk k n s l, .mk k' n' s' l'] with
  | false =>
    go_wp2_with fail
    go_ret
    exact ⟨rfl, HW2.out⟩
  | true =>
    clear hfew
    obtain ⟨p0, p1, p2, p3, q0, q1, q2, q3, hsz⟩ := boxes_kept HB3.out
    obtain ⟨r, hr⟩ : ∃ r : Bool, (r = true ↔ V.mk k n s l = V.mk k' n' s' l') := by
      by_cases h : V.mk k n s l = V.mk k' n' s' l'
      · exact ⟨true, by simp [h]⟩
      · exact ⟨false, by simp [h]⟩
    have HR := Lib.hid hr
    have HV := Lib.hid HW2.out.drew
    have hrr : (r == r) = true := by simp
    clear hr
    go_wp2_with fail
    go_region_held3 (fun w' => w'.cell? ⟨W.heap.size, 0, none⟩ = some (.int .i64 k) ∧ w'.cell? ⟨W.heap.size, 1, none⟩ = some (.int .i64 n) ∧ w'.cell? ⟨W.heap.size, 2, none⟩ = some (.string s) ∧ w'.cell? ⟨W.heap.size, 3, none⟩ = some (.slice a l.length c) ∧
        w'.cell? ⟨W.heap.size + 1, 0, none⟩ = some (.int .i64 k') ∧ w'.cell? ⟨W.heap.size + 1, 1, none⟩ = some (.int .i64 n') ∧ w'.cell? ⟨W.heap.size + 1, 2, none⟩ = some (.string s') ∧ w'.cell? ⟨W.heap.size + 1, 3, none⟩ = some (.slice a' l'.length c'))
      (first | go_keep | (exact keep8 hbz (by assumption)))
      (first | (go_at_call 20; refine at_args ((refsame_call (.mk k n s l) (.mk k' n' s' l') _ _ _ r (Is.stays HX.out HV.out) (Is.stays HY.out HV.out) HR.out).mono ?_) rfl; rintro e wz ⟨rfl, hbz⟩; have HV := Lib.hid (below_next HV.out hbz))
             | (go_at_call 21; refine at_args ((same_call (.mk k n s l) (.mk k' n' s' l') _ _ _ r (Is.stays HX.out HV.out) (Is.stays HY.out HV.out) HR.out).mono ?_) rfl; rintro e wz ⟨rfl, hbz⟩; have HV := Lib.hid (below_next HV.out hbz))
             | (go_at_call 21; refine at_args ((same_call (.mk k n s l) (.mk k n s l) _ _ _ true (Is.stays HX.out HV.out) (Is.stays HX.out HV.out) (self_iff _)).mono ?_) rfl; rintro e wz ⟨rfl, hbz⟩; have HV := Lib.hid (below_next HV.out hbz))
             | (go_at_call 21; refine at_args ((same_call (.mk k' n' s' l') (.mk k' n' s' l') _ _ _ true (Is.stays HY.out HV.out) (Is.stays HY.out HV.out) (self_iff _)).mono ?_) rfl; rintro e wz ⟨rfl, hbz⟩; have HV := Lib.hid (below_next HV.out hbz)))
    go_wp2_with fail
    go_ret
    exact ⟨rfl, HV.out⟩
end Go.Proofs.Ytgliddedimpgaaa
