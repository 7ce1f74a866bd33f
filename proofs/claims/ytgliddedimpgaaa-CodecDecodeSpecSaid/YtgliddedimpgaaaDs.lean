/- The statement on Decode and its specification, as a walk: for all bytes the law returns true and changes nothing that was there. -/
import Derived.Test.YtgliddedimpgaaaU
import Derived.Test.YtgliddedimpgaaaRh
namespace Go.Proofs.Ytgliddedimpgaaa
open Go.RowKit

theorem sure_stays {N : Nat} {w w' : World} {x : V} {v : Value} (h : Sure (fun b => N ≤ b) w x v) (hb : Below w.heap.size w w') : Is w' x v := Is.stays h.is hb

set_option maxHeartbeats 4000000 in
set_option maxRecDepth 100000 in
theorem decodespec_walk (bs : List UInt8) (ra : Option Addr) (rc : Nat) (W : World) (hr : Rest W.heap.size W bs (.slice ra bs.length rc)) :
    Calls Try.prog 4 #[.slice ra bs.length rc] W fun e w' => e = .returned (.bool true) ∧ Below W.heap.size W w' := by
  have HR := Lib.hid hr
  clear hr
  go_enter Try.func4, Try.ntmps4
  go_wp2_with fail
  refine (sane_call _).mono ?_
  rintro e w1 ⟨rfl, hb1⟩
  have HW1 := Lib.hid hb1
  clear hb1
  by_cases h2000 : 2000 < bs.length
  · have hd1 : decide ((2000 : Int) < (bs.length : Int)) = true := by simp; omega
    clear h2000
    go_wp2_with fail
    go_ret
    exact ⟨rfl, HW1.out⟩
  · have hd1 : decide ((2000 : Int) < (bs.length : Int)) = false := by simp; omega
    have HLEN : Hid (bs.length ≤ 2000) := by unfold Hid; omega
    clear h2000
    go_wp2_with fail
    refine (decode_call bs ra rc _ (rest_mono (HR.out.stays HW1.out) HW1.out.size) (by have := HLEN.out; omega)).mono ?_
    rintro e w2 hq
    cases hdec : decode bs with
    | none =>
      rw [hdec] at hq
      obtain ⟨rfl, hb2⟩ := hq
      have HW2 := Lib.hid (below_next HW1.out hb2)
      have HWA := Lib.hid (HW2.out.alloc HW2.out.size (.cells #[.int .i64 0, .int .i64 0, .string ⟨#[]⟩, .slice none 0 0] 24))
      clear hb2
      go_wp2_with fail
      refine (refdecode_call bs ra rc _ (rest_mono (HR.out.stays HWA.out) HWA.out.size) (by have := HLEN.out; omega)).mono ?_
      rintro e w3 hq
      rw [hdec] at hq
      obtain ⟨rfl, hb3⟩ := hq
      have HW3 := Lib.hid (below_next HWA.out hb3)
      have hsz : w2.heap.size < w3.heap.size := by have := hb3.size; simp at this; omega
      obtain ⟨q0, q1, q2, q3⟩ := cells4_kept hb3
      clear hb3 hdec
      go_wp2_with fail
      refine (refsame_call (.mk 0 0 ⟨#[]⟩ []) (.mk 0 0 ⟨#[]⟩ []) _ _ _ true (is_zero _ 0 (by omega)) (is_zero _ 0 (by omega)) ⟨fun _ => rfl, fun _ => rfl⟩).mono ?_
      rintro e w4 ⟨rfl, hb4⟩
      have HW4 := Lib.hid (below_next (HW3.out.alloc HW3.out.size _) hb4)
      clear hb4
      go_wp2_with fail
      go_ret
      exact ⟨rfl, HW4.out⟩
    | some y =>
      rw [hdec] at hq
      obtain ⟨yk, yn, ys, ya, yl, yc, rfl, hsy, hb2⟩ := hq
      have HY := Lib.hid hsy.is
      have HW2 := Lib.hid (below_next HW1.out hb2)
      have HWA := Lib.hid (HW2.out.alloc HW2.out.size (.cells #[.int .i64 yk, .int .i64 yn, .string ys, .slice ya yl yc] 24))
      have HYA := Lib.hid (Is.stays HY.out (Joins.below_alloc1 w2 (.cells #[.int .i64 yk, .int .i64 yn, .string ys, .slice ya yl yc] 24)))
      clear hb2 hsy
      go_wp2_with fail
      refine (refdecode_call bs ra rc _ (rest_mono (HR.out.stays HWA.out) HWA.out.size) (by have := HLEN.out; omega)).mono ?_
      rintro e w3 hq
      rw [hdec] at hq
      obtain ⟨k, n, s, a, l, c, rfl, hs3, hb3⟩ := hq
      have HW3 := Lib.hid (below_next HWA.out hb3)
      have HY3 := Lib.hid (Is.stays HYA.out hb3)
      have HS3 := Lib.hid hs3
      have hsz : w2.heap.size < w3.heap.size := by have := hb3.size; simp at this; omega
      obtain ⟨q0, q1, q2, q3⟩ := cells4_kept hb3
      clear hb3 hdec hs3
      go_wp2_with fail
      refine (refsame_call y y _ _ _ true (Is.stays HY3.out (Joins.below_alloc1 w3 _)) (Is.stays HS3.out (Joins.below_alloc1 w3 _)) ⟨fun _ => rfl, fun _ => rfl⟩).mono ?_
      rintro e w4 ⟨rfl, hb4⟩
      have HW4 := Lib.hid (below_next (HW3.out.alloc HW3.out.size _) hb4)
      clear hb4
      go_wp2_with fail
      go_ret
      exact ⟨rfl, HW4.out⟩
end Go.Proofs.Ytgliddedimpgaaa
