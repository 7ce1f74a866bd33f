/- New, Check and Restart against the reference, for every number. -/
import Derived.Test.YtlaaolbdadempaaNs1
import Derived.Test.YtlaaolbdadempaaNs2
namespace Go.Proofs.Ytlaaolbdadempaa
open Go.RowKit

set_option maxHeartbeats 8000000 in
set_option maxRecDepth 100000 in
theorem newspec_walk (d : Dsk) (v : Value) (num : Int) (w : World) (h : DRest w.heap.size w d v) :
    Calls Try.prog 3 #[.int .i64 num, v] w fun e w' => e = .returned (.bool true) ∧ Below w.heap.size w w' := by
  by_cases h1 : 60 < num
  · by_cases h2 : num ≤ 4096
    · obtain ⟨s, p, rfl, hs, hp⟩ := h
      obtain ⟨a, cap, rfl, hc1, hc2⟩ := hs.shape
      obtain ⟨a2, cap2, rfl, hc3, hc4⟩ := hp.shape
      clear hs hp
      have HB := Lib.hid (Joins.below_alloc1 w (.cells #[.slice a d.secs.length cap, .slice a2 d.pend.length cap2, .int .i64 d.left, .bool d.stop] 25))
      unfold dskOf dskCells
      go_enter Try.func3, Try.ntmps3
      go_wp2_with fail
      refine (sane_call _).mono ?_
      rintro e wS ⟨rfl, hb⟩
      replace HB := Lib.hid (below_next HB.out hb)
      clear hb
      go_wp2_with fail
      go_ret
      exact ⟨rfl, HB.out⟩
    · exact newspec_walk1 d v num w h h1 h2
  · exact newspec_walk2 d v num w h h1
end Go.Proofs.Ytlaaolbdadempaa
