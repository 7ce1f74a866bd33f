/- The law on one source, read by the program and by the reference, returns true. -/
import Derived.Test.YtilpcchcccbfcaaDoorRl
import Derived.Test.YtilpcchcccbfcaaDoorJw
namespace Go.Proofs.YtilpcchcccbfcaaDoor
open Go.RowKit

set_option maxHeartbeats 4000000 in
set_option maxRecDepth 100000 in
theorem spec_walk (s : ByteArray) (w : World) (hs : s.size ≤ 140737488351232) (hT : Laid w) :
    Calls Tryd.prog 3 #[.string s] w fun e w' => e = .returned (.bool true) ∧ Below w.heap.size w w' := by
  have HSA : Hid (Calls Tryd.prog 11 #[] w fun e w' => e = .returned (.bool true) ∧ Below w.heap.size w w') := Lib.hid (sane_call w hT)
  rcases Nat.lt_or_ge 70000 s.size with hlong | hshort
  · have hlong2 : (70000 : Int) < (s.size : Int) := by omega
    clear hT
    go_enter Tryd.func3, Tryd.ntmps3
    go_wp2_with (go_at_call 11; refine HSA.out.mono ?_; rintro e w1 ⟨rfl, hb⟩; have HB := Lib.hid hb; clear hb)
    go_ret
    exact ⟨rfl, HB.out⟩
  · have hshort2 : ¬ (70000 : Int) < (s.size : Int) := by omega
    obtain ⟨zs, p, c, hR⟩ : ∃ zs p c, lexR s = (zs, p, c) := ⟨_, _, _, rfl⟩
    have HL : Hid (∀ W, Below w.heap.size w W → Calls Tryd.prog 12 #[.string s] W fun e w' => ∃ v, e = .returned (.tuple #[v, .int .i64 (p : Int), .int .i64 (c : Int)]) ∧ TRest w'.heap.size w' zs v ∧ Below W.heap.size W w') :=
      Lib.hid (fun W hb => (lex_three hR W (by omega) (hT.keep hb)).mono fun e w' ⟨a, cap, h1, h2, h3⟩ => ⟨_, h1, h2, h3⟩)
    have HX : Hid (∀ W, Calls Tryd.prog 13 #[.string s] W fun e w' => ∃ v, e = .returned (.tuple #[v, .int .i64 (p : Int), .int .i64 (c : Int)]) ∧ TNew W w' v zs) :=
      Lib.hid (fun W => by have := refLex_call s W (by omega); rwa [hR] at this)
    clear hT hR
    go_enter Tryd.func3, Tryd.ntmps3
    go_wp2_with (go_at_call 11; refine HSA.out.mono ?_; rintro e w1 ⟨rfl, hb⟩; have HB := Lib.hid hb; clear hb)
    refine (HL.out _ HB.out).mono ?_
    rintro e w2 ⟨v1, rfl, hr, hb⟩
    have HB := Lib.hid (below_next HB.out hb)
    have H1 := Lib.hid hr
    clear hr hb
    go_wp2_with fail
    refine (HX.out _).mono ?_
    rintro e w3 ⟨v2, rfl, hn⟩
    have HB := Lib.hid (below_next HB.out hn.2.1)
    have HQ := Lib.hid (equal_call zs zs _ _ w3 (H1.out.keep hn.2.1) (tbuf_rest hn.1))
    rw [show decide (zs = zs) = true from by simp] at HQ
    clear hn
    go_wp2_with (go_at_call 14; refine HQ.out.mono ?_; rintro e w8 ⟨rfl, hb⟩; have HB := Lib.hid (below_next HB.out hb); clear hb)
    go_ret
    exact ⟨rfl, HB.out⟩
end Go.Proofs.YtilpcchcccbfcaaDoor
