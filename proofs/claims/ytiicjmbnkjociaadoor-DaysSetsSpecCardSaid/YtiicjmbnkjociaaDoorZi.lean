/- The specification's Union, Meet, Without. -/
import Derived.Test.YtiicjmbnkjociaaDoorZf
import Derived.Test.YtiicjmbnkjociaaDoorZg
import Derived.Test.YtiicjmbnkjociaaDoorZh
namespace Go.Proofs.YtiicjmbnkjociaaDoor
open Go.RowKit

set_option maxRecDepth 100000 in
theorem refUnion_call (la lb : List Sp) (va vb : Value) (B : Nat) (w : World) (ha : PRest B w la va) (hb : PRest B w lb vb) (hB : B ≤ w.heap.size) :
    Calls Tryd.prog 24 #[va, vb] w (GivesL w (combL (fun p q => p || q) la lb) (combE (fun p q => p || q) la lb)) := by
  have HC := Lib.hid (of_or la lb va vb B w ha hb hB)
  obtain ⟨a1, c1, rfl, -⟩ := ha
  obtain ⟨a2, c2, rfl, -⟩ := hb
  generalize combL (fun p q => p || q) la lb = L at *
  generalize combE (fun p q => p || q) la lb = E at *
  go_enter Tryd.func24, Tryd.ntmps24
  go_wp2_with fail
  refine HC.out.mono ?_
  rintro e w1 ⟨v, rfl, hr, hb⟩
  obtain ⟨a, c, rfl, -⟩ := id hr
  have HR := Lib.hid hr
  clear hr
  go_wp2_with fail
  go_ret2
  exact ⟨_, rfl, HR.out, hb⟩
set_option maxRecDepth 100000 in
theorem refMeet_call (la lb : List Sp) (va vb : Value) (B : Nat) (w : World) (ha : PRest B w la va) (hb : PRest B w lb vb) (hB : B ≤ w.heap.size) :
    Calls Tryd.prog 26 #[va, vb] w (GivesL w (combL (fun p q => p && q) la lb) (combE (fun p q => p && q) la lb)) := by
  have HC := Lib.hid (of_and la lb va vb B w ha hb hB)
  obtain ⟨a1, c1, rfl, -⟩ := ha
  obtain ⟨a2, c2, rfl, -⟩ := hb
  generalize combL (fun p q => p && q) la lb = L at *
  generalize combE (fun p q => p && q) la lb = E at *
  go_enter Tryd.func26, Tryd.ntmps26
  go_wp2_with fail
  refine HC.out.mono ?_
  rintro e w1 ⟨v, rfl, hr, hb⟩
  obtain ⟨a, c, rfl, -⟩ := id hr
  have HR := Lib.hid hr
  clear hr
  go_wp2_with fail
  go_ret2
  exact ⟨_, rfl, HR.out, hb⟩
set_option maxRecDepth 100000 in
theorem refWithout_call (la lb : List Sp) (va vb : Value) (B : Nat) (w : World) (ha : PRest B w la va) (hb : PRest B w lb vb) (hB : B ≤ w.heap.size) :
    Calls Tryd.prog 28 #[va, vb] w (GivesL w (combL (fun p q => p && !q) la lb) (combE (fun p q => p && !q) la lb)) := by
  have HC := Lib.hid (of_no la lb va vb B w ha hb hB)
  obtain ⟨a1, c1, rfl, -⟩ := ha
  obtain ⟨a2, c2, rfl, -⟩ := hb
  generalize combL (fun p q => p && !q) la lb = L at *
  generalize combE (fun p q => p && !q) la lb = E at *
  go_enter Tryd.func28, Tryd.ntmps28
  go_wp2_with fail
  refine HC.out.mono ?_
  rintro e w1 ⟨v, rfl, hr, hb⟩
  obtain ⟨a, c, rfl, -⟩ := id hr
  have HR := Lib.hid hr
  clear hr
  go_wp2_with fail
  go_ret2
  exact ⟨_, rfl, HR.out, hb⟩
end Go.Proofs.YtiicjmbnkjociaaDoor
