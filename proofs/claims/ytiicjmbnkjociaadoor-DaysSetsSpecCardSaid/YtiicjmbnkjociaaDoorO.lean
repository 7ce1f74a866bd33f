/- Union, Meet, Without. -/
import Derived.Test.YtiicjmbnkjociaaDoorL
import Derived.Test.YtiicjmbnkjociaaDoorN
namespace Go.Proofs.YtiicjmbnkjociaaDoor
open Go.RowKit

abbrev Wor (p q : Bool) : Bool := p || q
abbrev Wand (p q : Bool) : Bool := p && q
abbrev Wnot (p q : Bool) : Bool := p && !q
/-- what a call answers that returns a list of spans and an error -/
def GivesL (w : World) (l : List Sp) (er : Int) (e : Ending) (w' : World) : Prop := ∃ v, e = .returned (.tuple #[v, .int .i64 er]) ∧ PRest w'.heap.size w' l v ∧ Below w.heap.size w w'
set_option maxRecDepth 100000 in
theorem Union_call (la lb : List Sp) (va vb : Value) (B : Nat) (w : World) (ha : PRest B w la va) (hb : PRest B w lb vb) (hB : B ≤ w.heap.size) :
    Calls Tryd.prog 23 #[va, vb] w (GivesL w (combL (fun p q => p || q) la lb) (combE (fun p q => p || q) la lb)) := by
  have HC := Lib.hid (combine_or la lb va vb B w ha hb hB)
  obtain ⟨a1, c1, rfl, -⟩ := ha
  obtain ⟨a2, c2, rfl, -⟩ := hb
  generalize combL (fun p q => p || q) la lb = L at *
  generalize combE (fun p q => p || q) la lb = E at *
  go_enter Tryd.func23, Tryd.ntmps23
  go_wp2_with fail
  refine HC.out.mono ?_
  rintro e w1 ⟨v, rfl, hr, hb⟩
  obtain ⟨a, c, rfl, -⟩ := id hr
  have HR := Lib.hid hr
  clear hr
  go_wp2_with fail
  go_ret2
  exact ⟨_, rfl, HR.out, hb⟩
set_option maxRecDepth 100000 in
theorem Meet_call (la lb : List Sp) (va vb : Value) (B : Nat) (w : World) (ha : PRest B w la va) (hb : PRest B w lb vb) (hB : B ≤ w.heap.size) :
    Calls Tryd.prog 25 #[va, vb] w (GivesL w (combL (fun p q => p && q) la lb) (combE (fun p q => p && q) la lb)) := by
  have HC := Lib.hid (combine_and la lb va vb B w ha hb hB)
  obtain ⟨a1, c1, rfl, -⟩ := ha
  obtain ⟨a2, c2, rfl, -⟩ := hb
  generalize combL (fun p q => p && q) la lb = L at *
  generalize combE (fun p q => p && q) la lb = E at *
  go_enter Tryd.func25, Tryd.ntmps25
  go_wp2_with fail
  refine HC.out.mono ?_
  rintro e w1 ⟨v, rfl, hr, hb⟩
  obtain ⟨a, c, rfl, -⟩ := id hr
  have HR := Lib.hid hr
  clear hr
  go_wp2_with fail
  go_ret2
  exact ⟨_, rfl, HR.out, hb⟩
set_option maxRecDepth 100000 in
theorem Without_call (la lb : List Sp) (va vb : Value) (B : Nat) (w : World) (ha : PRest B w la va) (hb : PRest B w lb vb) (hB : B ≤ w.heap.size) :
    Calls Tryd.prog 27 #[va, vb] w (GivesL w (combL (fun p q => p && !q) la lb) (combE (fun p q => p && !q) la lb)) := by
  have HC := Lib.hid (combine_not la lb va vb B w ha hb hB)
  obtain ⟨a1, c1, rfl, -⟩ := ha
  obtain ⟨a2, c2, rfl, -⟩ := hb
  generalize combL (fun p q => p && !q) la lb = L at *
  generalize combE (fun p q => p && !q) la lb = E at *
  go_enter Tryd.func27, Tryd.ntmps27
  go_wp2_with fail
  refine HC.out.mono ?_
  rintro e w1 ⟨v, rfl, hr, hb⟩
  obtain ⟨a, c, rfl, -⟩ := id hr
  have HR := Lib.hid hr
  clear hr
  go_wp2_with fail
  go_ret2
  exact ⟨_, rfl, HR.out, hb⟩
end Go.Proofs.YtiicjmbnkjociaaDoor
