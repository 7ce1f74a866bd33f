/-
  No cell of these rows narrows 'for every input' (looked for: loops, veiled, ifaces, maps, wideKeys, modest, calm, conditions, laid).
  DERIVED. THE GIVEN ROWS OF THIS SEAT. 5 by the template 'for every input the law returns true; each argument reads behind the call as it read before'; 0 by the template 'total and deterministic' (their statements: YtcoboacjcnjdoaaTotals.lean).
  GIVEN WITH THE SEED: the statements are not yours to turn. If you find one false, say at which input.
  Laid BY PROGRAM, IN A SANDBOX (cutbox-rows.mjs): the forced cells as the released guide's own fill.sh prints them over the translation 80339f4ce4412fef… (all of the seat's roots in one cut). By AI agents, Wed Nov 11 2026. No macro, syntax, notation, axiom, sorry.
-/
import Derived.Test.YtcoboacjcnjdoaaChecked
import GoSem.Claim
import GoSem.ClaimJoined
import GoSem.ClaimMapViews
import Derived.JoinedTies
import Derived.KernelRfl
namespace Go.Proofs.Ytcoboacjcnjdoaa
/- THE CELL 'sum', in the pinned program and in every row, IS THE sha256 OF THE DUMP (.gsa) THAT YtcoboacjcnjdoaaProg.lean LOADS. Nothing in Lean hashes anything: it is a label: what it is worth is what the hold of that sum in a sandbox is worth. -/
noncomputable def Try.pinned : Pinned := { name := "ytcoboacjcnjdoaa", sum := "80339f4ce4412fef0d0248096aa32fd1ee4e5e8f9d57fad38a540a9174c441b2", checked := Try.checked }
namespace Rows
def none {H : Type} : Left H := { results := [], args := [] }

/-- 'fastilaw10.GroupSpec': WHATEVER THE INPUT: true; the input reads as it did. -/
def groupSpecSpec : ChangeSpec := { name := "groupSpec", fn := fun _ => fun
  | [d1, d2, d3] => { results := [.lit (.bool true)], args := [d1, d2, d3] }
  | _ => none }
def groupSpecRow : OpenClaim := { program := "ytcoboacjcnjdoaa", sum := "80339f4ce4412fef0d0248096aa32fd1ee4e5e8f9d57fad38a540a9174c441b2", func := "fasti/fastilaw10.GroupSpec", spec := "groupSpec", unfollowed := true, recurses := true, apart := false }
def GroupSpecSaid : Prop := groupSpecRow.holds Try.pinned (OpenSpec.ofChange groupSpecSpec)

/-- ITS FALSE NEIGHBOUR: 'it returns false'. Refute it at one input. -/
def groupSpecWrong : ChangeSpec := { name := "groupSpec", fn := fun _ => fun
  | [d1, d2, d3] => { results := [.lit (.bool false)], args := [d1, d2, d3] }
  | _ => none }
def GroupSpecWrongFalsely : Prop := groupSpecRow.holds Try.pinned (OpenSpec.ofChange groupSpecWrong)

/-- 'fastilaw10.GroupLaws': WHATEVER THE INPUT: true; the input reads as it did. -/
def groupLawsSpec : ChangeSpec := { name := "groupLaws", fn := fun _ => fun
  | [d1, d2, d3] => { results := [.lit (.bool true)], args := [d1, d2, d3] }
  | _ => none }
def groupLawsRow : OpenClaim := { program := "ytcoboacjcnjdoaa", sum := "80339f4ce4412fef0d0248096aa32fd1ee4e5e8f9d57fad38a540a9174c441b2", func := "fasti/fastilaw10.GroupLaws", spec := "groupLaws", unfollowed := true, recurses := true, apart := false }
def GroupLawsSaid : Prop := groupLawsRow.holds Try.pinned (OpenSpec.ofChange groupLawsSpec)

/-- ITS FALSE NEIGHBOUR: 'it returns false'. Refute it at one input. -/
def groupLawsWrong : ChangeSpec := { name := "groupLaws", fn := fun _ => fun
  | [d1, d2, d3] => { results := [.lit (.bool false)], args := [d1, d2, d3] }
  | _ => none }
def GroupLawsWrongFalsely : Prop := groupLawsRow.holds Try.pinned (OpenSpec.ofChange groupLawsWrong)

/-- 'fastilaw10.GroupPowers': WHATEVER THE INPUT: true; the input reads as it did. -/
def groupPowersSpec : ChangeSpec := { name := "groupPowers", fn := fun _ => fun
  | [d1, d2, d3, d4] => { results := [.lit (.bool true)], args := [d1, d2, d3, d4] }
  | _ => none }
def groupPowersRow : OpenClaim := { program := "ytcoboacjcnjdoaa", sum := "80339f4ce4412fef0d0248096aa32fd1ee4e5e8f9d57fad38a540a9174c441b2", func := "fasti/fastilaw10.GroupPowers", spec := "groupPowers", unfollowed := true, recurses := true, apart := false }
def GroupPowersSaid : Prop := groupPowersRow.holds Try.pinned (OpenSpec.ofChange groupPowersSpec)

/-- ITS FALSE NEIGHBOUR: 'it returns false'. Refute it at one input. -/
def groupPowersWrong : ChangeSpec := { name := "groupPowers", fn := fun _ => fun
  | [d1, d2, d3, d4] => { results := [.lit (.bool false)], args := [d1, d2, d3, d4] }
  | _ => none }
def GroupPowersWrongFalsely : Prop := groupPowersRow.holds Try.pinned (OpenSpec.ofChange groupPowersWrong)

/-- 'fastilaw10.GroupSquares': WHATEVER THE INPUT: true; the input reads as it did. -/
def groupSquaresSpec : ChangeSpec := { name := "groupSquares", fn := fun _ => fun
  | [d] => { results := [.lit (.bool true)], args := [d] }
  | _ => none }
def groupSquaresRow : OpenClaim := { program := "ytcoboacjcnjdoaa", sum := "80339f4ce4412fef0d0248096aa32fd1ee4e5e8f9d57fad38a540a9174c441b2", func := "fasti/fastilaw10.GroupSquares", spec := "groupSquares", unfollowed := true, recurses := true, apart := false }
def GroupSquaresSaid : Prop := groupSquaresRow.holds Try.pinned (OpenSpec.ofChange groupSquaresSpec)

/-- ITS FALSE NEIGHBOUR: 'it returns false'. Refute it at one input. -/
def groupSquaresWrong : ChangeSpec := { name := "groupSquares", fn := fun _ => fun
  | [d] => { results := [.lit (.bool false)], args := [d] }
  | _ => none }
def GroupSquaresWrongFalsely : Prop := groupSquaresRow.holds Try.pinned (OpenSpec.ofChange groupSquaresWrong)

/-- 'fastilaw10.GroupInverse': WHATEVER THE INPUT: true; the input reads as it did. -/
def groupInverseSpec : ChangeSpec := { name := "groupInverse", fn := fun _ => fun
  | [d1, d2] => { results := [.lit (.bool true)], args := [d1, d2] }
  | _ => none }
def groupInverseRow : OpenClaim := { program := "ytcoboacjcnjdoaa", sum := "80339f4ce4412fef0d0248096aa32fd1ee4e5e8f9d57fad38a540a9174c441b2", func := "fasti/fastilaw10.GroupInverse", spec := "groupInverse", unfollowed := true, recurses := true, apart := false }
def GroupInverseSaid : Prop := groupInverseRow.holds Try.pinned (OpenSpec.ofChange groupInverseSpec)

/-- ITS FALSE NEIGHBOUR: 'it returns false'. Refute it at one input. -/
def groupInverseWrong : ChangeSpec := { name := "groupInverse", fn := fun _ => fun
  | [d1, d2] => { results := [.lit (.bool false)], args := [d1, d2] }
  | _ => none }
def GroupInverseWrongFalsely : Prop := groupInverseRow.holds Try.pinned (OpenSpec.ofChange groupInverseWrong)

/- THE SECOND FORM. 'bulk': how many values and letters a reading holds, each counted each time it is reached (what is shared counts as often as it is met; a slice's spare places count too). A statement '..UptoSaid' is the law's where the arguments, and the package variables that the reading takes, are together of bulk at most 1048576: NARROWER than '..Said'. Prove '..Said' where nothing that the law and all that it calls make is longer than what came in: it says more and counts as full. Else prove '..UptoSaid'. A law counts once. -/
mutual
def uptoBulk {H : Type} : DataW H → Nat
  | .lit (.string bytes) => bytes.length + 1
  | .lit _ => 1
  | .nil => 1
  | .ptr d => uptoBulk d + 1
  | .slice elems spare => uptoBulkAll elems + uptoBulkAll spare + 1
  | .agg parts => uptoBulkAll parts + 1
  | .iface _ d => uptoBulk d + 1
  | .map entries => uptoBulkEntries entries + 1
  | .held _ => 1
def uptoBulkAll {H : Type} : List (DataW H) → Nat
  | [] => 0
  | d :: r => uptoBulk d + uptoBulkAll r
def uptoBulkEntries {H : Type} : List (Lit × DataW H) → Nat
  | [] => 0
  | x :: r => uptoBulkEntry x + uptoBulkEntries r
def uptoBulkEntry {H : Type} : Lit × DataW H → Nat
  | (.string bytes, d) => bytes.length + uptoBulk d + 1
  | (_, d) => uptoBulk d + 1
 end
def uptoSmall : (H : Type) → List (DataW H) → Bool := fun _ ds => decide (uptoBulkAll ds ≤ 1048576)
def OpenSpec.upto (s : _root_.Go.ChangeSpec) : _root_.Go.OpenSpec := { _root_.Go.OpenSpec.ofChange s with cond := some uptoSmall }

/-- 'fastilaw10.GroupSpec', WHERE WHAT IT READS IS OF BULK AT MOST 1048576: true; the input reads as it did. -/
def groupSpecUptoRow : OpenClaim := { program := "ytcoboacjcnjdoaa", sum := "80339f4ce4412fef0d0248096aa32fd1ee4e5e8f9d57fad38a540a9174c441b2", func := "fasti/fastilaw10.GroupSpec", spec := "groupSpec", unfollowed := true, recurses := true, apart := false, narrowed := true }
def GroupSpecUptoSaid : Prop := groupSpecUptoRow.holds Try.pinned (OpenSpec.upto groupSpecSpec)

/-- 'fastilaw10.GroupLaws', WHERE WHAT IT READS IS OF BULK AT MOST 1048576: true; the input reads as it did. -/
def groupLawsUptoRow : OpenClaim := { program := "ytcoboacjcnjdoaa", sum := "80339f4ce4412fef0d0248096aa32fd1ee4e5e8f9d57fad38a540a9174c441b2", func := "fasti/fastilaw10.GroupLaws", spec := "groupLaws", unfollowed := true, recurses := true, apart := false, narrowed := true }
def GroupLawsUptoSaid : Prop := groupLawsUptoRow.holds Try.pinned (OpenSpec.upto groupLawsSpec)

/-- 'fastilaw10.GroupPowers', WHERE WHAT IT READS IS OF BULK AT MOST 1048576: true; the input reads as it did. -/
def groupPowersUptoRow : OpenClaim := { program := "ytcoboacjcnjdoaa", sum := "80339f4ce4412fef0d0248096aa32fd1ee4e5e8f9d57fad38a540a9174c441b2", func := "fasti/fastilaw10.GroupPowers", spec := "groupPowers", unfollowed := true, recurses := true, apart := false, narrowed := true }
def GroupPowersUptoSaid : Prop := groupPowersUptoRow.holds Try.pinned (OpenSpec.upto groupPowersSpec)

/-- 'fastilaw10.GroupSquares', WHERE WHAT IT READS IS OF BULK AT MOST 1048576: true; the input reads as it did. -/
def groupSquaresUptoRow : OpenClaim := { program := "ytcoboacjcnjdoaa", sum := "80339f4ce4412fef0d0248096aa32fd1ee4e5e8f9d57fad38a540a9174c441b2", func := "fasti/fastilaw10.GroupSquares", spec := "groupSquares", unfollowed := true, recurses := true, apart := false, narrowed := true }
def GroupSquaresUptoSaid : Prop := groupSquaresUptoRow.holds Try.pinned (OpenSpec.upto groupSquaresSpec)

/-- 'fastilaw10.GroupInverse', WHERE WHAT IT READS IS OF BULK AT MOST 1048576: true; the input reads as it did. -/
def groupInverseUptoRow : OpenClaim := { program := "ytcoboacjcnjdoaa", sum := "80339f4ce4412fef0d0248096aa32fd1ee4e5e8f9d57fad38a540a9174c441b2", func := "fasti/fastilaw10.GroupInverse", spec := "groupInverse", unfollowed := true, recurses := true, apart := false, narrowed := true }
def GroupInverseUptoSaid : Prop := groupInverseUptoRow.holds Try.pinned (OpenSpec.upto groupInverseSpec)

end Rows
end Go.Proofs.Ytcoboacjcnjdoaa
