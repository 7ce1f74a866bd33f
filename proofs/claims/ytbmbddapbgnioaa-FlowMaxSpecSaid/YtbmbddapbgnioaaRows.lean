/-
  No cell of these rows narrows 'for every input' (looked for: loops, veiled, ifaces, maps, wideKeys, modest, calm, conditions, laid).
  DERIVED. THE GIVEN ROWS OF THIS SEAT. 7 by the template 'for every input the law returns true; each argument reads behind the call as it read before'; 0 by the template 'total and deterministic' (their statements: YtbmbddapbgnioaaTotals.lean).
  GIVEN WITH THE SEED: the statements are not yours to turn. If you find one false, say at which input.
  Laid BY PROGRAM, IN A SANDBOX (cutbox-rows.mjs): the forced cells as the released guide's own fill.sh prints them over the translation ee95ce6363ff62d3… (all of the seat's roots in one cut). By AI agents, Wed Nov 11 2026. No macro, syntax, notation, axiom, sorry.
-/
import Derived.Test.YtbmbddapbgnioaaChecked
import GoSem.Claim
import GoSem.ClaimJoined
import GoSem.ClaimMapViews
import Derived.JoinedTies
import Derived.KernelRfl
namespace Go.Proofs.Ytbmbddapbgnioaa
/- THE CELL 'sum', in the pinned program and in every row, IS THE sha256 OF THE DUMP (.gsa) THAT YtbmbddapbgnioaaProg.lean LOADS. Nothing in Lean hashes anything: it is a label: what it is worth is what the hold of that sum in a sandbox is worth. -/
noncomputable def Try.pinned : Pinned := { name := "ytbmbddapbgnioaa", sum := "ee95ce6363ff62d33f680350de76844606cf2ed7f0b8479ad46ae029fadeeb9f", checked := Try.checked }
namespace Rows
def none {H : Type} : Left H := { results := [], args := [] }

/-- 'fastilaw13.FlowSpec': WHATEVER THE INPUT: true; the input reads as it did. -/
def flowSpecSpec : ChangeSpec := { name := "flowSpec", fn := fun _ => fun
  | [d1, d2, d3] => { results := [.lit (.bool true)], args := [d1, d2, d3] }
  | _ => none }
def flowSpecRow : OpenClaim := { program := "ytbmbddapbgnioaa", sum := "ee95ce6363ff62d33f680350de76844606cf2ed7f0b8479ad46ae029fadeeb9f", func := "fasti/fastilaw13.FlowSpec", spec := "flowSpec", unfollowed := true, recurses := true, apart := false }
def FlowSpecSaid : Prop := flowSpecRow.holds Try.pinned (OpenSpec.ofChange flowSpecSpec)

/-- ITS FALSE NEIGHBOUR: 'it returns false'. Refute it at one input. -/
def flowSpecWrong : ChangeSpec := { name := "flowSpec", fn := fun _ => fun
  | [d1, d2, d3] => { results := [.lit (.bool false)], args := [d1, d2, d3] }
  | _ => none }
def FlowSpecWrongFalsely : Prop := flowSpecRow.holds Try.pinned (OpenSpec.ofChange flowSpecWrong)

/-- 'fastilaw13.FlowMaxSpec': WHATEVER THE INPUT: true; the input reads as it did. -/
def flowMaxSpecSpec : ChangeSpec := { name := "flowMaxSpec", fn := fun _ => fun
  | [d] => { results := [.lit (.bool true)], args := [d] }
  | _ => none }
def flowMaxSpecRow : OpenClaim := { program := "ytbmbddapbgnioaa", sum := "ee95ce6363ff62d33f680350de76844606cf2ed7f0b8479ad46ae029fadeeb9f", func := "fasti/fastilaw13.FlowMaxSpec", spec := "flowMaxSpec", unfollowed := true, recurses := true, apart := false }
def FlowMaxSpecSaid : Prop := flowMaxSpecRow.holds Try.pinned (OpenSpec.ofChange flowMaxSpecSpec)

/-- ITS FALSE NEIGHBOUR: 'it returns false'. Refute it at one input. -/
def flowMaxSpecWrong : ChangeSpec := { name := "flowMaxSpec", fn := fun _ => fun
  | [d] => { results := [.lit (.bool false)], args := [d] }
  | _ => none }
def FlowMaxSpecWrongFalsely : Prop := flowMaxSpecRow.holds Try.pinned (OpenSpec.ofChange flowMaxSpecWrong)

/-- 'fastilaw13.FlowDuality': WHATEVER THE INPUT: true; the input reads as it did. -/
def flowDualitySpec : ChangeSpec := { name := "flowDuality", fn := fun _ => fun
  | [d1, d2, d3] => { results := [.lit (.bool true)], args := [d1, d2, d3] }
  | _ => none }
def flowDualityRow : OpenClaim := { program := "ytbmbddapbgnioaa", sum := "ee95ce6363ff62d33f680350de76844606cf2ed7f0b8479ad46ae029fadeeb9f", func := "fasti/fastilaw13.FlowDuality", spec := "flowDuality", unfollowed := true, recurses := true, apart := false }
def FlowDualitySaid : Prop := flowDualityRow.holds Try.pinned (OpenSpec.ofChange flowDualitySpec)

/-- ITS FALSE NEIGHBOUR: 'it returns false'. Refute it at one input. -/
def flowDualityWrong : ChangeSpec := { name := "flowDuality", fn := fun _ => fun
  | [d1, d2, d3] => { results := [.lit (.bool false)], args := [d1, d2, d3] }
  | _ => none }
def FlowDualityWrongFalsely : Prop := flowDualityRow.holds Try.pinned (OpenSpec.ofChange flowDualityWrong)

/-- 'fastilaw13.FlowLeast': WHATEVER THE INPUT: true; the input reads as it did. -/
def flowLeastSpec : ChangeSpec := { name := "flowLeast", fn := fun _ => fun
  | [d1, d2] => { results := [.lit (.bool true)], args := [d1, d2] }
  | _ => none }
def flowLeastRow : OpenClaim := { program := "ytbmbddapbgnioaa", sum := "ee95ce6363ff62d33f680350de76844606cf2ed7f0b8479ad46ae029fadeeb9f", func := "fasti/fastilaw13.FlowLeast", spec := "flowLeast", unfollowed := true, recurses := true, apart := false }
def FlowLeastSaid : Prop := flowLeastRow.holds Try.pinned (OpenSpec.ofChange flowLeastSpec)

/-- ITS FALSE NEIGHBOUR: 'it returns false'. Refute it at one input. -/
def flowLeastWrong : ChangeSpec := { name := "flowLeast", fn := fun _ => fun
  | [d1, d2] => { results := [.lit (.bool false)], args := [d1, d2] }
  | _ => none }
def FlowLeastWrongFalsely : Prop := flowLeastRow.holds Try.pinned (OpenSpec.ofChange flowLeastWrong)

/-- 'fastilaw13.FlowScale': WHATEVER THE INPUT: true; the input reads as it did. -/
def flowScaleSpec : ChangeSpec := { name := "flowScale", fn := fun _ => fun
  | [d1, d2] => { results := [.lit (.bool true)], args := [d1, d2] }
  | _ => none }
def flowScaleRow : OpenClaim := { program := "ytbmbddapbgnioaa", sum := "ee95ce6363ff62d33f680350de76844606cf2ed7f0b8479ad46ae029fadeeb9f", func := "fasti/fastilaw13.FlowScale", spec := "flowScale", unfollowed := true, recurses := true, apart := false }
def FlowScaleSaid : Prop := flowScaleRow.holds Try.pinned (OpenSpec.ofChange flowScaleSpec)

/-- ITS FALSE NEIGHBOUR: 'it returns false'. Refute it at one input. -/
def flowScaleWrong : ChangeSpec := { name := "flowScale", fn := fun _ => fun
  | [d1, d2] => { results := [.lit (.bool false)], args := [d1, d2] }
  | _ => none }
def FlowScaleWrongFalsely : Prop := flowScaleRow.holds Try.pinned (OpenSpec.ofChange flowScaleWrong)

/-- 'fastilaw13.FlowTurn': WHATEVER THE INPUT: true; the input reads as it did. -/
def flowTurnSpec : ChangeSpec := { name := "flowTurn", fn := fun _ => fun
  | [d] => { results := [.lit (.bool true)], args := [d] }
  | _ => none }
def flowTurnRow : OpenClaim := { program := "ytbmbddapbgnioaa", sum := "ee95ce6363ff62d33f680350de76844606cf2ed7f0b8479ad46ae029fadeeb9f", func := "fasti/fastilaw13.FlowTurn", spec := "flowTurn", unfollowed := true, recurses := true, apart := false }
def FlowTurnSaid : Prop := flowTurnRow.holds Try.pinned (OpenSpec.ofChange flowTurnSpec)

/-- ITS FALSE NEIGHBOUR: 'it returns false'. Refute it at one input. -/
def flowTurnWrong : ChangeSpec := { name := "flowTurn", fn := fun _ => fun
  | [d] => { results := [.lit (.bool false)], args := [d] }
  | _ => none }
def FlowTurnWrongFalsely : Prop := flowTurnRow.holds Try.pinned (OpenSpec.ofChange flowTurnWrong)

/-- 'fastilaw13.FlowMore': WHATEVER THE INPUT: true; the input reads as it did. -/
def flowMoreSpec : ChangeSpec := { name := "flowMore", fn := fun _ => fun
  | [d1, d2, d3] => { results := [.lit (.bool true)], args := [d1, d2, d3] }
  | _ => none }
def flowMoreRow : OpenClaim := { program := "ytbmbddapbgnioaa", sum := "ee95ce6363ff62d33f680350de76844606cf2ed7f0b8479ad46ae029fadeeb9f", func := "fasti/fastilaw13.FlowMore", spec := "flowMore", unfollowed := true, recurses := true, apart := false }
def FlowMoreSaid : Prop := flowMoreRow.holds Try.pinned (OpenSpec.ofChange flowMoreSpec)

/-- ITS FALSE NEIGHBOUR: 'it returns false'. Refute it at one input. -/
def flowMoreWrong : ChangeSpec := { name := "flowMore", fn := fun _ => fun
  | [d1, d2, d3] => { results := [.lit (.bool false)], args := [d1, d2, d3] }
  | _ => none }
def FlowMoreWrongFalsely : Prop := flowMoreRow.holds Try.pinned (OpenSpec.ofChange flowMoreWrong)

/- THE SECOND FORM. 'bulk': how many values and letters a reading holds, each counted each time it is reached (what is shared counts as often as it is met; a slice's spare places count too). A statement '..UptoSaid' is the law's where the arguments, and the package variables that the reading takes, are together of bulk at most 1048576: NARROWER than '..Said'. Prove '..Said' where nothing that the law and all that it calls make is longer than what came in: it says more and counts as full. Else prove '..UptoSaid'. A law counts once. -/
mutual
def uptoBulk {H : Type} : DataW H → Nat
  | .lit (.string bytes) => bytes.length + 1
  | .lit _ => 1
  | .nil => 1
  | .ptr d => uptoBulk d + 1
  | .slice elems spare => uptoBulkAll elems + uptoBulkAll spare + 1
  | .agg parts => uptoBulkAll parts + 1
  | .iface _ d => uptoBulk d + 1
  | .map entries => uptoBulkEntries entries + 1
  | .held _ => 1
def uptoBulkAll {H : Type} : List (DataW H) → Nat
  | [] => 0
  | d :: r => uptoBulk d + uptoBulkAll r
def uptoBulkEntries {H : Type} : List (Lit × DataW H) → Nat
  | [] => 0
  | x :: r => uptoBulkEntry x + uptoBulkEntries r
def uptoBulkEntry {H : Type} : Lit × DataW H → Nat
  | (.string bytes, d) => bytes.length + uptoBulk d + 1
  | (_, d) => uptoBulk d + 1
 end
def uptoSmall : (H : Type) → List (DataW H) → Bool := fun _ ds => decide (uptoBulkAll ds ≤ 1048576)
def OpenSpec.upto (s : _root_.Go.ChangeSpec) : _root_.Go.OpenSpec := { _root_.Go.OpenSpec.ofChange s with cond := some uptoSmall }

/-- 'fastilaw13.FlowSpec', WHERE WHAT IT READS IS OF BULK AT MOST 1048576: true; the input reads as it did. -/
def flowSpecUptoRow : OpenClaim := { program := "ytbmbddapbgnioaa", sum := "ee95ce6363ff62d33f680350de76844606cf2ed7f0b8479ad46ae029fadeeb9f", func := "fasti/fastilaw13.FlowSpec", spec := "flowSpec", unfollowed := true, recurses := true, apart := false, narrowed := true }
def FlowSpecUptoSaid : Prop := flowSpecUptoRow.holds Try.pinned (OpenSpec.upto flowSpecSpec)

/-- 'fastilaw13.FlowMaxSpec', WHERE WHAT IT READS IS OF BULK AT MOST 1048576: true; the input reads as it did. -/
def flowMaxSpecUptoRow : OpenClaim := { program := "ytbmbddapbgnioaa", sum := "ee95ce6363ff62d33f680350de76844606cf2ed7f0b8479ad46ae029fadeeb9f", func := "fasti/fastilaw13.FlowMaxSpec", spec := "flowMaxSpec", unfollowed := true, recurses := true, apart := false, narrowed := true }
def FlowMaxSpecUptoSaid : Prop := flowMaxSpecUptoRow.holds Try.pinned (OpenSpec.upto flowMaxSpecSpec)

/-- 'fastilaw13.FlowDuality', WHERE WHAT IT READS IS OF BULK AT MOST 1048576: true; the input reads as it did. -/
def flowDualityUptoRow : OpenClaim := { program := "ytbmbddapbgnioaa", sum := "ee95ce6363ff62d33f680350de76844606cf2ed7f0b8479ad46ae029fadeeb9f", func := "fasti/fastilaw13.FlowDuality", spec := "flowDuality", unfollowed := true, recurses := true, apart := false, narrowed := true }
def FlowDualityUptoSaid : Prop := flowDualityUptoRow.holds Try.pinned (OpenSpec.upto flowDualitySpec)

/-- 'fastilaw13.FlowLeast', WHERE WHAT IT READS IS OF BULK AT MOST 1048576: true; the input reads as it did. -/
def flowLeastUptoRow : OpenClaim := { program := "ytbmbddapbgnioaa", sum := "ee95ce6363ff62d33f680350de76844606cf2ed7f0b8479ad46ae029fadeeb9f", func := "fasti/fastilaw13.FlowLeast", spec := "flowLeast", unfollowed := true, recurses := true, apart := false, narrowed := true }
def FlowLeastUptoSaid : Prop := flowLeastUptoRow.holds Try.pinned (OpenSpec.upto flowLeastSpec)

/-- 'fastilaw13.FlowScale', WHERE WHAT IT READS IS OF BULK AT MOST 1048576: true; the input reads as it did. -/
def flowScaleUptoRow : OpenClaim := { program := "ytbmbddapbgnioaa", sum := "ee95ce6363ff62d33f680350de76844606cf2ed7f0b8479ad46ae029fadeeb9f", func := "fasti/fastilaw13.FlowScale", spec := "flowScale", unfollowed := true, recurses := true, apart := false, narrowed := true }
def FlowScaleUptoSaid : Prop := flowScaleUptoRow.holds Try.pinned (OpenSpec.upto flowScaleSpec)

/-- 'fastilaw13.FlowTurn', WHERE WHAT IT READS IS OF BULK AT MOST 1048576: true; the input reads as it did. -/
def flowTurnUptoRow : OpenClaim := { program := "ytbmbddapbgnioaa", sum := "ee95ce6363ff62d33f680350de76844606cf2ed7f0b8479ad46ae029fadeeb9f", func := "fasti/fastilaw13.FlowTurn", spec := "flowTurn", unfollowed := true, recurses := true, apart := false, narrowed := true }
def FlowTurnUptoSaid : Prop := flowTurnUptoRow.holds Try.pinned (OpenSpec.upto flowTurnSpec)

/-- 'fastilaw13.FlowMore', WHERE WHAT IT READS IS OF BULK AT MOST 1048576: true; the input reads as it did. -/
def flowMoreUptoRow : OpenClaim := { program := "ytbmbddapbgnioaa", sum := "ee95ce6363ff62d33f680350de76844606cf2ed7f0b8479ad46ae029fadeeb9f", func := "fasti/fastilaw13.FlowMore", spec := "flowMore", unfollowed := true, recurses := true, apart := false, narrowed := true }
def FlowMoreUptoSaid : Prop := flowMoreUptoRow.holds Try.pinned (OpenSpec.upto flowMoreSpec)

end Rows
end Go.Proofs.Ytbmbddapbgnioaa
