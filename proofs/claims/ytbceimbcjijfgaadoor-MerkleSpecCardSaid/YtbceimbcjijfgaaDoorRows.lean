/-
  NARROWER THAN 'FOR EVERY INPUT', by the rows' own cells (each row's printed sentence says how): MerkleSpec: laid · MerkleClimbSpec: laid · MerkleProve: laid · MerkleBound: laid · MerkleChanged: laid · MerkleSplit: laid · MerkleLength: laid.
  DERIVED. THE GIVEN ROWS OF THIS SEAT. 7 by the template 'for every input the law returns true; each argument reads behind the call as it read before'; 0 by the template 'total and deterministic' (their statements: YtbceimbcjijfgaaDoorTotals.lean).
  GIVEN WITH THE SEED: the statements are not yours to turn. If you find one false, say at which input.
  Laid BY PROGRAM, IN A SANDBOX (cutbox-rows.mjs): the forced cells as the released guide's own fill.sh prints them over the translation 1105d964e1059cf7… (all of the seat's roots in one cut). By AI agents, Wed Nov 11 2026. No macro, syntax, notation, axiom, sorry.
-/
import Derived.Test.YtbceimbcjijfgaaDoorChecked
import GoSem.Claim
import GoSem.ClaimJoined
import GoSem.ClaimMapViews
import Derived.JoinedTies
import Derived.KernelRfl
namespace Go.Proofs.YtbceimbcjijfgaaDoor
/- THE CELL 'sum', in the pinned program and in every row, IS THE sha256 OF THE DUMP (.gsa) THAT YtbceimbcjijfgaaDoorProg.lean LOADS. Nothing in Lean hashes anything: it is a label: what it is worth is what the hold of that sum in a sandbox is worth. -/
noncomputable def Tryd.pinned : Pinned := { name := "ytbceimbcjijfgaadoor", sum := "1105d964e1059cf78c7e0dc528ce3c7183d01bfa645c1305ae6aef2a2e2413ef", checked := Tryd.checked }
namespace Rows
def none {H : Type} : Left H := { results := [], args := [] }

/- WHAT THE LISTED PACKAGE-LEVEL VARIABLES READ AS WHEN THE CALL BEGINS. Each datum BY PROGRAM (the guide's laid-datum.mjs) off the statement by which the dump's own 'gosem.cut.vars' lays the variable. In a bare row this is a premise. The card (YtbceimbcjijfgaaDoorCards.lean) ties it to the program's text. -/
def laid_fasti_digest_roundNumbers {H : Type} : DataW H := .agg [.lit (.int .u32 1116352408), .lit (.int .u32 1899447441), .lit (.int .u32 3049323471), .lit (.int .u32 3921009573), .lit (.int .u32 961987163), .lit (.int .u32 1508970993), .lit (.int .u32 2453635748), .lit (.int .u32 2870763221), .lit (.int .u32 3624381080), .lit (.int .u32 310598401), .lit (.int .u32 607225278), .lit (.int .u32 1426881987), .lit (.int .u32 1925078388), .lit (.int .u32 2162078206), .lit (.int .u32 2614888103), .lit (.int .u32 3248222580), .lit (.int .u32 3835390401), .lit (.int .u32 4022224774), .lit (.int .u32 264347078), .lit (.int .u32 604807628), .lit (.int .u32 770255983), .lit (.int .u32 1249150122), .lit (.int .u32 1555081692), .lit (.int .u32 1996064986), .lit (.int .u32 2554220882), .lit (.int .u32 2821834349), .lit (.int .u32 2952996808), .lit (.int .u32 3210313671), .lit (.int .u32 3336571891), .lit (.int .u32 3584528711), .lit (.int .u32 113926993), .lit (.int .u32 338241895), .lit (.int .u32 666307205), .lit (.int .u32 773529912), .lit (.int .u32 1294757372), .lit (.int .u32 1396182291), .lit (.int .u32 1695183700), .lit (.int .u32 1986661051), .lit (.int .u32 2177026350), .lit (.int .u32 2456956037), .lit (.int .u32 2730485921), .lit (.int .u32 2820302411), .lit (.int .u32 3259730800), .lit (.int .u32 3345764771), .lit (.int .u32 3516065817), .lit (.int .u32 3600352804), .lit (.int .u32 4094571909), .lit (.int .u32 275423344), .lit (.int .u32 430227734), .lit (.int .u32 506948616), .lit (.int .u32 659060556), .lit (.int .u32 883997877), .lit (.int .u32 958139571), .lit (.int .u32 1322822218), .lit (.int .u32 1537002063), .lit (.int .u32 1747873779), .lit (.int .u32 1955562222), .lit (.int .u32 2024104815), .lit (.int .u32 2227730452), .lit (.int .u32 2361852424), .lit (.int .u32 2428436474), .lit (.int .u32 2756734187), .lit (.int .u32 3204031479), .lit (.int .u32 3329325298)]

/-- 'fastilaw07.MerkleSpec': WHATEVER THE INPUT: true; the input reads as it did. -/
def merkleSpecSpec : ChangeSpec := { name := "merkleSpec", fn := fun _ => fun
  | [d1, d2] => { results := [.lit (.bool true)], args := [d1, d2] }
  | _ => none }
def merkleSpecRow : OpenClaim := { program := "ytbceimbcjijfgaadoor", sum := "1105d964e1059cf78c7e0dc528ce3c7183d01bfa645c1305ae6aef2a2e2413ef", func := "fasti/fastilaw07.MerkleSpec", spec := "merkleSpec", unfollowed := true, recurses := true, named := ["fasti/digest.roundNumbers"], apart := false, laid := [("fasti/digest.roundNumbers", laid_fasti_digest_roundNumbers)] }
def MerkleSpecSaid : Prop := merkleSpecRow.holds Tryd.pinned (OpenSpec.ofChange merkleSpecSpec)

/-- ITS FALSE NEIGHBOUR: 'it returns false'. Refute it at one input. -/
def merkleSpecWrong : ChangeSpec := { name := "merkleSpec", fn := fun _ => fun
  | [d1, d2] => { results := [.lit (.bool false)], args := [d1, d2] }
  | _ => none }
def MerkleSpecWrongFalsely : Prop := merkleSpecRow.holds Tryd.pinned (OpenSpec.ofChange merkleSpecWrong)

/-- 'fastilaw07.MerkleClimbSpec': WHATEVER THE INPUT: true; the input reads as it did. -/
def merkleClimbSpecSpec : ChangeSpec := { name := "merkleClimbSpec", fn := fun _ => fun
  | [d1, d2, d3, d4, d5, d6] => { results := [.lit (.bool true)], args := [d1, d2, d3, d4, d5, d6] }
  | _ => none }
def merkleClimbSpecRow : OpenClaim := { program := "ytbceimbcjijfgaadoor", sum := "1105d964e1059cf78c7e0dc528ce3c7183d01bfa645c1305ae6aef2a2e2413ef", func := "fasti/fastilaw07.MerkleClimbSpec", spec := "merkleClimbSpec", unfollowed := true, recurses := true, named := ["fasti/digest.roundNumbers"], apart := false, laid := [("fasti/digest.roundNumbers", laid_fasti_digest_roundNumbers)] }
def MerkleClimbSpecSaid : Prop := merkleClimbSpecRow.holds Tryd.pinned (OpenSpec.ofChange merkleClimbSpecSpec)

/-- ITS FALSE NEIGHBOUR: 'it returns false'. Refute it at one input. -/
def merkleClimbSpecWrong : ChangeSpec := { name := "merkleClimbSpec", fn := fun _ => fun
  | [d1, d2, d3, d4, d5, d6] => { results := [.lit (.bool false)], args := [d1, d2, d3, d4, d5, d6] }
  | _ => none }
def MerkleClimbSpecWrongFalsely : Prop := merkleClimbSpecRow.holds Tryd.pinned (OpenSpec.ofChange merkleClimbSpecWrong)

/-- 'fastilaw07.MerkleProve': WHATEVER THE INPUT: true; the input reads as it did. -/
def merkleProveSpec : ChangeSpec := { name := "merkleProve", fn := fun _ => fun
  | [d1, d2] => { results := [.lit (.bool true)], args := [d1, d2] }
  | _ => none }
def merkleProveRow : OpenClaim := { program := "ytbceimbcjijfgaadoor", sum := "1105d964e1059cf78c7e0dc528ce3c7183d01bfa645c1305ae6aef2a2e2413ef", func := "fasti/fastilaw07.MerkleProve", spec := "merkleProve", unfollowed := true, recurses := true, named := ["fasti/digest.roundNumbers"], apart := false, laid := [("fasti/digest.roundNumbers", laid_fasti_digest_roundNumbers)] }
def MerkleProveSaid : Prop := merkleProveRow.holds Tryd.pinned (OpenSpec.ofChange merkleProveSpec)

/-- ITS FALSE NEIGHBOUR: 'it returns false'. Refute it at one input. -/
def merkleProveWrong : ChangeSpec := { name := "merkleProve", fn := fun _ => fun
  | [d1, d2] => { results := [.lit (.bool false)], args := [d1, d2] }
  | _ => none }
def MerkleProveWrongFalsely : Prop := merkleProveRow.holds Tryd.pinned (OpenSpec.ofChange merkleProveWrong)

/-- 'fastilaw07.MerkleBound': WHATEVER THE INPUT: true; the input reads as it did. -/
def merkleBoundSpec : ChangeSpec := { name := "merkleBound", fn := fun _ => fun
  | [d1, d2, d3, d4, d5, d6] => { results := [.lit (.bool true)], args := [d1, d2, d3, d4, d5, d6] }
  | _ => none }
def merkleBoundRow : OpenClaim := { program := "ytbceimbcjijfgaadoor", sum := "1105d964e1059cf78c7e0dc528ce3c7183d01bfa645c1305ae6aef2a2e2413ef", func := "fasti/fastilaw07.MerkleBound", spec := "merkleBound", unfollowed := true, recurses := true, named := ["fasti/digest.roundNumbers"], apart := false, laid := [("fasti/digest.roundNumbers", laid_fasti_digest_roundNumbers)] }
def MerkleBoundSaid : Prop := merkleBoundRow.holds Tryd.pinned (OpenSpec.ofChange merkleBoundSpec)

/-- ITS FALSE NEIGHBOUR: 'it returns false'. Refute it at one input. -/
def merkleBoundWrong : ChangeSpec := { name := "merkleBound", fn := fun _ => fun
  | [d1, d2, d3, d4, d5, d6] => { results := [.lit (.bool false)], args := [d1, d2, d3, d4, d5, d6] }
  | _ => none }
def MerkleBoundWrongFalsely : Prop := merkleBoundRow.holds Tryd.pinned (OpenSpec.ofChange merkleBoundWrong)

/-- 'fastilaw07.MerkleChanged': WHATEVER THE INPUT: true; the input reads as it did. -/
def merkleChangedSpec : ChangeSpec := { name := "merkleChanged", fn := fun _ => fun
  | [d1, d2, d3] => { results := [.lit (.bool true)], args := [d1, d2, d3] }
  | _ => none }
def merkleChangedRow : OpenClaim := { program := "ytbceimbcjijfgaadoor", sum := "1105d964e1059cf78c7e0dc528ce3c7183d01bfa645c1305ae6aef2a2e2413ef", func := "fasti/fastilaw07.MerkleChanged", spec := "merkleChanged", unfollowed := true, recurses := true, named := ["fasti/digest.roundNumbers"], apart := false, laid := [("fasti/digest.roundNumbers", laid_fasti_digest_roundNumbers)] }
def MerkleChangedSaid : Prop := merkleChangedRow.holds Tryd.pinned (OpenSpec.ofChange merkleChangedSpec)

/-- ITS FALSE NEIGHBOUR: 'it returns false'. Refute it at one input. -/
def merkleChangedWrong : ChangeSpec := { name := "merkleChanged", fn := fun _ => fun
  | [d1, d2, d3] => { results := [.lit (.bool false)], args := [d1, d2, d3] }
  | _ => none }
def MerkleChangedWrongFalsely : Prop := merkleChangedRow.holds Tryd.pinned (OpenSpec.ofChange merkleChangedWrong)

/-- 'fastilaw07.MerkleSplit': WHATEVER THE INPUT: true; the input reads as it did. -/
def merkleSplitSpec : ChangeSpec := { name := "merkleSplit", fn := fun _ => fun
  | [d] => { results := [.lit (.bool true)], args := [d] }
  | _ => none }
def merkleSplitRow : OpenClaim := { program := "ytbceimbcjijfgaadoor", sum := "1105d964e1059cf78c7e0dc528ce3c7183d01bfa645c1305ae6aef2a2e2413ef", func := "fasti/fastilaw07.MerkleSplit", spec := "merkleSplit", unfollowed := true, recurses := true, named := ["fasti/digest.roundNumbers"], apart := false, laid := [("fasti/digest.roundNumbers", laid_fasti_digest_roundNumbers)] }
def MerkleSplitSaid : Prop := merkleSplitRow.holds Tryd.pinned (OpenSpec.ofChange merkleSplitSpec)

/-- ITS FALSE NEIGHBOUR: 'it returns false'. Refute it at one input. -/
def merkleSplitWrong : ChangeSpec := { name := "merkleSplit", fn := fun _ => fun
  | [d] => { results := [.lit (.bool false)], args := [d] }
  | _ => none }
def MerkleSplitWrongFalsely : Prop := merkleSplitRow.holds Tryd.pinned (OpenSpec.ofChange merkleSplitWrong)

/-- 'fastilaw07.MerkleLength': WHATEVER THE INPUT: true; the input reads as it did. -/
def merkleLengthSpec : ChangeSpec := { name := "merkleLength", fn := fun _ => fun
  | [d1, d2, d3, d4] => { results := [.lit (.bool true)], args := [d1, d2, d3, d4] }
  | _ => none }
def merkleLengthRow : OpenClaim := { program := "ytbceimbcjijfgaadoor", sum := "1105d964e1059cf78c7e0dc528ce3c7183d01bfa645c1305ae6aef2a2e2413ef", func := "fasti/fastilaw07.MerkleLength", spec := "merkleLength", unfollowed := true, recurses := true, named := ["fasti/digest.roundNumbers"], apart := false, laid := [("fasti/digest.roundNumbers", laid_fasti_digest_roundNumbers)] }
def MerkleLengthSaid : Prop := merkleLengthRow.holds Tryd.pinned (OpenSpec.ofChange merkleLengthSpec)

/-- ITS FALSE NEIGHBOUR: 'it returns false'. Refute it at one input. -/
def merkleLengthWrong : ChangeSpec := { name := "merkleLength", fn := fun _ => fun
  | [d1, d2, d3, d4] => { results := [.lit (.bool false)], args := [d1, d2, d3, d4] }
  | _ => none }
def MerkleLengthWrongFalsely : Prop := merkleLengthRow.holds Tryd.pinned (OpenSpec.ofChange merkleLengthWrong)

/- THE SECOND FORM. 'bulk': how many values and letters a reading holds, each counted each time it is reached (what is shared counts as often as it is met; a slice's spare places count too). A statement '..UptoSaid' is the law's where the arguments, and the package variables that the reading takes, are together of bulk at most 1048576: NARROWER than '..Said'. Prove '..Said' where nothing that the law and all that it calls make is longer than what came in: it says more and counts as full. Else prove '..UptoSaid'. A law counts once. -/
mutual
def uptoBulk {H : Type} : DataW H → Nat
  | .lit (.string bytes) => bytes.length + 1
  | .lit _ => 1
  | .nil => 1
  | .ptr d => uptoBulk d + 1
  | .slice elems spare => uptoBulkAll elems + uptoBulkAll spare + 1
  | .agg parts => uptoBulkAll parts + 1
  | .iface _ d => uptoBulk d + 1
  | .map entries => uptoBulkEntries entries + 1
  | .held _ => 1
def uptoBulkAll {H : Type} : List (DataW H) → Nat
  | [] => 0
  | d :: r => uptoBulk d + uptoBulkAll r
def uptoBulkEntries {H : Type} : List (Lit × DataW H) → Nat
  | [] => 0
  | x :: r => uptoBulkEntry x + uptoBulkEntries r
def uptoBulkEntry {H : Type} : Lit × DataW H → Nat
  | (.string bytes, d) => bytes.length + uptoBulk d + 1
  | (_, d) => uptoBulk d + 1
 end
def uptoSmall : (H : Type) → List (DataW H) → Bool := fun _ ds => decide (uptoBulkAll ds ≤ 1048576)
def OpenSpec.upto (s : _root_.Go.ChangeSpec) : _root_.Go.OpenSpec := { _root_.Go.OpenSpec.ofChange s with cond := some uptoSmall }

/-- 'fastilaw07.MerkleSpec', WHERE WHAT IT READS IS OF BULK AT MOST 1048576: true; the input reads as it did. -/
def merkleSpecUptoRow : OpenClaim := { program := "ytbceimbcjijfgaadoor", sum := "1105d964e1059cf78c7e0dc528ce3c7183d01bfa645c1305ae6aef2a2e2413ef", func := "fasti/fastilaw07.MerkleSpec", spec := "merkleSpec", unfollowed := true, recurses := true, named := ["fasti/digest.roundNumbers"], apart := false, laid := [("fasti/digest.roundNumbers", laid_fasti_digest_roundNumbers)], narrowed := true }
def MerkleSpecUptoSaid : Prop := merkleSpecUptoRow.holds Tryd.pinned (OpenSpec.upto merkleSpecSpec)

/-- 'fastilaw07.MerkleClimbSpec', WHERE WHAT IT READS IS OF BULK AT MOST 1048576: true; the input reads as it did. -/
def merkleClimbSpecUptoRow : OpenClaim := { program := "ytbceimbcjijfgaadoor", sum := "1105d964e1059cf78c7e0dc528ce3c7183d01bfa645c1305ae6aef2a2e2413ef", func := "fasti/fastilaw07.MerkleClimbSpec", spec := "merkleClimbSpec", unfollowed := true, recurses := true, named := ["fasti/digest.roundNumbers"], apart := false, laid := [("fasti/digest.roundNumbers", laid_fasti_digest_roundNumbers)], narrowed := true }
def MerkleClimbSpecUptoSaid : Prop := merkleClimbSpecUptoRow.holds Tryd.pinned (OpenSpec.upto merkleClimbSpecSpec)

/-- 'fastilaw07.MerkleProve', WHERE WHAT IT READS IS OF BULK AT MOST 1048576: true; the input reads as it did. -/
def merkleProveUptoRow : OpenClaim := { program := "ytbceimbcjijfgaadoor", sum := "1105d964e1059cf78c7e0dc528ce3c7183d01bfa645c1305ae6aef2a2e2413ef", func := "fasti/fastilaw07.MerkleProve", spec := "merkleProve", unfollowed := true, recurses := true, named := ["fasti/digest.roundNumbers"], apart := false, laid := [("fasti/digest.roundNumbers", laid_fasti_digest_roundNumbers)], narrowed := true }
def MerkleProveUptoSaid : Prop := merkleProveUptoRow.holds Tryd.pinned (OpenSpec.upto merkleProveSpec)

/-- 'fastilaw07.MerkleBound', WHERE WHAT IT READS IS OF BULK AT MOST 1048576: true; the input reads as it did. -/
def merkleBoundUptoRow : OpenClaim := { program := "ytbceimbcjijfgaadoor", sum := "1105d964e1059cf78c7e0dc528ce3c7183d01bfa645c1305ae6aef2a2e2413ef", func := "fasti/fastilaw07.MerkleBound", spec := "merkleBound", unfollowed := true, recurses := true, named := ["fasti/digest.roundNumbers"], apart := false, laid := [("fasti/digest.roundNumbers", laid_fasti_digest_roundNumbers)], narrowed := true }
def MerkleBoundUptoSaid : Prop := merkleBoundUptoRow.holds Tryd.pinned (OpenSpec.upto merkleBoundSpec)

/-- 'fastilaw07.MerkleChanged', WHERE WHAT IT READS IS OF BULK AT MOST 1048576: true; the input reads as it did. -/
def merkleChangedUptoRow : OpenClaim := { program := "ytbceimbcjijfgaadoor", sum := "1105d964e1059cf78c7e0dc528ce3c7183d01bfa645c1305ae6aef2a2e2413ef", func := "fasti/fastilaw07.MerkleChanged", spec := "merkleChanged", unfollowed := true, recurses := true, named := ["fasti/digest.roundNumbers"], apart := false, laid := [("fasti/digest.roundNumbers", laid_fasti_digest_roundNumbers)], narrowed := true }
def MerkleChangedUptoSaid : Prop := merkleChangedUptoRow.holds Tryd.pinned (OpenSpec.upto merkleChangedSpec)

/-- 'fastilaw07.MerkleSplit', WHERE WHAT IT READS IS OF BULK AT MOST 1048576: true; the input reads as it did. -/
def merkleSplitUptoRow : OpenClaim := { program := "ytbceimbcjijfgaadoor", sum := "1105d964e1059cf78c7e0dc528ce3c7183d01bfa645c1305ae6aef2a2e2413ef", func := "fasti/fastilaw07.MerkleSplit", spec := "merkleSplit", unfollowed := true, recurses := true, named := ["fasti/digest.roundNumbers"], apart := false, laid := [("fasti/digest.roundNumbers", laid_fasti_digest_roundNumbers)], narrowed := true }
def MerkleSplitUptoSaid : Prop := merkleSplitUptoRow.holds Tryd.pinned (OpenSpec.upto merkleSplitSpec)

/-- 'fastilaw07.MerkleLength', WHERE WHAT IT READS IS OF BULK AT MOST 1048576: true; the input reads as it did. -/
def merkleLengthUptoRow : OpenClaim := { program := "ytbceimbcjijfgaadoor", sum := "1105d964e1059cf78c7e0dc528ce3c7183d01bfa645c1305ae6aef2a2e2413ef", func := "fasti/fastilaw07.MerkleLength", spec := "merkleLength", unfollowed := true, recurses := true, named := ["fasti/digest.roundNumbers"], apart := false, laid := [("fasti/digest.roundNumbers", laid_fasti_digest_roundNumbers)], narrowed := true }
def MerkleLengthUptoSaid : Prop := merkleLengthUptoRow.holds Tryd.pinned (OpenSpec.upto merkleLengthSpec)

end Rows
end Go.Proofs.YtbceimbcjijfgaaDoor
