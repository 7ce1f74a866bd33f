/-
  DERIVED. GIVEN WITH THE SEED: THE CARDS: each row of YtbceimbcjijfgaaDoorRows.lean that lists a variable, with what it lists TIED to the program's text (the seventh form; the later family's looks); each row that meets fmt, with fmt's text TOLD by the authors' own Lean function (tested against real Go, not proved from fmt's source: count such statements apart). THE CARD IS WHAT COUNTS. Prove the row's statement (the work); the ties are given (YtbceimbcjijfgaaDoorTie.lean); close each card by the builder's one call (the guide's Derived/Test/ToyasCard.lean, 'card_holds'). Laid BY PROGRAM, IN A SANDBOX (cutbox-door.mjs). By AI agents, Wed Nov 11 2026. No macro, syntax, notation, axiom, sorry.
-/
import Derived.Test.YtbceimbcjijfgaaDoorRows
import GoSem.ClaimSeven
namespace Go.Proofs.YtbceimbcjijfgaaDoor
namespace Rows

/-- THE TIED CARD OF 'fastilaw07.MerkleSpec'. -/
def merkleSpecCard : Claim7 := { stood := { row := merkleSpecRow, standIns := [], harness := (true, "c211b532fc8a42fa3230ee28f243d0f3a779a6f79d3c0507606e63e6ea65e30c"), looks := false }, kinds := [], alts := [], laidByText := true, laidKinds := [.data], laidTests := true, laidLooks := .later }
def MerkleSpecCardSaid : Prop := Claim7.holds Tryd.pinned (.plain (OpenSpec.ofChange merkleSpecSpec)) merkleSpecCard

/-- THE TIED CARD OF 'fastilaw07.MerkleClimbSpec'. -/
def merkleClimbSpecCard : Claim7 := { stood := { row := merkleClimbSpecRow, standIns := [], harness := (true, "c211b532fc8a42fa3230ee28f243d0f3a779a6f79d3c0507606e63e6ea65e30c"), looks := false }, kinds := [], alts := [], laidByText := true, laidKinds := [.data], laidTests := true, laidLooks := .later }
def MerkleClimbSpecCardSaid : Prop := Claim7.holds Tryd.pinned (.plain (OpenSpec.ofChange merkleClimbSpecSpec)) merkleClimbSpecCard

/-- THE TIED CARD OF 'fastilaw07.MerkleProve'. -/
def merkleProveCard : Claim7 := { stood := { row := merkleProveRow, standIns := [], harness := (true, "c211b532fc8a42fa3230ee28f243d0f3a779a6f79d3c0507606e63e6ea65e30c"), looks := false }, kinds := [], alts := [], laidByText := true, laidKinds := [.data], laidTests := true, laidLooks := .later }
def MerkleProveCardSaid : Prop := Claim7.holds Tryd.pinned (.plain (OpenSpec.ofChange merkleProveSpec)) merkleProveCard

/-- THE TIED CARD OF 'fastilaw07.MerkleBound'. -/
def merkleBoundCard : Claim7 := { stood := { row := merkleBoundRow, standIns := [], harness := (true, "c211b532fc8a42fa3230ee28f243d0f3a779a6f79d3c0507606e63e6ea65e30c"), looks := false }, kinds := [], alts := [], laidByText := true, laidKinds := [.data], laidTests := true, laidLooks := .later }
def MerkleBoundCardSaid : Prop := Claim7.holds Tryd.pinned (.plain (OpenSpec.ofChange merkleBoundSpec)) merkleBoundCard

/-- THE TIED CARD OF 'fastilaw07.MerkleChanged'. -/
def merkleChangedCard : Claim7 := { stood := { row := merkleChangedRow, standIns := [], harness := (true, "c211b532fc8a42fa3230ee28f243d0f3a779a6f79d3c0507606e63e6ea65e30c"), looks := false }, kinds := [], alts := [], laidByText := true, laidKinds := [.data], laidTests := true, laidLooks := .later }
def MerkleChangedCardSaid : Prop := Claim7.holds Tryd.pinned (.plain (OpenSpec.ofChange merkleChangedSpec)) merkleChangedCard

/-- THE TIED CARD OF 'fastilaw07.MerkleSplit'. -/
def merkleSplitCard : Claim7 := { stood := { row := merkleSplitRow, standIns := [], harness := (true, "c211b532fc8a42fa3230ee28f243d0f3a779a6f79d3c0507606e63e6ea65e30c"), looks := false }, kinds := [], alts := [], laidByText := true, laidKinds := [.data], laidTests := true, laidLooks := .later }
def MerkleSplitCardSaid : Prop := Claim7.holds Tryd.pinned (.plain (OpenSpec.ofChange merkleSplitSpec)) merkleSplitCard

/-- THE TIED CARD OF 'fastilaw07.MerkleLength'. -/
def merkleLengthCard : Claim7 := { stood := { row := merkleLengthRow, standIns := [], harness := (true, "c211b532fc8a42fa3230ee28f243d0f3a779a6f79d3c0507606e63e6ea65e30c"), looks := false }, kinds := [], alts := [], laidByText := true, laidKinds := [.data], laidTests := true, laidLooks := .later }
def MerkleLengthCardSaid : Prop := Claim7.holds Tryd.pinned (.plain (OpenSpec.ofChange merkleLengthSpec)) merkleLengthCard

/-- THE SECOND FORM's CARD OF 'fastilaw07.MerkleSpec'. -/
def merkleSpecUptoCard : Claim7 := { stood := { row := merkleSpecUptoRow, standIns := [], harness := (true, "c211b532fc8a42fa3230ee28f243d0f3a779a6f79d3c0507606e63e6ea65e30c"), looks := false }, kinds := [], alts := [], laidByText := true, laidKinds := [.data], laidTests := true, laidLooks := .later }
def MerkleSpecUptoCardSaid : Prop := Claim7.holds Tryd.pinned (.plain (OpenSpec.upto merkleSpecSpec)) merkleSpecUptoCard

/-- THE SECOND FORM's CARD OF 'fastilaw07.MerkleClimbSpec'. -/
def merkleClimbSpecUptoCard : Claim7 := { stood := { row := merkleClimbSpecUptoRow, standIns := [], harness := (true, "c211b532fc8a42fa3230ee28f243d0f3a779a6f79d3c0507606e63e6ea65e30c"), looks := false }, kinds := [], alts := [], laidByText := true, laidKinds := [.data], laidTests := true, laidLooks := .later }
def MerkleClimbSpecUptoCardSaid : Prop := Claim7.holds Tryd.pinned (.plain (OpenSpec.upto merkleClimbSpecSpec)) merkleClimbSpecUptoCard

/-- THE SECOND FORM's CARD OF 'fastilaw07.MerkleProve'. -/
def merkleProveUptoCard : Claim7 := { stood := { row := merkleProveUptoRow, standIns := [], harness := (true, "c211b532fc8a42fa3230ee28f243d0f3a779a6f79d3c0507606e63e6ea65e30c"), looks := false }, kinds := [], alts := [], laidByText := true, laidKinds := [.data], laidTests := true, laidLooks := .later }
def MerkleProveUptoCardSaid : Prop := Claim7.holds Tryd.pinned (.plain (OpenSpec.upto merkleProveSpec)) merkleProveUptoCard

/-- THE SECOND FORM's CARD OF 'fastilaw07.MerkleBound'. -/
def merkleBoundUptoCard : Claim7 := { stood := { row := merkleBoundUptoRow, standIns := [], harness := (true, "c211b532fc8a42fa3230ee28f243d0f3a779a6f79d3c0507606e63e6ea65e30c"), looks := false }, kinds := [], alts := [], laidByText := true, laidKinds := [.data], laidTests := true, laidLooks := .later }
def MerkleBoundUptoCardSaid : Prop := Claim7.holds Tryd.pinned (.plain (OpenSpec.upto merkleBoundSpec)) merkleBoundUptoCard

/-- THE SECOND FORM's CARD OF 'fastilaw07.MerkleChanged'. -/
def merkleChangedUptoCard : Claim7 := { stood := { row := merkleChangedUptoRow, standIns := [], harness := (true, "c211b532fc8a42fa3230ee28f243d0f3a779a6f79d3c0507606e63e6ea65e30c"), looks := false }, kinds := [], alts := [], laidByText := true, laidKinds := [.data], laidTests := true, laidLooks := .later }
def MerkleChangedUptoCardSaid : Prop := Claim7.holds Tryd.pinned (.plain (OpenSpec.upto merkleChangedSpec)) merkleChangedUptoCard

/-- THE SECOND FORM's CARD OF 'fastilaw07.MerkleSplit'. -/
def merkleSplitUptoCard : Claim7 := { stood := { row := merkleSplitUptoRow, standIns := [], harness := (true, "c211b532fc8a42fa3230ee28f243d0f3a779a6f79d3c0507606e63e6ea65e30c"), looks := false }, kinds := [], alts := [], laidByText := true, laidKinds := [.data], laidTests := true, laidLooks := .later }
def MerkleSplitUptoCardSaid : Prop := Claim7.holds Tryd.pinned (.plain (OpenSpec.upto merkleSplitSpec)) merkleSplitUptoCard

/-- THE SECOND FORM's CARD OF 'fastilaw07.MerkleLength'. -/
def merkleLengthUptoCard : Claim7 := { stood := { row := merkleLengthUptoRow, standIns := [], harness := (true, "c211b532fc8a42fa3230ee28f243d0f3a779a6f79d3c0507606e63e6ea65e30c"), looks := false }, kinds := [], alts := [], laidByText := true, laidKinds := [.data], laidTests := true, laidLooks := .later }
def MerkleLengthUptoCardSaid : Prop := Claim7.holds Tryd.pinned (.plain (OpenSpec.upto merkleLengthSpec)) merkleLengthUptoCard
end Rows
end Go.Proofs.YtbceimbcjijfgaaDoor
