/- The digest of a list, and the path of an element: the program's functions. -/
import Derived.IntWalk
import Derived.Lib.Strings
import Derived.Lib.Slices
import Derived.Lib.Small
import Derived.Lib.Walk
import Derived.Lib.BitFns
import Derived.Test.YtbceimbcjijfgaaDoorZq14
import Derived.Test.YtbceimbcjijfgaaDoorZq12
import Derived.Test.YtbceimbcjijfgaaDoorZq2
namespace Go.Proofs.YtbceimbcjijfgaaDoor.Dig
open Go.RowKit

/-- what a call leaves: a digest, and nothing that was there has turned -/
def RetD (w : World) (d : List UInt8) (e : Ending) (w' : World) : Prop := e = .returned (dg d) ∧ Below w.heap.size w w'

end Go.Proofs.YtbceimbcjijfgaaDoor.Dig
