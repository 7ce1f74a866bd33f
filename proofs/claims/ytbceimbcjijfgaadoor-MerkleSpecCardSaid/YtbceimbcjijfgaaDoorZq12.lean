/- Trees of digests, paths and climbing, as plain functions. Nothing here speaks of the program. -/
import Derived.Lib.BitFns
import Derived.Test.YtbceimbcjijfgaaDoorZq1
namespace Go.Proofs.YtbceimbcjijfgaaDoor.Dig

/-- the greatest power of 2 less than n (n > 1) -/
def hf (n : Nat) : Nat := if n ≤ 2 then 1 else 2 * hf ((n + 1) / 2)
termination_by n
decreasing_by omega

def nodeTag : List UInt8 := [110, 111, 100, 101]
def nd (a b : List UInt8) : List UInt8 := tagged nodeTag (a ++ b)

end Go.Proofs.YtbceimbcjijfgaaDoor.Dig
