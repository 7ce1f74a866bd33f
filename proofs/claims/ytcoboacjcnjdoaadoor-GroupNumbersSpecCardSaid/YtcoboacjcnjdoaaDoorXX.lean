/- Digests compared. -/
import Derived.Test.YtcoboacjcnjdoaaDoorXR
import Derived.ChangeKeysEq
namespace Go.Proofs.YtcoboacjcnjdoaaDoor.Dig
open Go.RowKit

theorem Tryd.cells5 : Tryd.prog.cellsOf 5 = 1 := by kernel_rfl
end Go.Proofs.YtcoboacjcnjdoaaDoor.Dig
