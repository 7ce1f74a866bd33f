/- Leaves, nodes and chains: the program's functions. -/
import Derived.Test.YtcoboacjcnjdoaaDoorXJ
import Derived.Deep.RegionWith
namespace Go.Proofs.YtcoboacjcnjdoaaDoor.Dig
open Go.RowKit

theorem row_rest32 {w : World} {g T : Nat} {l : List UInt8} (h : Row w g T (cellsOf l)) (hl : l.length = 32) : Rest w.heap.size w l (.slice (some ⟨g, 0, none⟩) 32 32) := by
  have := row_rest h (by rw [hl]; simp [maxLen])
  rwa [hl] at this

theorem size32' {l : List UInt8} (h : l.length = 32) : (Tryd.prog.info? 30).map (·.size) = some (cellsOf l).toArray.size := by rw [size32 h]; exact info30

end Go.Proofs.YtcoboacjcnjdoaaDoor.Dig
