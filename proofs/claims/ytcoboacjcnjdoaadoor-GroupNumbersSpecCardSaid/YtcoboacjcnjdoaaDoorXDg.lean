/- The list of digests that bytes determine: the laws' function. -/
import Derived.Test.YtcoboacjcnjdoaaDoorXZ
import Derived.Test.YtcoboacjcnjdoaaDoorXTa
import Derived.LoopNIn
namespace Go.Proofs.YtcoboacjcnjdoaaDoor.Dig
open Go.RowKit

theorem DNew.shape {w0 w : World} {v : Value} {xs : List (List UInt8)} (h : DNew w0 w v xs) : ∃ a c, v = .slice a xs.length c := by
  obtain ⟨_, a, c, h1, _⟩ := dbuf_rest h.1; exact ⟨a, c, h1⟩

end Go.Proofs.YtcoboacjcnjdoaaDoor.Dig
