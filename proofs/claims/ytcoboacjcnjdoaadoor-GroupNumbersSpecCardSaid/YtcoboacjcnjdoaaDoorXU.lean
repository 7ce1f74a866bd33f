/- The path of an element: the program's functions. -/
import Derived.Test.YtcoboacjcnjdoaaDoorXR
namespace Go.Proofs.YtcoboacjcnjdoaaDoor.Dig
open Go.RowKit

theorem DNew.app {w0 w w1 : World} {v v' : Value} {xs ys : List (List UInt8)} (h : DNew w0 w v xs) (hb : DBuf w1 v' ys) (hw : Wrote w w1 v v') : DNew w0 w1 v' ys := by
  have := wrote_below hw h.2.1 h.2.2
  exact ⟨hb, this.1, this.2⟩
end Go.Proofs.YtcoboacjcnjdoaaDoor.Dig
