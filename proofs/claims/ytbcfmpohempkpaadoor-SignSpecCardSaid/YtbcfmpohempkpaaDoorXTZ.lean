/- Climb: the program's function. -/
import Derived.Test.YtbcfmpohempkpaaDoorZc20
namespace Go.Proofs.YtbcfmpohempkpaaDoor.Dig
open Go.RowKit

/-- 32 bytes that are 0 -/
def zd : List UInt8 := List.replicate 32 0
theorem zd_len : zd.length = 32 := by simp [zd]
end Go.Proofs.YtbcfmpohempkpaaDoor.Dig
