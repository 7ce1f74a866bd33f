/- The hash of no bytes and that of the bytes abc, as far as the document gives them. -/
import Derived.Test.YtjibhelahagliaaDoorM
namespace Go.Proofs.YtjibhelahagliaaDoor
theorem sha_none : (sha []).take 4 = [227, 176, 196, 66] := by decide +kernel
theorem sha_abc : (sha [97, 98, 99]).take 4 = [186, 120, 22, 191] := by decide +kernel
end Go.Proofs.YtjibhelahagliaaDoor
