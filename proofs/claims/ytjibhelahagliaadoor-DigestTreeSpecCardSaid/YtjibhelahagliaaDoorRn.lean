/- The reference's numbers. -/
import Derived.Test.YtjibhelahagliaaDoorRw
import Derived.Test.YtjibhelahagliaaDoorK
namespace Go.Proofs.YtjibhelahagliaaDoor
open Go.RowKit

def kParts : Array (Nat × Value) := (kTab.zipIdx.map fun (p : Nat × Nat) => (p.2, Value.int .u32 (p.1 : Int))).toArray
theorem run_build_k (w : World) : (Instr.build 69 kParts).run Tryd.prog w = .ok (.agg (u32s kTab).toArray) w := by kernel_rfl
theorem info69 : (Tryd.prog.info? 69).map (·.size) = some 64 := by kernel_rfl
end Go.Proofs.YtjibhelahagliaaDoor
