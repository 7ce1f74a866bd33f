/- Whole disks and writes loaded; the tests of a disk. -/
import Derived.Test.YtlaaolbdadempaaC
namespace Go.Proofs.Ytlaaolbdadempaa
open Go.RowKit

/-- the cells of a block that is known whole, in a later world -/
theorem Row.later {w W : World} {g T : Nat} {cs : List Value} (h : Row w g T cs) (hb : Below w.heap.size w W) {i : Nat} {v : Value} (hi : cs[i]? = some v) : W.cell? ⟨g, i, none⟩ = some v := (h.keep hb).cell hi
set_option maxHeartbeats 1000000 in
set_option maxRecDepth 100000 in
theorem runs_of (d : Dsk) (s p : Value) (ok : Bool) (w : World) (HV : Hid (∀ W, Below w.heap.size w W → Calls Try.prog 52 #[dskOf s p d] W fun e w' => e = .returned (.bool ok) ∧ Below W.heap.size W w')) :
    Calls Try.prog 53 #[dskOf s p d] w fun e w' => e = .returned (.bool (ok && !d.stop)) ∧ Below w.heap.size w w' := by
  unfold dskOf dskCells at HV ⊢
  have HR := Lib.hid (row_new w 25 (dskCells s p d))
  unfold dskCells at HR
  go_enter Try.func53, Try.ntmps53
  go_wp2_with fail
  refine (HV.out _ (Joins.below_alloc1 w _)).mono ?_
  rintro e w1 ⟨rfl, hb⟩
  have HB := Lib.hid (below_next (Joins.below_alloc1 w _) hb)
  have hc := HR.out.later hb (i := 3) rfl
  clear hb
  cases ok
  · go_wp2_with fail
    go_ret
    exact ⟨rfl, HB.out⟩
  · go_wp2_with fail
    go_ret
    exact ⟨ret_bool (by simp), HB.out⟩
end Go.Proofs.Ytlaaolbdadempaa
