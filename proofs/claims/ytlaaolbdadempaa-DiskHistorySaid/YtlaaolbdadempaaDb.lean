/- A sector whose halves begin with a byte: the law's own function. -/
import Derived.Test.YtlaaolbdadempaaK
namespace Go.Proofs.Ytlaaolbdadempaa
open Go.RowKit

def dbl (c : UInt8) : List UInt8 := (zeros.set 0 c).set 64 c
theorem dbl_len (c : UInt8) : (dbl c).length = 128 := by simp [dbl, zeros]
theorem set_byte (xs : List UInt8) (i : Nat) (c : UInt8) : (cellsOf xs).set i (.int .u8 (c.toNat : Int)) = cellsOf (xs.set i c) := by simp [cellsOf]
set_option maxHeartbeats 2000000 in
set_option maxRecDepth 100000 in
theorem double_call (c : UInt8) (w : World) :
    Calls Try.prog 34 #[.int .u8 (c.toNat : Int)] w fun e w' => ∃ g, e = .returned (.slice (some ⟨g, 0, none⟩) 128 128) ∧ w.heap.size ≤ g ∧ Row w' g 5 (cellsOf (dbl c)) ∧ Below w.heap.size w w' := by
  have HC : Hid (∀ x : Int, x = (c.toNat : Int) → x = (c.toNat : Int)) := Lib.hid (fun _ h => h)
  generalize hk : (c.toNat : Int) = k
  have HK := Lib.hid hk
  clear hk HC
  go_enter Try.func34, Try.ntmps34
  go_wp2_with (refine wpList_make rfl (.const (.int .i64 128)) rfl 128 (by omega) rfl ?_; intro g w1 hrow hg hb; have HG := Lib.hid hrow; have HGL := Lib.hid hg; have HB := Lib.hid hb; have c0 := hrow.cell (i := 0) (v := .int .u8 0) (by simp [cellsOf]); have c64 := hrow.cell (i := 64) (v := .int .u8 0) (by simp [cellsOf]); have f0 := hrow.free 0; have f64 := hrow.free 64; clear hrow hg hb)
  go_ret
  refine ⟨g, rfl, HGL.out, ?_, below_setCell (below_setCell HB.out g 0 _ HGL.out) g 64 _ HGL.out⟩
  have := (HG.out.set 0 (.int .u8 k) (by rw [← HK.out, set_byte])).set 64 (.int .u8 k) (by rw [← HK.out, set_byte])
  exact this
end Go.Proofs.Ytlaaolbdadempaa
