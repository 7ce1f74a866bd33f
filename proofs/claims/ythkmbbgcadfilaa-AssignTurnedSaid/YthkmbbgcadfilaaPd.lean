/- OnesCount. -/
import Derived.Test.YthkmbbgcadfilaaPc
import Derived.Test.YthkmbbgcadfilaaPd0
import Derived.Laws.Bits64b
namespace Go.Proofs.Ythkmbbgcadfilaa
open Go.RowKit Go.Shelf

def oc1 (x : Int) : Int := IntKind.u64.wrap (bits BinOp.and IntKind.u64 (x / 2) 6148914691236517205 + bits BinOp.and IntKind.u64 x 6148914691236517205)
def oc2 (x : Int) : Int := IntKind.u64.wrap (bits BinOp.and IntKind.u64 (x / 4) 3689348814741910323 + bits BinOp.and IntKind.u64 x 3689348814741910323)
def oc3 (x : Int) : Int := bits BinOp.and IntKind.u64 (IntKind.u64.wrap (x / 16 + x)) 1085102592571150095
def oc4 (x : Int) : Int := IntKind.u64.wrap (x + x / 256)
def oc5 (x : Int) : Int := IntKind.u64.wrap (x + x / 65536)
def oc6 (x : Int) : Int := IntKind.u64.wrap (x + x / 4294967296)
def oc64 (x : Int) : Int := bits BinOp.and IntKind.i64 (wrap64 (oc6 (oc5 (oc4 (oc3 (oc2 (oc1 x))))))) 127
theorem land_le (a b : Nat) : Nat.land a b ≤ a := Nat.and_le_left
theorem u64_nat {n : Nat} (h : n < 18446744073709551616) : IntKind.u64.wrap (n : Int) = (n : Int) := by rw [IntKind.wrap_u64]; omega
theorem oc1_nat {x : Nat} (h : x < 65536) : oc1 (x : Int) = ((on1 x : Nat) : Int) ∧ on1 x < 131072 := by
  have e1 : (x : Int) / 2 = ((x / 2 : Nat) : Int) := by omega
  have e2 := bits_and_u64_nat (x / 2) 6148914691236517205 (by omega) (by decide)
  have e3 := bits_and_u64_nat x 6148914691236517205 (by omega) (by decide)
  have b1 := land_le (x / 2) 6148914691236517205
  have b2 := land_le x 6148914691236517205
  have hb : on1 x < 131072 := by show Nat.land (x / 2) _ + Nat.land x _ < _; omega
  refine ⟨?_, hb⟩
  unfold oc1
  rw [e1]
  have e4 : bits BinOp.and IntKind.u64 ((x / 2 : Nat) : Int) 6148914691236517205 + bits BinOp.and IntKind.u64 (x : Int) 6148914691236517205 = ((on1 x : Nat) : Int) := by
    have e2' : bits BinOp.and IntKind.u64 ((x / 2 : Nat) : Int) 6148914691236517205 = ((x / 2 &&& 6148914691236517205 : Nat) : Int) := e2
    have e3' : bits BinOp.and IntKind.u64 (x : Int) 6148914691236517205 = ((x &&& 6148914691236517205 : Nat) : Int) := e3
    rw [e2', e3', ← Int.natCast_add]; rfl
  rw [e4]
  exact u64_nat (by omega)
theorem oc2_nat {x : Nat} (h : x < 131072) : oc2 (x : Int) = ((on2 x : Nat) : Int) ∧ on2 x < 262144 := by
  have e1 : (x : Int) / 4 = ((x / 4 : Nat) : Int) := by omega
  have e2 : bits BinOp.and IntKind.u64 ((x / 4 : Nat) : Int) 3689348814741910323 = ((x / 4 &&& 3689348814741910323 : Nat) : Int) := bits_and_u64_nat (x / 4) 3689348814741910323 (by omega) (by decide)
  have e3 : bits BinOp.and IntKind.u64 (x : Int) 3689348814741910323 = ((x &&& 3689348814741910323 : Nat) : Int) := bits_and_u64_nat x 3689348814741910323 (by omega) (by decide)
  have b1 := land_le (x / 4) 3689348814741910323
  have b2 := land_le x 3689348814741910323
  have hb : on2 x < 262144 := by show Nat.land (x / 4) _ + Nat.land x _ < _; omega
  refine ⟨?_, hb⟩
  unfold oc2
  have e4 : bits BinOp.and IntKind.u64 ((x : Int) / 4) 3689348814741910323 + bits BinOp.and IntKind.u64 (x : Int) 3689348814741910323 = ((on2 x : Nat) : Int) := by
    rw [e1, e2, e3, ← Int.natCast_add]; rfl
  rw [e4]
  exact u64_nat (by omega)
theorem oc3_nat {x : Nat} (h : x < 262144) : oc3 (x : Int) = ((on3 x : Nat) : Int) ∧ on3 x < 524288 := by
  have e1 : (x : Int) / 16 + (x : Int) = ((x / 16 + x : Nat) : Int) := by omega
  have e2 : bits BinOp.and IntKind.u64 ((x / 16 + x : Nat) : Int) 1085102592571150095 = ((x / 16 + x &&& 1085102592571150095 : Nat) : Int) := bits_and_u64_nat (x / 16 + x) 1085102592571150095 (by omega) (by decide)
  have b1 := land_le (x / 16 + x) 1085102592571150095
  refine ⟨?_, ?_⟩
  · unfold oc3
    rw [e1, u64_nat (by omega), e2]; rfl
  · show Nat.land (x / 16 + x) _ < _
    omega
theorem oc4_nat {x : Nat} (h : x < 524288) : oc4 (x : Int) = ((on4 x : Nat) : Int) ∧ on4 x < 1048576 := by
  have e1 : (x : Int) + (x : Int) / 256 = ((x + x / 256 : Nat) : Int) := by omega
  refine ⟨?_, by show x + x / 256 < _; omega⟩
  unfold oc4
  rw [e1, u64_nat (by omega)]; rfl
theorem oc5_nat {x : Nat} (h : x < 1048576) : oc5 (x : Int) = ((on5 x : Nat) : Int) ∧ on5 x < 2097152 := by
  have e1 : (x : Int) + (x : Int) / 65536 = ((x + x / 65536 : Nat) : Int) := by omega
  refine ⟨?_, by show x + x / 65536 < _; omega⟩
  unfold oc5
  rw [e1, u64_nat (by omega)]; rfl
theorem oc6_nat {x : Nat} (h : x < 2097152) : oc6 (x : Int) = ((on6 x : Nat) : Int) ∧ on6 x < 4194304 := by
  have e1 : (x : Int) + (x : Int) / 4294967296 = ((x + x / 4294967296 : Nat) : Int) := by omega
  refine ⟨?_, by show x + x / 4294967296 < _; omega⟩
  unfold oc6
  rw [e1, u64_nat (by omega)]; rfl
theorem oc_last {z : Nat} (h : z < 4194304) : bits BinOp.and IntKind.i64 (wrap64 (z : Int)) 127 = ((Nat.land z 127 : Nat) : Int) := by
  have e1 : wrap64 (z : Int) = (z : Int) := by unfold wrap64; omega
  have p1 : (2 : Int) ^ 32 = 4294967296 := by decide
  have p2 : (2 : Nat) ^ 32 = 4294967296 := by decide
  have e2 : bits BinOp.and IntKind.i64 (z : Int) ((127 : Nat) : Int) = ((z &&& 127 : Nat) : Int) := (bits_nat .i64 32 (by decide) (fun n h1 h2 => by rw [p1] at h2; rw [IntKind.wrap_i64]; omega) z 127 (by rw [p2]; omega) (by rw [p2]; omega)).1
  rw [e1]
  exact e2
theorem oc64_pop {x : Nat} (h : x < 65536) : oc64 (x : Int) = ((popR 16 x : Nat) : Int) := by
  obtain ⟨h1, k1⟩ := oc1_nat h
  obtain ⟨h2, k2⟩ := oc2_nat k1
  obtain ⟨h3, k3⟩ := oc3_nat k2
  obtain ⟨h4, k4⟩ := oc4_nat k3
  obtain ⟨h5, k5⟩ := oc5_nat k4
  obtain ⟨h6, k6⟩ := oc6_nat k5
  have h7 := oc_last k6
  rw [← h6, ← h5, ← h4, ← h3, ← h2, ← h1] at h7
  have h8 : ((Nat.land (on6 (on5 (on4 (on3 (on2 (on1 x)))))) 127 : Nat) : Int) = ((popR 16 x : Nat) : Int) := congrArg Int.ofNat (on_pop h)
  exact h7.trans h8
set_option maxRecDepth 100000 in
set_option maxHeartbeats 4000000 in
theorem ones64_call (x : Int) (w : World) :
    Calls Try.prog 57 #[.int .u64 x] w fun e w' => e = .returned (.int .i64 (oc64 x)) ∧ w' = w := by
  go_enter Try.func57, Try.ntmps57
  go_wp2_with fail
  go_ret
  exact ⟨rfl, rfl⟩
set_option maxRecDepth 100000 in
set_option maxHeartbeats 4000000 in
theorem ones_call (x : Nat) (h : x < 65536) (w : World) :
    Calls Try.prog 42 #[.int .u64 (x : Int)] w fun e w' => e = .returned (.int .i64 ((popR 16 x : Nat) : Int)) ∧ w' = w := by
  have HO := Lib.hid (ones64_call (x : Int) w)
  rw [oc64_pop h] at HO
  go_enter Try.func42, Try.ntmps42
  go_wp2_with (go_at_call 57; refine HO.out.mono ?_; rintro e w5 ⟨rfl, rfl⟩)
  go_ret
  exact ⟨rfl, rfl⟩
end Go.Proofs.Ythkmbbgcadfilaa
