/- The examples of the chapter, reckoned. -/
import Derived.Test.YtlaaolbdadempaaUa
namespace Go.Proofs.Ytlaaolbdadempaa
open Go.RowKit

def sD2 : Dsk := ⟨[zeros, zeros], [], -1, false⟩
def sDW : Dsk := ⟨[zeros, zeros], [(1, sectorL [[7]])], -1, false⟩
def sDS : Dsk := ⟨[zeros, zeros], [(1, sectorL [[7]])], 1, false⟩
def sDT : Dsk := ⟨[zeros, zeros], [(1, sectorL [[7]]), (0, sectorL [dbl 8])], 1, false⟩
def sX : Dsk := haltD sDT 1 (0, sectorL [dbl 8])
def sR : Dsk := restartD sX
def sQ : Dsk := restartD sDW
theorem new0 : newD 0 = (zeroD, 1) := by kernel_rfl
theorem new2 : newD 2 = (sD2, 0) := by kernel_rfl
theorem fw1 : writeD sD2 1 [7] = (sDW, 0) := by kernel_rfl
theorem fw2 : writeD sD2 0 (List.replicate 129 0) = (zeroD, 1) := by kernel_rfl
theorem st1 : stopD sDW 1 = (sDS, 0) := by kernel_rfl
theorem fw3 : writeD sDS 0 (dbl 8) = (sDT, 0) := by kernel_rfl
theorem sy1 : syncD sDT = (sX, 40) := by kernel_rfl
theorem runsW : runsB sDW = true ∧ hasB sDW.secs.length 1 = true := ⟨by kernel_rfl, by kernel_rfl⟩
theorem hasn : hasB sD2.secs.length 2 = false := by kernel_rfl
theorem runsR : runsB sR = true ∧ hasB sR.secs.length 1 = true ∧ hasB sR.secs.length 0 = true := ⟨by kernel_rfl, by kernel_rfl, by kernel_rfl⟩
theorem runsQ : runsB sQ = true ∧ hasB sQ.secs.length 1 = true := ⟨by kernel_rfl, by kernel_rfl⟩
theorem rdW : (sectorL [readF sDW 1])[0]? = some 7 := by kernel_rfl
theorem rdR1 : (sectorL [readF sR 1])[0]? = some 7 := by kernel_rfl
theorem rdR0 : (sectorL [readF sR 0])[0]? = some 8 ∧ (sectorL [readF sR 0])[64]? = some 0 := ⟨by kernel_rfl, by kernel_rfl⟩
theorem rdQ : (sectorL [readF sQ 1])[0]? = some 0 := by kernel_rfl
theorem stX : sX.stop = true := by kernel_rfl
theorem valz : validB zeroD = false := by kernel_rfl
theorem mk_bytes (n : Nat) (hn : n ≤ 100000) (W : World) : (Instr.makeSlice 35 (.int .i64 (n : Int)) (.int .i64 (n : Int))).run Try.prog W = .ok (.slice (some ⟨W.heap.size, 0, none⟩) n n) (W.alloc (.cells (cellsOf (List.replicate n 0)).toArray 5)) := by
  obtain ⟨i0, hi, hz0, hz1, hz2⟩ := info_parts Try.info5
  have hr := run_makeSlice (P := Try.prog) W 35 5 i0 (.int .u8 0) Try.underlying35 hi hz0 .i64 .i64 (n : Int) (n : Int) (by omega) (by omega) (by rw [hz1, Int.toNat_natCast]; omega) (by rw [hz2]; omega) (by omega)
  rw [hz1, Int.toNat_natCast, made_bytes] at hr
  exact hr
theorem cutB {F : Value → Value → Option Addr → Nat → Nat → Option Addr → Nat → Nat → Int → Bool → World → Prop} (G : Value → Value → Option Addr → Nat → Nat → Option Addr → Nat → Nat → Int → Bool → World → Prop) {R : Prop} (rest : (∀ a b c d e f g h i j k, F a b c d e f g h i j k → G a b c d e f g h i j k) → R) (kk : ∀ a b c d e f g h i j k, F a b c d e f g h i j k → G a b c d e f g h i j k) : R := rest kk
def zbox : List Value := [.slice none 0 0, .slice none 0 0, .int .i64 0, .bool false]
theorem box_first {w w' : World} {o : Obj} (hb : Below ((w.alloc (.cells #[.slice none 0 0, .slice none 0 0, .int .i64 0, .bool false] 25)).alloc o).drew.heap.size ((w.alloc (.cells #[.slice none 0 0, .slice none 0 0, .int .i64 0, .bool false] 25)).alloc o).drew w') : Row w' w.heap.size 25 [.slice none 0 0, .slice none 0 0, .int .i64 0, .bool false] :=
  ((row_new w 25 [.slice none 0 0, .slice none 0 0, .int .i64 0, .bool false]).keep (Joins.below_alloc1 _ o)).keep (below_undrew hb)
theorem box_second {w w' : World} {o : Obj} (hb : Below ((w.alloc o).alloc (.cells #[.slice none 0 0, .slice none 0 0, .int .i64 0, .bool false] 25)).drew.heap.size ((w.alloc o).alloc (.cells #[.slice none 0 0, .slice none 0 0, .int .i64 0, .bool false] 25)).drew w') : Row w' (w.heap.size + 1) 25 [.slice none 0 0, .slice none 0 0, .int .i64 0, .bool false] := by
  have := (row_new (w.alloc o) 25 [.slice none 0 0, .slice none 0 0, .int .i64 0, .bool false]).keep (below_undrew hb)
  rwa [World.size_alloc] at this
theorem slices_of {B : Nat} {w : World} {d : Dsk} {s p : Value} {l : Int} {b : Bool} (h : DRest B w d (dv s p l b)) : (∃ a n c, s = .slice a n c) ∧ ∃ a n c, p = .slice a n c := by
  obtain ⟨_, _, ⟨a, c, rfl⟩, ⟨a2, c2, rfl⟩⟩ := drest_left h
  exact ⟨⟨_, _, _, rfl⟩, ⟨_, _, _, rfl⟩⟩
theorem fld2 (s p : Value) (l : Int) (b : Bool) (w : World) : Sem.run Try.prog (Instr.field 25 (Value.agg #[s, p, Value.int IntKind.i64 l, Value.bool b]) 2) w = .ok (.int .i64 l) w := by kernel_rfl
/-- a byte of what was read -/
theorem read_cell {w : World} {g : Nat} {L : List UInt8} {i : Nat} {c : UInt8} (h : Row w g 5 (cellsOf L)) (hi : L[i]? = some c) : w.cell? ⟨g, i, none⟩ = some (.int .u8 (c.toNat : Int)) := h.cell (by simp [cellsOf, hi])
end Go.Proofs.Ytlaaolbdadempaa
