/- The state's beginning and its bytes: the program's functions. -/
import Derived.Test.YtcoboacjcnjdoaaDoorXD
namespace Go.Proofs.YtcoboacjcnjdoaaDoor.Dig
open Go.RowKit

set_option maxRecDepth 100000 in
theorem begin_call (w : World) :
    Calls Tryd.prog 26 #[] w fun e w' => e = .returned (.pointer (some ⟨w.heap.size, 0, none⟩)) ∧ w' = w.alloc (.cells (u32s init.list).toArray 58) := by
  go_enter Tryd.func26, Tryd.ntmps26
  go_wp2
  go_ret
  exact ⟨rfl, rfl⟩

/-- the first i bytes and noughts -/
def ob (s : St) (i : Nat) : List UInt8 := (out s).take i ++ List.replicate (32 - i) 0
theorem ob_len (s : St) (i : Nat) (h : i ≤ 32) : (ob s i).length = 32 := by unfold ob; rw [List.length_append, List.length_take, out_len]; simp; omega
theorem out_get (s : St) (i : Nat) (h : i < 32) : (out s)[i]? = some (UInt8.ofNat (s.nth (i / 4) / 2 ^ (24 - i % 4 * 8))) := by simp [out, h]
theorem ob_set (s : St) (i : Nat) (h : i < 32) (n : Nat) (hn : n = s.nth (i / 4) / 2 ^ (24 - i % 4 * 8) % 256) : (cellsOf (ob s i)).set i (.int .u8 (n : Int)) = cellsOf (ob s (i + 1)) := by
  subst hn
  unfold ob
  have hl : (cellsOf ((out s).take i)).length = i := by rw [cellsOf_len, List.length_take, out_len]; omega
  rw [cellsOf_append, cellsOf_append, List.set_append_right _ _ (by omega), hl, show 32 - i = (32 - (i + 1)) + 1 by omega, List.replicate_succ]
  have ht : (out s).take (i + 1) = (out s).take i ++ [UInt8.ofNat (s.nth (i / 4) / 2 ^ (24 - i % 4 * 8))] := by
    have hi : i < (out s).length := by rw [out_len]; exact h
    rw [List.take_succ_eq_append_getElem hi]
    have := out_get s i h
    rw [List.getElem?_eq_getElem hi] at this
    rw [Option.some.inj this]
  rw [ht, cellsOf_append, List.append_assoc]
  congr 1
  simp [cellsOf]

def DigHead (s : St) (g : Nat) (w : World) (s4 : Value) (wr : World) : Prop := ∃ i : Nat, i ≤ 32 ∧ s4 = .int .i64 (i : Int) ∧ Row wr g 30 (cellsOf (ob s i)) ∧ Below w.heap.size w wr

theorem list_nth (s : St) (i : Nat) (h : i < 8) : (u32s s.list)[i]? = some (.int .u32 (s.nth i : Int)) := by
  rcases (by omega : i = 0 ∨ i = 1 ∨ i = 2 ∨ i = 3 ∨ i = 4 ∨ i = 5 ∨ i = 6 ∨ i = 7) with rfl | rfl | rfl | rfl | rfl | rfl | rfl | rfl <;> rfl

set_option maxHeartbeats 1000000 in
set_option maxRecDepth 100000 in
theorem digest_call (s : St) (hs : s.ok) (sb T : Nat) (w : World) (hst : Row w sb T (u32s s.list)) :
    Calls Tryd.prog 30 #[.pointer (some ⟨sb, 0, none⟩)] w fun e w' => e = .returned (dg (out s)) ∧ Below w.heap.size w w' := by
  have HS := Lib.hid hst
  have hlt := hst.lt
  clear hst
  go_enter Tryd.func30, Tryd.ntmps30
  go_wp2_with fail
  go_loopw [4] (fun s4 wr => DigHead s w.heap.size w s4 wr) (fun s4 _ => 32 - (intOf s4).toNat)
  case atStart => exact ⟨0, by omega, rfl, row_new w 30 _, Joins.below_alloc1 w _⟩
  case round =>
    obtain ⟨i, hi, rfl, hrow, hbe⟩ := hrel
    have HR := Lib.hid hrow
    have HB := Lib.hid hbe
    clear hrow hbe
    rcases Nat.lt_or_ge i 32 with hlt2 | hge
    · obtain ⟨x, hx⟩ : ∃ x, x = s.nth (i / 4) := ⟨_, rfl⟩
      obtain ⟨q, hq⟩ : ∃ q, q = i / 4 := ⟨_, rfl⟩
      have eq1 : (i : Int) / 4 = (q : Int) := by omega
      have eq2 : (i : Int).tdiv 4 = (q : Int) := by rw [Int.tdiv_eq_ediv_of_nonneg (by omega)]; omega
      have hc : wr.cell? ⟨sb, q, none⟩ = some (.int .u32 (x : Int)) := by rw [hx, hq]; exact (HB.out.cell (p := ⟨sb, i / 4, none⟩) hlt).trans (HS.out.cell (list_nth s _ (by omega)))
      have lq : q < 8 := by omega
      have lx : x < 4294967296 := by rw [hx]; exact St.nth_lt hs _
      have hc0 : ∃ v0, wr.cell? ⟨w.heap.size, i, none⟩ = some v0 := ⟨_, HR.out.cell (v := _) (cellsOf_get (by rw [ob_len s i hi]; exact hlt2))⟩
      obtain ⟨v0, hc0⟩ := hc0
      have hf0 : wr.frozen? ⟨w.heap.size, i, none⟩ = false := HR.out.free i
      have HX := Lib.hid hx
      have HQ := Lib.hid hq
      clear hx hq
      go_wp2_with fail
      go_roundw
      case rel =>
        rw [show (x : Int) / 2 ^ (24 - i % 4 * 8) % 256 = ((x / 2 ^ (24 - i % 4 * 8) % 256 : Nat) : Int) by simp]
        exact ⟨i + 1, by omega, by go_num, HR.out.set i _ (ob_set s i hlt2 _ (by rw [HX.out])), HB.out.setCell (Nat.le_refl _) _⟩
      case measure => simp [intOf]; omega
    · obtain rfl : i = 32 := by omega
      have hcs : Hid ((cellsOf (ob s 32)).toArray.size = 32) := by rw [List.size_toArray, cellsOf_len, ob_len s 32 (by omega)]; exact rfl
      go_wp2_with (first | (refine wpList_load_row rfl 30 (.tmp 2) rfl w.heap.size rfl 30 (cellsOf (ob s 32)).toArray (0, 0) _ HR.out Tryd.underlying30 rfl (by rw [hcs.out]; kernel_rfl) ?_) | (refine wpList_store_row rfl 30 (.tmp 2) (.tmp 23) rfl w.heap.size (cellsOf (ob s 32)).toArray rfl rfl 30 (cellsOf (ob s 32)).toArray HR.out (by rw [hcs.out]; kernel_rfl) rfl (cellsOf_one _) ?_))
      refine bodyPost_ret (results_cell_row rfl _ _ w.heap.size 30 (cellsOf (ob s 32)).toArray (0, 0) _ rfl (HR.out.setRow _) Tryd.underlying30 rfl (by rw [hcs.out]; kernel_rfl)) rfl ⟨?_, below_setRow HB.out _ _ (Nat.le_refl _)⟩
      have e : ob s 32 = out s := by unfold ob; rw [List.take_of_length_le (by rw [out_len]; omega)]; simp
      rw [e]; rfl
end Go.Proofs.YtcoboacjcnjdoaaDoor.Dig
