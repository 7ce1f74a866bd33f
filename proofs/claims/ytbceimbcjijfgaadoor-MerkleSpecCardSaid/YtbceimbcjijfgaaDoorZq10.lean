/- Two texts of bytes put together: what the library's functions return. -/
import Derived.Lib.AppendZeros
import Derived.Test.YtbceimbcjijfgaaDoorZq8
namespace Go.Proofs.YtbceimbcjijfgaaDoor.Dig
open Go.RowKit

theorem new_nil (w : World) : New w w (.slice none 0 0) [] := ⟨buf_nil w, Below.refl _ _, fun k hk => by cases hk⟩

set_option maxHeartbeats 1000000 in
theorem grow_call (n : Nat) (hn : n ≤ 70368744177664) (w : World) :
    Calls Tryd.prog 53 #[.slice none 0 0, .int .i64 (n : Int)] w fun e w' => ∃ v', e = .returned v' ∧ New w w' v' [] := by
  rcases Nat.eq_zero_or_pos n with h0 | h0
  · subst h0
    go_enter Tryd.func53, Tryd.ntmps53
    go_wp2
    go_ret
    exact ⟨_, rfl, new_nil w⟩
  · obtain ⟨i0, hi, hz0, hz1, hz2⟩ := info_parts Tryd.info5
    have hr : ∀ (ty : TypeId), (Builtin.append_ #[34, 3] ty #[.slice none 0 0, .int .i64 (n : Int)]).run Tryd.prog w = _ := fun ty => Lib.run_append_nil_zeros w 34 3 ty 5 i0 (.int .u8 0) .i64 .i64 Tryd.underlying34 Tryd.underlying3 hi hz0 n h0 (by omega) (by omega) (by rw [hz2]; omega)
    obtain ⟨c, hc⟩ : ∃ c, c = grownCap w n 0 5 := ⟨_, rfl⟩
    have hcg : n ≤ c := by rw [hc]; exact grownCap_ge w n 0 5
    have hcm : c ≤ maxLen := by rw [hc]; exact grownCap_le_maxLen w n 0 5 (by unfold maxLen; omega)
    obtain ⟨w1, hw1⟩ : ∃ w1, w1 = w.drew.alloc (.cells (Builtin.zeroCells (Value.int .u8 0).cells n ++ Builtin.zeroCells (Value.int .u8 0).cells (c - n)) 5) := ⟨_, rfl⟩
    rw [← hc, ← hw1] at hr
    have HR := Lib.hid hr
    have HNEW : Hid (New w w1 (.slice (some ⟨w.heap.size, 0, none⟩) 0 c) []) := by
      refine ⟨⟨rfl, .inr ⟨w.heap.size, c, _, rfl, Nat.zero_le _, by rw [hw1]; exact heap_alloc_new w.drew _, Nat.zero_le _, hcm, ?_, rfl⟩⟩, by rw [hw1]; exact ((Below.refl _ w).drew).alloc (Nat.le_refl _) _, fun k hk => by simp [Value.ownBlock] at hk; omega⟩
      rw [Array.size_append, size_zeroCells, size_zeroCells]
      simp [Value.cells]; omega
    clear hr hc hw1
    unfold maxLen at hcm
    go_enter Tryd.func53, Tryd.ntmps53
    go_wp2_with (refine Lib.wpList_append_run _ rfl (.tmp 20) (.tmp 21) 34 3 rfl _ _ rfl rfl _ _ (HR.out _) ?_)
    go_ret
    exact ⟨_, rfl, HNEW.out⟩
def ConHead (n1 n2 : Nat) (s3 s11 : Value) (wr w : World) : Prop := ∃ i k : Nat, (i = 0 ∧ k = 0 ∨ i = 1 ∧ k = n1 ∨ i = 2 ∧ k = n1 + n2) ∧ s11 = .int .i64 (i : Int) ∧ s3 = .int .i64 (k : Int) ∧ w = wr
def ConHead2 (w : World) (x y : List UInt8) (s6 s27 : Value) (wr : World) : Prop := ∃ (i : Nat) (z : List UInt8), (i = 0 ∧ z = [] ∨ i = 1 ∧ x = z ∨ i = 2 ∧ z = x ++ y) ∧ s27 = .int .i64 (i : Int) ∧ New w wr s6 z

set_option maxHeartbeats 1000000 in
set_option maxRecDepth 100000 in
theorem concat_call (x y : List UInt8) (vx vy : Value) (g : Nat) (w : World) (hx : Rest w.heap.size w x vx) (hy : Rest w.heap.size w y vy) (hg : Row w g 34 [vx, vy]) (lx : x.length ≤ 1099511627776) (ly : y.length ≤ 1099511627776) :
    Calls Tryd.prog 40 #[.slice (some ⟨g, 0, none⟩) 2 2] w fun e w' => ∃ v', e = .returned v' ∧ New w w' v' (x ++ y) := by
  have HX := Lib.hid hx
  have HY := Lib.hid hy
  have HG := Lib.hid hg
  obtain ⟨ax, cx, rfl, _, _, _, _⟩ := hx
  obtain ⟨ay, cy, rfl, _, _, _, _⟩ := hy
  have c0 : w.cell? ⟨g, 0, none⟩ = some (.slice ax x.length cx) := hg.cell rfl
  have c1 : w.cell? ⟨g, 1, none⟩ = some (.slice ay y.length cy) := hg.cell rfl
  have hlt := hg.lt
  clear hg
  go_enter Tryd.func40, Tryd.ntmps40
  go_wp2_with fail
  go_loopw [3, 11] (fun s3 s11 wr => ConHead x.length y.length s3 s11 wr w) (fun _ s11 _ => 2 - (intOf s11).toNat)
  case atStart => exact ⟨0, 0, .inl ⟨rfl, rfl⟩, rfl, rfl, rfl⟩
  case round =>
    obtain ⟨i, k, hik, rfl, rfl, rfl⟩ := hrel
    rcases hik with ⟨rfl, rfl⟩ | ⟨rfl, rfl⟩ | ⟨rfl, rfl⟩
    · go_wp2_with fail
      go_roundw
      case rel => exact ⟨1, x.length, .inr (.inl ⟨rfl, rfl⟩), by go_num, by go_num, rfl⟩
      case measure => simp [intOf]
    · go_wp2_with fail
      go_roundw
      case rel => exact ⟨2, x.length + y.length, .inr (.inr ⟨rfl, rfl⟩), by go_num, by go_num, rfl⟩
      case measure => simp [intOf]
    · go_wp2_with (go_at_call 53; refine (grow_call (x.length + y.length) (by omega) _).mono ?_)
      rintro e w1 ⟨v1, rfl, hnew⟩
      have HB1 := Lib.hid hnew.2.1
      have HN1 := Lib.hid hnew
      have hltw := HB1.out.size
      have d0 : w1.cell? ⟨g, 0, none⟩ = some (.slice ax x.length cx) := (HB1.out.cell (p := ⟨g, 0, none⟩) hlt).trans c0
      have d1 : w1.cell? ⟨g, 1, none⟩ = some (.slice ay y.length cy) := (HB1.out.cell (p := ⟨g, 1, none⟩) hlt).trans c1
      clear hnew c0 c1
      go_wp2_with fail
      go_loopw [6, 27] (fun s6 s27 wr => ConHead2 w x y s6 s27 wr) (fun _ s27 _ => 2 - (intOf s27).toNat)
      case atStart => exact ⟨0, [], .inl ⟨rfl, rfl⟩, rfl, HN1.out⟩
      case round =>
        obtain ⟨i, z, hik, rfl, hnew⟩ := hrel
        have e0 : wr.cell? ⟨g, 0, none⟩ = some (.slice ax x.length cx) := (hnew.2.1.cell (p := ⟨g, 0, none⟩) hlt).trans ((HB1.out.cell (p := ⟨g, 0, none⟩) hlt).symm.trans d0)
        have e1 : wr.cell? ⟨g, 1, none⟩ = some (.slice ay y.length cy) := (hnew.2.1.cell (p := ⟨g, 1, none⟩) hlt).trans ((HB1.out.cell (p := ⟨g, 1, none⟩) hlt).symm.trans d1)
        have HXR : Hid (Rest wr.heap.size wr x (.slice ax x.length cx)) := rest_keep HX.out hnew.2.1
        have HYR : Hid (Rest wr.heap.size wr y (.slice ay y.length cy)) := rest_keep HY.out hnew.2.1
        have HNW := Lib.hid hnew
        clear hnew
        rcases hik with ⟨rfl, rfl⟩ | ⟨rfl, rfl⟩ | ⟨rfl, rfl⟩
        · go_wp2_with (refine wpList_buf rfl (.tmp 31) (.tmp 32) rfl _ [] rfl HNW.out.1 _ _ x rfl HXR.out (by simp; omega) ?_)
          intro v4 w4 hb4 hw4
          have HN4 := Lib.hid (HNW.out.app hb4 hw4)
          clear hb4 hw4
          go_wp2_with fail
          go_roundw
          case rel => exact ⟨1, x, .inr (.inl ⟨rfl, rfl⟩), by go_num, HN4.out⟩
          case measure => simp [intOf]
        · go_wp2_with (refine wpList_buf rfl (.tmp 31) (.tmp 32) rfl _ x rfl HNW.out.1 _ _ y rfl HYR.out (by omega) ?_)
          intro v4 w4 hb4 hw4
          have HN4 := Lib.hid (HNW.out.app hb4 hw4)
          clear hb4 hw4
          go_wp2_with fail
          go_roundw
          case rel => exact ⟨2, x ++ y, .inr (.inr ⟨rfl, rfl⟩), by go_num, HN4.out⟩
          case measure => simp [intOf]
        · go_wp2_with fail
          go_ret
          exact ⟨_, rfl, HNW.out⟩
end Go.Proofs.YtbceimbcjijfgaaDoor.Dig
