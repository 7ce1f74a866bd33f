/- Sync and Stop against the reference. -/
import Derived.Test.YtlaaolbdadempaaSz
namespace Go.Proofs.Ytlaaolbdadempaa
open Go.RowKit

set_option maxHeartbeats 8000000 in
set_option maxRecDepth 100000 in
theorem syncspec_walk (d : Dsk) (v : Value) (left : Int) (w : World) (h : DRest w.heap.size w d v) :
    Calls Try.prog 5 #[v, .int .i64 left] w fun e w' => e = .returned (.bool true) ∧ Below w.heap.size w w' := by
  obtain ⟨s, p, rfl, hs, hp⟩ := h
  have HD := Lib.hid (show DRest w.heap.size w d (dv s p d.left d.stop) from ⟨s, p, rfl, hs, hp⟩)
  obtain ⟨a, cap, rfl, hc1, hc2⟩ := hs.shape
  obtain ⟨a2, cap2, rfl, hc3, hc4⟩ := hp.shape
  clear hs hp
  have HX0 := Lib.hid (Box.new HD.out (row_new w 25 [.slice a d.secs.length cap, .slice a2 d.pend.length cap2, .int .i64 d.left, .bool d.stop]) (Joins.below_alloc1 w _))
  have HB := Lib.hid (Joins.below_alloc1 w (.cells #[.slice a d.secs.length cap, .slice a2 d.pend.length cap2, .int .i64 d.left, .bool d.stop] 25))
  unfold dskOf dskCells
  obtain ⟨⟨d1, k1⟩, hw1⟩ : ∃ r, syncD d = r := ⟨_, rfl⟩
  have HW1 := Lib.hid hw1
  obtain ⟨⟨d2, k2⟩, hw2⟩ : ∃ r, stopD d left = r := ⟨_, rfl⟩
  have HW2 := Lib.hid hw2
  clear hw1 hw2
  go_enter Try.func5, Try.ntmps5
  go_wp2_with fail
  refine (sane_call _).mono ?_
  rintro e wS ⟨rfl, hb⟩
  replace HB := Lib.hid (below_next HB.out hb)
  replace HX0 := Lib.hid (HX0.out.keep hb)
  clear hb
  go_wp2_with (first
    | (refine wpList_load_dsk rfl _ rfl _ _ (by rfl) rfl HX0.out.row ?_))
  refine (few_call d _ wS HX0.out.drest).mono ?_
  rintro e wF ⟨r, rfl, hb⟩
  replace HB := Lib.hid (below_next HB.out hb)
  replace HX0 := Lib.hid (HX0.out.keep hb)
  clear hb
  cases r
  · go_wp2_with fail
    go_ret
    exact ⟨rfl, HB.out⟩
  go_wp2_with (first
    | (refine wpList_load_dsk rfl _ rfl _ _ (by rfl) rfl HX0.out.row ?_))
  refine (sync_law HX0.out.drest HW1.out).mono ?_
  rintro e w5 ⟨s5, p5, l5, b5, rfl, hd, hb⟩
  replace HB := Lib.hid (below_next HB.out hb)
  replace HX0 := Lib.hid (HX0.out.keep hb)
  have HD5 := Lib.hid hd
  clear hd hb
  unfold dv at *
  go_wp2_with (first
    | (refine wpList_store_ags rfl _ _ _ rfl w5.heap.size [s5, p5, .int .i64 l5, .bool b5] _ size25 (by rfl) rfl rfl (row_new w5 25 _) (one_all HD5.out) (Joins.below_alloc1 w5 _) (Nat.le_refl _) ?_; intro v5 hr hb _; replace HB := Lib.hid (below_next HB.out hb); replace HX0 := Lib.hid (HX0.out.keep hb); have HX5 := Lib.hid (Box.new HD5.out hr hb); clear hr hb)
    | (refine wpList_load_dsk rfl _ rfl _ _ (by rfl) rfl HX0.out.row ?_))
  refine (refsync_law HX0.out.drest HW1.out).mono ?_
  rintro e w7 ⟨s7, p7, l7, b7, rfl, hd, hb⟩
  replace HB := Lib.hid (below_next HB.out hb)
  replace HX0 := Lib.hid (HX0.out.keep hb)
  replace HX5 := Lib.hid (HX5.out.keep hb)
  have HD7 := Lib.hid hd
  clear hd hb
  unfold dv at *
  go_wp2_with (first
    | (refine wpList_store_ags rfl _ _ _ rfl w7.heap.size [s7, p7, .int .i64 l7, .bool b7] _ size25 (by rfl) rfl rfl (row_new w7 25 _) (one_all HD7.out) (Joins.below_alloc1 w7 _) (Nat.le_refl _) ?_; intro v7 hr hb _; replace HB := Lib.hid (below_next HB.out hb); replace HX0 := Lib.hid (HX0.out.keep hb); replace HX5 := Lib.hid (HX5.out.keep hb); have HX7 := Lib.hid (Box.new HD7.out hr hb); clear hr hb)
    | (refine wpList_load_dsk rfl _ rfl _ _ (by rfl) rfl HX0.out.row ?_))
  refine (stop_law HX0.out.drest left HW2.out).mono ?_
  rintro e w9 ⟨s9, p9, l9, b9, rfl, hd, hb⟩
  replace HB := Lib.hid (below_next HB.out hb)
  replace HX0 := Lib.hid (HX0.out.keep hb)
  replace HX5 := Lib.hid (HX5.out.keep hb)
  replace HX7 := Lib.hid (HX7.out.keep hb)
  have HD9 := Lib.hid hd
  clear hd hb
  unfold dv at *
  go_wp2_with (first
    | (refine wpList_store_ags rfl _ _ _ rfl w9.heap.size [s9, p9, .int .i64 l9, .bool b9] _ size25 (by rfl) rfl rfl (row_new w9 25 _) (one_all HD9.out) (Joins.below_alloc1 w9 _) (Nat.le_refl _) ?_; intro v9 hr hb _; replace HB := Lib.hid (below_next HB.out hb); replace HX0 := Lib.hid (HX0.out.keep hb); replace HX5 := Lib.hid (HX5.out.keep hb); replace HX7 := Lib.hid (HX7.out.keep hb); have HX9 := Lib.hid (Box.new HD9.out hr hb); clear hr hb)
    | (refine wpList_load_dsk rfl _ rfl _ _ (by rfl) rfl HX0.out.row ?_))
  refine (refstop_law HX0.out.drest left HW2.out).mono ?_
  rintro e w11 ⟨s11, p11, l11, b11, rfl, hd, hb⟩
  replace HB := Lib.hid (below_next HB.out hb)
  replace HX0 := Lib.hid (HX0.out.keep hb)
  replace HX5 := Lib.hid (HX5.out.keep hb)
  replace HX7 := Lib.hid (HX7.out.keep hb)
  replace HX9 := Lib.hid (HX9.out.keep hb)
  have HD11 := Lib.hid hd
  clear hd hb
  unfold dv at *
  go_wp2_with (first
    | (refine wpList_store_ags rfl _ _ _ rfl w11.heap.size [s11, p11, .int .i64 l11, .bool b11] _ size25 (by rfl) rfl rfl (row_new w11 25 _) (one_all HD11.out) (Joins.below_alloc1 w11 _) (Nat.le_refl _) ?_; intro v11 hr hb _; replace HB := Lib.hid (below_next HB.out hb); replace HX0 := Lib.hid (HX0.out.keep hb); replace HX5 := Lib.hid (HX5.out.keep hb); replace HX7 := Lib.hid (HX7.out.keep hb); replace HX9 := Lib.hid (HX9.out.keep hb); have HX11 := Lib.hid (Box.new HD11.out hr hb); clear hr hb)
    | (refine wpList_load_dsk rfl _ rfl _ _ (by rfl) rfl HX5.out.row ?_)
    | (refine wpList_load_dsk rfl _ rfl _ _ (by rfl) rfl HX7.out.row ?_))
  refine (same_law HX5.out.drest HX7.out.drest).mono ?_
  rintro e w13 ⟨rfl, hb⟩
  replace HB := Lib.hid (below_next HB.out hb)
  replace HX0 := Lib.hid (HX0.out.keep hb)
  replace HX5 := Lib.hid (HX5.out.keep hb)
  replace HX7 := Lib.hid (HX7.out.keep hb)
  replace HX9 := Lib.hid (HX9.out.keep hb)
  replace HX11 := Lib.hid (HX11.out.keep hb)
  clear hb
  have c0 := HX9.out.row.cell (i := 0) rfl
  have c1 := HX9.out.row.cell (i := 1) rfl
  have c2 := HX9.out.row.cell (i := 2) rfl
  have c3 := HX9.out.row.cell (i := 3) rfl
  have e0 := HX11.out.row.cell (i := 0) rfl
  have e1 := HX11.out.row.cell (i := 1) rfl
  have e2 := HX11.out.row.cell (i := 2) rfl
  have e3 := HX11.out.row.cell (i := 3) rfl
  go_wp2_with fail
  have hsm := same_law HX9.out.drest HX11.out.drest
  unfold dv at hsm
  refine hsm.mono ?_
  rintro e w14 ⟨rfl, hb⟩
  replace HB := Lib.hid (below_next HB.out hb)
  clear hb
  go_wp2_with fail
  go_ret
  exact ⟨rfl, HB.out⟩
end Go.Proofs.Ytlaaolbdadempaa
