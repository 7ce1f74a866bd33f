/- New, Check and Restart against the reference. -/
import Derived.Test.YtlaaolbdadempaaUb
namespace Go.Proofs.Ytlaaolbdadempaa
open Go.RowKit

set_option maxHeartbeats 8000000 in
set_option maxRecDepth 100000 in
theorem newspec_walk1 (d : Dsk) (v : Value) (num : Int) (w : World) (h : DRest w.heap.size w d v) (h61 : 60 < num) (h62 : ¬ num ≤ 4096) :
    Calls Try.prog 3 #[.int .i64 num, v] w fun e w' => e = .returned (.bool true) ∧ Below w.heap.size w w' := by
  obtain ⟨s, p, rfl, hs, hp⟩ := h
  have HD := Lib.hid (show DRest w.heap.size w d (dv s p d.left d.stop) from ⟨s, p, rfl, hs, hp⟩)
  obtain ⟨a, cap, rfl, hc1, hc2⟩ := hs.shape
  obtain ⟨a2, cap2, rfl, hc3, hc4⟩ := hp.shape
  clear hs hp
  have HX0 := Lib.hid (Box.new HD.out (row_new w 25 [.slice a d.secs.length cap, .slice a2 d.pend.length cap2, .int .i64 d.left, .bool d.stop]) (Joins.below_alloc1 w _))
  have HB := Lib.hid (Joins.below_alloc1 w (.cells #[.slice a d.secs.length cap, .slice a2 d.pend.length cap2, .int .i64 d.left, .bool d.stop] 25))
  unfold dskOf dskCells
  obtain ⟨⟨d1, k1⟩, hw⟩ : ∃ r, newD num = r := ⟨_, rfl⟩
  have HW := Lib.hid hw
  clear hw
  go_enter Try.func3, Try.ntmps3
  go_wp2_with fail
  refine (sane_call _).mono ?_
  rintro e wS ⟨rfl, hb⟩
  replace HB := Lib.hid (below_next HB.out hb)
  replace HX0 := Lib.hid (HX0.out.keep hb)
  clear hb
  have c0 := HX0.out.row.cell (i := 0) rfl
  have c1 := HX0.out.row.cell (i := 1) rfl
  have c2 := HX0.out.row.cell (i := 2) rfl
  have c3 := HX0.out.row.cell (i := 3) rfl
  go_wp2_with fail
  clear c0 c1 c2 c3
  refine (few_call d _ wS HX0.out.drest).mono ?_
  rintro e wF ⟨r, rfl, hb⟩
  replace HB := Lib.hid (below_next HB.out hb)
  replace HX0 := Lib.hid (HX0.out.keep hb)
  clear hb
  cases r
  · go_wp2_with fail
    go_ret
    exact ⟨rfl, HB.out⟩
  go_wp2_with fail
  refine (new_law num HW.out).mono ?_
  rintro e w5 ⟨s5, p5, l5, b5, rfl, hd, hb⟩
  replace HB := Lib.hid (below_next HB.out hb)
  replace HX0 := Lib.hid (HX0.out.keep hb)
  have HD5 := Lib.hid hd
  clear hd hb
  unfold dv at *
  go_wp2_with (first
    | (refine wpList_store_ags rfl _ _ _ rfl w5.heap.size [s5, p5, .int .i64 l5, .bool b5] _ size25 (by rfl) rfl rfl (row_new w5 25 _) (one_all HD5.out) (Joins.below_alloc1 w5 _) (Nat.le_refl _) ?_; intro v5 hr hb _; replace HB := Lib.hid (below_next HB.out hb); replace HX0 := Lib.hid (HX0.out.keep hb); have HX5 := Lib.hid (Box.new HD5.out hr hb); clear hr hb))
  refine (refnew_law num HW.out).mono ?_
  rintro e w7 ⟨s7, p7, l7, b7, rfl, hd, hb⟩
  replace HB := Lib.hid (below_next HB.out hb)
  replace HX0 := Lib.hid (HX0.out.keep hb)
  replace HX5 := Lib.hid (HX5.out.keep hb)
  have HD7 := Lib.hid hd
  clear hd hb
  unfold dv at *
  go_wp2_with (first
    | (refine wpList_store_ags rfl _ _ _ rfl w7.heap.size [s7, p7, .int .i64 l7, .bool b7] _ size25 (by rfl) rfl rfl (row_new w7 25 _) (one_all HD7.out) (Joins.below_alloc1 w7 _) (Nat.le_refl _) ?_; intro v7 hr hb _; replace HB := Lib.hid (below_next HB.out hb); replace HX0 := Lib.hid (HX0.out.keep hb); replace HX5 := Lib.hid (HX5.out.keep hb); have HX7 := Lib.hid (Box.new HD7.out hr hb); clear hr hb))
  obtain ⟨c22, hc22⟩ : ∃ c : Int, c = if validB d then 0 else 40 := ⟨_, rfl⟩
  have HC22 := Lib.hid hc22
  clear hc22
  have HD0 := Lib.hid HX0.out.drest
  have HDA := Lib.hid HX5.out.drest
  have HDB := Lib.hid HX7.out.drest
  unfold dv at HD0 HDA HDB
  have HR0 := Lib.hid HX0.out.row
  have HSAME : Hid (∀ W, Below v7.heap.size v7 W → Calls Try.prog 21 #[.agg #[s5, p5, .int .i64 l5, .bool b5], .agg #[s7, p7, .int .i64 l7, .bool b7]] W (fun e w' => e = .returned (.bool true) ∧ Below W.heap.size W w')) := Lib.hid (fun W hW => same_law (HX5.out.drest.keep hW) (HX7.out.drest.keep hW))
  have HCK : Hid (∀ W, Below v7.heap.size v7 W → Calls Try.prog 22 #[.agg #[.slice a d.secs.length cap, .slice a2 d.pend.length cap2, .int .i64 d.left, .bool d.stop]] W (fun e w' => e = .returned (.int .i64 c22) ∧ Below W.heap.size W w')) := Lib.hid (fun W hW => by rw [HC22.out]; exact check_call d _ W (HX0.out.drest.keep hW))
  have HRCK : Hid (∀ W, Below v7.heap.size v7 W → Calls Try.prog 23 #[.agg #[.slice a d.secs.length cap, .slice a2 d.pend.length cap2, .int .i64 d.left, .bool d.stop]] W (fun e w' => e = .returned (.int .i64 c22) ∧ Below W.heap.size W w')) := Lib.hid (fun W hW => by rw [HC22.out]; exact refcheck_call d _ W (HX0.out.drest.keep hW))
  have HRS : Hid (∀ W, Below v7.heap.size v7 W → Calls Try.prog 24 #[.agg #[.slice a d.secs.length cap, .slice a2 d.pend.length cap2, .int .i64 d.left, .bool d.stop]] W (NewR W (restartD d))) := Lib.hid (fun W hW => restart_law (HX0.out.drest.keep hW) rfl)
  have HRRS : Hid (∀ W, Below v7.heap.size v7 W → Calls Try.prog 25 #[.agg #[.slice a d.secs.length cap, .slice a2 d.pend.length cap2, .int .i64 d.left, .bool d.stop]] W (NewR W (restartD d))) := Lib.hid (fun W hW => refrestart_law (HX0.out.drest.keep hW) rfl)
  have c0 : ∀ W, Below v7.heap.size v7 W → W.cell? ⟨w.heap.size, 0, none⟩ = some (.slice a d.secs.length cap) := fun W hW => HX0.out.row.later hW (i := 0) rfl
  have c1 : ∀ W, Below v7.heap.size v7 W → W.cell? ⟨w.heap.size, 1, none⟩ = some (.slice a2 d.pend.length cap2) := fun W hW => HX0.out.row.later hW (i := 1) rfl
  have c2 : ∀ W, Below v7.heap.size v7 W → W.cell? ⟨w.heap.size, 2, none⟩ = some (.int .i64 d.left) := fun W hW => HX0.out.row.later hW (i := 2) rfl
  have c3 : ∀ W, Below v7.heap.size v7 W → W.cell? ⟨w.heap.size, 3, none⟩ = some (.bool d.stop) := fun W hW => HX0.out.row.later hW (i := 3) rfl
  have e0 : ∀ W, Below v7.heap.size v7 W → W.cell? ⟨w5.heap.size, 0, none⟩ = some s5 := fun W hW => HX5.out.row.later hW (i := 0) rfl
  have e1 : ∀ W, Below v7.heap.size v7 W → W.cell? ⟨w5.heap.size, 1, none⟩ = some p5 := fun W hW => HX5.out.row.later hW (i := 1) rfl
  have e2 : ∀ W, Below v7.heap.size v7 W → W.cell? ⟨w5.heap.size, 2, none⟩ = some (.int .i64 l5) := fun W hW => HX5.out.row.later hW (i := 2) rfl
  have e3 : ∀ W, Below v7.heap.size v7 W → W.cell? ⟨w5.heap.size, 3, none⟩ = some (.bool b5) := fun W hW => HX5.out.row.later hW (i := 3) rfl
  have f0 : ∀ W, Below v7.heap.size v7 W → W.cell? ⟨w7.heap.size, 0, none⟩ = some s7 := fun W hW => HX7.out.row.later hW (i := 0) rfl
  have f1 : ∀ W, Below v7.heap.size v7 W → W.cell? ⟨w7.heap.size, 1, none⟩ = some p7 := fun W hW => HX7.out.row.later hW (i := 1) rfl
  have f2 : ∀ W, Below v7.heap.size v7 W → W.cell? ⟨w7.heap.size, 2, none⟩ = some (.int .i64 l7) := fun W hW => HX7.out.row.later hW (i := 2) rfl
  have f3 : ∀ W, Below v7.heap.size v7 W → W.cell? ⟨w7.heap.size, 3, none⟩ = some (.bool b7) := fun W hW => HX7.out.row.later hW (i := 3) rfl
  go_region_held3 (fun W => Below v7.heap.size v7 W) (first | assumption | exact below_drew (Below.refl _ _) | exact below_next (by assumption) (by assumption)) (first
    | (go_at_call 21; (first | (with_reducible refine (HSAME.out _ (by assumption)).mono ?_) | (with_reducible refine (same_law hda hdb).mono ?_)); rintro e wN ⟨rfl, hb⟩)
    | (go_at_call 22; refine (HCK.out _ (by assumption)).mono ?_; rintro e wN ⟨rfl, hb⟩)
    | (go_at_call 23; refine (HRCK.out _ (by assumption)).mono ?_; rintro e wN ⟨rfl, hb⟩)
    | (go_at_call 24; refine (HRS.out _ (by assumption)).mono ?_; rintro e wN ⟨sA, pA, lA, bA, rfl, hda, hb⟩; try replace hdb := hdb.keep hb)
    | (go_at_call 25; refine (HRRS.out _ (by assumption)).mono ?_; rintro e wN ⟨sB, pB, lB, bB, rfl, hdb, hb⟩; try replace hda := hda.keep hb))
  go_wp2_with fail
  go_ret
  exact ⟨rfl, below_next HB.out (by assumption)⟩
end Go.Proofs.Ytlaaolbdadempaa
