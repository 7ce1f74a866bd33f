/- Leaves, nodes and chains: the program's functions. -/
import Derived.Test.YtjibhelahagliaaDoorJ
import Derived.Deep.RegionWith
namespace Go.Proofs.YtjibhelahagliaaDoor
open Go.RowKit

def leafS : ByteArray := ⟨#[108, 101, 97, 102]⟩
def nodeS : ByteArray := ⟨#[110, 111, 100, 101]⟩
def chainS : ByteArray := ⟨#[99, 104, 97, 105, 110]⟩
def emptyS : ByteArray := ⟨#[101, 109, 112, 116, 121]⟩
def leafD (d : List UInt8) : List UInt8 := tagged leafS.data.toList d
def nodeD (a b : List UInt8) : List UInt8 := tagged nodeS.data.toList (a ++ b)
def chainD (a b : List UInt8) : List UInt8 := tagged chainS.data.toList (a ++ b)
def pairD (tag : ByteArray) (a b : List UInt8) : List UInt8 := tagged tag.data.toList (a ++ b)

theorem below2 (w : World) (o1 o2 : Obj) : Below w.heap.size w ((w.alloc o1).alloc o2) := ((Below.refl _ w).alloc (Nat.le_refl _) _).alloc (by simp) _
theorem below3 (w : World) (o1 o2 o3 : Obj) : Below w.heap.size w (((w.alloc o1).alloc o2).alloc o3) := (below2 w o1 o2).alloc (by simp; omega) _
theorem concat_call2 (z x y : List UInt8) (hz : z = x ++ y) (vx vy : Value) (g : Nat) (w : World) (hx : Rest w.heap.size w x vx) (hy : Rest w.heap.size w y vy) (hg : Row w g 22 [vx, vy]) (lx : x.length ≤ 1099511627776) (ly : y.length ≤ 1099511627776) :
    Calls Tryd.prog 34 #[.slice (some ⟨g, 0, none⟩) 2 2] w fun e w' => ∃ v', e = .returned v' ∧ New w w' v' z := by
  subst hz; exact concat_call x y vx vy g w hx hy hg lx ly
theorem run_store32 {w : World} {g : Nat} {l : List UInt8} (h : Row w g 26 zb) (hl : l.length = 32) : (storeCells ⟨g, 0, none⟩ (cellsOf l) 0).run Tryd.prog w = .ok () (w.setRow g (cellsOf l).toArray) := by
  have h1 := run_storeCells_from (P := Tryd.prog) g 26 (cellsOf l) 0 zb.toArray w h (by rw [cellsOf_len, hl]; rfl) (fun v hv => by simp [cellsOf] at hv; obtain ⟨c, _, rfl⟩ := hv; rfl)
  simpa using h1
theorem row_zero {w w' : World} {g : Nat} (h : g = w.heap.size) (hb : Below (w.alloc (.cells z32 26)).heap.size (w.alloc (.cells z32 26)) w') : Row w' g 26 zb := by
  subst h
  exact Row.keep (row_new w 26 zb) hb
theorem row_rest32 {w : World} {g T : Nat} {l : List UInt8} (h : Row w g T (cellsOf l)) (hl : l.length = 32) : Rest w.heap.size w l (.slice (some ⟨g, 0, none⟩) 32 32) := by
  have := row_rest h (by rw [hl]; simp [maxLen])
  rwa [hl] at this

set_option maxHeartbeats 1000000 in
set_option maxRecDepth 100000 in
theorem leaf_call (d : List UInt8) (hd : d.length = 32) (w : World) (hT : Tab w) :
    Calls Tryd.prog 35 #[dg d] w fun e w' => e = .returned (dg (leafD d)) ∧ Below w.heap.size w w' := by
  have HD := Lib.hid hd
  have HT := Lib.hid hT
  clear hT hd
  unfold dg
  go_enter Tryd.func35, Tryd.ntmps35
  go_wp2_with fail
  have HR : Hid (Row ((w.alloc (.cells (cellsOf d).toArray 26)).alloc (.cells z32 26)) w.heap.size 26 (cellsOf d)) := (row_new w 26 _).push _
  refine (tagged_call leafS d _ _ (by decide) (by rw [HD.out]; omega) (row_rest32 HR.out HD.out) (HT.out.keep (below2 w _ _))).mono ?_
  rintro e w2 ⟨rfl, hb2⟩
  have HB := Lib.hid (below_next (below2 w _ _) hb2)
  have HRow : Hid (Row w2 (w.heap.size + 1) 26 zb) := row_zero (by simp) hb2
  clear hb2
  obtain ⟨res, hres⟩ : ∃ res, res = leafD d := ⟨_, rfl⟩
  rw [show tagged leafS.data.toList d = res from hres.symm]
  have HLR : Hid (res.length = 32) := by rw [hres]; exact tagged_len _ _
  have HRES := Lib.hid hres
  clear hres
  unfold dg
  go_wp2_with (refine wpList_store_row rfl 26 (.tmp 2) (.tmp 4) rfl (w.heap.size + 1) (cellsOf res).toArray rfl rfl 26 zb.toArray HRow.out (by rw [size32 HLR.out]; exact info26) (by rw [size32 HLR.out]; rfl) (cellsOf_one _) ?_)
  exact bodyPost_ret (results_cell_row rfl _ _ (w.heap.size + 1) 26 (cellsOf res).toArray (0, 0) _ rfl (HRow.out.setRow _) Tryd.underlying26 rfl (by rw [size32 HLR.out]; exact info26)) rfl ⟨by rw [HRES.out], below_setRow HB.out _ _ (by omega)⟩

set_option maxHeartbeats 4000000 in
set_option maxRecDepth 100000 in
theorem pair_call (tag : ByteArray) (ht : tag.size ≤ 549755813888) (a b : List UInt8) (ha : a.length = 32) (hb : b.length = 32) (w : World) (hT : Tab w) :
    Calls Tryd.prog 46 #[.string tag, dg a, dg b] w fun e w' => e = .returned (dg (pairD tag a b)) ∧ Below w.heap.size w w' := by
  have HA := Lib.hid ha
  have HB := Lib.hid hb
  have HT := Lib.hid hT
  clear hT ha hb
  unfold dg
  go_enter Tryd.func46, Tryd.ntmps46
  go_wp2_with fail
  obtain ⟨W, hW⟩ : ∃ W, W = ((w.alloc (.cells (cellsOf a).toArray 26)).alloc (.cells (cellsOf b).toArray 26)).alloc (.cells z32 26) := ⟨_, rfl⟩
  rw [← hW]
  have hRA : Row W w.heap.size 26 (cellsOf a) := by rw [hW]; exact ((row_new w 26 _).push _).push _
  have hRB : Row W (w.heap.size + 1) 26 (cellsOf b) := by rw [hW]; exact (row_at 26 _ _ (by simp)).push _
  have hRZ : Row W (w.heap.size + 1 + 1) 26 zb := by rw [hW]; exact row_at 26 zb _ (by simp)
  have hBW : Below w.heap.size w W := by rw [hW]; exact below3 w _ _ _
  have hsz : w.heap.size + 1 + 1 < W.heap.size := hRZ.lt
  have HRA := Lib.hid hRA
  have HRB := Lib.hid hRB
  have HRZ := Lib.hid hRZ
  have HBW := Lib.hid hBW
  clear hW hRA hRB hRZ hBW
  obtain ⟨ab, hab⟩ : ∃ ab, ab = a ++ b := ⟨_, rfl⟩
  have hlab : ab.length = 64 := by rw [hab, List.length_append, HA.out, HB.out]
  have HAB := Lib.hid hab
  have HLAB := Lib.hid hlab
  have HXA : Hid (∀ W' : World, Below W.heap.size W W' → Rest W'.heap.size W' a (.slice (some ⟨w.heap.size, 0, none⟩) 32 32)) := fun W' h => row_rest32 (HRA.out.keep h) HA.out
  have HXB : Hid (∀ W' : World, Below W.heap.size W W' → Rest W'.heap.size W' b (.slice (some ⟨w.heap.size + 1, 0, none⟩) 32 32)) := fun W' h => row_rest32 (HRB.out.keep h) HB.out
  have HTW : Hid (∀ W' : World, Below W.heap.size W W' → Tab W') := fun W' h => (HT.out.keep HBW.out).keep h
  have HRG : Hid (Row (W.alloc (.cells #[.slice (some ⟨w.heap.size, 0, none⟩) 32 32, .slice (some ⟨w.heap.size + 1, 0, none⟩) 32 32] 22)).drew W.heap.size 22 [.slice (some ⟨w.heap.size, 0, none⟩) 32 32, .slice (some ⟨w.heap.size + 1, 0, none⟩) 32 32]) := row_new W 22 [.slice (some ⟨w.heap.size, 0, none⟩) 32 32, .slice (some ⟨w.heap.size + 1, 0, none⟩) 32 32]
  clear hab hlab
  go_region_with (first
    | (go_at_call 34; refine (concat_call2 ab a b HAB.out (.slice (some ⟨w.heap.size, 0, none⟩) 32 32) (.slice (some ⟨w.heap.size + 1, 0, none⟩) 32 32) W.heap.size _ (HXA.out _ (Joins.below_alloc1 W _).drew) (HXB.out _ (Joins.below_alloc1 W _).drew) HRG.out (by rw [HA.out]; omega) (by rw [HB.out]; omega)).mono ?_; rintro e w3 ⟨cv, rfl, hnew⟩; obtain ⟨ca, cc, rfl, hRC⟩ := buf_rest hnew.1; have HNW := Lib.hid hnew; have HRC := Lib.hid hRC; clear hnew hRC)
    | (go_at_call 14; refine (tagged_call tag ab _ _ ht (by rw [HLAB.out]; omega) HRC.out (HTW.out _ (below_next (Joins.below_alloc1 W _).drew HNW.out.2.1))).mono ?_; rintro e w4 ⟨rfl, hb4⟩; obtain ⟨res, hres⟩ : ∃ res, res = tagged tag.data.toList ab := ⟨_, rfl⟩; rw [← hres]; have hlr : res.length = 32 := (by rw [hres]; exact tagged_len _ _); have hrow4 : Row w4 (w.heap.size + 1 + 1) 26 zb := ((HRZ.out.keep (Joins.below_alloc1 W _).drew).keep HNW.out.2.1).keep hb4; have hst := run_store32 hrow4 hlr; have hcl : (cellsOf res).length = 32 := (by rw [cellsOf_len, hlr]); have HRES := Lib.hid hres; have HLR := Lib.hid hlr; have HROW := Lib.hid hrow4; have HB4 := Lib.hid hb4; clear hres hlr hrow4 hb4; unfold dg))
  all_goals
    clear hst hcl
    go_wp2_with fail
    refine bodyPost_ret (results_cell_row rfl _ _ (w.heap.size + 1 + 1) 26 (cellsOf res).toArray (0, 0) _ rfl (HROW.out.setRow _) Tryd.underlying26 rfl (by rw [size32 HLR.out]; exact info26)) rfl ⟨by rw [HRES.out, HAB.out]; rfl, below_setRow ?_ _ _ (by omega)⟩
    exact below_next (below_next (below_next HBW.out (Joins.below_alloc1 W _).drew) HNW.out.2.1) HB4.out

theorem size32' {l : List UInt8} (h : l.length = 32) : (Tryd.prog.info? 26).map (·.size) = some (cellsOf l).toArray.size := by rw [size32 h]; exact info26

set_option maxHeartbeats 4000000 in
set_option maxRecDepth 100000 in
theorem node_call (a b : List UInt8) (ha : a.length = 32) (hb : b.length = 32) (w : World) (hT : Tab w) :
    Calls Tryd.prog 37 #[dg a, dg b] w fun e w' => e = .returned (dg (nodeD a b)) ∧ Below w.heap.size w w' := by
  have HA := Lib.hid ha
  have HB := Lib.hid hb
  have HT := Lib.hid hT
  clear hT ha hb
  unfold dg
  have HRA : Hid (Row (((w.alloc (.cells (cellsOf a).toArray 26)).alloc (.cells (cellsOf b).toArray 26)).alloc (.cells z32 26)) w.heap.size 26 (cellsOf a)) := ((row_new w 26 _).push _).push _
  have HRB : Hid (Row (((w.alloc (.cells (cellsOf a).toArray 26)).alloc (.cells (cellsOf b).toArray 26)).alloc (.cells z32 26)) (w.heap.size + 1) 26 (cellsOf b)) := (row_at 26 _ _ (by simp)).push _
  go_enter Tryd.func37, Tryd.ntmps37
  go_wp2_with (first | (refine wpList_load_row rfl 26 (.tmp 2) rfl w.heap.size rfl 26 (cellsOf a).toArray (0, 0) _ HRA.out Tryd.underlying26 rfl (size32' HA.out) ?_) | (refine wpList_load_row rfl 26 (.tmp 3) rfl (w.heap.size + 1) rfl 26 (cellsOf b).toArray (0, 0) _ HRB.out Tryd.underlying26 rfl (size32' HB.out) ?_))
  refine (pair_call nodeS (by decide) a b HA.out HB.out _ (HT.out.keep (below3 w _ _ _))).mono ?_
  rintro e w2 ⟨rfl, hb2⟩
  have HBe := Lib.hid (below_next (below3 w _ _ _) hb2)
  have HRow : Hid (Row w2 (w.heap.size + 1 + 1) 26 zb) := row_zero (by simp) hb2
  clear hb2
  obtain ⟨res, hres⟩ : ∃ res, res = nodeD a b := ⟨_, rfl⟩
  rw [show pairD nodeS a b = res from hres.symm]
  have HLR : Hid (res.length = 32) := by rw [hres]; exact tagged_len _ _
  have HRES := Lib.hid hres
  clear hres
  unfold dg
  go_wp2_with (refine wpList_store_row rfl 26 (.tmp 4) (.tmp 7) rfl (w.heap.size + 1 + 1) (cellsOf res).toArray rfl rfl 26 zb.toArray HRow.out (by rw [size32 HLR.out]; exact info26) (by rw [size32 HLR.out]; rfl) (cellsOf_one _) ?_)
  exact bodyPost_ret (results_cell_row rfl _ _ (w.heap.size + 1 + 1) 26 (cellsOf res).toArray (0, 0) _ rfl (HRow.out.setRow _) Tryd.underlying26 rfl (size32' HLR.out)) rfl ⟨by rw [HRES.out], below_setRow HBe.out _ _ (by omega)⟩
set_option maxHeartbeats 4000000 in
set_option maxRecDepth 100000 in
theorem chain_call (a b : List UInt8) (ha : a.length = 32) (hb : b.length = 32) (w : World) (hT : Tab w) :
    Calls Tryd.prog 25 #[dg a, dg b] w fun e w' => e = .returned (dg (chainD a b)) ∧ Below w.heap.size w w' := by
  have HA := Lib.hid ha
  have HB := Lib.hid hb
  have HT := Lib.hid hT
  clear hT ha hb
  unfold dg
  have HRA : Hid (Row (((w.alloc (.cells (cellsOf a).toArray 26)).alloc (.cells (cellsOf b).toArray 26)).alloc (.cells z32 26)) w.heap.size 26 (cellsOf a)) := ((row_new w 26 _).push _).push _
  have HRB : Hid (Row (((w.alloc (.cells (cellsOf a).toArray 26)).alloc (.cells (cellsOf b).toArray 26)).alloc (.cells z32 26)) (w.heap.size + 1) 26 (cellsOf b)) := (row_at 26 _ _ (by simp)).push _
  go_enter Tryd.func25, Tryd.ntmps25
  go_wp2_with (first | (refine wpList_load_row rfl 26 (.tmp 2) rfl w.heap.size rfl 26 (cellsOf a).toArray (0, 0) _ HRA.out Tryd.underlying26 rfl (size32' HA.out) ?_) | (refine wpList_load_row rfl 26 (.tmp 3) rfl (w.heap.size + 1) rfl 26 (cellsOf b).toArray (0, 0) _ HRB.out Tryd.underlying26 rfl (size32' HB.out) ?_))
  refine (pair_call chainS (by decide) a b HA.out HB.out _ (HT.out.keep (below3 w _ _ _))).mono ?_
  rintro e w2 ⟨rfl, hb2⟩
  have HBe := Lib.hid (below_next (below3 w _ _ _) hb2)
  have HRow : Hid (Row w2 (w.heap.size + 1 + 1) 26 zb) := row_zero (by simp) hb2
  clear hb2
  obtain ⟨res, hres⟩ : ∃ res, res = chainD a b := ⟨_, rfl⟩
  rw [show pairD chainS a b = res from hres.symm]
  have HLR : Hid (res.length = 32) := by rw [hres]; exact tagged_len _ _
  have HRES := Lib.hid hres
  clear hres
  unfold dg
  go_wp2_with (refine wpList_store_row rfl 26 (.tmp 4) (.tmp 7) rfl (w.heap.size + 1 + 1) (cellsOf res).toArray rfl rfl 26 zb.toArray HRow.out (by rw [size32 HLR.out]; exact info26) (by rw [size32 HLR.out]; rfl) (cellsOf_one _) ?_)
  exact bodyPost_ret (results_cell_row rfl _ _ (w.heap.size + 1 + 1) 26 (cellsOf res).toArray (0, 0) _ rfl (HRow.out.setRow _) Tryd.underlying26 rfl (size32' HLR.out)) rfl ⟨by rw [HRES.out], below_setRow HBe.out _ _ (by omega)⟩
end Go.Proofs.YtjibhelahagliaaDoor
