/- What a path leads to: the reference's functions. -/
import Derived.Test.YtjibhelahagliaaDoorPt
import Derived.Test.YtjibhelahagliaaDoorS
import Derived.Test.YtjibhelahagliaaDoorT
import Derived.Deep.RegionLaw
import Derived.Deep.RegionHeld
import Derived.BigRegion
namespace Go.Proofs.YtjibhelahagliaaDoor
open Go.RowKit

set_option maxHeartbeats 4000000 in
set_option maxRecDepth 100000 in
theorem refclimb_1 (d : List UInt8) (hd : d.length = 32) (k : Nat) (v : Value) (w : World) : Calls Tryd.prog 45 #[dg d, .int .i64 (k : Int), .int .i64 1, v] w (RetD w (lf d)) := by
  have HDL := Lib.hid hd
  obtain ⟨res, hres⟩ : ∃ res, res = lf d := ⟨_, rfl⟩
  have HLR : Hid (res.length = 32) := by rw [hres]; exact tagged_len _ _
  have HTG : Hid (∀ (W' : World) (u : Value), Rest W'.heap.size W' d u → Calls Tryd.prog 15 #[.string ⟨#[108, 101, 97, 102]⟩, u] W' (RetD W' res)) := fun W' u h => by
    rw [hres]
    exact reftagged_call ⟨#[108, 101, 97, 102]⟩ d u W' (by decide) (by omega) h
  rw [← hres]
  have HB0 := Lib.hid (Below.refl w.heap.size w)
  clear hres hd
  go_enter Tryd.func45, Tryd.ntmps45
  go_wp2_with (first
    | (refine wpList_box_u rfl 4 rfl (.tmp 0) rfl (cellsOf d) rfl ?_; intro g4 w1 hg hrow hb; have H4 := Lib.hid hrow; have HB0 := Lib.hid (below_next HB0.out hb); clear hg hrow hb)
    | (refine wpList_alloc_dig rfl 8 rfl rfl ?_; intro g8 w2 hg hrow hb; have H8 := Lib.hid hrow; have h48 : g4 ≠ g8 := (by have := H4.out.lt; omega); have hg8 : w.heap.size ≤ g8 := (by have := HB0.out.size; omega); have H4 := Lib.hid (H4.out.keep hb); have HB0 := Lib.hid (below_next HB0.out hb); clear hg hrow hb)
    | (go_at_call 15; (refine (HTG.out _ _ (row_rest32 H4.out HDL.out)).mono ?_); rintro e w3 ⟨rfl, hb⟩; have H8 := Lib.hid (H8.out.keep hb); have HB0 := Lib.hid (below_next HB0.out hb); clear hb)
    | (refine wpList_store_dig rfl (.tmp 8) (.tmp 14) rfl g8 res HLR.out rfl rfl H8.out HB0.out hg8 ?_; intro wE hrow hb hoth; have HRE := Lib.hid hrow; have HBE := Lib.hid hb; clear hrow hb hoth)
    | fail)
  exact bodyPost_ret (results_cell_row rfl _ _ g8 26 (cellsOf res).toArray (0, 0) _ rfl HRE.out Tryd.underlying26 rfl (size32' HLR.out)) rfl ⟨rfl, HBE.out⟩

set_option maxHeartbeats 4000000 in
set_option maxRecDepth 100000 in
theorem refclimb_l (d : List UInt8) (hd : d.length = 32) (k n q : Nat) (hn : 2 ≤ n) (hn2 : n ≤ 1099511627776) (hq : q = hf n) (hk : k < q) (ps : List (List UInt8)) (last : Nat) (hlast : ps.length = last + 1) (hl2 : last ≤ 40) (v : Value) (w : World) (hr : DRest w.heap.size w ps v)
    (ih : ∀ (u : Value) (W : World), DRest W.heap.size W (ps.take last) u → Calls Tryd.prog 45 #[dg d, .int .i64 (k : Int), .int .i64 (q : Int), u] W (RetD W (climb d k q (ps.take last)))) :
    Calls Tryd.prog 45 #[dg d, .int .i64 (k : Int), .int .i64 (n : Int), v] w (RetD w (nd (climb d k q (ps.take last)) (ps.getD last []))) := by
  have HDL := Lib.hid hd
  have hpl : (ps.getD last []).length = 32 := hr.1.get (by omega)
  obtain ⟨b, off, cap, rfl, hcap, hcap2, hb, hc⟩ := hr.some (by omega)
  have hq1 : q < n := by rw [hq]; exact hf_lt hn
  have hq0 : 0 < q := by rw [hq]; exact hf_pos hn
  obtain ⟨pl, hpl2⟩ : ∃ pl, pl = ps.getD last [] := ⟨_, rfl⟩
  have HLP : Hid (∀ W' : World, Below w.heap.size w W' → ∀ j, j < 32 → W'.cell? ⟨b, off + last * 32 + j, none⟩ = some (.int .u8 ((pl.getD j 0).toNat : Int))) := fun W' h j hj => by
    rw [h.cell (p := ⟨b, off + last * 32 + j, none⟩) hb, hpl2]
    exact hc last (by omega) j hj
  rw [← hpl2] at hpl ⊢
  have HPL := Lib.hid hpl
  have HL : Hid (∀ W' : World, Below w.heap.size w W' → Calls Tryd.prog 45 #[dg d, .int .i64 (k : Int), .int .i64 (q : Int), .slice (some ⟨b, off, none⟩) last cap] W' (RetD W' (climb d k q (ps.take last)))) := fun W' h => by
    have hp := drest_part (hr.keep h) 0 last cap (by omega) (by omega) (Nat.le_refl _)
    rw [List.drop_zero, Nat.zero_mul, Nat.add_zero] at hp
    exact ih _ W' hp
  obtain ⟨tA, htA⟩ : ∃ tA, tA = climb d k q (ps.take last) := ⟨_, rfl⟩
  have hlA : tA.length = 32 := by rw [htA]; exact climb_len _ _ _ _
  obtain ⟨tC, htC⟩ : ∃ tC, tC = nd tA pl := ⟨_, rfl⟩
  have HN : Hid (∀ W' : World, Calls Tryd.prog 39 #[dg tA, dg pl] W' (RetD W' tC)) := fun W' => by
    rw [htC]
    exact refnode_call _ _ hlA hpl W'
  have HF : Hid (∀ W' : World, Calls Tryd.prog 38 #[.int .i64 (n : Int)] W' fun e w' => e = .returned (.int .i64 (q : Int)) ∧ W' = w') := fun W' => by rw [hq]; exact half_call n W' hn (by omega)
  have HTL : Hid (tC.length = 32) := by rw [htC]; exact tagged_len _ _
  rw [← htA] at HL ⊢
  rw [← htC]
  have hn1 : ¬ ((n : Int) = 1) := by omega
  obtain ⟨m, hm⟩ : ∃ m, m = ps.length := ⟨_, rfl⟩
  rw [← hm] at hcap hlast ⊢
  have hi0 : (0 : Int) ≤ (last : Int) := by omega
  have hi1 : (last : Int) < (m : Int) := by omega
  have e1 : (m : Int) - 1 = (last : Int) := by omega
  have e2 : IntKind.i64.wrap ((m : Int) - 1) = (last : Int) := by rw [IntKind.wrap_i64]; omega
  have e5 : IntKind.i64.wrap (last : Int) = (last : Int) := by rw [IntKind.wrap_i64]; omega
  have hlc : last ≤ cap := by omega
  have hlm : last < m := by omega
  have hlt : (k : Int) < (q : Int) := by omega
  have HBI := Lib.hid (Below.refl w.heap.size w)
  clear ih hr hc hq hpl2 hpl htA htC hm hd hlA hlast
  go_enter Tryd.func45, Tryd.ntmps45
  go_wp2_with (first
    | (refine wpList_box_u rfl 4 rfl (.tmp 0) rfl (cellsOf d) rfl ?_; intro g4 w1 hg hrow hb; have H4 := Lib.hid hrow; have HBI := Lib.hid (below_next HBI.out hb); clear hg hrow hb)
    | (refine wpList_alloc_dig rfl 8 rfl rfl ?_; intro g8 w2 hg hrow hb; have H8 := Lib.hid hrow; have h48 : g4 ≠ g8 := (by have := H4.out.lt; omega); have hg8 : w.heap.size ≤ g8 := (by have := HBI.out.size; omega); have H4 := Lib.hid (H4.out.keep hb); have HBI := Lib.hid (below_next HBI.out hb); clear hg hrow hb)
    | (go_at_call 38; (refine (HF.out _).mono ?_); rintro e w' ⟨rfl, rfl⟩)
    | (refine wpList_load_dig rfl (.tmp 21) rfl b (off + last * 32) rfl pl HPL.out (HLP.out _ HBI.out) ?_)
    | (refine wpList_alloc_dig rfl 10 rfl rfl ?_; intro g10 w3 hg hrow hb; have H10 := Lib.hid hrow; have hg10 : w.heap.size ≤ g10 := (by have := HBI.out.size; omega); have h810 : g8 ≠ g10 := (by have := H8.out.lt; omega); have h410 : g4 ≠ g10 := (by have := H4.out.lt; omega); have H4 := Lib.hid (H4.out.keep hb); have H8 := Lib.hid (H8.out.keep hb); have HBI := Lib.hid (below_next HBI.out hb); clear hg hrow hb)
    | (refine wpList_store_dig rfl (.tmp 10) (.tmp 22) rfl g10 pl HPL.out rfl rfl H10.out HBI.out hg10 ?_; intro wb hrow hb hoth; have H10 := Lib.hid hrow; have H4 := Lib.hid (hoth _ _ _ h410 H4.out); have H8 := Lib.hid (hoth _ _ _ h810 H8.out); have HBI := Lib.hid hb; clear hrow hb hoth)
    | fail)
  have HD4 : Hid (DigAt (fun w' => Row w' g4 26 (cellsOf d) ∧ Row w' g10 26 (cellsOf pl)) g4 d) := ⟨HDL.out, fun W' h => range_row h.1⟩
  have HD10 : Hid (DigAt (fun w' => Row w' g4 26 (cellsOf d) ∧ Row w' g10 26 (cellsOf pl)) g10 pl) := ⟨HPL.out, fun W' h => range_row h.2⟩
  have H8b := Lib.hid H8.out
  have HBb := Lib.hid HBI.out
  (refine wp_region_held_drew (S := fun w' => Row w' g4 26 (cellsOf d) ∧ Row w' g10 26 (cellsOf pl)) (by kernel_rfl) ⟨H4.out, H10.out⟩ (fun hHeld => ?_))
  (obtain ⟨w0, hw0⟩ : ∃ x, x = wb.drew := ⟨_, rfl⟩; rw [← hw0] at hHeld ⊢; have HB0 := Lib.hid hHeld; have HBZ : Hid (Below wb.heap.size wb w0) := (by rw [hw0]; exact (Below.refl _ wb).drew); clear hHeld hw0)
  refine wpAnyH_take (i := 1) (oi := { dst := some 27, op := Op.move (Operand.tmp 1), type := 3, pos := "ref.go:147", after := #[], guard := none }) (v := ?_) rfl (by kernel_rfl) (by kernel_rfl) (by kernel_rfl) (fun _ _ _ h => h) (Or.inl ⟨by rfl, ?_⟩) HB0.out ?_
  rotate_left
  · (intro w _; go_simp; with_reducible rfl)
  try simp only [Act.put, List.setIfInBounds_toArray, List.set_cons_zero, List.set_cons_succ]
  refine wpAnyH_take (i := 2) (oi := { dst := some 28, op := Op.move (Operand.tmp 9), type := 3, pos := "ref.go:147", after := #[], guard := none }) (v := ?_) rfl (by kernel_rfl) (by kernel_rfl) (by kernel_rfl) (fun _ _ _ h => h) (Or.inl ⟨by rfl, ?_⟩) HB0.out ?_
  rotate_left
  · (intro w _; go_simp; with_reducible rfl)
  try simp only [Act.put, List.setIfInBounds_toArray, List.set_cons_zero, List.set_cons_succ]
  refine wpAnyH_take (i := 3) (oi := { dst := some 29, op := Op.move (Operand.tmp 3), type := 30, pos := "ref.go:147", after := #[], guard := none }) (v := ?_) rfl (by kernel_rfl) (by kernel_rfl) (by kernel_rfl) (fun _ _ _ h => h) (Or.inl ⟨by rfl, ?_⟩) HB0.out ?_
  rotate_left
  · (intro w _; go_simp; with_reducible rfl)
  try simp only [Act.put, List.setIfInBounds_toArray, List.set_cons_zero, List.set_cons_succ]
  refine wpAnyH_take (i := 4) (oi := { dst := some 30, op := Op.move (Operand.tmp 3), type := 30, pos := "ref.go:147", after := #[], guard := none }) (v := ?_) rfl (by kernel_rfl) (by kernel_rfl) (by kernel_rfl) (fun _ _ _ h => h) (Or.inl ⟨by rfl, ?_⟩) HB0.out ?_
  rotate_left
  · (intro w _; go_simp; with_reducible rfl)
  try simp only [Act.put, List.setIfInBounds_toArray, List.set_cons_zero, List.set_cons_succ]
  refine wpAnyH_take (i := 5) (oi := { dst := some 31, op := Op.call { callee := Callee.builtin Builtin.len, args := #[Operand.tmp 30], argTypes := #[30] }, type := 3, pos := "ref.go:147", after := #[{ on := 4, ground := Ground.data }], guard := none }) (v := ?_) rfl (by kernel_rfl) (by kernel_rfl) (by kernel_rfl) (fun _ _ _ h => h) (Or.inl ⟨by rfl, ?_⟩) HB0.out ?_
  rotate_left
  · (intro w _; go_simp; with_reducible rfl)
  try simp only [Act.put, List.setIfInBounds_toArray, List.set_cons_zero, List.set_cons_succ]
  refine wpAnyH_take (i := 6) (oi := { dst := some 32, op := Op.binOp BinOp.sub 3 (Operand.tmp 31) (Operand.const (Value.int IntKind.i64 1)) 3, type := 3, pos := "ref.go:147", after := #[{ on := 5, ground := Ground.data }], guard := none }) (v := ?_) rfl (by kernel_rfl) (by kernel_rfl) (by kernel_rfl) (fun _ _ _ h => h) (Or.inl ⟨by rfl, ?_⟩) HB0.out ?_
  rotate_left
  · (intro w _; go_simp; with_reducible rfl)
  try simp only [Act.put, List.setIfInBounds_toArray, List.set_cons_zero, List.set_cons_succ]
  refine wpAnyH_take (i := 7) (oi := { dst := some 33, op := Op.slice 30 (Operand.tmp 29) none (some (Operand.tmp 32)) none, type := 30, pos := "ref.go:147", after := #[{ on := 3, ground := Ground.data }, { on := 6, ground := Ground.data }], guard := none }) (v := ?_) rfl (by kernel_rfl) (by kernel_rfl) (by kernel_rfl) (fun _ _ _ h => h) (Or.inl ⟨by rfl, ?_⟩) HB0.out ?_
  rotate_left
  · (intro w _; go_simp; with_reducible rfl)
  try simp only [Act.put, List.setIfInBounds_toArray, List.set_cons_zero, List.set_cons_succ]
  refine take_dig (i := 0) (oi := { dst := some 26, op := Op.load 26 (Operand.tmp 4), type := 26, pos := "ref.go:147", after := #[], guard := none }) HD4.out rfl (by kernel_rfl) (by kernel_rfl) (by kernel_rfl) (fun _ _ _ h => h) HB0.out rfl rfl (by rfl) ?_
  try simp only [Act.put, List.setIfInBounds_toArray, List.set_cons_zero, List.set_cons_succ]
  refine take_dig (i := 9) (oi := { dst := some 35, op := Op.load 26 (Operand.tmp 10), type := 26, pos := "ref.go:147", after := #[], guard := none }) HD10.out rfl (by kernel_rfl) (by kernel_rfl) (by kernel_rfl) (fun _ _ _ h => h) HB0.out rfl rfl (by rfl) ?_
  try simp only [Act.put, List.setIfInBounds_toArray, List.set_cons_zero, List.set_cons_succ]
  refine wpAnyH_ready (rs := [8]) (by kernel_rfl) (by simp) ?_
  refine AllReadyH.cons (o := { dst := some 34, op := Op.call { callee := Callee.value (Operand.func 45), args := #[Operand.tmp 26, Operand.tmp 27, Operand.tmp 28, Operand.tmp 33], argTypes := #[26, 3, 3, 30] }, type := 26, pos := "ref.go:147", after := #[{ on := 0, ground := Ground.data }, { on := 1, ground := Ground.data }, { on := 2, ground := Ground.data }, { on := 7, ground := Ground.data }], guard := none }) rfl (fun K hK => ?_) ?_
  · rw [if_pos (by rfl)]
    go_simp
    go_wp2_with ((go_at_call 45; (refine (HL.out _ (below_next HBb.out HBZ.out)).mono ?_); rintro e w5 ⟨rfl, hb⟩; have HBZ := Lib.hid (below_next HBZ.out hb); have HB0 : Hid (Row w5 g4 26 (cellsOf d) ∧ Row w5 g10 26 (cellsOf pl)) := ⟨HB0.out.1.keep hb, HB0.out.2.keep hb⟩; clear hb))
    refine hK.out _ _ HB0.out (fun _ => ?_)
    clear hK K
    try simp only [Act.put, List.setIfInBounds_toArray, List.set_cons_zero, List.set_cons_succ]
    refine wpAnyH_ready (rs := [10]) (by kernel_rfl) (by simp) ?_
    refine AllReadyH.cons (o := { dst := some 36, op := Op.call { callee := Callee.value (Operand.func 39), args := #[Operand.tmp 34, Operand.tmp 35], argTypes := #[26, 26] }, type := 26, pos := "ref.go:147", after := #[{ on := 8, ground := Ground.data }, { on := 9, ground := Ground.data }, { on := 8, ground := Ground.chain }], guard := none }) rfl (fun K hK => ?_) ?_
    · rw [if_pos (by rfl)]
      go_simp
      go_wp2_with ((go_at_call 39; (refine (HN.out _).mono ?_); rintro e w6 ⟨rfl, hb⟩; have HBZ := Lib.hid (below_next HBZ.out hb); have HB0 : Hid (Row w6 g4 26 (cellsOf d) ∧ Row w6 g10 26 (cellsOf pl)) := ⟨HB0.out.1.keep hb, HB0.out.2.keep hb⟩; clear hb))
      refine hK.out _ _ HB0.out (fun _ => ?_)
      clear hK K
      try simp only [Act.put, List.setIfInBounds_toArray, List.set_cons_zero, List.set_cons_succ]
      refine wpAnyH_ready (rs := [11]) (by kernel_rfl) (by simp) ?_
      refine AllReadyH.cons (o := { dst := none, op := Op.store 26 (Operand.tmp 8) (Operand.tmp 36), type := 0, pos := "ref.go:147", after := #[{ on := 10, ground := Ground.data }, { on := 10, ground := Ground.chain }, { on := 0, ground := Ground.phase }, { on := 1, ground := Ground.phase }, { on := 2, ground := Ground.phase }, { on := 3, ground := Ground.phase }, { on := 4, ground := Ground.phase }, { on := 5, ground := Ground.phase }, { on := 6, ground := Ground.phase }, { on := 7, ground := Ground.phase }, { on := 8, ground := Ground.phase }, { on := 9, ground := Ground.phase }, { on := 10, ground := Ground.phase }], guard := none }) rfl (fun K hK => ?_) ?_
      · rw [if_pos (by rfl)]
        ((refine wp_store_dig' _ _ rfl g8 tC HTL.out rfl rfl (H8b.out.keep HBZ.out) (below_next HBb.out HBZ.out) hg8 ?_; intro wE hrow hb hoth; have HRE := Lib.hid hrow; have HBE := Lib.hid hb; have HB0 : Hid (Row wE g4 26 (cellsOf d) ∧ Row wE g10 26 (cellsOf pl)) := ⟨hoth _ _ _ h48 HB0.out.1, hoth _ _ _ (fun h => h810 h.symm) HB0.out.2⟩; clear hrow hb hoth))
        refine hK.out _ _ HB0.out (fun _ => ?_)
        clear hK K
        try simp only [Act.put, List.setIfInBounds_toArray, List.set_cons_zero, List.set_cons_succ]
        refine wpAnyH_done (by kernel_rfl) ?_ _
        ((go_wp2_with fail; exact bodyPost_ret (results_cell_row rfl _ _ g8 26 (cellsOf tC).toArray (0, 0) _ rfl HRE.out Tryd.underlying26 rfl (size32' HTL.out)) rfl ⟨rfl, HBE.out⟩))
      exact AllReadyH.nil
    exact AllReadyH.nil
  exact AllReadyH.nil

set_option maxHeartbeats 4000000 in
set_option maxRecDepth 100000 in
theorem refclimb_r (d : List UInt8) (hd : d.length = 32) (k n q : Nat) (hn : 2 ≤ n) (hn2 : n ≤ 1099511627776) (hkn : k < n) (hq : q = hf n) (hk : q ≤ k) (ps : List (List UInt8)) (last : Nat) (hlast : ps.length = last + 1) (hl2 : last ≤ 40) (v : Value) (w : World) (hr : DRest w.heap.size w ps v)
    (ih : ∀ (u : Value) (W : World), DRest W.heap.size W (ps.take last) u → Calls Tryd.prog 45 #[dg d, .int .i64 ((k - q : Nat) : Int), .int .i64 ((n - q : Nat) : Int), u] W (RetD W (climb d (k - q) (n - q) (ps.take last)))) :
    Calls Tryd.prog 45 #[dg d, .int .i64 (k : Int), .int .i64 (n : Int), v] w (RetD w (nd (ps.getD last []) (climb d (k - q) (n - q) (ps.take last)))) := by
  obtain ⟨k2, hk2⟩ : ∃ k2, k2 = k - q := ⟨_, rfl⟩
  obtain ⟨n2, hn2'⟩ : ∃ n2, n2 = n - q := ⟨_, rfl⟩
  rw [← hk2, ← hn2'] at ih ⊢
  have HDL := Lib.hid hd
  have hpl : (ps.getD last []).length = 32 := hr.1.get (by omega)
  obtain ⟨b, off, cap, rfl, hcap, hcap2, hb, hc⟩ := hr.some (by omega)
  have hq1 : q < n := by rw [hq]; exact hf_lt hn
  have hq0 : 0 < q := by rw [hq]; exact hf_pos hn
  obtain ⟨pl, hpl2⟩ : ∃ pl, pl = ps.getD last [] := ⟨_, rfl⟩
  have HLP : Hid (∀ W' : World, Below w.heap.size w W' → ∀ j, j < 32 → W'.cell? ⟨b, off + last * 32 + j, none⟩ = some (.int .u8 ((pl.getD j 0).toNat : Int))) := fun W' h j hj => by
    rw [h.cell (p := ⟨b, off + last * 32 + j, none⟩) hb, hpl2]
    exact hc last (by omega) j hj
  rw [← hpl2] at hpl ⊢
  have HPL := Lib.hid hpl
  have HL : Hid (∀ W' : World, Below w.heap.size w W' → Calls Tryd.prog 45 #[dg d, .int .i64 (k2 : Int), .int .i64 (n2 : Int), .slice (some ⟨b, off, none⟩) last cap] W' (RetD W' (climb d k2 n2 (ps.take last)))) := fun W' h => by
    have hp := drest_part (hr.keep h) 0 last cap (by omega) (by omega) (Nat.le_refl _)
    rw [List.drop_zero, Nat.zero_mul, Nat.add_zero] at hp
    exact ih _ W' hp
  obtain ⟨tA, htA⟩ : ∃ tA, tA = climb d k2 n2 (ps.take last) := ⟨_, rfl⟩
  have hlA : tA.length = 32 := by rw [htA]; exact climb_len _ _ _ _
  obtain ⟨tC, htC⟩ : ∃ tC, tC = nd pl tA := ⟨_, rfl⟩
  have HN : Hid (∀ W' : World, Calls Tryd.prog 39 #[dg pl, dg tA] W' (RetD W' tC)) := fun W' => by
    rw [htC]
    exact refnode_call _ _ hpl hlA W'
  have HF : Hid (∀ W' : World, Calls Tryd.prog 38 #[.int .i64 (n : Int)] W' fun e w' => e = .returned (.int .i64 (q : Int)) ∧ W' = w') := fun W' => by rw [hq]; exact half_call n W' hn (by omega)
  have HTL : Hid (tC.length = 32) := by rw [htC]; exact tagged_len _ _
  rw [← htA] at HL ⊢
  rw [← htC]
  have hn1 : ¬ ((n : Int) = 1) := by omega
  obtain ⟨m, hm⟩ : ∃ m, m = ps.length := ⟨_, rfl⟩
  rw [← hm] at hcap hlast ⊢
  have hi0 : (0 : Int) ≤ (last : Int) := by omega
  have hi1 : (last : Int) < (m : Int) := by omega
  have e1 : (m : Int) - 1 = (last : Int) := by omega
  have e2 : IntKind.i64.wrap ((m : Int) - 1) = (last : Int) := by rw [IntKind.wrap_i64]; omega
  have e5 : IntKind.i64.wrap (last : Int) = (last : Int) := by rw [IntKind.wrap_i64]; omega
  have hlc : last ≤ cap := by omega
  have hlm : last < m := by omega
  have hlt : ¬ ((k : Int) < (q : Int)) := by omega
  have e3 : IntKind.i64.wrap ((k : Int) - (q : Int)) = (k2 : Int) := by rw [IntKind.wrap_i64]; omega
  have e4 : IntKind.i64.wrap ((n : Int) - (q : Int)) = (n2 : Int) := by rw [IntKind.wrap_i64]; omega
  clear hk2 hn2'
  have HBI := Lib.hid (Below.refl w.heap.size w)
  clear ih hr hc hq hpl2 hpl htA htC hm hd hlA hlast
  go_enter Tryd.func45, Tryd.ntmps45
  go_wp2_with (first
    | (refine wpList_box_u rfl 4 rfl (.tmp 0) rfl (cellsOf d) rfl ?_; intro g4 w1 hg hrow hb; have H4 := Lib.hid hrow; have HBI := Lib.hid (below_next HBI.out hb); clear hg hrow hb)
    | (refine wpList_alloc_dig rfl 8 rfl rfl ?_; intro g8 w2 hg hrow hb; have H8 := Lib.hid hrow; have h48 : g4 ≠ g8 := (by have := H4.out.lt; omega); have hg8 : w.heap.size ≤ g8 := (by have := HBI.out.size; omega); have H4 := Lib.hid (H4.out.keep hb); have HBI := Lib.hid (below_next HBI.out hb); clear hg hrow hb)
    | (go_at_call 38; (refine (HF.out _).mono ?_); rintro e w' ⟨rfl, rfl⟩)
    | (refine wpList_load_dig rfl (.tmp 21) rfl b (off + last * 32) rfl pl HPL.out (HLP.out _ HBI.out) ?_)
    | (refine wpList_alloc_dig rfl 10 rfl rfl ?_; intro g10 w3 hg hrow hb; have H10 := Lib.hid hrow; have hg10 : w.heap.size ≤ g10 := (by have := HBI.out.size; omega); have h810 : g8 ≠ g10 := (by have := H8.out.lt; omega); have h410 : g4 ≠ g10 := (by have := H4.out.lt; omega); have H4 := Lib.hid (H4.out.keep hb); have H8 := Lib.hid (H8.out.keep hb); have HBI := Lib.hid (below_next HBI.out hb); clear hg hrow hb)
    | (refine wpList_store_dig rfl (.tmp 10) (.tmp 22) rfl g10 pl HPL.out rfl rfl H10.out HBI.out hg10 ?_; intro wb hrow hb hoth; have H10 := Lib.hid hrow; have H4 := Lib.hid (hoth _ _ _ h410 H4.out); have H8 := Lib.hid (hoth _ _ _ h810 H8.out); have HBI := Lib.hid hb; clear hrow hb hoth)
    | fail)
  have HD4 : Hid (DigAt (fun w' => Row w' g4 26 (cellsOf d) ∧ Row w' g10 26 (cellsOf pl)) g4 d) := ⟨HDL.out, fun W' h => range_row h.1⟩
  have HD10 : Hid (DigAt (fun w' => Row w' g4 26 (cellsOf d) ∧ Row w' g10 26 (cellsOf pl)) g10 pl) := ⟨HPL.out, fun W' h => range_row h.2⟩
  have H8b := Lib.hid H8.out
  have HBb := Lib.hid HBI.out
  (refine wp_region_held_drew (S := fun w' => Row w' g4 26 (cellsOf d) ∧ Row w' g10 26 (cellsOf pl)) (by kernel_rfl) ⟨H4.out, H10.out⟩ (fun hHeld => ?_))
  (obtain ⟨w0, hw0⟩ : ∃ x, x = wb.drew := ⟨_, rfl⟩; rw [← hw0] at hHeld ⊢; have HB0 := Lib.hid hHeld; have HBZ : Hid (Below wb.heap.size wb w0) := (by rw [hw0]; exact (Below.refl _ wb).drew); clear hHeld hw0)
  refine wpAnyH_take (i := 2) (oi := { dst := some 39, op := Op.move (Operand.tmp 1), type := 3, pos := "ref.go:149", after := #[], guard := none }) (v := ?_) rfl (by kernel_rfl) (by kernel_rfl) (by kernel_rfl) (fun _ _ _ h => h) (Or.inl ⟨by rfl, ?_⟩) HB0.out ?_
  rotate_left
  · (intro w _; go_simp; with_reducible rfl)
  try simp only [Act.put, List.setIfInBounds_toArray, List.set_cons_zero, List.set_cons_succ]
  refine wpAnyH_take (i := 3) (oi := { dst := some 40, op := Op.move (Operand.tmp 9), type := 3, pos := "ref.go:149", after := #[], guard := none }) (v := ?_) rfl (by kernel_rfl) (by kernel_rfl) (by kernel_rfl) (fun _ _ _ h => h) (Or.inl ⟨by rfl, ?_⟩) HB0.out ?_
  rotate_left
  · (intro w _; go_simp; with_reducible rfl)
  try simp only [Act.put, List.setIfInBounds_toArray, List.set_cons_zero, List.set_cons_succ]
  refine wpAnyH_take (i := 4) (oi := { dst := some 41, op := Op.binOp BinOp.sub 3 (Operand.tmp 39) (Operand.tmp 40) 3, type := 3, pos := "ref.go:149", after := #[{ on := 2, ground := Ground.data }, { on := 3, ground := Ground.data }], guard := none }) (v := ?_) rfl (by kernel_rfl) (by kernel_rfl) (by kernel_rfl) (fun _ _ _ h => h) (Or.inl ⟨by rfl, ?_⟩) HB0.out ?_
  rotate_left
  · (intro w _; go_simp; with_reducible rfl)
  try simp only [Act.put, List.setIfInBounds_toArray, List.set_cons_zero, List.set_cons_succ]
  refine wpAnyH_take (i := 5) (oi := { dst := some 42, op := Op.move (Operand.tmp 2), type := 3, pos := "ref.go:149", after := #[], guard := none }) (v := ?_) rfl (by kernel_rfl) (by kernel_rfl) (by kernel_rfl) (fun _ _ _ h => h) (Or.inl ⟨by rfl, ?_⟩) HB0.out ?_
  rotate_left
  · (intro w _; go_simp; with_reducible rfl)
  try simp only [Act.put, List.setIfInBounds_toArray, List.set_cons_zero, List.set_cons_succ]
  refine wpAnyH_take (i := 6) (oi := { dst := some 43, op := Op.move (Operand.tmp 9), type := 3, pos := "ref.go:149", after := #[], guard := none }) (v := ?_) rfl (by kernel_rfl) (by kernel_rfl) (by kernel_rfl) (fun _ _ _ h => h) (Or.inl ⟨by rfl, ?_⟩) HB0.out ?_
  rotate_left
  · (intro w _; go_simp; with_reducible rfl)
  try simp only [Act.put, List.setIfInBounds_toArray, List.set_cons_zero, List.set_cons_succ]
  refine wpAnyH_take (i := 7) (oi := { dst := some 44, op := Op.binOp BinOp.sub 3 (Operand.tmp 42) (Operand.tmp 43) 3, type := 3, pos := "ref.go:149", after := #[{ on := 5, ground := Ground.data }, { on := 6, ground := Ground.data }], guard := none }) (v := ?_) rfl (by kernel_rfl) (by kernel_rfl) (by kernel_rfl) (fun _ _ _ h => h) (Or.inl ⟨by rfl, ?_⟩) HB0.out ?_
  rotate_left
  · (intro w _; go_simp; with_reducible rfl)
  try simp only [Act.put, List.setIfInBounds_toArray, List.set_cons_zero, List.set_cons_succ]
  refine wpAnyH_take (i := 8) (oi := { dst := some 45, op := Op.move (Operand.tmp 3), type := 30, pos := "ref.go:149", after := #[], guard := none }) (v := ?_) rfl (by kernel_rfl) (by kernel_rfl) (by kernel_rfl) (fun _ _ _ h => h) (Or.inl ⟨by rfl, ?_⟩) HB0.out ?_
  rotate_left
  · (intro w _; go_simp; with_reducible rfl)
  try simp only [Act.put, List.setIfInBounds_toArray, List.set_cons_zero, List.set_cons_succ]
  refine wpAnyH_take (i := 9) (oi := { dst := some 46, op := Op.move (Operand.tmp 3), type := 30, pos := "ref.go:149", after := #[], guard := none }) (v := ?_) rfl (by kernel_rfl) (by kernel_rfl) (by kernel_rfl) (fun _ _ _ h => h) (Or.inl ⟨by rfl, ?_⟩) HB0.out ?_
  rotate_left
  · (intro w _; go_simp; with_reducible rfl)
  try simp only [Act.put, List.setIfInBounds_toArray, List.set_cons_zero, List.set_cons_succ]
  refine wpAnyH_take (i := 10) (oi := { dst := some 47, op := Op.call { callee := Callee.builtin Builtin.len, args := #[Operand.tmp 46], argTypes := #[30] }, type := 3, pos := "ref.go:149", after := #[{ on := 9, ground := Ground.data }], guard := none }) (v := ?_) rfl (by kernel_rfl) (by kernel_rfl) (by kernel_rfl) (fun _ _ _ h => h) (Or.inl ⟨by rfl, ?_⟩) HB0.out ?_
  rotate_left
  · (intro w _; go_simp; with_reducible rfl)
  try simp only [Act.put, List.setIfInBounds_toArray, List.set_cons_zero, List.set_cons_succ]
  refine wpAnyH_take (i := 11) (oi := { dst := some 48, op := Op.binOp BinOp.sub 3 (Operand.tmp 47) (Operand.const (Value.int IntKind.i64 1)) 3, type := 3, pos := "ref.go:149", after := #[{ on := 10, ground := Ground.data }], guard := none }) (v := ?_) rfl (by kernel_rfl) (by kernel_rfl) (by kernel_rfl) (fun _ _ _ h => h) (Or.inl ⟨by rfl, ?_⟩) HB0.out ?_
  rotate_left
  · (intro w _; go_simp; with_reducible rfl)
  try simp only [Act.put, List.setIfInBounds_toArray, List.set_cons_zero, List.set_cons_succ]
  refine wpAnyH_take (i := 12) (oi := { dst := some 49, op := Op.slice 30 (Operand.tmp 45) none (some (Operand.tmp 48)) none, type := 30, pos := "ref.go:149", after := #[{ on := 8, ground := Ground.data }, { on := 11, ground := Ground.data }], guard := none }) (v := ?_) rfl (by kernel_rfl) (by kernel_rfl) (by kernel_rfl) (fun _ _ _ h => h) (Or.inl ⟨by rfl, ?_⟩) HB0.out ?_
  rotate_left
  · (intro w _; go_simp; with_reducible rfl)
  try simp only [Act.put, List.setIfInBounds_toArray, List.set_cons_zero, List.set_cons_succ]
  refine take_dig (i := 0) (oi := { dst := some 37, op := Op.load 26 (Operand.tmp 10), type := 26, pos := "ref.go:149", after := #[], guard := none }) HD10.out rfl (by kernel_rfl) (by kernel_rfl) (by kernel_rfl) (fun _ _ _ h => h) HB0.out rfl rfl (by rfl) ?_
  try simp only [Act.put, List.setIfInBounds_toArray, List.set_cons_zero, List.set_cons_succ]
  refine take_dig (i := 1) (oi := { dst := some 38, op := Op.load 26 (Operand.tmp 4), type := 26, pos := "ref.go:149", after := #[], guard := none }) HD4.out rfl (by kernel_rfl) (by kernel_rfl) (by kernel_rfl) (fun _ _ _ h => h) HB0.out rfl rfl (by rfl) ?_
  try simp only [Act.put, List.setIfInBounds_toArray, List.set_cons_zero, List.set_cons_succ]
  refine wpAnyH_ready (rs := [13]) (by kernel_rfl) (by simp) ?_
  refine AllReadyH.cons (o := { dst := some 50, op := Op.call { callee := Callee.value (Operand.func 45), args := #[Operand.tmp 38, Operand.tmp 41, Operand.tmp 44, Operand.tmp 49], argTypes := #[26, 3, 3, 30] }, type := 26, pos := "ref.go:149", after := #[{ on := 1, ground := Ground.data }, { on := 4, ground := Ground.data }, { on := 7, ground := Ground.data }, { on := 12, ground := Ground.data }], guard := none }) rfl (fun K hK => ?_) ?_
  · rw [if_pos (by rfl)]
    go_simp
    go_wp2_with ((go_at_call 45; (refine (HL.out _ (below_next HBb.out HBZ.out)).mono ?_); rintro e w5 ⟨rfl, hb⟩; have HBZ := Lib.hid (below_next HBZ.out hb); have HB0 : Hid (Row w5 g4 26 (cellsOf d) ∧ Row w5 g10 26 (cellsOf pl)) := ⟨HB0.out.1.keep hb, HB0.out.2.keep hb⟩; clear hb))
    refine hK.out _ _ HB0.out (fun _ => ?_)
    clear hK K
    try simp only [Act.put, List.setIfInBounds_toArray, List.set_cons_zero, List.set_cons_succ]
    refine wpAnyH_ready (rs := [14]) (by kernel_rfl) (by simp) ?_
    refine AllReadyH.cons (o := { dst := some 51, op := Op.call { callee := Callee.value (Operand.func 39), args := #[Operand.tmp 37, Operand.tmp 50], argTypes := #[26, 26] }, type := 26, pos := "ref.go:149", after := #[{ on := 0, ground := Ground.data }, { on := 13, ground := Ground.data }, { on := 13, ground := Ground.chain }], guard := none }) rfl (fun K hK => ?_) ?_
    · rw [if_pos (by rfl)]
      go_simp
      go_wp2_with ((go_at_call 39; (refine (HN.out _).mono ?_); rintro e w6 ⟨rfl, hb⟩; have HBZ := Lib.hid (below_next HBZ.out hb); have HB0 : Hid (Row w6 g4 26 (cellsOf d) ∧ Row w6 g10 26 (cellsOf pl)) := ⟨HB0.out.1.keep hb, HB0.out.2.keep hb⟩; clear hb))
      refine hK.out _ _ HB0.out (fun _ => ?_)
      clear hK K
      try simp only [Act.put, List.setIfInBounds_toArray, List.set_cons_zero, List.set_cons_succ]
      refine wpAnyH_ready (rs := [15]) (by kernel_rfl) (by simp) ?_
      refine AllReadyH.cons (o := { dst := none, op := Op.store 26 (Operand.tmp 8) (Operand.tmp 51), type := 0, pos := "ref.go:149", after := #[{ on := 14, ground := Ground.data }, { on := 14, ground := Ground.chain }, { on := 0, ground := Ground.phase }, { on := 1, ground := Ground.phase }, { on := 2, ground := Ground.phase }, { on := 3, ground := Ground.phase }, { on := 4, ground := Ground.phase }, { on := 5, ground := Ground.phase }, { on := 6, ground := Ground.phase }, { on := 7, ground := Ground.phase }, { on := 8, ground := Ground.phase }, { on := 9, ground := Ground.phase }, { on := 10, ground := Ground.phase }, { on := 11, ground := Ground.phase }, { on := 12, ground := Ground.phase }, { on := 13, ground := Ground.phase }, { on := 14, ground := Ground.phase }], guard := none }) rfl (fun K hK => ?_) ?_
      · rw [if_pos (by rfl)]
        ((refine wp_store_dig' _ _ rfl g8 tC HTL.out rfl rfl (H8b.out.keep HBZ.out) (below_next HBb.out HBZ.out) hg8 ?_; intro wE hrow hb hoth; have HRE := Lib.hid hrow; have HBE := Lib.hid hb; have HB0 : Hid (Row wE g4 26 (cellsOf d) ∧ Row wE g10 26 (cellsOf pl)) := ⟨hoth _ _ _ h48 HB0.out.1, hoth _ _ _ (fun h => h810 h.symm) HB0.out.2⟩; clear hrow hb hoth))
        refine hK.out _ _ HB0.out (fun _ => ?_)
        clear hK K
        try simp only [Act.put, List.setIfInBounds_toArray, List.set_cons_zero, List.set_cons_succ]
        refine wpAnyH_done (by kernel_rfl) ?_ _
        ((go_wp2_with fail; exact bodyPost_ret (results_cell_row rfl _ _ g8 26 (cellsOf tC).toArray (0, 0) _ rfl HRE.out Tryd.underlying26 rfl (size32' HTL.out)) rfl ⟨rfl, HBE.out⟩))
      exact AllReadyH.nil
    exact AllReadyH.nil
  exact AllReadyH.nil

theorem refclimb_call (d : List UInt8) (hd : d.length = 32) (n : Nat) : ∀ (k : Nat) (ps : List (List UInt8)) (v : Value) (w : World), k < n → n ≤ 1099511627776 → ps.length = steps k n → DRest w.heap.size w ps v →
    Calls Tryd.prog 45 #[dg d, .int .i64 (k : Int), .int .i64 (n : Int), v] w (RetD w (climb d k n ps)) := by
  induction n using Nat.strongRecOn with
  | ind n ih =>
    intro k ps v w hk hn hl hr
    by_cases h1 : n ≤ 1
    · have e : n = 1 := by omega
      subst e
      rw [climb_1 d k 1 ps (by omega)]
      exact refclimb_1 d hd k v w
    · have hs40 : steps k n ≤ 40 := steps_le 40 k n (by omega)
      by_cases hq : k < hf n
      · rw [steps_l k n (by omega) hq] at hl hs40
        rw [climb_l d k n ps (by omega) hq, (take_last hl).1, (take_last hl).2]
        refine refclimb_l d hd k n (hf n) (by omega) hn rfl hq ps (steps k (hf n)) hl (by omega) v w hr fun u W hu => ?_
        have := hf_lt (n := n) (by omega)
        exact ih (hf n) this k _ u W hq (by omega) (by rw [List.length_take]; omega) hu
      · rw [steps_r k n (by omega) hq] at hl hs40
        rw [climb_r d k n ps (by omega) hq, (take_last hl).1, (take_last hl).2]
        have h2 := hf_lt (n := n) (by omega)
        have h3 := hf_pos (n := n) (by omega)
        refine refclimb_r d hd k n (hf n) (by omega) hn hk rfl (by omega) ps (steps (k - hf n) (n - hf n)) hl (by omega) v w hr fun u W hu => ?_
        exact ih (n - hf n) (by omega) (k - hf n) _ u W (by omega) (by omega) (by rw [List.length_take]; omega) hu
end Go.Proofs.YtjibhelahagliaaDoor
