/- What a path leads to: the program's functions. -/
import Derived.Test.YtjibhelahagliaaDoorQ
import Derived.Deep.RegionLaw
import Derived.Deep.RegionHeld
import Derived.BigRegion
import Derived.Deep.RegionHeld3
import Derived.Deep.MidRow
namespace Go.Proofs.YtjibhelahagliaaDoor
open Go.RowKit

theorem run_cells_dig (w : World) (b o : Nat) (d : List UInt8) (hd : d.length = 32) (hc : ∀ j, j < 32 → w.cell? ⟨b, o + j, none⟩ = some (.int .u8 ((d.getD j 0).toNat : Int))) :
    (loadCellsFrom ⟨b, o, none⟩ 0 32 #[]).run Tryd.prog w = .ok (cellsOf d).toArray w := by
  have hl : (loadCells ⟨b, o, none⟩ (cellsOf d).length).run Tryd.prog w = .ok (cellsOf d).toArray w :=
    run_loadCells_list (P := Tryd.prog) w ⟨b, o, none⟩ (cellsOf d) (fun j v hv => by
      have hj : j < d.length := by have := (List.getElem?_eq_some_iff.1 hv).1; rwa [cellsOf_len] at this
      rw [Addr.add_lit, hc j (by omega), ← hv, cellsOf_get hj]
      simp [hj])
  rw [cellsOf_len, hd] at hl
  exact hl
theorem row_cells {w : World} {g T : Nat} {d : List UInt8} (h : Row w g T (cellsOf d)) (hd : d.length = 32) : ∀ j, j < 32 → w.cell? ⟨g, 0 + j, none⟩ = some (.int .u8 ((d.getD j 0).toNat : Int)) := fun j hj => by
  rw [Nat.zero_add, h.cell (cellsOf_get (show j < d.length by omega))]
  simp [show j < d.length by omega]

set_option maxHeartbeats 4000000 in
set_option maxRecDepth 100000 in
theorem climb_call_1 (d : List UInt8) (hd : d.length = 32) (k : Nat) (v : Value) (w : World) (hT : Tab w) : Calls Tryd.prog 43 #[dg d, .int .i64 (k : Int), .int .i64 1, v] w (RetD w (lf d)) := by
  have HD := Lib.hid hd
  have HT := Lib.hid hT
  have HRA : Hid (Row ((w.alloc (.cells (cellsOf d).toArray 26)).alloc (.cells z32 26)) w.heap.size 26 (cellsOf d)) := (row_new w 26 _).push _
  clear hd hT
  unfold dg
  go_enter Tryd.func43, Tryd.ntmps43
  go_wp2_with (refine wpList_load_row rfl 26 (.tmp 4) rfl w.heap.size rfl 26 (cellsOf d).toArray (0, 0) _ HRA.out Tryd.underlying26 rfl (size32' HD.out) ?_)
  refine (leaf_call d HD.out _ (HT.out.keep (below2 w _ _))).mono ?_
  rintro e w2 ⟨rfl, hb2⟩
  have HB := Lib.hid (below_next (below2 w _ _) hb2)
  have HRow : Hid (Row w2 (w.heap.size + 1) 26 zb) := row_zero (by simp) hb2
  clear hb2
  obtain ⟨res, hres⟩ : ∃ res, res = lf d := ⟨_, rfl⟩
  rw [show leafD d = res from hres.symm]
  have HLR : Hid (res.length = 32) := by rw [hres]; exact tagged_len _ _
  have HRES := Lib.hid hres
  clear hres
  unfold dg
  go_wp2_with (refine wpList_store_row rfl 26 (.tmp 8) (.tmp 14) rfl (w.heap.size + 1) (cellsOf res).toArray rfl rfl 26 zb.toArray HRow.out (size32' HLR.out) (by rw [size32 HLR.out]; rfl) (cellsOf_one _) ?_)
  exact bodyPost_ret (results_cell_row rfl _ _ (w.heap.size + 1) 26 (cellsOf res).toArray (0, 0) _ rfl (HRow.out.setRow _) Tryd.underlying26 rfl (size32' HLR.out)) rfl ⟨by rw [HRES.out]; rfl, below_setRow HB.out _ _ (by omega)⟩

theorem below_setCells {B : Nat} {a : World} {b : Nat} (hb : B ≤ b) : ∀ (vs : List Value) (o : Nat) (w : World), Below B a w → Below B a (w.setCells b o vs)
  | [], _, _, h => h
  | v :: r, o, w, h => below_setCells hb r (o + 1) _ (h.setCell (p := ⟨b, o, none⟩) hb v)
theorem range_row {w : World} {g T : Nat} {cs : List Value} (h : Row w g T cs) : w.rangeAt g 0 cs := fun j v hv => by rw [Nat.zero_add]; exact h.cell hv
theorem there_row {w : World} {g T n : Nat} {cs : List Value} (h : Row w g T cs) (hn : cs.length = n) : w.there g 0 n := fun j hj => by
  rw [Nat.zero_add]
  exact ⟨by rw [h.cell (List.getElem?_eq_getElem (show j < cs.length by omega))]; rfl, h.free j⟩
theorem range_dig {w : World} {b o : Nat} {d : List UInt8} (hd : d.length = 32) (hc : ∀ j, j < 32 → w.cell? ⟨b, o + j, none⟩ = some (.int .u8 ((d.getD j 0).toNat : Int))) : w.rangeAt b o (cellsOf d) := fun j v hv => by
  have hj : j < d.length := by have := (List.getElem?_eq_some_iff.1 hv).1; rwa [cellsOf_len] at this
  rw [hc j (by omega), ← hv, cellsOf_get hj]
  simp [hj]
theorem range_below {w w' : World} {b o : Nat} {cs : List Value} (h : w.rangeAt b o cs) (hb : Below w.heap.size w w') (hlt : b < w.heap.size) : w'.rangeAt b o cs := fun j v hv => (hb.cell (p := ⟨b, o + j, none⟩) hlt).trans (h j v hv)
theorem there_below {w w' : World} {b o n : Nat} (h : w.there b o n) (hb : Below w.heap.size w w') (hlt : b < w.heap.size) : w'.there b o n := fun j hj =>
  ⟨by rw [hb.cell (p := ⟨b, o + j, none⟩) hlt]; exact (h j hj).1, (hb.frozen (p := ⟨b, o + j, none⟩) hlt).trans (h j hj).2⟩
theorem results_mid {fn : Func} {p : Tmp} (h : fn.results = #[.cell p 26]) (tmps : Array Value) (w : World) (g : Nat) (d : List UInt8) (hd : d.length = 32)
    (hp : tmps.getD p undef = .pointer (some ⟨g, 0, none⟩)) (hg : w.rangeAt g 0 (cellsOf d)) : (results fn tmps).run Tryd.prog w = .ok (dg d) w := by
  have hp' : tmps[p]?.getD undef = .pointer (some ⟨g, 0, none⟩) := by simpa using hp
  have hl := run_loadVar_mid (P := Tryd.prog) w g 0 26 (cellsOf d) _ hg Tryd.underlying26 rfl (by rw [cellsOf_len, hd]; exact info26)
  simp [results, h, hp', asAddr, hl, dg]

theorem wp_store_dig {o : Oper} {a : Act} {w : World} {K : Act → World → Prop} {Q : Exit → Act → World → Prop} (x y : Operand) (ho : o.op = .store 26 x y)
    (g : Nat) (d : List UInt8) (hd : d.length = 32) (hx : a.eval x = .pointer (some ⟨g, 0, none⟩)) (hy : a.eval y = dg d) (hg : Row w g 26 zb)
    (h : K (a.put o.dst undef) (w.setRow g (cellsOf d).toArray)) : o.wp Tryd.prog a w K Q :=
  wp_store_row 26 x y ho g (cellsOf d).toArray hx hy 26 zb.toArray hg (size32' hd) (by rw [size32 hd]; rfl) (cellsOf_one _) h

set_option maxHeartbeats 1000000 in
set_option maxRecDepth 100000 in
theorem climb_call_l (d : List UInt8) (hd : d.length = 32) (k n q : Nat) (hn : 2 ≤ n) (hn2 : n ≤ 1099511627776) (hq : q = hf n) (hk : k < q) (ps : List (List UInt8)) (last : Nat) (hlast : ps.length = last + 1) (hl2 : last ≤ 40) (v : Value) (w : World) (hr : DRest w.heap.size w ps v) (hT : Tab w)
    (ih : ∀ (u : Value) (W : World), DRest W.heap.size W (ps.take last) u → Tab W → Calls Tryd.prog 43 #[dg d, .int .i64 (k : Int), .int .i64 (q : Int), u] W (RetD W (climb d k q (ps.take last)))) :
    Calls Tryd.prog 43 #[dg d, .int .i64 (k : Int), .int .i64 (n : Int), v] w (RetD w (nd (climb d k q (ps.take last)) (ps.getD last []))) := by
  have HD := Lib.hid hd
  have HT := Lib.hid hT
  have hpl : (ps.getD last []).length = 32 := hr.1.get (by omega)
  obtain ⟨b, off, cap, rfl, hcap, hcap2, hb, hc⟩ := hr.some (by omega)
  have hq1 : q < n := by rw [hq]; exact hf_lt hn
  obtain ⟨W, hW⟩ : ∃ W, W = (w.alloc (.cells (cellsOf d).toArray 26)).alloc (.cells z32 26) := ⟨_, rfl⟩
  have hWb : Below w.heap.size w W := by rw [hW]; exact below2 w _ _
  have HRow : Hid (Row W (w.heap.size + 1) 26 zb) := by rw [hW]; exact row_at 26 zb _ (by simp)
  have HRowD : Hid (Row W w.heap.size 26 (cellsOf d)) := by rw [hW]; exact (row_new w 26 _).push _
  obtain ⟨pl, hpl2⟩ : ∃ pl, pl = ps.getD last [] := ⟨_, rfl⟩
  rw [← hpl2] at hpl ⊢
  have hrp : w.rangeAt b (off + last * 32) (cellsOf pl) := range_dig hpl (fun j hj => by rw [hpl2]; exact hc last (by omega) j hj)
  have hrpW : W.rangeAt b (off + last * 32) (cellsOf pl) := range_below hrp hWb hb
  have hbW : b < W.heap.size := Nat.lt_of_lt_of_le hb hWb.size
  have HL : Hid (∀ W' : World, Below W.heap.size W W' → Calls Tryd.prog 43 #[dg d, .int .i64 (k : Int), .int .i64 (q : Int), .slice (some ⟨b, off, none⟩) last cap] W' (RetD W' (climb d k q (ps.take last)))) := fun W' h => by
    have hb' := below_next hWb h
    have hp := drest_part (hr.keep hb') 0 last cap (by omega) (by omega) (Nat.le_refl _)
    rw [List.drop_zero, Nat.zero_mul, Nat.add_zero] at hp
    exact ih _ W' hp (HT.out.keep hb')
  obtain ⟨tA, htA⟩ : ∃ tA, tA = climb d k q (ps.take last) := ⟨_, rfl⟩
  have hlA : tA.length = 32 := by rw [htA]; exact climb_len _ _ _ _
  obtain ⟨tC, htC⟩ : ∃ tC, tC = nd tA pl := ⟨_, rfl⟩
  have HN : Hid (∀ W' : World, Below W.heap.size W W' → Calls Tryd.prog 37 #[dg tA, dg pl] W' (RetD W' tC)) := fun W' h => by
    rw [htC]
    exact node_call _ _ hlA hpl W' (HT.out.keep (below_next hWb h))
  have HF : Hid (∀ W' : World, Calls Tryd.prog 36 #[.int .i64 (n : Int)] W' fun e w' => e = .returned (.int .i64 (q : Int)) ∧ W' = w') := fun W' => by rw [hq]; exact first_call n W' hn (by omega)
  have HTL : Hid (tC.length = 32) := by rw [htC]; exact tagged_len _ _
  rw [← htA, ← htC]
  rw [← htA] at HL
  have hn1 : ¬ ((n : Int) = 1) := by omega
  have hwl : w.heap.size + 1 < W.heap.size := HRow.out.lt
  have hbne : b ≠ w.heap.size + 1 := by omega
  have HLD : Hid (∀ W' : World, Below W.heap.size W W' → ∀ j, j < 32 → W'.cell? ⟨w.heap.size, 0 + j, none⟩ = some (.int .u8 ((d.getD j 0).toNat : Int))) := fun W' h => row_cells (HRowD.out.keep h) HD.out
  have HLP : Hid (∀ W' : World, Below W.heap.size W W' → ∀ j, j < 32 → W'.cell? ⟨b, off + last * 32 + j, none⟩ = some (.int .u8 ((pl.getD j 0).toNat : Int))) := fun W' h j hj => by
    rw [(h.cell (p := ⟨b, off + last * 32 + j, none⟩) hbW), hrpW j (.int .u8 ((pl.getD j 0).toNat : Int)) (by rw [cellsOf_get (by omega)]; simp [show j < pl.length by omega])]
  have HPL := Lib.hid hpl
  have HWB := Lib.hid hWb
  have HW := Lib.hid hW
  have hlc : last ≤ cap := by omega
  have hlc2 : last < ps.length := by omega
  obtain ⟨m, hm⟩ : ∃ m, m = ps.length := ⟨_, rfl⟩
  rw [← hm] at hcap hlast ⊢
  have hi0 : (0:Int) ≤ (last:Int) := by omega
  have hi1 : (last:Int) < (m : Int) := by omega
  have hi2 : (last:Int) ≤ (cap : Int) := by omega
  have hwm : IntKind.i64.wrap ((m : Int) - 1) = (last : Int) := by rw [IntKind.wrap_i64]; omega
  clear ih hr hT hc hWb hW htA htC hpl2 hq hlc2 hlast hlA hrp hrpW hm hpl
  unfold dg
  go_enter Tryd.func43, Tryd.ntmps43
  go_wp2_with (go_at_call 36; refine (HF.out _).mono ?_; rintro e w' ⟨rfl, rfl⟩)
  rw [← HW.out]
  refine wp_region_any (by kernel_rfl) ?_
  try (change wpAny _ _ _ _ _ _ _ (World.drew _))
  refine wpAny_take (i := 1) (oi := { dst := some 24, op := Op.move (Operand.tmp 1), type := 3, pos := "tree.go:53", after := #[], guard := none }) (v := ?_) rfl (by kernel_rfl) (by kernel_rfl) (by kernel_rfl) (fun _ _ _ h => h) (Or.inl ⟨by rfl, ?_⟩) ?_
  rotate_left
  · (intro w; go_simp; with_reducible rfl)
  try simp only [Act.put, List.setIfInBounds_toArray, List.set_cons_zero, List.set_cons_succ]
  refine wpAny_take (i := 2) (oi := { dst := some 25, op := Op.move (Operand.tmp 9), type := 3, pos := "tree.go:53", after := #[], guard := none }) (v := ?_) rfl (by kernel_rfl) (by kernel_rfl) (by kernel_rfl) (fun _ _ _ h => h) (Or.inl ⟨by rfl, ?_⟩) ?_
  rotate_left
  · (intro w; go_simp; with_reducible rfl)
  try simp only [Act.put, List.setIfInBounds_toArray, List.set_cons_zero, List.set_cons_succ]
  refine wpAny_take (i := 3) (oi := { dst := some 26, op := Op.move (Operand.tmp 3), type := 30, pos := "tree.go:53", after := #[], guard := none }) (v := ?_) rfl (by kernel_rfl) (by kernel_rfl) (by kernel_rfl) (fun _ _ _ h => h) (Or.inl ⟨by rfl, ?_⟩) ?_
  rotate_left
  · (intro w; go_simp; with_reducible rfl)
  try simp only [Act.put, List.setIfInBounds_toArray, List.set_cons_zero, List.set_cons_succ]
  refine wpAny_take (i := 4) (oi := { dst := some 27, op := Op.move (Operand.tmp 10), type := 3, pos := "tree.go:53", after := #[], guard := none }) (v := ?_) rfl (by kernel_rfl) (by kernel_rfl) (by kernel_rfl) (fun _ _ _ h => h) (Or.inl ⟨by rfl, ?_⟩) ?_
  rotate_left
  · (intro w; go_simp; with_reducible rfl)
  try simp only [Act.put, List.setIfInBounds_toArray, List.set_cons_zero, List.set_cons_succ]
  refine wpAny_take (i := 5) (oi := { dst := some 28, op := Op.slice 30 (Operand.tmp 26) none (some (Operand.tmp 27)) none, type := 30, pos := "tree.go:53", after := #[{ on := 3, ground := Ground.data }, { on := 4, ground := Ground.data }], guard := none }) (v := ?_) rfl (by kernel_rfl) (by kernel_rfl) (by kernel_rfl) (fun _ _ _ h => h) (Or.inl ⟨by rfl, ?_⟩) ?_
  rotate_left
  · (intro w; go_simp; with_reducible rfl)
  try simp only [Act.put, List.setIfInBounds_toArray, List.set_cons_zero, List.set_cons_succ]
  refine wpAny_take (i := 7) (oi := { dst := some 30, op := Op.move (Operand.tmp 3), type := 30, pos := "tree.go:53", after := #[], guard := none }) (v := ?_) rfl (by kernel_rfl) (by kernel_rfl) (by kernel_rfl) (fun _ _ _ h => h) (Or.inl ⟨by rfl, ?_⟩) ?_
  rotate_left
  · (intro w; go_simp; with_reducible rfl)
  try simp only [Act.put, List.setIfInBounds_toArray, List.set_cons_zero, List.set_cons_succ]
  refine wpAny_take (i := 8) (oi := { dst := some 31, op := Op.move (Operand.tmp 10), type := 3, pos := "tree.go:53", after := #[], guard := none }) (v := ?_) rfl (by kernel_rfl) (by kernel_rfl) (by kernel_rfl) (fun _ _ _ h => h) (Or.inl ⟨by rfl, ?_⟩) ?_
  rotate_left
  · (intro w; go_simp; with_reducible rfl)
  try simp only [Act.put, List.setIfInBounds_toArray, List.set_cons_zero, List.set_cons_succ]
  refine wpAny_take (i := 9) (oi := { dst := some 32, op := Op.indexAddr 30 (Operand.tmp 30) (Operand.tmp 31), type := 0, pos := "tree.go:53", after := #[{ on := 7, ground := Ground.data }, { on := 8, ground := Ground.data }], guard := none }) (v := ?_) rfl (by kernel_rfl) (by kernel_rfl) (by kernel_rfl) (fun _ _ _ h => h) (Or.inl ⟨by rfl, ?_⟩) ?_
  rotate_left
  · (intro w; go_simp; with_reducible rfl)
  try simp only [Act.put, List.setIfInBounds_toArray, List.set_cons_zero, List.set_cons_succ]
  refine wpAny_ready (rs := [0, 10]) (by kernel_rfl) (by simp) ?_
  refine Go.BigFrame.allReady_want (o := { dst := some 23, op := Op.load 26 (Operand.tmp 4), type := 26, pos := "tree.go:53", after := #[], guard := none }) rfl (by rfl) (fun K hK => ?_) ?_
  · skip
    ((refine wp_load_dig _ rfl w.heap.size 0 rfl d HD.out (by first | exact HLD.out _ HB1.out | exact HLD.out _ (Below.refl _ W).drew) ?_))
    refine hK _ _ ?_
    clear hK K
    try simp only [Act.put, List.setIfInBounds_toArray, List.set_cons_zero, List.set_cons_succ]
    refine wpAny_ready (rs := [6, 10]) (by kernel_rfl) (by simp) ?_
    refine Go.BigFrame.allReady_want (o := { dst := some 29, op := Op.call { callee := Callee.value (Operand.func 43), args := #[Operand.tmp 23, Operand.tmp 24, Operand.tmp 25, Operand.tmp 28], argTypes := #[26, 3, 3, 30] }, type := 26, pos := "tree.go:53", after := #[{ on := 0, ground := Ground.data }, { on := 1, ground := Ground.data }, { on := 2, ground := Ground.data }, { on := 5, ground := Ground.data }], guard := none }) rfl (by rfl) (fun K hK => ?_) ?_
    · skip
      go_simp
      go_wp2_with ((go_at_call 43; (with_reducible refine (HL.out _ ((Below.refl _ W).drew)).mono ?_); clear HL; rintro e w1 ⟨rfl, hb1⟩; have HB1 := Lib.hid (below_undrew hb1); clear hb1))
      refine wpAny_ready (rs := [10]) (by kernel_rfl) (by simp) ?_
      refine Go.BigFrame.allReady_want (o := { dst := some 33, op := Op.load 26 (Operand.tmp 32), type := 26, pos := "tree.go:53", after := #[{ on := 9, ground := Ground.data }], guard := none }) rfl (by rfl) (fun K hK => ?_) ?_
      · skip
        ((refine wp_load_dig _ rfl b (off + last * 32) rfl pl HPL.out (by first | exact HLP.out _ HB1.out | exact HLP.out _ (Below.refl _ W).drew) ?_))
        refine hK _ _ ?_
        clear hK K
        try simp only [Act.put, List.setIfInBounds_toArray, List.set_cons_zero, List.set_cons_succ]
        refine wpAny_ready (rs := [11]) (by kernel_rfl) (by simp) ?_
        refine Go.BigFrame.allReady_want (o := { dst := some 34, op := Op.call { callee := Callee.value (Operand.func 37), args := #[Operand.tmp 29, Operand.tmp 33], argTypes := #[26, 26] }, type := 26, pos := "tree.go:53", after := #[{ on := 6, ground := Ground.data }, { on := 10, ground := Ground.data }, { on := 6, ground := Ground.chain }], guard := none }) rfl (by rfl) (fun K hK => ?_) ?_
        · skip
          go_simp
          go_wp2_with ((go_at_call 37; (with_reducible refine (HN.out _ HB1.out).mono ?_); rintro e w3 ⟨rfl, hb3⟩; have HB3 := Lib.hid (below_next HB1.out hb3); clear hb3; have HRow3 : Hid (Row w3 (w.heap.size + 1) 26 zb) := HRow.out.keep HB3.out))
          refine wpAny_ready (rs := [12]) (by kernel_rfl) (by simp) ?_
          refine Go.BigFrame.allReady_want (o := { dst := none, op := Op.store 26 (Operand.tmp 8) (Operand.tmp 34), type := 0, pos := "tree.go:53", after := #[{ on := 11, ground := Ground.data }, { on := 11, ground := Ground.chain }, { on := 0, ground := Ground.phase }, { on := 1, ground := Ground.phase }, { on := 2, ground := Ground.phase }, { on := 3, ground := Ground.phase }, { on := 4, ground := Ground.phase }, { on := 5, ground := Ground.phase }, { on := 6, ground := Ground.phase }, { on := 7, ground := Ground.phase }, { on := 8, ground := Ground.phase }, { on := 9, ground := Ground.phase }, { on := 10, ground := Ground.phase }, { on := 11, ground := Ground.phase }], guard := none }) rfl (by rfl) (fun K hK => ?_) ?_
          · skip
            ((refine wp_store_dig _ _ rfl (w.heap.size + 1) tC HTL.out rfl rfl HRow3.out ?_))
            refine hK _ _ ?_
            clear hK K
            try simp only [Act.put, List.setIfInBounds_toArray, List.set_cons_zero, List.set_cons_succ]
            refine wpAny_done (by kernel_rfl) ?_ _
            ((go_wp2_with fail; exact bodyPost_ret (results_cell_row rfl _ _ (w.heap.size + 1) 26 (cellsOf tC).toArray (0, 0) _ rfl (HRow3.out.setRow _) Tryd.underlying26 rfl (size32' HTL.out)) rfl ⟨rfl, below_setRow (below_next HWB.out HB3.out) _ _ (by omega)⟩))
          exact AllReady.nil
        exact AllReady.nil
      exact AllReady.nil
    refine Go.BigFrame.allReady_want (o := { dst := some 33, op := Op.load 26 (Operand.tmp 32), type := 26, pos := "tree.go:53", after := #[{ on := 9, ground := Ground.data }], guard := none }) rfl (by rfl) (fun K hK => ?_) ?_
    · skip
      ((refine wp_load_dig _ rfl b (off + last * 32) rfl pl HPL.out (by first | exact HLP.out _ HB1.out | exact HLP.out _ (Below.refl _ W).drew) ?_))
      refine hK _ _ ?_
      clear hK K
      try simp only [Act.put, List.setIfInBounds_toArray, List.set_cons_zero, List.set_cons_succ]
      refine wpAny_ready (rs := [6]) (by kernel_rfl) (by simp) ?_
      refine Go.BigFrame.allReady_want (o := { dst := some 29, op := Op.call { callee := Callee.value (Operand.func 43), args := #[Operand.tmp 23, Operand.tmp 24, Operand.tmp 25, Operand.tmp 28], argTypes := #[26, 3, 3, 30] }, type := 26, pos := "tree.go:53", after := #[{ on := 0, ground := Ground.data }, { on := 1, ground := Ground.data }, { on := 2, ground := Ground.data }, { on := 5, ground := Ground.data }], guard := none }) rfl (by rfl) (fun K hK => ?_) ?_
      · skip
        go_simp
        go_wp2_with ((go_at_call 43; (with_reducible refine (HL.out _ ((Below.refl _ W).drew)).mono ?_); clear HL; rintro e w1 ⟨rfl, hb1⟩; have HB1 := Lib.hid (below_undrew hb1); clear hb1))
        refine wpAny_ready (rs := [11]) (by kernel_rfl) (by simp) ?_
        refine Go.BigFrame.allReady_want (o := { dst := some 34, op := Op.call { callee := Callee.value (Operand.func 37), args := #[Operand.tmp 29, Operand.tmp 33], argTypes := #[26, 26] }, type := 26, pos := "tree.go:53", after := #[{ on := 6, ground := Ground.data }, { on := 10, ground := Ground.data }, { on := 6, ground := Ground.chain }], guard := none }) rfl (by rfl) (fun K hK => ?_) ?_
        · skip
          go_simp
          go_wp2_with ((go_at_call 37; (with_reducible refine (HN.out _ HB1.out).mono ?_); rintro e w3 ⟨rfl, hb3⟩; have HB3 := Lib.hid (below_next HB1.out hb3); clear hb3; have HRow3 : Hid (Row w3 (w.heap.size + 1) 26 zb) := HRow.out.keep HB3.out))
          refine wpAny_ready (rs := [12]) (by kernel_rfl) (by simp) ?_
          refine Go.BigFrame.allReady_want (o := { dst := none, op := Op.store 26 (Operand.tmp 8) (Operand.tmp 34), type := 0, pos := "tree.go:53", after := #[{ on := 11, ground := Ground.data }, { on := 11, ground := Ground.chain }, { on := 0, ground := Ground.phase }, { on := 1, ground := Ground.phase }, { on := 2, ground := Ground.phase }, { on := 3, ground := Ground.phase }, { on := 4, ground := Ground.phase }, { on := 5, ground := Ground.phase }, { on := 6, ground := Ground.phase }, { on := 7, ground := Ground.phase }, { on := 8, ground := Ground.phase }, { on := 9, ground := Ground.phase }, { on := 10, ground := Ground.phase }, { on := 11, ground := Ground.phase }], guard := none }) rfl (by rfl) (fun K hK => ?_) ?_
          · skip
            ((refine wp_store_dig _ _ rfl (w.heap.size + 1) tC HTL.out rfl rfl HRow3.out ?_))
            refine hK _ _ ?_
            clear hK K
            try simp only [Act.put, List.setIfInBounds_toArray, List.set_cons_zero, List.set_cons_succ]
            refine wpAny_done (by kernel_rfl) ?_ _
            ((go_wp2_with fail; exact bodyPost_ret (results_cell_row rfl _ _ (w.heap.size + 1) 26 (cellsOf tC).toArray (0, 0) _ rfl (HRow3.out.setRow _) Tryd.underlying26 rfl (size32' HTL.out)) rfl ⟨rfl, below_setRow (below_next HWB.out HB3.out) _ _ (by omega)⟩))
          exact AllReady.nil
        exact AllReady.nil
      exact AllReady.nil
    exact AllReady.nil
  refine Go.BigFrame.allReady_want (o := { dst := some 33, op := Op.load 26 (Operand.tmp 32), type := 26, pos := "tree.go:53", after := #[{ on := 9, ground := Ground.data }], guard := none }) rfl (by rfl) (fun K hK => ?_) ?_
  · skip
    ((refine wp_load_dig _ rfl b (off + last * 32) rfl pl HPL.out (by first | exact HLP.out _ HB1.out | exact HLP.out _ (Below.refl _ W).drew) ?_))
    refine hK _ _ ?_
    clear hK K
    try simp only [Act.put, List.setIfInBounds_toArray, List.set_cons_zero, List.set_cons_succ]
    refine wpAny_ready (rs := [0]) (by kernel_rfl) (by simp) ?_
    refine Go.BigFrame.allReady_want (o := { dst := some 23, op := Op.load 26 (Operand.tmp 4), type := 26, pos := "tree.go:53", after := #[], guard := none }) rfl (by rfl) (fun K hK => ?_) ?_
    · skip
      ((refine wp_load_dig _ rfl w.heap.size 0 rfl d HD.out (by first | exact HLD.out _ HB1.out | exact HLD.out _ (Below.refl _ W).drew) ?_))
      refine hK _ _ ?_
      clear hK K
      try simp only [Act.put, List.setIfInBounds_toArray, List.set_cons_zero, List.set_cons_succ]
      refine wpAny_ready (rs := [6]) (by kernel_rfl) (by simp) ?_
      refine Go.BigFrame.allReady_want (o := { dst := some 29, op := Op.call { callee := Callee.value (Operand.func 43), args := #[Operand.tmp 23, Operand.tmp 24, Operand.tmp 25, Operand.tmp 28], argTypes := #[26, 3, 3, 30] }, type := 26, pos := "tree.go:53", after := #[{ on := 0, ground := Ground.data }, { on := 1, ground := Ground.data }, { on := 2, ground := Ground.data }, { on := 5, ground := Ground.data }], guard := none }) rfl (by rfl) (fun K hK => ?_) ?_
      · skip
        go_simp
        go_wp2_with ((go_at_call 43; (with_reducible refine (HL.out _ ((Below.refl _ W).drew)).mono ?_); clear HL; rintro e w1 ⟨rfl, hb1⟩; have HB1 := Lib.hid (below_undrew hb1); clear hb1))
        refine wpAny_ready (rs := [11]) (by kernel_rfl) (by simp) ?_
        refine Go.BigFrame.allReady_want (o := { dst := some 34, op := Op.call { callee := Callee.value (Operand.func 37), args := #[Operand.tmp 29, Operand.tmp 33], argTypes := #[26, 26] }, type := 26, pos := "tree.go:53", after := #[{ on := 6, ground := Ground.data }, { on := 10, ground := Ground.data }, { on := 6, ground := Ground.chain }], guard := none }) rfl (by rfl) (fun K hK => ?_) ?_
        · skip
          go_simp
          go_wp2_with ((go_at_call 37; (with_reducible refine (HN.out _ HB1.out).mono ?_); rintro e w3 ⟨rfl, hb3⟩; have HB3 := Lib.hid (below_next HB1.out hb3); clear hb3; have HRow3 : Hid (Row w3 (w.heap.size + 1) 26 zb) := HRow.out.keep HB3.out))
          refine wpAny_ready (rs := [12]) (by kernel_rfl) (by simp) ?_
          refine Go.BigFrame.allReady_want (o := { dst := none, op := Op.store 26 (Operand.tmp 8) (Operand.tmp 34), type := 0, pos := "tree.go:53", after := #[{ on := 11, ground := Ground.data }, { on := 11, ground := Ground.chain }, { on := 0, ground := Ground.phase }, { on := 1, ground := Ground.phase }, { on := 2, ground := Ground.phase }, { on := 3, ground := Ground.phase }, { on := 4, ground := Ground.phase }, { on := 5, ground := Ground.phase }, { on := 6, ground := Ground.phase }, { on := 7, ground := Ground.phase }, { on := 8, ground := Ground.phase }, { on := 9, ground := Ground.phase }, { on := 10, ground := Ground.phase }, { on := 11, ground := Ground.phase }], guard := none }) rfl (by rfl) (fun K hK => ?_) ?_
          · skip
            ((refine wp_store_dig _ _ rfl (w.heap.size + 1) tC HTL.out rfl rfl HRow3.out ?_))
            refine hK _ _ ?_
            clear hK K
            try simp only [Act.put, List.setIfInBounds_toArray, List.set_cons_zero, List.set_cons_succ]
            refine wpAny_done (by kernel_rfl) ?_ _
            ((go_wp2_with fail; exact bodyPost_ret (results_cell_row rfl _ _ (w.heap.size + 1) 26 (cellsOf tC).toArray (0, 0) _ rfl (HRow3.out.setRow _) Tryd.underlying26 rfl (size32' HTL.out)) rfl ⟨rfl, below_setRow (below_next HWB.out HB3.out) _ _ (by omega)⟩))
          exact AllReady.nil
        exact AllReady.nil
      exact AllReady.nil
    exact AllReady.nil
  exact AllReady.nil
end Go.Proofs.YtjibhelahagliaaDoor
