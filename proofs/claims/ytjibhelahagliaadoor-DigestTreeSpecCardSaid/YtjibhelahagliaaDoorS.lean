/- What a path leads to: the program's function, to the right, and whole. -/
import Derived.Test.YtjibhelahagliaaDoorR
namespace Go.Proofs.YtjibhelahagliaaDoor
open Go.RowKit

set_option maxHeartbeats 1000000 in
set_option maxRecDepth 100000 in
theorem climb_call_r (d : List UInt8) (hd : d.length = 32) (k n q : Nat) (hn : 2 ≤ n) (hn2 : n ≤ 1099511627776) (hkn : k < n) (hq : q = hf n) (hk : q ≤ k) (ps : List (List UInt8)) (last : Nat) (hlast : ps.length = last + 1) (hl2 : last ≤ 40) (v : Value) (w : World) (hr : DRest w.heap.size w ps v) (hT : Tab w)
    (ih : ∀ (u : Value) (W : World), DRest W.heap.size W (ps.take last) u → Tab W → Calls Tryd.prog 43 #[dg d, .int .i64 ((k - q : Nat) : Int), .int .i64 ((n - q : Nat) : Int), u] W (RetD W (climb d (k - q) (n - q) (ps.take last)))) :
    Calls Tryd.prog 43 #[dg d, .int .i64 (k : Int), .int .i64 (n : Int), v] w (RetD w (nd (ps.getD last []) (climb d (k - q) (n - q) (ps.take last)))) := by
  obtain ⟨kk, hkk⟩ : ∃ kk, kk = k - q := ⟨_, rfl⟩
  obtain ⟨nn, hnn⟩ : ∃ nn, nn = n - q := ⟨_, rfl⟩
  rw [← hkk, ← hnn] at ih ⊢
  have HD := Lib.hid hd
  have HT := Lib.hid hT
  have hpl : (ps.getD last []).length = 32 := hr.1.get (by omega)
  obtain ⟨b, off, cap, rfl, hcap, hcap2, hb, hc⟩ := hr.some (by omega)
  have hq1 : q < n := by rw [hq]; exact hf_lt hn
  obtain ⟨W, hW⟩ : ∃ W, W = (w.alloc (.cells (cellsOf d).toArray 26)).alloc (.cells z32 26) := ⟨_, rfl⟩
  have hWb : Below w.heap.size w W := by rw [hW]; exact below2 w _ _
  have HRow : Hid (Row W (w.heap.size + 1) 26 zb) := by rw [hW]; exact row_at 26 zb _ (by simp)
  have HRowD : Hid (Row W w.heap.size 26 (cellsOf d)) := by rw [hW]; exact (row_new w 26 _).push _
  obtain ⟨pl, hpl2⟩ : ∃ pl, pl = ps.getD last [] := ⟨_, rfl⟩
  rw [← hpl2] at hpl ⊢
  have hrp : w.rangeAt b (off + last * 32) (cellsOf pl) := range_dig hpl (fun j hj => by rw [hpl2]; exact hc last (by omega) j hj)
  have hrpW : W.rangeAt b (off + last * 32) (cellsOf pl) := range_below hrp hWb hb
  have hbW : b < W.heap.size := Nat.lt_of_lt_of_le hb hWb.size
  have HL : Hid (∀ W' : World, Below W.heap.size W W' → Calls Tryd.prog 43 #[dg d, .int .i64 (kk : Int), .int .i64 (nn : Int), .slice (some ⟨b, off, none⟩) last cap] W' (RetD W' (climb d kk nn (ps.take last)))) := fun W' h => by
    have hb' := below_next hWb h
    have hp := drest_part (hr.keep hb') 0 last cap (by omega) (by omega) (Nat.le_refl _)
    rw [List.drop_zero, Nat.zero_mul, Nat.add_zero] at hp
    exact ih _ W' hp (HT.out.keep hb')
  obtain ⟨tA, htA⟩ : ∃ tA, tA = climb d kk nn (ps.take last) := ⟨_, rfl⟩
  have hlA : tA.length = 32 := by rw [htA]; exact climb_len _ _ _ _
  obtain ⟨tC, htC⟩ : ∃ tC, tC = nd pl tA := ⟨_, rfl⟩
  have HN : Hid (∀ W' : World, Below W.heap.size W W' → Calls Tryd.prog 37 #[dg pl, dg tA] W' (RetD W' tC)) := fun W' h => by
    rw [htC]
    exact node_call _ _ hpl hlA W' (HT.out.keep (below_next hWb h))
  have HF : Hid (∀ W' : World, Calls Tryd.prog 36 #[.int .i64 (n : Int)] W' fun e w' => e = .returned (.int .i64 (q : Int)) ∧ W' = w') := fun W' => by rw [hq]; exact first_call n W' hn (by omega)
  have HTL : Hid (tC.length = 32) := by rw [htC]; exact tagged_len _ _
  rw [← htA, ← htC]
  rw [← htA] at HL
  have hn1 : ¬ ((n : Int) = 1) := by omega
  have hwl : w.heap.size + 1 < W.heap.size := HRow.out.lt
  have hbne : b ≠ w.heap.size + 1 := by omega
  have HLD : Hid (∀ W' : World, Below W.heap.size W W' → ∀ j, j < 32 → W'.cell? ⟨w.heap.size, 0 + j, none⟩ = some (.int .u8 ((d.getD j 0).toNat : Int))) := fun W' h => row_cells (HRowD.out.keep h) HD.out
  have HLP : Hid (∀ W' : World, Below W.heap.size W W' → ∀ j, j < 32 → W'.cell? ⟨b, off + last * 32 + j, none⟩ = some (.int .u8 ((pl.getD j 0).toNat : Int))) := fun W' h j hj => by
    rw [(h.cell (p := ⟨b, off + last * 32 + j, none⟩) hbW), hrpW j (.int .u8 ((pl.getD j 0).toNat : Int)) (by rw [cellsOf_get (by omega)]; simp [show j < pl.length by omega])]
  have HPL := Lib.hid hpl
  have HWB := Lib.hid hWb
  have HW := Lib.hid hW
  have hlc : last ≤ cap := by omega
  have hlc2 : last < ps.length := by omega
  obtain ⟨m, hm⟩ : ∃ m, m = ps.length := ⟨_, rfl⟩
  rw [← hm] at hcap hlast ⊢
  have hi0 : (0:Int) ≤ (last:Int) := by omega
  have hi1 : (last:Int) < (m : Int) := by omega
  have hi2 : (last:Int) ≤ (cap : Int) := by omega
  have hwk : IntKind.i64.wrap ((k : Int) - (q : Int)) = (kk : Int) := by rw [IntKind.wrap_i64]; omega
  have hwn : IntKind.i64.wrap ((n : Int) - (q : Int)) = (nn : Int) := by rw [IntKind.wrap_i64]; omega
  have hnlt : ¬ ((k : Int) < (q : Int)) := by omega
  have hwm : IntKind.i64.wrap ((m : Int) - 1) = (last : Int) := by rw [IntKind.wrap_i64]; omega
  clear ih hr hT hc hWb hW htA htC hpl2 hq hlc2 hlast hlA hrp hrpW hm hpl hkk hnn
  unfold dg
  go_enter Tryd.func43, Tryd.ntmps43
  go_wp2_with (go_at_call 36; refine (HF.out _).mono ?_; rintro e w' ⟨rfl, rfl⟩)
  rw [← HW.out]
  refine wp_region_any (by kernel_rfl) ?_
  try (change wpAny _ _ _ _ _ _ _ (World.drew _))
  refine wpAny_take (i := 0) (oi := { dst := some 35, op := Op.move (Operand.tmp 3), type := 30, pos := "tree.go:55", after := #[], guard := none }) (v := ?_) rfl (by kernel_rfl) (by kernel_rfl) (by kernel_rfl) (fun _ _ _ h => h) (Or.inl ⟨by rfl, ?_⟩) ?_
  rotate_left
  · (intro w; go_simp; with_reducible rfl)
  try simp only [Act.put, List.setIfInBounds_toArray, List.set_cons_zero, List.set_cons_succ]
  refine wpAny_take (i := 1) (oi := { dst := some 36, op := Op.move (Operand.tmp 10), type := 3, pos := "tree.go:55", after := #[], guard := none }) (v := ?_) rfl (by kernel_rfl) (by kernel_rfl) (by kernel_rfl) (fun _ _ _ h => h) (Or.inl ⟨by rfl, ?_⟩) ?_
  rotate_left
  · (intro w; go_simp; with_reducible rfl)
  try simp only [Act.put, List.setIfInBounds_toArray, List.set_cons_zero, List.set_cons_succ]
  refine wpAny_take (i := 2) (oi := { dst := some 37, op := Op.indexAddr 30 (Operand.tmp 35) (Operand.tmp 36), type := 0, pos := "tree.go:55", after := #[{ on := 0, ground := Ground.data }, { on := 1, ground := Ground.data }], guard := none }) (v := ?_) rfl (by kernel_rfl) (by kernel_rfl) (by kernel_rfl) (fun _ _ _ h => h) (Or.inl ⟨by rfl, ?_⟩) ?_
  rotate_left
  · (intro w; go_simp; with_reducible rfl)
  try simp only [Act.put, List.setIfInBounds_toArray, List.set_cons_zero, List.set_cons_succ]
  refine wpAny_take (i := 5) (oi := { dst := some 40, op := Op.move (Operand.tmp 1), type := 3, pos := "tree.go:55", after := #[], guard := none }) (v := ?_) rfl (by kernel_rfl) (by kernel_rfl) (by kernel_rfl) (fun _ _ _ h => h) (Or.inl ⟨by rfl, ?_⟩) ?_
  rotate_left
  · (intro w; go_simp; with_reducible rfl)
  try simp only [Act.put, List.setIfInBounds_toArray, List.set_cons_zero, List.set_cons_succ]
  refine wpAny_take (i := 6) (oi := { dst := some 41, op := Op.move (Operand.tmp 9), type := 3, pos := "tree.go:55", after := #[], guard := none }) (v := ?_) rfl (by kernel_rfl) (by kernel_rfl) (by kernel_rfl) (fun _ _ _ h => h) (Or.inl ⟨by rfl, ?_⟩) ?_
  rotate_left
  · (intro w; go_simp; with_reducible rfl)
  try simp only [Act.put, List.setIfInBounds_toArray, List.set_cons_zero, List.set_cons_succ]
  refine wpAny_take (i := 7) (oi := { dst := some 42, op := Op.binOp BinOp.sub 3 (Operand.tmp 40) (Operand.tmp 41) 3, type := 3, pos := "tree.go:55", after := #[{ on := 5, ground := Ground.data }, { on := 6, ground := Ground.data }], guard := none }) (v := ?_) rfl (by kernel_rfl) (by kernel_rfl) (by kernel_rfl) (fun _ _ _ h => h) (Or.inl ⟨by rfl, ?_⟩) ?_
  rotate_left
  · (intro w; go_simp; with_reducible rfl)
  try simp only [Act.put, List.setIfInBounds_toArray, List.set_cons_zero, List.set_cons_succ]
  refine wpAny_take (i := 8) (oi := { dst := some 43, op := Op.move (Operand.tmp 2), type := 3, pos := "tree.go:55", after := #[], guard := none }) (v := ?_) rfl (by kernel_rfl) (by kernel_rfl) (by kernel_rfl) (fun _ _ _ h => h) (Or.inl ⟨by rfl, ?_⟩) ?_
  rotate_left
  · (intro w; go_simp; with_reducible rfl)
  try simp only [Act.put, List.setIfInBounds_toArray, List.set_cons_zero, List.set_cons_succ]
  refine wpAny_take (i := 9) (oi := { dst := some 44, op := Op.move (Operand.tmp 9), type := 3, pos := "tree.go:55", after := #[], guard := none }) (v := ?_) rfl (by kernel_rfl) (by kernel_rfl) (by kernel_rfl) (fun _ _ _ h => h) (Or.inl ⟨by rfl, ?_⟩) ?_
  rotate_left
  · (intro w; go_simp; with_reducible rfl)
  try simp only [Act.put, List.setIfInBounds_toArray, List.set_cons_zero, List.set_cons_succ]
  refine wpAny_take (i := 10) (oi := { dst := some 45, op := Op.binOp BinOp.sub 3 (Operand.tmp 43) (Operand.tmp 44) 3, type := 3, pos := "tree.go:55", after := #[{ on := 8, ground := Ground.data }, { on := 9, ground := Ground.data }], guard := none }) (v := ?_) rfl (by kernel_rfl) (by kernel_rfl) (by kernel_rfl) (fun _ _ _ h => h) (Or.inl ⟨by rfl, ?_⟩) ?_
  rotate_left
  · (intro w; go_simp; with_reducible rfl)
  try simp only [Act.put, List.setIfInBounds_toArray, List.set_cons_zero, List.set_cons_succ]
  refine wpAny_take (i := 11) (oi := { dst := some 46, op := Op.move (Operand.tmp 3), type := 30, pos := "tree.go:55", after := #[], guard := none }) (v := ?_) rfl (by kernel_rfl) (by kernel_rfl) (by kernel_rfl) (fun _ _ _ h => h) (Or.inl ⟨by rfl, ?_⟩) ?_
  rotate_left
  · (intro w; go_simp; with_reducible rfl)
  try simp only [Act.put, List.setIfInBounds_toArray, List.set_cons_zero, List.set_cons_succ]
  refine wpAny_take (i := 12) (oi := { dst := some 47, op := Op.move (Operand.tmp 10), type := 3, pos := "tree.go:55", after := #[], guard := none }) (v := ?_) rfl (by kernel_rfl) (by kernel_rfl) (by kernel_rfl) (fun _ _ _ h => h) (Or.inl ⟨by rfl, ?_⟩) ?_
  rotate_left
  · (intro w; go_simp; with_reducible rfl)
  try simp only [Act.put, List.setIfInBounds_toArray, List.set_cons_zero, List.set_cons_succ]
  refine wpAny_take (i := 13) (oi := { dst := some 48, op := Op.slice 30 (Operand.tmp 46) none (some (Operand.tmp 47)) none, type := 30, pos := "tree.go:55", after := #[{ on := 11, ground := Ground.data }, { on := 12, ground := Ground.data }], guard := none }) (v := ?_) rfl (by kernel_rfl) (by kernel_rfl) (by kernel_rfl) (fun _ _ _ h => h) (Or.inl ⟨by rfl, ?_⟩) ?_
  rotate_left
  · (intro w; go_simp; with_reducible rfl)
  try simp only [Act.put, List.setIfInBounds_toArray, List.set_cons_zero, List.set_cons_succ]
  refine wpAny_ready (rs := [3, 4]) (by kernel_rfl) (by simp) ?_
  refine Go.BigFrame.allReady_want (o := { dst := some 38, op := Op.load 26 (Operand.tmp 37), type := 26, pos := "tree.go:55", after := #[{ on := 2, ground := Ground.data }], guard := none }) rfl (by rfl) (fun K hK => ?_) ?_
  · skip
    ((refine wp_load_dig _ rfl b (off + last * 32) rfl pl HPL.out (by first | exact HLP.out _ HB1.out | exact HLP.out _ (Below.refl _ W).drew) ?_))
    refine hK _ _ ?_
    clear hK K
    try simp only [Act.put, List.setIfInBounds_toArray, List.set_cons_zero, List.set_cons_succ]
    refine wpAny_ready (rs := [4]) (by kernel_rfl) (by simp) ?_
    refine Go.BigFrame.allReady_want (o := { dst := some 39, op := Op.load 26 (Operand.tmp 4), type := 26, pos := "tree.go:55", after := #[], guard := none }) rfl (by rfl) (fun K hK => ?_) ?_
    · skip
      ((refine wp_load_dig _ rfl w.heap.size 0 rfl d HD.out (by first | exact HLD.out _ HB1.out | exact HLD.out _ (Below.refl _ W).drew) ?_))
      refine hK _ _ ?_
      clear hK K
      try simp only [Act.put, List.setIfInBounds_toArray, List.set_cons_zero, List.set_cons_succ]
      refine wpAny_ready (rs := [14]) (by kernel_rfl) (by simp) ?_
      refine Go.BigFrame.allReady_want (o := { dst := some 49, op := Op.call { callee := Callee.value (Operand.func 43), args := #[Operand.tmp 39, Operand.tmp 42, Operand.tmp 45, Operand.tmp 48], argTypes := #[26, 3, 3, 30] }, type := 26, pos := "tree.go:55", after := #[{ on := 4, ground := Ground.data }, { on := 7, ground := Ground.data }, { on := 10, ground := Ground.data }, { on := 13, ground := Ground.data }], guard := none }) rfl (by rfl) (fun K hK => ?_) ?_
      · skip
        go_simp
        go_wp2_with ((go_at_call 43; (with_reducible refine (HL.out _ ((Below.refl _ W).drew)).mono ?_); clear HL; rintro e w1 ⟨rfl, hb1⟩; have HB1 := Lib.hid (below_undrew hb1); clear hb1))
        refine wpAny_ready (rs := [15]) (by kernel_rfl) (by simp) ?_
        refine Go.BigFrame.allReady_want (o := { dst := some 50, op := Op.call { callee := Callee.value (Operand.func 37), args := #[Operand.tmp 38, Operand.tmp 49], argTypes := #[26, 26] }, type := 26, pos := "tree.go:55", after := #[{ on := 3, ground := Ground.data }, { on := 14, ground := Ground.data }, { on := 14, ground := Ground.chain }], guard := none }) rfl (by rfl) (fun K hK => ?_) ?_
        · skip
          go_simp
          go_wp2_with ((go_at_call 37; (with_reducible refine (HN.out _ HB1.out).mono ?_); rintro e w3 ⟨rfl, hb3⟩; have HB3 := Lib.hid (below_next HB1.out hb3); clear hb3; have HRow3 : Hid (Row w3 (w.heap.size + 1) 26 zb) := HRow.out.keep HB3.out))
          refine wpAny_ready (rs := [16]) (by kernel_rfl) (by simp) ?_
          refine Go.BigFrame.allReady_want (o := { dst := none, op := Op.store 26 (Operand.tmp 8) (Operand.tmp 50), type := 0, pos := "tree.go:55", after := #[{ on := 15, ground := Ground.data }, { on := 15, ground := Ground.chain }, { on := 0, ground := Ground.phase }, { on := 1, ground := Ground.phase }, { on := 2, ground := Ground.phase }, { on := 3, ground := Ground.phase }, { on := 4, ground := Ground.phase }, { on := 5, ground := Ground.phase }, { on := 6, ground := Ground.phase }, { on := 7, ground := Ground.phase }, { on := 8, ground := Ground.phase }, { on := 9, ground := Ground.phase }, { on := 10, ground := Ground.phase }, { on := 11, ground := Ground.phase }, { on := 12, ground := Ground.phase }, { on := 13, ground := Ground.phase }, { on := 14, ground := Ground.phase }, { on := 15, ground := Ground.phase }], guard := none }) rfl (by rfl) (fun K hK => ?_) ?_
          · skip
            ((refine wp_store_dig _ _ rfl (w.heap.size + 1) tC HTL.out rfl rfl HRow3.out ?_))
            refine hK _ _ ?_
            clear hK K
            try simp only [Act.put, List.setIfInBounds_toArray, List.set_cons_zero, List.set_cons_succ]
            refine wpAny_done (by kernel_rfl) ?_ _
            ((go_wp2_with fail; exact bodyPost_ret (results_cell_row rfl _ _ (w.heap.size + 1) 26 (cellsOf tC).toArray (0, 0) _ rfl (HRow3.out.setRow _) Tryd.underlying26 rfl (size32' HTL.out)) rfl ⟨rfl, below_setRow (below_next HWB.out HB3.out) _ _ (by omega)⟩))
          exact AllReady.nil
        exact AllReady.nil
      exact AllReady.nil
    exact AllReady.nil
  refine Go.BigFrame.allReady_want (o := { dst := some 39, op := Op.load 26 (Operand.tmp 4), type := 26, pos := "tree.go:55", after := #[], guard := none }) rfl (by rfl) (fun K hK => ?_) ?_
  · skip
    ((refine wp_load_dig _ rfl w.heap.size 0 rfl d HD.out (by first | exact HLD.out _ HB1.out | exact HLD.out _ (Below.refl _ W).drew) ?_))
    refine hK _ _ ?_
    clear hK K
    try simp only [Act.put, List.setIfInBounds_toArray, List.set_cons_zero, List.set_cons_succ]
    refine wpAny_ready (rs := [3, 14]) (by kernel_rfl) (by simp) ?_
    refine Go.BigFrame.allReady_want (o := { dst := some 38, op := Op.load 26 (Operand.tmp 37), type := 26, pos := "tree.go:55", after := #[{ on := 2, ground := Ground.data }], guard := none }) rfl (by rfl) (fun K hK => ?_) ?_
    · skip
      ((refine wp_load_dig _ rfl b (off + last * 32) rfl pl HPL.out (by first | exact HLP.out _ HB1.out | exact HLP.out _ (Below.refl _ W).drew) ?_))
      refine hK _ _ ?_
      clear hK K
      try simp only [Act.put, List.setIfInBounds_toArray, List.set_cons_zero, List.set_cons_succ]
      refine wpAny_ready (rs := [14]) (by kernel_rfl) (by simp) ?_
      refine Go.BigFrame.allReady_want (o := { dst := some 49, op := Op.call { callee := Callee.value (Operand.func 43), args := #[Operand.tmp 39, Operand.tmp 42, Operand.tmp 45, Operand.tmp 48], argTypes := #[26, 3, 3, 30] }, type := 26, pos := "tree.go:55", after := #[{ on := 4, ground := Ground.data }, { on := 7, ground := Ground.data }, { on := 10, ground := Ground.data }, { on := 13, ground := Ground.data }], guard := none }) rfl (by rfl) (fun K hK => ?_) ?_
      · skip
        go_simp
        go_wp2_with ((go_at_call 43; (with_reducible refine (HL.out _ ((Below.refl _ W).drew)).mono ?_); clear HL; rintro e w1 ⟨rfl, hb1⟩; have HB1 := Lib.hid (below_undrew hb1); clear hb1))
        refine wpAny_ready (rs := [15]) (by kernel_rfl) (by simp) ?_
        refine Go.BigFrame.allReady_want (o := { dst := some 50, op := Op.call { callee := Callee.value (Operand.func 37), args := #[Operand.tmp 38, Operand.tmp 49], argTypes := #[26, 26] }, type := 26, pos := "tree.go:55", after := #[{ on := 3, ground := Ground.data }, { on := 14, ground := Ground.data }, { on := 14, ground := Ground.chain }], guard := none }) rfl (by rfl) (fun K hK => ?_) ?_
        · skip
          go_simp
          go_wp2_with ((go_at_call 37; (with_reducible refine (HN.out _ HB1.out).mono ?_); rintro e w3 ⟨rfl, hb3⟩; have HB3 := Lib.hid (below_next HB1.out hb3); clear hb3; have HRow3 : Hid (Row w3 (w.heap.size + 1) 26 zb) := HRow.out.keep HB3.out))
          refine wpAny_ready (rs := [16]) (by kernel_rfl) (by simp) ?_
          refine Go.BigFrame.allReady_want (o := { dst := none, op := Op.store 26 (Operand.tmp 8) (Operand.tmp 50), type := 0, pos := "tree.go:55", after := #[{ on := 15, ground := Ground.data }, { on := 15, ground := Ground.chain }, { on := 0, ground := Ground.phase }, { on := 1, ground := Ground.phase }, { on := 2, ground := Ground.phase }, { on := 3, ground := Ground.phase }, { on := 4, ground := Ground.phase }, { on := 5, ground := Ground.phase }, { on := 6, ground := Ground.phase }, { on := 7, ground := Ground.phase }, { on := 8, ground := Ground.phase }, { on := 9, ground := Ground.phase }, { on := 10, ground := Ground.phase }, { on := 11, ground := Ground.phase }, { on := 12, ground := Ground.phase }, { on := 13, ground := Ground.phase }, { on := 14, ground := Ground.phase }, { on := 15, ground := Ground.phase }], guard := none }) rfl (by rfl) (fun K hK => ?_) ?_
          · skip
            ((refine wp_store_dig _ _ rfl (w.heap.size + 1) tC HTL.out rfl rfl HRow3.out ?_))
            refine hK _ _ ?_
            clear hK K
            try simp only [Act.put, List.setIfInBounds_toArray, List.set_cons_zero, List.set_cons_succ]
            refine wpAny_done (by kernel_rfl) ?_ _
            ((go_wp2_with fail; exact bodyPost_ret (results_cell_row rfl _ _ (w.heap.size + 1) 26 (cellsOf tC).toArray (0, 0) _ rfl (HRow3.out.setRow _) Tryd.underlying26 rfl (size32' HTL.out)) rfl ⟨rfl, below_setRow (below_next HWB.out HB3.out) _ _ (by omega)⟩))
          exact AllReady.nil
        exact AllReady.nil
      exact AllReady.nil
    refine Go.BigFrame.allReady_want (o := { dst := some 49, op := Op.call { callee := Callee.value (Operand.func 43), args := #[Operand.tmp 39, Operand.tmp 42, Operand.tmp 45, Operand.tmp 48], argTypes := #[26, 3, 3, 30] }, type := 26, pos := "tree.go:55", after := #[{ on := 4, ground := Ground.data }, { on := 7, ground := Ground.data }, { on := 10, ground := Ground.data }, { on := 13, ground := Ground.data }], guard := none }) rfl (by rfl) (fun K hK => ?_) ?_
    · skip
      go_simp
      go_wp2_with ((go_at_call 43; (with_reducible refine (HL.out _ ((Below.refl _ W).drew)).mono ?_); clear HL; rintro e w1 ⟨rfl, hb1⟩; have HB1 := Lib.hid (below_undrew hb1); clear hb1))
      refine wpAny_ready (rs := [3]) (by kernel_rfl) (by simp) ?_
      refine Go.BigFrame.allReady_want (o := { dst := some 38, op := Op.load 26 (Operand.tmp 37), type := 26, pos := "tree.go:55", after := #[{ on := 2, ground := Ground.data }], guard := none }) rfl (by rfl) (fun K hK => ?_) ?_
      · skip
        ((refine wp_load_dig _ rfl b (off + last * 32) rfl pl HPL.out (by first | exact HLP.out _ HB1.out | exact HLP.out _ (Below.refl _ W).drew) ?_))
        refine hK _ _ ?_
        clear hK K
        try simp only [Act.put, List.setIfInBounds_toArray, List.set_cons_zero, List.set_cons_succ]
        refine wpAny_ready (rs := [15]) (by kernel_rfl) (by simp) ?_
        refine Go.BigFrame.allReady_want (o := { dst := some 50, op := Op.call { callee := Callee.value (Operand.func 37), args := #[Operand.tmp 38, Operand.tmp 49], argTypes := #[26, 26] }, type := 26, pos := "tree.go:55", after := #[{ on := 3, ground := Ground.data }, { on := 14, ground := Ground.data }, { on := 14, ground := Ground.chain }], guard := none }) rfl (by rfl) (fun K hK => ?_) ?_
        · skip
          go_simp
          go_wp2_with ((go_at_call 37; (with_reducible refine (HN.out _ HB1.out).mono ?_); rintro e w3 ⟨rfl, hb3⟩; have HB3 := Lib.hid (below_next HB1.out hb3); clear hb3; have HRow3 : Hid (Row w3 (w.heap.size + 1) 26 zb) := HRow.out.keep HB3.out))
          refine wpAny_ready (rs := [16]) (by kernel_rfl) (by simp) ?_
          refine Go.BigFrame.allReady_want (o := { dst := none, op := Op.store 26 (Operand.tmp 8) (Operand.tmp 50), type := 0, pos := "tree.go:55", after := #[{ on := 15, ground := Ground.data }, { on := 15, ground := Ground.chain }, { on := 0, ground := Ground.phase }, { on := 1, ground := Ground.phase }, { on := 2, ground := Ground.phase }, { on := 3, ground := Ground.phase }, { on := 4, ground := Ground.phase }, { on := 5, ground := Ground.phase }, { on := 6, ground := Ground.phase }, { on := 7, ground := Ground.phase }, { on := 8, ground := Ground.phase }, { on := 9, ground := Ground.phase }, { on := 10, ground := Ground.phase }, { on := 11, ground := Ground.phase }, { on := 12, ground := Ground.phase }, { on := 13, ground := Ground.phase }, { on := 14, ground := Ground.phase }, { on := 15, ground := Ground.phase }], guard := none }) rfl (by rfl) (fun K hK => ?_) ?_
          · skip
            ((refine wp_store_dig _ _ rfl (w.heap.size + 1) tC HTL.out rfl rfl HRow3.out ?_))
            refine hK _ _ ?_
            clear hK K
            try simp only [Act.put, List.setIfInBounds_toArray, List.set_cons_zero, List.set_cons_succ]
            refine wpAny_done (by kernel_rfl) ?_ _
            ((go_wp2_with fail; exact bodyPost_ret (results_cell_row rfl _ _ (w.heap.size + 1) 26 (cellsOf tC).toArray (0, 0) _ rfl (HRow3.out.setRow _) Tryd.underlying26 rfl (size32' HTL.out)) rfl ⟨rfl, below_setRow (below_next HWB.out HB3.out) _ _ (by omega)⟩))
          exact AllReady.nil
        exact AllReady.nil
      exact AllReady.nil
    exact AllReady.nil
  exact AllReady.nil

theorem take_last {l : List (List UInt8)} {m : Nat} (h : l.length = m + 1) : l.dropLast = l.take m ∧ l.getLastD [] = l.getD m [] := by
  refine ⟨by rw [List.dropLast_eq_take, h]; rfl, ?_⟩
  rw [List.getLastD_eq_getLast?, List.getLast?_eq_getElem?, h, List.getD_eq_getElem?_getD]; rfl

theorem climb_call (d : List UInt8) (hd : d.length = 32) (n : Nat) : ∀ (k : Nat) (ps : List (List UInt8)) (v : Value) (w : World), k < n → n ≤ 1099511627776 → ps.length = steps k n → DRest w.heap.size w ps v → Tab w →
    Calls Tryd.prog 43 #[dg d, .int .i64 (k : Int), .int .i64 (n : Int), v] w (RetD w (climb d k n ps)) := by
  induction n using Nat.strongRecOn with
  | ind n ih =>
    intro k ps v w hk hn hl hr hT
    by_cases h1 : n ≤ 1
    · have e : n = 1 := by omega
      subst e
      rw [climb_1 d k 1 ps (by omega)]
      exact climb_call_1 d hd k v w hT
    · have hs40 : steps k n ≤ 40 := steps_le 40 k n (by omega)
      by_cases hq : k < hf n
      · rw [steps_l k n (by omega) hq] at hl hs40
        rw [climb_l d k n ps (by omega) hq, (take_last hl).1, (take_last hl).2]
        refine climb_call_l d hd k n (hf n) (by omega) hn rfl hq ps (steps k (hf n)) hl (by omega) v w hr hT fun u W hu hW => ?_
        have := hf_lt (n := n) (by omega)
        exact ih (hf n) this k _ u W hq (by omega) (by rw [List.length_take]; omega) hu hW
      · rw [steps_r k n (by omega) hq] at hl hs40
        rw [climb_r d k n ps (by omega) hq, (take_last hl).1, (take_last hl).2]
        have h2 := hf_lt (n := n) (by omega)
        have h3 := hf_pos (n := n) (by omega)
        refine climb_call_r d hd k n (hf n) (by omega) hn hk rfl (by omega) ps (steps (k - hf n) (n - hf n)) hl (by omega) v w hr hT fun u W hu hW => ?_
        exact ih (n - hf n) (by omega) (k - hf n) _ u W (by omega) (by omega) (by rw [List.length_take]; omega) hu hW
end Go.Proofs.YtjibhelahagliaaDoor
