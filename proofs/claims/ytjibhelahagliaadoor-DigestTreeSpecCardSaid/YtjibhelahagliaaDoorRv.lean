/- Nodes, the digest of a list, lengths of paths: the reference's functions. -/
import Derived.Test.YtjibhelahagliaaDoorRu
import Derived.Test.YtjibhelahagliaaDoorHa
import Derived.Test.YtjibhelahagliaaDoorO
import Derived.Deep.RegionLaw
import Derived.Deep.RegionHeld
import Derived.BigRegion
namespace Go.Proofs.YtjibhelahagliaaDoor
open Go.RowKit

set_option maxHeartbeats 4000000 in
set_option maxRecDepth 100000 in
theorem refnode_call (x y : List UInt8) (hx : x.length = 32) (hy : y.length = 32) (w : World) : Calls Tryd.prog 39 #[dg x, dg y] w (RetD w (nodeD x y)) := by
  obtain ⟨d2, hd2⟩ : ∃ d2, d2 = nodeD x y := ⟨_, rfl⟩
  have HLT : Hid (d2.length = 32) := by rw [hd2]; exact tagged_len _ _
  have HTG : Hid (∀ (W' : World) (u : Value), Rest W'.heap.size W' (x ++ y) u → Calls Tryd.prog 15 #[.string ⟨#[110, 111, 100, 101]⟩, u] W' (RetD W' d2)) := fun W' u h => by
    rw [hd2]
    exact reftagged_call ⟨#[110, 111, 100, 101]⟩ (x ++ y) u W' (by decide) (by rw [List.length_append, hx, hy]; omega) h
  rw [← hd2]
  have HLX := Lib.hid hx
  have HLY := Lib.hid hy
  have HL1 : Hid (([] : List UInt8).length + x.length ≤ 70368744177664) := by show ([] : List UInt8).length + x.length ≤ 70368744177664; rw [hx]; simp
  have HL2 : Hid (x.length + y.length ≤ 70368744177664) := by show x.length + y.length ≤ 70368744177664; rw [hx, hy]; omega
  have HB0 := Lib.hid (Below.refl w.heap.size w)
  clear hd2 hx hy
  go_enter Tryd.func39, Tryd.ntmps39
  go_wp2_with (first
    | (refine wpList_box_u rfl 2 rfl (.tmp 0) rfl (cellsOf x) rfl ?_; intro g2 w1 hg hrow hb; have H2 := Lib.hid hrow; have HB0 := Lib.hid (below_next HB0.out hb); clear hg hrow hb)
    | (refine wpList_box_u rfl 3 rfl (.tmp 1) rfl (cellsOf y) rfl ?_; intro g3 w2 hg hrow hb; have H3 := Lib.hid hrow; have H2 := Lib.hid (H2.out.keep hb); have HB0 := Lib.hid (below_next HB0.out hb); clear hg hrow hb)
    | (refine wpList_alloc_dig rfl 4 rfl rfl ?_; intro g4 w3 hg hrow hb; have H4 := Lib.hid hrow; have hg4 : w.heap.size ≤ g4 := (by have := HB0.out.size; omega); have H2 := Lib.hid (H2.out.keep hb); have H3 := Lib.hid (H3.out.keep hb); have HB0 := Lib.hid (below_next HB0.out hb); clear hg hrow hb)
    | fail)
  refine wp_region_any (by kernel_rfl) ?_
  try (change wpAny _ _ _ _ _ _ _ (World.drew _))
  (obtain ⟨w0, hw0⟩ : ∃ x, x = w3.drew := ⟨_, rfl⟩; rw [← hw0]; have HBZ : Hid (Below w3.heap.size w3 w0) := (by rw [hw0]; exact (Below.refl _ w3).drew); clear hw0)
  refine wpAny_take (i := 1) (oi := { dst := some 6, op := Op.slice 26 (Operand.tmp 2) none none none, type := 22, pos := "ref.go:92", after := #[], guard := none }) (v := ?_) rfl (by kernel_rfl) (by kernel_rfl) (by kernel_rfl) (fun _ _ _ h => h) (Or.inl ⟨by rfl, ?_⟩) ?_
  rotate_left
  · (intro w; go_simp; with_reducible rfl)
  try simp only [Act.put, List.setIfInBounds_toArray, List.set_cons_zero, List.set_cons_succ]
  refine wpAny_take (i := 3) (oi := { dst := some 8, op := Op.slice 26 (Operand.tmp 3) none none none, type := 22, pos := "ref.go:92", after := #[], guard := none }) (v := ?_) rfl (by kernel_rfl) (by kernel_rfl) (by kernel_rfl) (fun _ _ _ h => h) (Or.inl ⟨by rfl, ?_⟩) ?_
  rotate_left
  · (intro w; go_simp; with_reducible rfl)
  try simp only [Act.put, List.setIfInBounds_toArray, List.set_cons_zero, List.set_cons_succ]
  refine wpAny_ready (rs := [0]) (by kernel_rfl) (by simp) ?_
  refine Go.BigFrame.allReady_want (o := { dst := some 5, op := Op.buildSlice 22 0 #[], type := 22, pos := "ref.go:92", after := #[], guard := none }) rfl (by rfl) (fun K hK => ?_) ?_
  · skip
    ((refine wp_none' rfl HBZ.out ?_; intro v5 w5 hn; have HN := Lib.hid hn; have HBZ := Lib.hid hn.2.1; clear hn))
    refine hK _ _ ?_
    clear hK K
    try simp only [Act.put, List.setIfInBounds_toArray, List.set_cons_zero, List.set_cons_succ]
    refine wpAny_ready (rs := [2]) (by kernel_rfl) (by simp) ?_
    refine Go.BigFrame.allReady_want (o := { dst := some 7, op := Op.call { callee := Callee.builtin Builtin.append, args := #[Operand.tmp 5, Operand.tmp 6], argTypes := #[22, 22] }, type := 22, pos := "ref.go:92", after := #[{ on := 0, ground := Ground.data }, { on := 1, ground := Ground.data }], guard := none }) rfl (by rfl) (fun K hK => ?_) ?_
    · skip
      ((refine wp_buf' rfl _ _ rfl v5 [] rfl HN.out _ _ x rfl (row_rest32 (H2.out.keep HBZ.out) HLX.out) HL1.out ?_; intro v7 w7 hn; have HN : Hid (New w3 w7 v7 x) := hn; have HBZ := Lib.hid hn.2.1; clear hn))
      refine hK _ _ ?_
      clear hK K
      try simp only [Act.put, List.setIfInBounds_toArray, List.set_cons_zero, List.set_cons_succ]
      refine wpAny_ready (rs := [4]) (by kernel_rfl) (by simp) ?_
      refine Go.BigFrame.allReady_want (o := { dst := some 9, op := Op.call { callee := Callee.builtin Builtin.append, args := #[Operand.tmp 7, Operand.tmp 8], argTypes := #[22, 22] }, type := 22, pos := "ref.go:92", after := #[{ on := 2, ground := Ground.data }, { on := 3, ground := Ground.data }, { on := 2, ground := Ground.chain }], guard := none }) rfl (by rfl) (fun K hK => ?_) ?_
      · skip
        ((refine wp_buf' rfl _ _ rfl v7 x rfl HN.out _ _ y rfl (row_rest32 (H3.out.keep HBZ.out) HLY.out) HL2.out ?_; intro v9 w9 hn; have HN := Lib.hid hn; have HBZ := Lib.hid hn.2.1; clear hn))
        refine hK _ _ ?_
        clear hK K
        try simp only [Act.put, List.setIfInBounds_toArray, List.set_cons_zero, List.set_cons_succ]
        refine wpAny_ready (rs := [5]) (by kernel_rfl) (by simp) ?_
        refine Go.BigFrame.allReady_want (o := { dst := some 10, op := Op.call { callee := Callee.value (Operand.func 15), args := #[Operand.const (Value.string { data := #[110, 111, 100, 101] }), Operand.tmp 9], argTypes := #[9, 22] }, type := 26, pos := "ref.go:92", after := #[{ on := 4, ground := Ground.data }, { on := 4, ground := Ground.chain }], guard := none }) rfl (by rfl) (fun K hK => ?_) ?_
        · skip
          go_simp
          go_wp2_with ((go_at_call 15; (refine (HTG.out _ _ (buf_rest' HN.out.1)).mono ?_); rintro e w10 ⟨rfl, hb⟩; have HBZ := Lib.hid (below_next HBZ.out hb); have H4E := Lib.hid (H4.out.keep HBZ.out); have HBE0 := Lib.hid (below_next HB0.out HBZ.out); clear hb))
          refine wpAny_ready (rs := [6]) (by kernel_rfl) (by simp) ?_
          refine Go.BigFrame.allReady_want (o := { dst := none, op := Op.store 26 (Operand.tmp 4) (Operand.tmp 10), type := 0, pos := "ref.go:92", after := #[{ on := 5, ground := Ground.data }, { on := 5, ground := Ground.chain }, { on := 0, ground := Ground.phase }, { on := 1, ground := Ground.phase }, { on := 2, ground := Ground.phase }, { on := 3, ground := Ground.phase }, { on := 4, ground := Ground.phase }, { on := 5, ground := Ground.phase }], guard := none }) rfl (by rfl) (fun K hK => ?_) ?_
          · skip
            ((refine wp_store_dig' _ _ rfl g4 d2 HLT.out rfl rfl H4E.out HBE0.out hg4 ?_; intro wE hrow hb hoth; have HRE := Lib.hid hrow; have HBE := Lib.hid hb; clear hrow hb hoth))
            refine hK _ _ ?_
            clear hK K
            try simp only [Act.put, List.setIfInBounds_toArray, List.set_cons_zero, List.set_cons_succ]
            refine wpAny_done (by kernel_rfl) ?_ _
            ((go_wp2_with fail; exact bodyPost_ret (results_cell_row rfl _ _ g4 26 (cellsOf d2).toArray (0, 0) _ rfl HRE.out Tryd.underlying26 rfl (size32' HLT.out)) rfl ⟨rfl, HBE.out⟩))
          exact AllReady.nil
        exact AllReady.nil
      exact AllReady.nil
    exact AllReady.nil
  exact AllReady.nil

set_option maxHeartbeats 4000000 in
set_option maxRecDepth 100000 in
theorem reftree_0 (a : Option Addr) (cap : Nat) (w : World) : Calls Tryd.prog 18 #[.slice a 0 cap] w (RetD w (tree [])) := by
  obtain ⟨res, hres⟩ : ∃ res, res = tree [] := ⟨_, rfl⟩
  have HLR : Hid (res.length = 32) := by rw [hres]; exact tree_len _
  have HTG : Hid (∀ W' : World, Calls Tryd.prog 15 #[.string ⟨#[101, 109, 112, 116, 121]⟩, .slice none 0 0] W' (RetD W' res)) := fun W' => by
    rw [hres, tree_0]
    exact reftagged_call ⟨#[101, 109, 112, 116, 121]⟩ [] _ W' (by decide) (by simp) (rest_nil _ _)
  rw [← hres]
  have HB0 := Lib.hid (Below.refl w.heap.size w)
  clear hres
  go_enter Tryd.func18, Tryd.ntmps18
  go_wp2_with (first
    | (refine wpList_alloc_dig rfl 2 rfl rfl ?_; intro g2 w1 hg hrow hb; have H2 := Lib.hid hrow; have hg2 : w.heap.size ≤ g2 := (by omega); have HB0 := Lib.hid (below_next HB0.out hb); clear hg hrow hb)
    | (go_at_call 15; (refine (HTG.out _).mono ?_); rintro e w2 ⟨rfl, hb⟩; have H2 := Lib.hid (H2.out.keep hb); have HB0 := Lib.hid (below_next HB0.out hb); clear hb)
    | (refine wpList_store_dig rfl (.tmp 2) (.tmp 7) rfl g2 res HLR.out rfl rfl H2.out HB0.out hg2 ?_; intro wE hrow hb hoth; have HRE := Lib.hid hrow; have HBE := Lib.hid hb; clear hrow hb hoth)
    | fail)
  exact bodyPost_ret (results_cell_row rfl _ _ g2 26 (cellsOf res).toArray (0, 0) _ rfl HRE.out Tryd.underlying26 rfl (size32' HLR.out)) rfl ⟨rfl, HBE.out⟩

set_option maxHeartbeats 4000000 in
set_option maxRecDepth 100000 in
theorem reftree_1 (d : List UInt8) (v : Value) (w : World) (hr : DRest w.heap.size w [d] v) : Calls Tryd.prog 18 #[v] w (RetD w (tree [d])) := by
  obtain ⟨res, hres⟩ : ∃ res, res = tree [d] := ⟨_, rfl⟩
  have HLR : Hid (res.length = 32) := by rw [hres]; exact tree_len _
  obtain ⟨b, off, cap, rfl, hcap, hcap2, hb, hc⟩ := hr.some (by simp)
  have hdl : d.length = 32 := hr.1 d (by simp)
  have HTG : Hid (∀ W' : World, Below w.heap.size w W' → Calls Tryd.prog 15 #[.string ⟨#[108, 101, 97, 102]⟩, .slice (some ⟨b, off, none⟩) 32 32] W' (RetD W' res)) := fun W' h => by
    rw [hres, tree_1 [d] rfl]
    have hy := drest_bytes (hr.keep h) 0 (by simp)
    rw [Nat.zero_mul, Nat.add_zero] at hy
    exact reftagged_call ⟨#[108, 101, 97, 102]⟩ d _ W' (by decide) (by omega) hy
  rw [← hres]
  have HB0 := Lib.hid (Below.refl w.heap.size w)
  have hcap1 : 1 ≤ cap := by simpa using hcap
  simp only [List.length_cons, List.length_nil, Nat.zero_add]
  clear hres hc hr hcap
  go_enter Tryd.func18, Tryd.ntmps18
  go_wp2_with (first
    | (refine wpList_alloc_dig rfl 2 rfl rfl ?_; intro g2 w1 hg hrow hb; have H2 := Lib.hid hrow; have hg2 : w.heap.size ≤ g2 := (by omega); have HB0 := Lib.hid (below_next HB0.out hb); clear hg hrow hb)
    | (go_at_call 15; (refine (HTG.out _ HB0.out).mono ?_); rintro e w2 ⟨rfl, hb⟩; have H2 := Lib.hid (H2.out.keep hb); have HB0 := Lib.hid (below_next HB0.out hb); clear hb)
    | (refine wpList_store_dig rfl (.tmp 2) (.tmp 14) rfl g2 res HLR.out rfl rfl H2.out HB0.out hg2 ?_; intro wE hrow hb hoth; have HRE := Lib.hid hrow; have HBE := Lib.hid hb; clear hrow hb hoth)
    | fail)
  exact bodyPost_ret (results_cell_row rfl _ _ g2 26 (cellsOf res).toArray (0, 0) _ rfl HRE.out Tryd.underlying26 rfl (size32' HLR.out)) rfl ⟨rfl, HBE.out⟩

set_option maxHeartbeats 4000000 in
set_option maxRecDepth 100000 in
theorem reftree_2 (ds : List (List UInt8)) (hn : 2 ≤ ds.length) (hn2 : ds.length ≤ 1073741824) (v : Value) (w : World) (hr : DRest w.heap.size w ds v)
    (ih : ∀ (es : List (List UInt8)) (u : Value) (W : World), es.length < ds.length → DRest W.heap.size W es u → Calls Tryd.prog 18 #[u] W (RetD W (tree es))) :
    Calls Tryd.prog 18 #[v] w (RetD w (tree ds)) := by
  obtain ⟨b, off, cap, rfl, hcap, hcap2, hb, hc⟩ := hr.some (by omega)
  obtain ⟨n, hnn⟩ : ∃ n, n = ds.length := ⟨_, rfl⟩
  obtain ⟨k, hk⟩ : ∃ k, k = hf n := ⟨_, rfl⟩
  have hk1 : k < n := by rw [hk]; exact hf_lt (by omega)
  have hk2 : 0 < k := by rw [hk]; exact hf_pos (by omega)
  rw [← hnn] at hcap hn hn2 ih ⊢
  have HL : Hid (∀ W' : World, Below w.heap.size w W' → Calls Tryd.prog 18 #[.slice (some ⟨b, off, none⟩) k cap] W' (RetD W' (tree (ds.take k)))) := fun W' h => by
    have hp := drest_part (hr.keep h) 0 k cap (by rw [← hnn]; omega) (by omega) (Nat.le_refl _)
    rw [List.drop_zero, Nat.zero_mul, Nat.add_zero] at hp
    exact ih _ _ W' (by rw [List.length_take]; omega) hp
  have HR : Hid (∀ W' : World, Below w.heap.size w W' → Calls Tryd.prog 18 #[.slice (some ⟨b, off + k * 32, none⟩) (n - k) (cap - k)] W' (RetD W' (tree (ds.drop k)))) := fun W' h => by
    have hp := drest_part (hr.keep h) k (n - k) (cap - k) (by rw [← hnn]; omega) (by omega) (by omega)
    rw [List.take_of_length_le (by rw [List.length_drop]; omega)] at hp
    exact ih _ _ W' (by rw [List.length_drop]; omega) hp
  have HN : Hid (∀ W' : World, Calls Tryd.prog 39 #[dg (tree (ds.take k)), dg (tree (ds.drop k))] W' (RetD W' (tree ds))) := fun W' => by
    rw [tree_2 ds (by omega), ← hnn, ← hk]
    exact refnode_call _ _ (tree_len _) (tree_len _) W'
  have HF : Hid (∀ W' : World, Calls Tryd.prog 38 #[.int .i64 (n : Int)] W' fun e w' => e = .returned (.int .i64 (k : Int)) ∧ W' = w') := fun W' => by rw [hk]; exact half_call n W' hn (by omega)
  obtain ⟨tA, htA⟩ : ∃ tA, tA = tree (ds.take k) := ⟨_, rfl⟩
  obtain ⟨tB, htB⟩ : ∃ tB, tB = tree (ds.drop k) := ⟨_, rfl⟩
  obtain ⟨tC, htC⟩ : ∃ tC, tC = tree ds := ⟨_, rfl⟩
  have HLC : Hid (tC.length = 32) := by rw [htC]; exact tree_len _
  rw [← htA] at HL HN
  rw [← htB] at HR HN
  rw [← htC] at HN ⊢
  have hne : ¬ cap = k := by omega
  have hn0 : ¬ ((n : Int) = 0) := by omega
  have hn1 : ¬ ((n : Int) = 1) := by omega
  have hkc : k ≤ cap := by omega
  have hkn : k ≤ n := by omega
  have HBI := Lib.hid (Below.refl w.heap.size w)
  clear ih hr hc hnn hk htA htB htC
  go_enter Tryd.func18, Tryd.ntmps18
  go_wp2_with (first
    | (refine wpList_alloc_dig rfl 2 rfl rfl ?_; intro g2 w1 hg hrow hb; have H2 := Lib.hid hrow; have hg2 : w.heap.size ≤ g2 := (by omega); have HBI := Lib.hid (below_next HBI.out hb); clear hg hrow hb)
    | (go_at_call 38; (refine (HF.out _).mono ?_); rintro e w' ⟨rfl, rfl⟩)
    | fail)
  refine wp_region_any (by kernel_rfl) ?_
  try (change wpAny _ _ _ _ _ _ _ (World.drew _))
  (obtain ⟨w0, hw0⟩ : ∃ x, x = w1.drew := ⟨_, rfl⟩; rw [← hw0]; have HB0 : Hid (Below w1.heap.size w1 w0) := (by rw [hw0]; exact (Below.refl _ w1).drew); clear hw0)
  refine wpAny_take (i := 0) (oi := { dst := some 18, op := Op.move (Operand.tmp 0), type := 30, pos := "ref.go:104", after := #[], guard := none }) (v := ?_) rfl (by kernel_rfl) (by kernel_rfl) (by kernel_rfl) (fun _ _ _ h => h) (Or.inl ⟨by rfl, ?_⟩) ?_
  rotate_left
  · (intro w; go_simp; with_reducible rfl)
  try simp only [Act.put, List.setIfInBounds_toArray, List.set_cons_zero, List.set_cons_succ]
  refine wpAny_take (i := 1) (oi := { dst := some 19, op := Op.move (Operand.tmp 3), type := 3, pos := "ref.go:104", after := #[], guard := none }) (v := ?_) rfl (by kernel_rfl) (by kernel_rfl) (by kernel_rfl) (fun _ _ _ h => h) (Or.inl ⟨by rfl, ?_⟩) ?_
  rotate_left
  · (intro w; go_simp; with_reducible rfl)
  try simp only [Act.put, List.setIfInBounds_toArray, List.set_cons_zero, List.set_cons_succ]
  refine wpAny_take (i := 2) (oi := { dst := some 20, op := Op.slice 30 (Operand.tmp 18) none (some (Operand.tmp 19)) none, type := 30, pos := "ref.go:104", after := #[{ on := 0, ground := Ground.data }, { on := 1, ground := Ground.data }], guard := none }) (v := ?_) rfl (by kernel_rfl) (by kernel_rfl) (by kernel_rfl) (fun _ _ _ h => h) (Or.inl ⟨by rfl, ?_⟩) ?_
  rotate_left
  · (intro w; go_simp; with_reducible rfl)
  try simp only [Act.put, List.setIfInBounds_toArray, List.set_cons_zero, List.set_cons_succ]
  refine wpAny_take (i := 4) (oi := { dst := some 22, op := Op.move (Operand.tmp 0), type := 30, pos := "ref.go:104", after := #[], guard := none }) (v := ?_) rfl (by kernel_rfl) (by kernel_rfl) (by kernel_rfl) (fun _ _ _ h => h) (Or.inl ⟨by rfl, ?_⟩) ?_
  rotate_left
  · (intro w; go_simp; with_reducible rfl)
  try simp only [Act.put, List.setIfInBounds_toArray, List.set_cons_zero, List.set_cons_succ]
  refine wpAny_take (i := 5) (oi := { dst := some 23, op := Op.move (Operand.tmp 3), type := 3, pos := "ref.go:104", after := #[], guard := none }) (v := ?_) rfl (by kernel_rfl) (by kernel_rfl) (by kernel_rfl) (fun _ _ _ h => h) (Or.inl ⟨by rfl, ?_⟩) ?_
  rotate_left
  · (intro w; go_simp; with_reducible rfl)
  try simp only [Act.put, List.setIfInBounds_toArray, List.set_cons_zero, List.set_cons_succ]
  refine wpAny_take (i := 6) (oi := { dst := some 24, op := Op.slice 30 (Operand.tmp 22) (some (Operand.tmp 23)) none none, type := 30, pos := "ref.go:104", after := #[{ on := 4, ground := Ground.data }, { on := 5, ground := Ground.data }], guard := none }) (v := ?_) rfl (by kernel_rfl) (by kernel_rfl) (by kernel_rfl) (fun _ _ _ h => h) (Or.inl ⟨by rfl, ?_⟩) ?_
  rotate_left
  · (intro w; go_simp; with_reducible rfl)
  try simp only [Act.put, List.setIfInBounds_toArray, List.set_cons_zero, List.set_cons_succ]
  refine wpAny_ready (rs := [3]) (by kernel_rfl) (by simp) ?_
  refine Go.BigFrame.allReady_want (o := { dst := some 21, op := Op.call { callee := Callee.value (Operand.func 18), args := #[Operand.tmp 20], argTypes := #[30] }, type := 26, pos := "ref.go:104", after := #[{ on := 2, ground := Ground.data }], guard := none }) rfl (by rfl) (fun K hK => ?_) ?_
  · skip
    go_simp
    go_wp2_with ((go_at_call 18; (with_reducible refine (HL.out _ (below_next HBI.out HB0.out)).mono ?_); rintro e w3 ⟨rfl, hb⟩; have HB0 := Lib.hid (below_next HB0.out hb); clear hb))
    refine wpAny_ready (rs := [7]) (by kernel_rfl) (by simp) ?_
    refine Go.BigFrame.allReady_want (o := { dst := some 25, op := Op.call { callee := Callee.value (Operand.func 18), args := #[Operand.tmp 24], argTypes := #[30] }, type := 26, pos := "ref.go:104", after := #[{ on := 6, ground := Ground.data }, { on := 3, ground := Ground.chain }], guard := none }) rfl (by rfl) (fun K hK => ?_) ?_
    · skip
      go_simp
      go_wp2_with ((go_at_call 18; (with_reducible refine (HR.out _ (below_next HBI.out HB0.out)).mono ?_); rintro e w4 ⟨rfl, hb⟩; have HB0 := Lib.hid (below_next HB0.out hb); clear hb))
      refine wpAny_ready (rs := [8]) (by kernel_rfl) (by simp) ?_
      refine Go.BigFrame.allReady_want (o := { dst := some 26, op := Op.call { callee := Callee.value (Operand.func 39), args := #[Operand.tmp 21, Operand.tmp 25], argTypes := #[26, 26] }, type := 26, pos := "ref.go:104", after := #[{ on := 3, ground := Ground.data }, { on := 7, ground := Ground.data }, { on := 7, ground := Ground.chain }], guard := none }) rfl (by rfl) (fun K hK => ?_) ?_
      · skip
        go_simp
        go_wp2_with ((go_at_call 39; (refine (HN.out _).mono ?_); rintro e w5 ⟨rfl, hb⟩; have HB0 := Lib.hid (below_next HB0.out hb); clear hb))
        refine wpAny_ready (rs := [9]) (by kernel_rfl) (by simp) ?_
        refine Go.BigFrame.allReady_want (o := { dst := none, op := Op.store 26 (Operand.tmp 2) (Operand.tmp 26), type := 0, pos := "ref.go:104", after := #[{ on := 8, ground := Ground.data }, { on := 8, ground := Ground.chain }, { on := 0, ground := Ground.phase }, { on := 1, ground := Ground.phase }, { on := 2, ground := Ground.phase }, { on := 3, ground := Ground.phase }, { on := 4, ground := Ground.phase }, { on := 5, ground := Ground.phase }, { on := 6, ground := Ground.phase }, { on := 7, ground := Ground.phase }, { on := 8, ground := Ground.phase }], guard := none }) rfl (by rfl) (fun K hK => ?_) ?_
        · skip
          ((refine wp_store_dig' _ _ rfl g2 tC HLC.out rfl rfl (H2.out.keep HB0.out) (below_next HBI.out HB0.out) hg2 ?_; intro wE hrow hb hoth; have HRE := Lib.hid hrow; have HBE := Lib.hid hb; clear hrow hb hoth))
          refine hK _ _ ?_
          clear hK K
          try simp only [Act.put, List.setIfInBounds_toArray, List.set_cons_zero, List.set_cons_succ]
          refine wpAny_done (by kernel_rfl) ?_ _
          ((go_wp2_with fail; exact bodyPost_ret (results_cell_row rfl _ _ g2 26 (cellsOf tC).toArray (0, 0) _ rfl HRE.out Tryd.underlying26 rfl (size32' HLC.out)) rfl ⟨rfl, HBE.out⟩))
        exact AllReady.nil
      exact AllReady.nil
    exact AllReady.nil
  exact AllReady.nil

theorem reftree_call (ds : List (List UInt8)) (hn : ds.length ≤ 1073741824) (v : Value) (w : World) (hr : DRest w.heap.size w ds v) : Calls Tryd.prog 18 #[v] w (RetD w (tree ds)) := by
  obtain ⟨n, hnn⟩ : ∃ n, n = ds.length := ⟨_, rfl⟩
  induction n using Nat.strongRecOn generalizing ds v w with
  | ind n ih =>
    by_cases h2 : 2 ≤ ds.length
    · exact reftree_2 ds h2 hn v w hr fun es u W he hre => ih es.length (by omega) es (by omega) u W hre rfl
    · match ds, hr, h2 with
      | [], hr, _ =>
        obtain ⟨_, a, cap, rfl, _⟩ := hr
        exact reftree_0 a cap w
      | [d], hr, _ => exact reftree_1 d v w hr
      | _ :: _ :: _, _, h2 => exact absurd h2 (by simp)

set_option maxHeartbeats 1000000 in
theorem length_call (n : Nat) : ∀ (k : Nat) (w : World), k < n → n ≤ 1099511627776 → Calls Tryd.prog 44 #[.int .i64 (k : Int), .int .i64 (n : Int)] w fun e w' => e = .returned (.int .i64 (steps k n)) ∧ w = w' := by
  induction n using Nat.strongRecOn with
  | ind n ih =>
    intro k w h1 h2
    have hs40 : steps k n ≤ 40 := steps_le 40 k n (by omega)
    by_cases hn1 : n = 1
    · subst hn1
      go_enter Tryd.func44, Tryd.ntmps44
      go_wp2
      go_ret
      exact ⟨ret_i64 (by rw [steps_1 k 1 (by omega)]; rfl), rfl⟩
    · have hn2 : 2 ≤ n := by omega
      have hne : ¬ ((n : Int) = 1) := by omega
      obtain ⟨q, hq⟩ : ∃ q, q = hf n := ⟨_, rfl⟩
      have hq1 : q < n := by rw [hq]; exact hf_lt hn2
      have hq0 : 0 < q := by rw [hq]; exact hf_pos hn2
      have HF : Hid (∀ W' : World, Calls Tryd.prog 38 #[.int .i64 (n : Int)] W' fun e w' => e = .returned (.int .i64 (q : Int)) ∧ W' = w') := fun W' => by rw [hq]; exact half_call n W' hn2 (by omega)
      by_cases hkq : k < q
      · have hst : steps k n = steps k q + 1 := by rw [steps_l k n hn2 (by rw [← hq]; exact hkq), ← hq]
        have HI : Hid (∀ W' : World, Calls Tryd.prog 44 #[.int .i64 (k : Int), .int .i64 (q : Int)] W' fun e w' => e = .returned (.int .i64 (steps k q)) ∧ W' = w') := fun W' => ih q hq1 k W' hkq (by omega)
        obtain ⟨sq, hsq⟩ : ∃ sq, sq = steps k q := ⟨_, rfl⟩
        rw [← hsq] at HI hst
        rw [hst] at hs40 ⊢
        have hlt : (k : Int) < (q : Int) := by omega
        clear ih hq hsq hst
        go_enter Tryd.func44, Tryd.ntmps44
        go_wp2_with (first
          | (go_at_call 38; (refine (HF.out _).mono ?_); rintro e w' ⟨rfl, rfl⟩)
          | (go_at_call 44; (refine (HI.out _).mono ?_); rintro e w' ⟨rfl, rfl⟩))
        go_ret
        exact ⟨ret_i64 (by omega), rfl⟩
      · obtain ⟨k2, hk2⟩ : ∃ k2, k2 = k - q := ⟨_, rfl⟩
        obtain ⟨n2, hn2'⟩ : ∃ n2, n2 = n - q := ⟨_, rfl⟩
        have hst : steps k n = steps k2 n2 + 1 := by rw [steps_r k n hn2 (by rw [← hq]; omega), ← hq, ← hk2, ← hn2']
        have HI : Hid (∀ W' : World, Calls Tryd.prog 44 #[.int .i64 (k2 : Int), .int .i64 (n2 : Int)] W' fun e w' => e = .returned (.int .i64 (steps k2 n2)) ∧ W' = w') := fun W' => ih n2 (by omega) k2 W' (by omega) (by omega)
        obtain ⟨sq, hsq⟩ : ∃ sq, sq = steps k2 n2 := ⟨_, rfl⟩
        rw [← hsq] at HI hst
        rw [hst] at hs40 ⊢
        have hlt : ¬ ((k : Int) < (q : Int)) := by omega
        have e1 : (k : Int) - (q : Int) = (k2 : Int) := by omega
        have e2 : (n : Int) - (q : Int) = (n2 : Int) := by omega
        have e3 : IntKind.i64.wrap ((k : Int) - (q : Int)) = (k2 : Int) := by rw [IntKind.wrap_i64]; omega
        have e4 : IntKind.i64.wrap ((n : Int) - (q : Int)) = (n2 : Int) := by rw [IntKind.wrap_i64]; omega
        clear ih hq hsq hst hk2 hn2'
        go_enter Tryd.func44, Tryd.ntmps44
        go_wp2_with (first
          | (go_at_call 38; (refine (HF.out _).mono ?_); rintro e w' ⟨rfl, rfl⟩)
          | (go_at_call 44; (with_reducible refine (HI.out _).mono ?_); rintro e w' ⟨rfl, rfl⟩))
        go_ret
        exact ⟨ret_i64 (by omega), rfl⟩
end Go.Proofs.YtjibhelahagliaaDoor
