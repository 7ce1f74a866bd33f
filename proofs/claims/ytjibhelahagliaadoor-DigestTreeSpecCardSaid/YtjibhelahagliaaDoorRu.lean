/- Ends of chains: the reference's function. -/
import Derived.Test.YtjibhelahagliaaDoorRt
import Derived.Deep.RegionLaw
import Derived.Deep.RegionHeld
import Derived.BigRegion
namespace Go.Proofs.YtjibhelahagliaaDoor
open Go.RowKit

set_option maxHeartbeats 4000000 in
set_option maxRecDepth 100000 in
theorem refchain_call (x y : List UInt8) (hx : x.length = 32) (hy : y.length = 32) (w : World) : Calls Tryd.prog 26 #[dg x, dg y] w (RetD w (chainD x y)) := by
  obtain ⟨d2, hd2⟩ : ∃ d2, d2 = chainD x y := ⟨_, rfl⟩
  have HLT : Hid (d2.length = 32) := by rw [hd2]; exact tagged_len _ _
  have HTG : Hid (∀ (W' : World) (u : Value), Rest W'.heap.size W' (x ++ y) u → Calls Tryd.prog 15 #[.string ⟨#[99, 104, 97, 105, 110]⟩, u] W' (RetD W' d2)) := fun W' u h => by
    rw [hd2]
    exact reftagged_call ⟨#[99, 104, 97, 105, 110]⟩ (x ++ y) u W' (by decide) (by rw [List.length_append, hx, hy]; omega) h
  rw [← hd2]
  have HLX := Lib.hid hx
  have HLY := Lib.hid hy
  have HL1 : Hid (([] : List UInt8).length + x.length ≤ 70368744177664) := by show ([] : List UInt8).length + x.length ≤ 70368744177664; rw [hx]; simp
  have HL2 : Hid (x.length + y.length ≤ 70368744177664) := by show x.length + y.length ≤ 70368744177664; rw [hx, hy]; omega
  have HB0 := Lib.hid (Below.refl w.heap.size w)
  clear hd2 hx hy
  go_enter Tryd.func26, Tryd.ntmps26
  go_wp2_with (first
    | (refine wpList_box_u rfl 2 rfl (.tmp 0) rfl (cellsOf x) rfl ?_; intro g2 w1 hg hrow hb; have H2 := Lib.hid hrow; have HB0 := Lib.hid (below_next HB0.out hb); clear hg hrow hb)
    | (refine wpList_box_u rfl 3 rfl (.tmp 1) rfl (cellsOf y) rfl ?_; intro g3 w2 hg hrow hb; have H3 := Lib.hid hrow; have H2 := Lib.hid (H2.out.keep hb); have HB0 := Lib.hid (below_next HB0.out hb); clear hg hrow hb)
    | (refine wpList_alloc_dig rfl 4 rfl rfl ?_; intro g4 w3 hg hrow hb; have H4 := Lib.hid hrow; have hg4 : w.heap.size ≤ g4 := (by have := HB0.out.size; omega); have H2 := Lib.hid (H2.out.keep hb); have H3 := Lib.hid (H3.out.keep hb); have HB0 := Lib.hid (below_next HB0.out hb); clear hg hrow hb)
    | fail)
  refine wp_region_any (by kernel_rfl) ?_
  try (change wpAny _ _ _ _ _ _ _ (World.drew _))
  (obtain ⟨w0, hw0⟩ : ∃ x, x = w3.drew := ⟨_, rfl⟩; rw [← hw0]; have HBZ : Hid (Below w3.heap.size w3 w0) := (by rw [hw0]; exact (Below.refl _ w3).drew); clear hw0)
  refine wpAny_take (i := 1) (oi := { dst := some 6, op := Op.slice 26 (Operand.tmp 2) none none none, type := 22, pos := "ref.go:178", after := #[], guard := none }) (v := ?_) rfl (by kernel_rfl) (by kernel_rfl) (by kernel_rfl) (fun _ _ _ h => h) (Or.inl ⟨by rfl, ?_⟩) ?_
  rotate_left
  · (intro w; go_simp; with_reducible rfl)
  try simp only [Act.put, List.setIfInBounds_toArray, List.set_cons_zero, List.set_cons_succ]
  refine wpAny_take (i := 3) (oi := { dst := some 8, op := Op.slice 26 (Operand.tmp 3) none none none, type := 22, pos := "ref.go:178", after := #[], guard := none }) (v := ?_) rfl (by kernel_rfl) (by kernel_rfl) (by kernel_rfl) (fun _ _ _ h => h) (Or.inl ⟨by rfl, ?_⟩) ?_
  rotate_left
  · (intro w; go_simp; with_reducible rfl)
  try simp only [Act.put, List.setIfInBounds_toArray, List.set_cons_zero, List.set_cons_succ]
  refine wpAny_ready (rs := [0]) (by kernel_rfl) (by simp) ?_
  refine Go.BigFrame.allReady_want (o := { dst := some 5, op := Op.buildSlice 22 0 #[], type := 22, pos := "ref.go:178", after := #[], guard := none }) rfl (by rfl) (fun K hK => ?_) ?_
  · skip
    ((refine wp_none' rfl HBZ.out ?_; intro v5 w5 hn; have HN := Lib.hid hn; have HBZ := Lib.hid hn.2.1; clear hn))
    refine hK _ _ ?_
    clear hK K
    try simp only [Act.put, List.setIfInBounds_toArray, List.set_cons_zero, List.set_cons_succ]
    refine wpAny_ready (rs := [2]) (by kernel_rfl) (by simp) ?_
    refine Go.BigFrame.allReady_want (o := { dst := some 7, op := Op.call { callee := Callee.builtin Builtin.append, args := #[Operand.tmp 5, Operand.tmp 6], argTypes := #[22, 22] }, type := 22, pos := "ref.go:178", after := #[{ on := 0, ground := Ground.data }, { on := 1, ground := Ground.data }], guard := none }) rfl (by rfl) (fun K hK => ?_) ?_
    · skip
      ((refine wp_buf' rfl _ _ rfl v5 [] rfl HN.out _ _ x rfl (row_rest32 (H2.out.keep HBZ.out) HLX.out) HL1.out ?_; intro v7 w7 hn; have HN : Hid (New w3 w7 v7 x) := hn; have HBZ := Lib.hid hn.2.1; clear hn))
      refine hK _ _ ?_
      clear hK K
      try simp only [Act.put, List.setIfInBounds_toArray, List.set_cons_zero, List.set_cons_succ]
      refine wpAny_ready (rs := [4]) (by kernel_rfl) (by simp) ?_
      refine Go.BigFrame.allReady_want (o := { dst := some 9, op := Op.call { callee := Callee.builtin Builtin.append, args := #[Operand.tmp 7, Operand.tmp 8], argTypes := #[22, 22] }, type := 22, pos := "ref.go:178", after := #[{ on := 2, ground := Ground.data }, { on := 3, ground := Ground.data }, { on := 2, ground := Ground.chain }], guard := none }) rfl (by rfl) (fun K hK => ?_) ?_
      · skip
        ((refine wp_buf' rfl _ _ rfl v7 x rfl HN.out _ _ y rfl (row_rest32 (H3.out.keep HBZ.out) HLY.out) HL2.out ?_; intro v9 w9 hn; have HN := Lib.hid hn; have HBZ := Lib.hid hn.2.1; clear hn))
        refine hK _ _ ?_
        clear hK K
        try simp only [Act.put, List.setIfInBounds_toArray, List.set_cons_zero, List.set_cons_succ]
        refine wpAny_ready (rs := [5]) (by kernel_rfl) (by simp) ?_
        refine Go.BigFrame.allReady_want (o := { dst := some 10, op := Op.call { callee := Callee.value (Operand.func 15), args := #[Operand.const (Value.string { data := #[99, 104, 97, 105, 110] }), Operand.tmp 9], argTypes := #[9, 22] }, type := 26, pos := "ref.go:178", after := #[{ on := 4, ground := Ground.data }, { on := 4, ground := Ground.chain }], guard := none }) rfl (by rfl) (fun K hK => ?_) ?_
        · skip
          go_simp
          go_wp2_with ((go_at_call 15; (refine (HTG.out _ _ (buf_rest' HN.out.1)).mono ?_); rintro e w10 ⟨rfl, hb⟩; have HBZ := Lib.hid (below_next HBZ.out hb); have H4E := Lib.hid (H4.out.keep HBZ.out); have HBE0 := Lib.hid (below_next HB0.out HBZ.out); clear hb))
          refine wpAny_ready (rs := [6]) (by kernel_rfl) (by simp) ?_
          refine Go.BigFrame.allReady_want (o := { dst := none, op := Op.store 26 (Operand.tmp 4) (Operand.tmp 10), type := 0, pos := "ref.go:178", after := #[{ on := 5, ground := Ground.data }, { on := 5, ground := Ground.chain }, { on := 0, ground := Ground.phase }, { on := 1, ground := Ground.phase }, { on := 2, ground := Ground.phase }, { on := 3, ground := Ground.phase }, { on := 4, ground := Ground.phase }, { on := 5, ground := Ground.phase }], guard := none }) rfl (by rfl) (fun K hK => ?_) ?_
          · skip
            ((refine wp_store_dig' _ _ rfl g4 d2 HLT.out rfl rfl H4E.out HBE0.out hg4 ?_; intro wE hrow hb hoth; have HRE := Lib.hid hrow; have HBE := Lib.hid hb; clear hrow hb hoth))
            refine hK _ _ ?_
            clear hK K
            try simp only [Act.put, List.setIfInBounds_toArray, List.set_cons_zero, List.set_cons_succ]
            refine wpAny_done (by kernel_rfl) ?_ _
            ((go_wp2_with fail; exact bodyPost_ret (results_cell_row rfl _ _ g4 26 (cellsOf d2).toArray (0, 0) _ rfl HRE.out Tryd.underlying26 rfl (size32' HLT.out)) rfl ⟨rfl, HBE.out⟩))
          exact AllReady.nil
        exact AllReady.nil
      exact AllReady.nil
    exact AllReady.nil
  exact AllReady.nil
end Go.Proofs.YtjibhelahagliaaDoor
