/- The specification: texts under a tag, the first row, the next row, roots. -/
import Derived.Test.YtbceimbcjijfgaaDoorZq26
import Derived.Deep.RegionLaw
import Derived.Deep.RegionHeld
import Derived.BigRegion
namespace Go.Proofs.YtbceimbcjijfgaaDoor.Dig
open Go.RowKit

set_option maxHeartbeats 4000000 in
set_option maxRecDepth 100000 in
theorem reftext_call (tag : ByteArray) (l : List UInt8) (v : Value) (w : World) (ht : tag.size ≤ 549755813888) (hl : l.length ≤ 549755813888) (hr : Rest w.heap.size w l v) :
    Calls Tryd.prog 44 #[.string tag, v] w fun e w' => ∃ v', e = .returned v' ∧ New w w' v' (sha tag.data.toList ++ l) := by
  have HR := Lib.hid hr
  obtain ⟨va, vc, rfl⟩ : ∃ a cap, v = .slice a l.length cap := by obtain ⟨a, cap, h, _⟩ := hr; exact ⟨a, cap, h⟩
  have hts : tag.data.toList.length = tag.size := by rw [Array.length_toList]; rfl
  obtain ⟨d1, hd1⟩ : ∃ d1, d1 = sha tag.data.toList := ⟨_, rfl⟩
  have HLD : Hid (d1.length = 32) := by rw [hd1]; exact sha_len _
  have HS1 : Hid (∀ (W' : World) (u : Value), Rest W'.heap.size W' tag.data.toList u → Calls Tryd.prog 43 #[u] W' (RetD W' d1)) := fun W' u h => by rw [hd1]; exact refsum_call _ (by rw [hts]; omega) u W' h
  rw [← hd1]
  have HMX : Hid (tag.size ≤ maxLen) := by show tag.size ≤ maxLen; unfold maxLen; omega
  have HL1 : Hid (([] : List UInt8).length + d1.length ≤ 70368744177664) := by show ([] : List UInt8).length + d1.length ≤ 70368744177664; rw [HLD.out]; simp
  have HL2 : Hid (d1.length + l.length ≤ 70368744177664) := by show d1.length + l.length ≤ 70368744177664; rw [HLD.out]; omega
  have HB0 := Lib.hid (Below.refl w.heap.size w)
  clear hr hts hd1
  go_enter Tryd.func44, Tryd.ntmps44
  go_wp2_with (first
    | (refine wpList_conv rfl (.tmp 6) rfl tag rfl HMX.out ?_; intro v7 w2 hr hb; have H7 := Lib.hid hr; have HB0 := Lib.hid (below_next HB0.out hb); clear hr hb)
    | fail)
  refine (HS1.out w2 v7 H7.out).mono ?_
  rintro e w3 ⟨rfl, hb⟩
  have HB0 := Lib.hid (below_next HB0.out hb)
  clear hb
  go_wp2_with (first
    | (refine wpList_alloc_dig rfl 5 rfl rfl ?_; intro g5 w4 hg hrow hb; have H5 := Lib.hid hrow; have hg5 : w.heap.size ≤ g5 := (by have := HB0.out.size; omega); have HB0 := Lib.hid (below_next HB0.out hb); clear hg hrow hb)
    | (refine wpList_store_dig rfl (.tmp 5) (.tmp 8) rfl g5 d1 HLD.out rfl rfl H5.out HB0.out hg5 ?_; intro w5 hrow hb hoth; have H5 := Lib.hid hrow; have HB0 := Lib.hid hb; have HBZ := Lib.hid (Below.refl w5.heap.size w5); clear hrow hb hoth)
    | (refine wpList_none' rfl rfl HBZ.out ?_; intro v9 w6 hn; have HN := Lib.hid hn; have HBZ := Lib.hid hn.2.1; clear hn)
    | (refine wpList_buf' rfl _ (.tmp 10) rfl v9 [] rfl HN.out _ _ d1 rfl (row_rest32 (H5.out.keep HBZ.out) HLD.out) HL1.out ?_; intro v11 w7 hn; have HN : Hid (New w5 w7 v11 d1) := hn; have HBZ := Lib.hid hn.2.1; clear hn)
    | (refine wpList_buf' rfl _ (.tmp 12) rfl v11 d1 rfl HN.out _ _ l rfl (rest_keep HR.out (below_next HB0.out HBZ.out)) HL2.out ?_; intro v13 w8 hn; have HN := Lib.hid hn; have HBZ := Lib.hid hn.2.1; clear hn)
    | fail)
  go_ret
  exact ⟨v13, rfl, HN.out.since HB0.out⟩
set_option maxHeartbeats 4000000 in
set_option maxRecDepth 100000 in
theorem reftwo_call (x y : List UInt8) (w : World) (hx : x.length = 32) (hy : y.length = 32) :
    Calls Tryd.prog 45 #[dg x, dg y] w fun e w' => ∃ v', e = .returned v' ∧ New w w' v' (nodeX Ndd x y) := by
  have HX := Lib.hid hx
  have HY := Lib.hid hy
  have HL1 : Hid (([] : List UInt8).length + x.length ≤ 70368744177664) := Lib.hid (by rw [hx]; simp)
  have HL2 : Hid (x.length + y.length ≤ 70368744177664) := Lib.hid (by rw [hx, hy]; omega)
  have HTX : Hid (∀ (W : World) (u : Value), Rest W.heap.size W (x ++ y) u → Calls Tryd.prog 44 #[.string ⟨#[110, 111, 100, 101]⟩, u] W fun e w' => ∃ v', e = .returned v' ∧ New W w' v' (nodeX Ndd x y)) := Lib.hid (fun W u h => by
    have := reftext_call ⟨#[110, 111, 100, 101]⟩ (x ++ y) u W (by decide) (by rw [List.length_append, hx, hy]; omega) h
    unfold nodeX Ndd nodeS
    rwa [List.append_assoc])
  have HB0 := Lib.hid (Below.refl w.heap.size w)
  clear hx hy
  go_enter Tryd.func45, Tryd.ntmps45
  go_wp2_with (first
    | (refine wpList_box_u rfl 2 rfl (.tmp 0) rfl (cellsOf x) rfl ?_; intro g2 w1 hg hrow hb; have H2 := Lib.hid hrow; have HB0 := Lib.hid (below_next HB0.out hb); clear hg hrow hb)
    | (refine wpList_box_u rfl 3 rfl (.tmp 1) rfl (cellsOf y) rfl ?_; intro g3 w2 hg hrow hb; have H3 := Lib.hid hrow; have H2 := Lib.hid (H2.out.keep hb); have HB1 := Lib.hid (below_next HB0.out hb); clear hg hrow hb)
    | fail)
  have HRA : Hid (∀ W' : World, Below w2.heap.size w2 W' → Rest W'.heap.size W' x (.slice (some ⟨g2, 0, none⟩) 32 32)) := fun W' h => row_rest32 (H2.out.keep h) HX.out
  have HRB : Hid (∀ W' : World, Below w2.heap.size w2 W' → Rest W'.heap.size W' y (.slice (some ⟨g3, 0, none⟩) 32 32)) := fun W' h => row_rest32 (H3.out.keep h) HY.out
  clear HB0
  refine wp_region_any (by kernel_rfl) ?_
  try (change wpAny _ _ _ _ _ _ _ (World.drew _))
  (obtain ⟨w0, hw0⟩ : ∃ x, x = w2.drew := ⟨_, rfl⟩; rw [← hw0]; have HB0 : Hid (Below w2.heap.size w2 w0) := (by rw [hw0]; exact (Below.refl _ w2).drew); clear hw0)
  refine wpAny_take (i := 1) (oi := { dst := some 6, op := Op.slice 30 (Operand.tmp 2) none none none, type := 34, pos := "ref.go:17", after := #[], guard := none }) (v := ?_) rfl (by kernel_rfl) (by kernel_rfl) (by kernel_rfl) (fun _ _ _ h => h) (Or.inl ⟨by rfl, ?_⟩) ?_
  rotate_left
  · (intro w; go_simp; with_reducible rfl)
  try simp only [Act.put, List.setIfInBounds_toArray, List.set_cons_zero, List.set_cons_succ]
  refine wpAny_take (i := 3) (oi := { dst := some 8, op := Op.slice 30 (Operand.tmp 3) none none none, type := 34, pos := "ref.go:17", after := #[], guard := none }) (v := ?_) rfl (by kernel_rfl) (by kernel_rfl) (by kernel_rfl) (fun _ _ _ h => h) (Or.inl ⟨by rfl, ?_⟩) ?_
  rotate_left
  · (intro w; go_simp; with_reducible rfl)
  try simp only [Act.put, List.setIfInBounds_toArray, List.set_cons_zero, List.set_cons_succ]
  refine wpAny_ready (rs := [0]) (by kernel_rfl) (by simp) ?_
  refine Go.BigFrame.allReady_want (o := { dst := some 5, op := Op.buildSlice 34 0 #[], type := 34, pos := "ref.go:17", after := #[], guard := none }) rfl (by rfl) (fun K hK => ?_) ?_
  · skip
    ((refine wp_none' rfl HB0.out ?_; intro v0 w4 hn; have HN := Lib.hid hn; have HB0 := Lib.hid hn.2.1; clear hn))
    refine hK _ _ ?_
    clear hK K
    try simp only [Act.put, List.setIfInBounds_toArray, List.set_cons_zero, List.set_cons_succ]
    refine wpAny_ready (rs := [2]) (by kernel_rfl) (by simp) ?_
    refine Go.BigFrame.allReady_want (o := { dst := some 7, op := Op.call { callee := Callee.builtin Builtin.append, args := #[Operand.tmp 5, Operand.tmp 6], argTypes := #[34, 34] }, type := 34, pos := "ref.go:17", after := #[{ on := 0, ground := Ground.data }, { on := 1, ground := Ground.data }], guard := none }) rfl (by rfl) (fun K hK => ?_) ?_
    · skip
      ((refine wp_buf' rfl _ _ rfl _ [] rfl HN.out _ _ x rfl (HRA.out _ HB0.out) HL1.out ?_; intro v1 w5 hn; have HN : Hid (New w2 w5 v1 x) := hn; have HB0 := Lib.hid hn.2.1; clear hn))
      refine hK _ _ ?_
      clear hK K
      try simp only [Act.put, List.setIfInBounds_toArray, List.set_cons_zero, List.set_cons_succ]
      refine wpAny_ready (rs := [4]) (by kernel_rfl) (by simp) ?_
      refine Go.BigFrame.allReady_want (o := { dst := some 9, op := Op.call { callee := Callee.builtin Builtin.append, args := #[Operand.tmp 7, Operand.tmp 8], argTypes := #[34, 34] }, type := 34, pos := "ref.go:17", after := #[{ on := 2, ground := Ground.data }, { on := 3, ground := Ground.data }, { on := 2, ground := Ground.chain }], guard := none }) rfl (by rfl) (fun K hK => ?_) ?_
      · skip
        ((refine wp_buf' rfl _ _ rfl _ x rfl HN.out _ _ y rfl (HRB.out _ HB0.out) HL2.out ?_; intro v2 w6 hn; have HN := Lib.hid hn; have HB0 := Lib.hid hn.2.1; have HR2 := Lib.hid (buf_rest' hn.1); clear hn))
        refine hK _ _ ?_
        clear hK K
        try simp only [Act.put, List.setIfInBounds_toArray, List.set_cons_zero, List.set_cons_succ]
        refine wpAny_ready (rs := [5]) (by kernel_rfl) (by simp) ?_
        refine Go.BigFrame.allReady_want (o := { dst := some 10, op := Op.call { callee := Callee.value (Operand.func 44), args := #[Operand.const (Value.string { data := #[110, 111, 100, 101] }), Operand.tmp 9], argTypes := #[9, 34] }, type := 34, pos := "ref.go:17", after := #[{ on := 4, ground := Ground.data }, { on := 4, ground := Ground.chain }], guard := none }) rfl (by rfl) (fun K hK => ?_) ?_
        · skip
          go_simp
          go_wp2_with ((go_at_call 44; (with_reducible refine (HTX.out _ _ HR2.out).mono ?_); rintro e w7 ⟨v7, rfl, hn⟩; have HN7 := Lib.hid (hn.since HB0.out); clear hn))
          refine wpAny_take (i := 6) (oi := { dst := some 4, op := Op.assign (Operand.tmp 10), type := 34, pos := "ref.go:17", after := #[{ on := 5, ground := Ground.data }, { on := 5, ground := Ground.chain }, { on := 0, ground := Ground.phase }, { on := 1, ground := Ground.phase }, { on := 2, ground := Ground.phase }, { on := 3, ground := Ground.phase }, { on := 4, ground := Ground.phase }, { on := 5, ground := Ground.phase }], guard := none }) (v := ?_) rfl (by kernel_rfl) (by kernel_rfl) (by kernel_rfl) (fun _ _ _ h => h) (Or.inl ⟨by rfl, ?_⟩) ?_
          rotate_left
          · (intro w; go_simp; with_reducible rfl)
          try simp only [Act.put, List.setIfInBounds_toArray, List.set_cons_zero, List.set_cons_succ]
          refine wpAny_done (by kernel_rfl) ?_ _
          ((go_wp2_with fail; go_ret; exact ⟨v7, rfl, HN7.out.since HB1.out⟩))
        exact AllReady.nil
      exact AllReady.nil
    exact AllReady.nil
  exact AllReady.nil
end Go.Proofs.YtbceimbcjijfgaaDoor.Dig
