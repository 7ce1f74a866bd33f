/- DigestTags: the law's walk. -/
import Derived.Test.YtjibhelahagliaaDoorZ
namespace Go.Proofs.YtjibhelahagliaaDoor
open Go.RowKit

def Sane : Prop := ∀ w : World, Tab w → Calls Tryd.prog 11 #[] w fun e w' => e = .returned (.bool true) ∧ Below w.heap.size w w'
theorem New.since {w0 w1 w : World} {v : Value} {xs : List UInt8} (h : New w1 w v xs) (hb : Below w0.heap.size w0 w1) : New w0 w v xs := ⟨h.1, below_next hb h.2.1, fun k hk => Nat.le_trans hb.size (h.2.2 k hk)⟩
theorem buf_rest' {w : World} {v : Value} {xs : List UInt8} (h : Buf w v xs) : Rest w.heap.size w xs v := by obtain ⟨a, cap, rfl, hr⟩ := buf_rest h; exact hr
theorem wp_build_none {o : Oper} {a : Act} {w : World} {K : Act → World → Prop} {Q : Exit → Act → World → Prop} (t e : TypeId) (ho : o.op = .buildSlice t 0 #[]) (i0 : TypeInfo) (ht : Tryd.prog.underlying t = some (.slice e)) (hi : Tryd.prog.info? e = some i0)
    (h : K (a.put o.dst (.slice (some ⟨w.heap.size, 0, none⟩) 0 0)) (w.alloc (.cells #[] e))) : o.wp Tryd.prog a w K Q := by
  have hr := run_build_none t e i0 ht hi w
  unfold Oper.wp execOp
  simp [ho, hr, Sem.run_bind]
  exact h

set_option maxHeartbeats 8000000 in
set_option maxRecDepth 100000 in
theorem tags_walk (hs : Sane) (tag : ByteArray) (l : List UInt8) (v : Value) (w : World) (hr : Rest w.heap.size w l v) (hT : Tab w) :
    Calls Tryd.prog 5 #[.string tag, v] w fun e w' => e = .returned (.bool true) ∧ Below w.heap.size w w' := by
  have HT := Lib.hid hT
  have HR := Lib.hid hr
  obtain ⟨i0, hi, -, -, -⟩ := info_parts Tryd.info5
  have HI := Lib.hid hi
  obtain ⟨a, cap, rfl⟩ : ∃ a cap, v = .slice a l.length cap := by obtain ⟨a, cap, h, _⟩ := hr; exact ⟨a, cap, h⟩
  have HS := Lib.hid (hs w hT)
  clear hs hT hr hi
  go_enter Tryd.func5, Tryd.ntmps5
  go_wp2_with fail
  refine HS.out.mono ?_
  rintro e w1 ⟨rfl, hb1⟩
  have HB1 := Lib.hid hb1
  clear HS hb1
  by_cases h1 : tag.size > 600
  · have h1' : ((tag.size : Nat) : Int) > 600 := by omega
    go_wp2_with fail
    exact bodyPost_ret (results_tmp (p := 4) rfl _ _ (.bool true) rfl) rfl ⟨rfl, HB1.out⟩
  by_cases h2 : l.length > 600
  · have h1' : ¬ ((tag.size : Nat) : Int) > 600 := by omega
    have h2' : ((l.length : Nat) : Int) > 600 := by omega
    go_wp2_with fail
    exact bodyPost_ret (results_tmp (p := 4) rfl _ _ (.bool true) rfl) rfl ⟨rfl, HB1.out⟩
  have h1' : ¬ ((tag.size : Nat) : Int) > 600 := by omega
  have h2' : ¬ ((l.length : Nat) : Int) > 600 := by omega
  obtain ⟨cap2, w2, hcv, hb2, hR2⟩ := conv_str w1 tag (by unfold maxLen; omega)
  have hts : tag.data.toList.length = tag.size := by rw [Array.length_toList]; rfl
  have HS2 := Lib.hid (sum_call tag.data.toList _ w2 hR2 (HT.out.keep (below_next HB1.out hb2)) (by rw [hts]; omega))
  have HB2 := Lib.hid (below_next HB1.out hb2)
  clear hb2 hR2 hts
  go_wp2_with fail
  refine HS2.out.mono ?_
  rintro e w3 ⟨rfl, hb3⟩
  clear hcv HS2
  obtain ⟨d1, hd1⟩ : ∃ d1, d1 = sha tag.data.toList := ⟨_, rfl⟩
  rw [← hd1]
  have HD1 : Hid (d1.length = 32) := by rw [hd1]; exact sha_len _
  have HE1 := Lib.hid hd1
  obtain ⟨W, hW⟩ : ∃ W, W = w3.alloc (.cells (cellsOf d1).toArray 26) := ⟨_, rfl⟩
  have hbW : Below w.heap.size w W := by rw [hW]; exact below_next (below_next HB2.out hb3) (Joins.below_alloc1 w3 _)
  have hRowW : Row W w3.heap.size 26 (cellsOf d1) := by rw [hW]; exact row_new w3 26 _
  have HBW := Lib.hid hbW
  have HW := Lib.hid hW
  obtain ⟨res, hres⟩ : ∃ res, res = tagged tag.data.toList l := ⟨_, rfl⟩
  have hres2 : res = sha (d1 ++ l) := by rw [hres, hd1]; rfl
  have HRES : Hid (res.length = 32) := by rw [hres]; exact tagged_len _ _
  have HTG : Hid (∀ W' : World, Below W.heap.size W W' → Calls Tryd.prog 14 #[.string tag, .slice a l.length cap] W' (RetD W' res)) := fun W' h => by
    have hb := below_next hbW h
    rw [hres]
    exact tagged_call tag l _ W' (by omega) (by omega) (rest_keep HR.out hb) (HT.out.keep hb)
  have HSM : Hid (∀ (W' : World) (u : Value), Below W.heap.size W W' → Rest W'.heap.size W' (d1 ++ l) u → Calls Tryd.prog 12 #[u] W' (RetD W' res)) := fun W' u h hu => by
    rw [hres2]
    exact sum_call (d1 ++ l) u W' hu (HT.out.keep (below_next hbW h)) (by rw [List.length_append, HD1.out]; omega)
  have HRD : Hid (∀ W' : World, Below W.heap.size W W' → Rest W'.heap.size W' d1 (.slice (some ⟨w3.heap.size, 0, none⟩) 32 32)) := fun W' h => row_rest32 (hRowW.keep h) HD1.out
  have HRL : Hid (∀ W' : World, Below W.heap.size W W' → Rest W'.heap.size W' l (.slice a l.length cap)) := fun W' h => rest_keep HR.out (below_next hbW h)
  have HL1 := Lib.hid (show ([] : List UInt8).length + d1.length ≤ 70368744177664 by have := HD1.out; simp; omega)
  have HL2 := Lib.hid (show d1.length + l.length ≤ 70368744177664 by have := HD1.out; omega)
  clear hd1 hbW hRowW hW hres hres2 hb3 HB2 HB1 HR HT
  unfold dg
  go_wp2_with (refine wpList_store_row rfl 26 (.tmp 5) (.tmp 18) rfl w3.heap.size (cellsOf d1).toArray rfl rfl 26 _ (heap_alloc_new w3 _) (size32' HD1.out) (by rw [size32 HD1.out]; rfl) (cellsOf_one _) ?_; rw [World.setRow_alloc_new]; rw [← HW.out])
  refine wp_region_any (by kernel_rfl) ?_
  try (change wpAny _ _ _ _ _ _ _ (World.drew _))
  refine wpAny_take (i := 0) (oi := { dst := some 19, op := Op.move (Operand.tmp 0), type := 9, pos := "law.go:89", after := #[], guard := none }) (v := ?_) rfl (by kernel_rfl) (by kernel_rfl) (by kernel_rfl) (fun _ _ _ h => h) (Or.inl ⟨by rfl, ?_⟩) ?_
  rotate_left
  · (intro w; go_simp; with_reducible rfl)
  try simp only [Act.put, List.setIfInBounds_toArray, List.set_cons_zero, List.set_cons_succ]
  refine wpAny_take (i := 1) (oi := { dst := some 20, op := Op.move (Operand.tmp 1), type := 22, pos := "law.go:89", after := #[], guard := none }) (v := ?_) rfl (by kernel_rfl) (by kernel_rfl) (by kernel_rfl) (fun _ _ _ h => h) (Or.inl ⟨by rfl, ?_⟩) ?_
  rotate_left
  · (intro w; go_simp; with_reducible rfl)
  try simp only [Act.put, List.setIfInBounds_toArray, List.set_cons_zero, List.set_cons_succ]
  refine wpAny_take (i := 4) (oi := { dst := some 23, op := Op.slice 26 (Operand.tmp 5) none none none, type := 22, pos := "law.go:89", after := #[], guard := none }) (v := ?_) rfl (by kernel_rfl) (by kernel_rfl) (by kernel_rfl) (fun _ _ _ h => h) (Or.inl ⟨by rfl, ?_⟩) ?_
  rotate_left
  · (intro w; go_simp; with_reducible rfl)
  try simp only [Act.put, List.setIfInBounds_toArray, List.set_cons_zero, List.set_cons_succ]
  refine wpAny_take (i := 6) (oi := { dst := some 25, op := Op.move (Operand.tmp 1), type := 22, pos := "law.go:89", after := #[], guard := none }) (v := ?_) rfl (by kernel_rfl) (by kernel_rfl) (by kernel_rfl) (fun _ _ _ h => h) (Or.inl ⟨by rfl, ?_⟩) ?_
  rotate_left
  · (intro w; go_simp; with_reducible rfl)
  try simp only [Act.put, List.setIfInBounds_toArray, List.set_cons_zero, List.set_cons_succ]
  refine wpAny_ready (rs := [2, 3]) (by kernel_rfl) (by simp) ?_
  refine Go.BigFrame.allReady_want (o := { dst := some 21, op := Op.call { callee := Callee.value (Operand.func 14), args := #[Operand.tmp 19, Operand.tmp 20], argTypes := #[9, 22] }, type := 26, pos := "law.go:89", after := #[{ on := 0, ground := Ground.data }, { on := 1, ground := Ground.data }], guard := none }) rfl (by rfl) (fun K hK => ?_) ?_
  · skip
    go_simp
    go_wp2_with ((go_at_call 14; (with_reducible refine (HTG.out _ ((Below.refl _ W).drew)).mono ?_); rintro e w5 ⟨rfl, hb5⟩; have HB5 := Lib.hid (below_undrew hb5); clear hb5))
    refine wpAny_ready (rs := [3]) (by kernel_rfl) (by simp) ?_
    refine Go.BigFrame.allReady_want (o := { dst := some 22, op := Op.buildSlice 22 0 #[], type := 22, pos := "law.go:89", after := #[], guard := none }) rfl (by rfl) (fun K hK => ?_) ?_
    · skip
      ((refine wp_build_none 22 5 rfl i0 Tryd.underlying22 HI.out ?_; first | (have HN0 : Hid (New W (w5.alloc (.cells #[] 5)) (.slice (some ⟨w5.heap.size, 0, none⟩) 0 0) []) := (new_none w5).since HB5.out; have HB0 : Hid (Below W.heap.size W (w5.alloc (.cells #[] 5))) := HN0.out.2.1) | (have HN0 : Hid (New W (W.drew.alloc (.cells #[] 5)) (.slice (some ⟨W.drew.heap.size, 0, none⟩) 0 0) []) := (new_none W.drew).undrew; have HB0 : Hid (Below W.heap.size W (W.alloc (.cells #[] 5)).drew) := (Joins.below_alloc1 W _).drew)))
      refine hK _ _ ?_
      clear hK K
      try simp only [Act.put, List.setIfInBounds_toArray, List.set_cons_zero, List.set_cons_succ]
      refine wpAny_ready (rs := [5]) (by kernel_rfl) (by simp) ?_
      refine Go.BigFrame.allReady_want (o := { dst := some 24, op := Op.call { callee := Callee.builtin Builtin.append, args := #[Operand.tmp 22, Operand.tmp 23], argTypes := #[22, 22] }, type := 22, pos := "law.go:89", after := #[{ on := 3, ground := Ground.data }, { on := 4, ground := Ground.data }, { on := 2, ground := Ground.chain }], guard := none }) rfl (by rfl) (fun K hK => ?_) ?_
      · skip
        ((refine wp_buf rfl _ _ rfl _ [] rfl HN0.out.1 _ _ d1 rfl (HRD.out _ HB0.out) HL1.out ?_; intro v1 w6 hb6 hw6; have HN1 : Hid (New W w6 v1 d1) := HN0.out.app hb6 hw6; have HB1 : Hid (Below W.heap.size W w6) := HN1.out.2.1; clear hb6 hw6))
        refine hK _ _ ?_
        clear hK K
        try simp only [Act.put, List.setIfInBounds_toArray, List.set_cons_zero, List.set_cons_succ]
        refine wpAny_ready (rs := [7]) (by kernel_rfl) (by simp) ?_
        refine Go.BigFrame.allReady_want (o := { dst := some 26, op := Op.call { callee := Callee.builtin Builtin.append, args := #[Operand.tmp 24, Operand.tmp 25], argTypes := #[22, 22] }, type := 22, pos := "law.go:89", after := #[{ on := 5, ground := Ground.data }, { on := 6, ground := Ground.data }, { on := 5, ground := Ground.chain }], guard := none }) rfl (by rfl) (fun K hK => ?_) ?_
        · skip
          ((refine wp_buf rfl _ _ rfl _ d1 rfl HN1.out.1 _ _ l rfl (HRL.out _ HB1.out) HL2.out ?_; intro v2 w7 hb7 hw7; have HN2 : Hid (New W w7 v2 (d1 ++ l)) := HN1.out.app hb7 hw7; have HB2 : Hid (Below W.heap.size W w7) := HN2.out.2.1; have HR2 : Hid (Rest w7.heap.size w7 (d1 ++ l) v2) := buf_rest' HN2.out.1; clear hb7 hw7))
          refine hK _ _ ?_
          clear hK K
          try simp only [Act.put, List.setIfInBounds_toArray, List.set_cons_zero, List.set_cons_succ]
          refine wpAny_ready (rs := [8]) (by kernel_rfl) (by simp) ?_
          refine Go.BigFrame.allReady_want (o := { dst := some 27, op := Op.call { callee := Callee.value (Operand.func 12), args := #[Operand.tmp 26], argTypes := #[22] }, type := 26, pos := "law.go:89", after := #[{ on := 7, ground := Ground.data }, { on := 7, ground := Ground.chain }], guard := none }) rfl (by rfl) (fun K hK => ?_) ?_
          · skip
            go_simp
            go_wp2_with ((go_at_call 12; (with_reducible refine (HSM.out _ _ HB2.out HR2.out).mono ?_); rintro e w8 ⟨rfl, hb8⟩; have HB8 := Lib.hid (below_next HB2.out hb8); clear hb8))
            refine wpAny_ready (rs := [9]) (by kernel_rfl) (by simp) ?_
            refine Go.BigFrame.allReady_want (o := { dst := some 28, op := Op.binOp BinOp.eql 26 (Operand.tmp 21) (Operand.tmp 27) 26, type := 4, pos := "law.go:89", after := #[{ on := 2, ground := Ground.data }, { on := 8, ground := Ground.data }], guard := none }) rfl (by rfl) (fun K hK => ?_) ?_
            · skip
              ((refine wp_eq_dig _ _ rfl res res HRES.out HRES.out rfl rfl ?_; rw [beq_self_eq_true]))
              refine hK _ _ ?_
              clear hK K
              try simp only [Act.put, List.setIfInBounds_toArray, List.set_cons_zero, List.set_cons_succ]
              refine wpAny_take (i := 10) (oi := { dst := some 4, op := Op.assign (Operand.tmp 28), type := 4, pos := "law.go:89", after := #[{ on := 9, ground := Ground.data }, { on := 8, ground := Ground.chain }, { on := 0, ground := Ground.phase }, { on := 1, ground := Ground.phase }, { on := 2, ground := Ground.phase }, { on := 3, ground := Ground.phase }, { on := 4, ground := Ground.phase }, { on := 5, ground := Ground.phase }, { on := 6, ground := Ground.phase }, { on := 7, ground := Ground.phase }, { on := 8, ground := Ground.phase }, { on := 9, ground := Ground.phase }], guard := none }) (v := ?_) rfl (by kernel_rfl) (by kernel_rfl) (by kernel_rfl) (fun _ _ _ h => h) (Or.inl ⟨by rfl, ?_⟩) ?_
              rotate_left
              · (intro w; go_simp; with_reducible rfl)
              try simp only [Act.put, List.setIfInBounds_toArray, List.set_cons_zero, List.set_cons_succ]
              refine wpAny_done (by kernel_rfl) ?_ _
              ((go_wp2_with fail; exact bodyPost_ret (results_tmp (p := 4) rfl _ _ (.bool true) rfl) rfl ⟨rfl, below_next HBW.out HB8.out⟩))
            exact AllReady.nil
          exact AllReady.nil
        exact AllReady.nil
      exact AllReady.nil
    exact AllReady.nil
  refine Go.BigFrame.allReady_want (o := { dst := some 22, op := Op.buildSlice 22 0 #[], type := 22, pos := "law.go:89", after := #[], guard := none }) rfl (by rfl) (fun K hK => ?_) ?_
  · skip
    ((refine wp_build_none 22 5 rfl i0 Tryd.underlying22 HI.out ?_; first | (have HN0 : Hid (New W (w5.alloc (.cells #[] 5)) (.slice (some ⟨w5.heap.size, 0, none⟩) 0 0) []) := (new_none w5).since HB5.out; have HB0 : Hid (Below W.heap.size W (w5.alloc (.cells #[] 5))) := HN0.out.2.1) | (have HN0 : Hid (New W (W.drew.alloc (.cells #[] 5)) (.slice (some ⟨W.drew.heap.size, 0, none⟩) 0 0) []) := (new_none W.drew).undrew; have HB0 : Hid (Below W.heap.size W (W.alloc (.cells #[] 5)).drew) := (Joins.below_alloc1 W _).drew)))
    refine hK _ _ ?_
    clear hK K
    try simp only [Act.put, List.setIfInBounds_toArray, List.set_cons_zero, List.set_cons_succ]
    refine wpAny_ready (rs := [2]) (by kernel_rfl) (by simp) ?_
    refine Go.BigFrame.allReady_want (o := { dst := some 21, op := Op.call { callee := Callee.value (Operand.func 14), args := #[Operand.tmp 19, Operand.tmp 20], argTypes := #[9, 22] }, type := 26, pos := "law.go:89", after := #[{ on := 0, ground := Ground.data }, { on := 1, ground := Ground.data }], guard := none }) rfl (by rfl) (fun K hK => ?_) ?_
    · skip
      go_simp
      go_wp2_with ((go_at_call 14; (with_reducible refine (HTG.out _ HB0.out).mono ?_); rintro e w5 ⟨rfl, hb5⟩; have HN0 := Lib.hid (HN0.out.keep hb5); have HB0 := Lib.hid (below_next HB0.out hb5); clear hb5))
      refine wpAny_ready (rs := [5]) (by kernel_rfl) (by simp) ?_
      refine Go.BigFrame.allReady_want (o := { dst := some 24, op := Op.call { callee := Callee.builtin Builtin.append, args := #[Operand.tmp 22, Operand.tmp 23], argTypes := #[22, 22] }, type := 22, pos := "law.go:89", after := #[{ on := 3, ground := Ground.data }, { on := 4, ground := Ground.data }, { on := 2, ground := Ground.chain }], guard := none }) rfl (by rfl) (fun K hK => ?_) ?_
      · skip
        ((refine wp_buf rfl _ _ rfl _ [] rfl HN0.out.1 _ _ d1 rfl (HRD.out _ HB0.out) HL1.out ?_; intro v1 w6 hb6 hw6; have HN1 : Hid (New W w6 v1 d1) := HN0.out.app hb6 hw6; have HB1 : Hid (Below W.heap.size W w6) := HN1.out.2.1; clear hb6 hw6))
        refine hK _ _ ?_
        clear hK K
        try simp only [Act.put, List.setIfInBounds_toArray, List.set_cons_zero, List.set_cons_succ]
        refine wpAny_ready (rs := [7]) (by kernel_rfl) (by simp) ?_
        refine Go.BigFrame.allReady_want (o := { dst := some 26, op := Op.call { callee := Callee.builtin Builtin.append, args := #[Operand.tmp 24, Operand.tmp 25], argTypes := #[22, 22] }, type := 22, pos := "law.go:89", after := #[{ on := 5, ground := Ground.data }, { on := 6, ground := Ground.data }, { on := 5, ground := Ground.chain }], guard := none }) rfl (by rfl) (fun K hK => ?_) ?_
        · skip
          ((refine wp_buf rfl _ _ rfl _ d1 rfl HN1.out.1 _ _ l rfl (HRL.out _ HB1.out) HL2.out ?_; intro v2 w7 hb7 hw7; have HN2 : Hid (New W w7 v2 (d1 ++ l)) := HN1.out.app hb7 hw7; have HB2 : Hid (Below W.heap.size W w7) := HN2.out.2.1; have HR2 : Hid (Rest w7.heap.size w7 (d1 ++ l) v2) := buf_rest' HN2.out.1; clear hb7 hw7))
          refine hK _ _ ?_
          clear hK K
          try simp only [Act.put, List.setIfInBounds_toArray, List.set_cons_zero, List.set_cons_succ]
          refine wpAny_ready (rs := [8]) (by kernel_rfl) (by simp) ?_
          refine Go.BigFrame.allReady_want (o := { dst := some 27, op := Op.call { callee := Callee.value (Operand.func 12), args := #[Operand.tmp 26], argTypes := #[22] }, type := 26, pos := "law.go:89", after := #[{ on := 7, ground := Ground.data }, { on := 7, ground := Ground.chain }], guard := none }) rfl (by rfl) (fun K hK => ?_) ?_
          · skip
            go_simp
            go_wp2_with ((go_at_call 12; (with_reducible refine (HSM.out _ _ HB2.out HR2.out).mono ?_); rintro e w8 ⟨rfl, hb8⟩; have HB8 := Lib.hid (below_next HB2.out hb8); clear hb8))
            refine wpAny_ready (rs := [9]) (by kernel_rfl) (by simp) ?_
            refine Go.BigFrame.allReady_want (o := { dst := some 28, op := Op.binOp BinOp.eql 26 (Operand.tmp 21) (Operand.tmp 27) 26, type := 4, pos := "law.go:89", after := #[{ on := 2, ground := Ground.data }, { on := 8, ground := Ground.data }], guard := none }) rfl (by rfl) (fun K hK => ?_) ?_
            · skip
              ((refine wp_eq_dig _ _ rfl res res HRES.out HRES.out rfl rfl ?_; rw [beq_self_eq_true]))
              refine hK _ _ ?_
              clear hK K
              try simp only [Act.put, List.setIfInBounds_toArray, List.set_cons_zero, List.set_cons_succ]
              refine wpAny_take (i := 10) (oi := { dst := some 4, op := Op.assign (Operand.tmp 28), type := 4, pos := "law.go:89", after := #[{ on := 9, ground := Ground.data }, { on := 8, ground := Ground.chain }, { on := 0, ground := Ground.phase }, { on := 1, ground := Ground.phase }, { on := 2, ground := Ground.phase }, { on := 3, ground := Ground.phase }, { on := 4, ground := Ground.phase }, { on := 5, ground := Ground.phase }, { on := 6, ground := Ground.phase }, { on := 7, ground := Ground.phase }, { on := 8, ground := Ground.phase }, { on := 9, ground := Ground.phase }], guard := none }) (v := ?_) rfl (by kernel_rfl) (by kernel_rfl) (by kernel_rfl) (fun _ _ _ h => h) (Or.inl ⟨by rfl, ?_⟩) ?_
              rotate_left
              · (intro w; go_simp; with_reducible rfl)
              try simp only [Act.put, List.setIfInBounds_toArray, List.set_cons_zero, List.set_cons_succ]
              refine wpAny_done (by kernel_rfl) ?_ _
              ((go_wp2_with fail; exact bodyPost_ret (results_tmp (p := 4) rfl _ _ (.bool true) rfl) rfl ⟨rfl, below_next HBW.out HB8.out⟩))
            exact AllReady.nil
          exact AllReady.nil
        exact AllReady.nil
      exact AllReady.nil
    exact AllReady.nil
  exact AllReady.nil
end Go.Proofs.YtjibhelahagliaaDoor
