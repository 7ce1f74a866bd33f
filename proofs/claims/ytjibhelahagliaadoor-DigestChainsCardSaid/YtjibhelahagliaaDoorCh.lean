/- DigestChains: the law's walk. -/
import Derived.Test.YtjibhelahagliaaDoorRu
import Derived.Test.YtjibhelahagliaaDoorCb
import Derived.Test.YtjibhelahagliaaDoorDg
import Derived.Test.YtjibhelahagliaaDoorTa
import Derived.Deep.RegionLaw
import Derived.Deep.RegionHeld
import Derived.BigRegion
namespace Go.Proofs.YtjibhelahagliaaDoor
open Go.RowKit

/-- only the blocks a and b, and new ones, have turned -/
structure Two (a b : Nat) (w w' : World) : Prop where
  os : w'.os = w.os
  tape : w'.tape = w.tape
  output : w'.output = w.output
  size : w.heap.size ≤ w'.heap.size
  block : ∀ i, i < w.heap.size → i ≠ a → i ≠ b → w'.heap[i]? = w.heap[i]?
theorem Two.refl (a b : Nat) (w : World) : Two a b w w := ⟨rfl, rfl, rfl, Nat.le_refl _, fun _ _ _ _ => rfl⟩
theorem Two.next {a b : Nat} {w w1 w2 : World} (h : Two a b w w1) (k : Below w1.heap.size w1 w2) : Two a b w w2 :=
  ⟨k.os.trans h.os, k.tape.trans h.tape, k.output.trans h.output, Nat.le_trans h.size k.size, fun i hi h1 h2 => (k.block i (Nat.lt_of_lt_of_le hi h.size)).trans (h.block i hi h1 h2)⟩
theorem Two.trans {a b : Nat} {w w1 w2 : World} (h : Two a b w w1) (k : Two a b w1 w2) : Two a b w w2 :=
  ⟨k.os.trans h.os, k.tape.trans h.tape, k.output.trans h.output, Nat.le_trans h.size k.size, fun i hi h1 h2 => (k.block i (Nat.lt_of_lt_of_le hi h.size) h1 h2).trans (h.block i hi h1 h2)⟩
theorem Two.set {a b : Nat} {w w1 : World} (h : Two a b w w1) (g : Nat) (hg : g = a ∨ g = b) (cs : Array Value) : Two a b w (w1.setRow g cs) :=
  ⟨h.os, h.tape, h.output, by simpa using h.size, fun i hi h1 h2 => (setRow_other w1 g i cs (by omega)).trans (h.block i hi h1 h2)⟩
theorem Two.below {a b B : Nat} {w w1 : World} (h : Two a b w w1) (h1 : B ≤ a) (h2 : B ≤ b) (h3 : B ≤ w.heap.size) : Below B w w1 :=
  ⟨h.os, h.tape, h.output, h.size, fun i hi => h.block i (by omega) (by omega) (by omega)⟩
theorem row_two {a b g T : Nat} {w w1 : World} {cs : List Value} (h : Row w g T cs) (k : Two a b w w1) (h1 : g ≠ a) (h2 : g ≠ b) : Row w1 g T cs := (k.block g h.lt h1 h2).trans h
theorem dbuf_two {a b : Nat} {w1 W W' : World} {v : Value} {ds : List (List UInt8)} (hn : DNew w1 W v ds) (ha : a < w1.heap.size) (hb : b < w1.heap.size) (k : Two a b W W') : DRest W'.heap.size W' ds v := by
  refine dbuf_rest (v := v) ⟨hn.1.1, hn.1.2.1, ?_⟩
  rcases hn.1.2.2 with h0 | ⟨g', cap, cur, rfl, hbg, hh, h1, h2, h3, h4⟩
  · exact .inl h0
  · have hge := hn.2.2 g' rfl
    have hlt : g' < W.heap.size := (Array.getElem?_eq_some_iff.1 hh).1
    exact .inr ⟨g', cap, cur, rfl, hbg, (k.block g' hlt (by omega) (by omega)).trans hh, h1, h2, h3, h4⟩
theorem wp_store_two {o : Oper} {a : Act} {w : World} {K : Act → World → Prop} {Q : Exit → Act → World → Prop} (x y : Operand) (ho : o.op = .store 26 x y) {ga gb : Nat} {w0 : World}
    (g : Nat) (d e : List UInt8) (hd : d.length = 32) (he : e.length = 32) (hx : a.eval x = .pointer (some ⟨g, 0, none⟩)) (hy : a.eval y = dg d) (hg : Row w g 26 (cellsOf e)) (hab : g = ga ∨ g = gb) (ht : Two ga gb w0 w)
    (h : ∀ w', Row w' g 26 (cellsOf d) → Two ga gb w0 w' → (∀ g' T cs, g' ≠ g → Row w g' T cs → Row w' g' T cs) → K (a.put o.dst undef) w') : o.wp Tryd.prog a w K Q :=
  wp_store_row 26 x y ho g (cellsOf d).toArray hx hy 26 (cellsOf e).toArray hg (size32' hd) (by rw [size32 hd, size32 he]) (cellsOf_one _) (h _ (hg.setRow _) (ht.set g hab _) fun g' T cs hne hr => row_far hr _ hne)
theorem wp_row_dig {o : Oper} {a : Act} {w : World} {K : Act → World → Prop} {Q : Exit → Act → World → Prop} (x : Operand) (ho : o.op = .load 26 x) (g : Nat) (d : List UInt8) (hd : d.length = 32) (hx : a.eval x = .pointer (some ⟨g, 0, none⟩)) (hg : Row w g 26 (cellsOf d))
    (h : K (a.put o.dst (dg d)) w) : o.wp Tryd.prog a w K Q := wp_load_dig x ho g 0 hx d hd (row_cells hg hd) h

theorem wp_noguard {o : Oper} {a : Act} {w : World} {K : Act → World → Prop} {Q : Exit → Act → World → Prop} (h : Oper.wp Tryd.prog { o with guard := none } a w K Q) : o.wp Tryd.prog a w K Q := by cases o; exact h
theorem wp_bufg {w w0 : World} {o : Oper} {a : Act} {K : Act → World → Prop} {Q : Exit → Act → World → Prop} (s x : Operand)
    (ho : o.op = .call { callee := .builtin .append, args := #[s, x], argTypes := #[22, 22] })
    (v : Value) (xs : List UInt8) (hs : a.eval s = v) (hn : New w0 w v xs) (sv : Value) (B : Nat) (ys : List UInt8) (hx : a.eval x = sv) (hr : Rest B w ys sv) (hlen : xs.length + ys.length ≤ 70368744177664)
    (h : ∀ v' w', New w0 w' v' (xs ++ ys) → K (a.put o.dst v') w') : o.wp Tryd.prog a w K Q :=
  wp_noguard (wp_buf' (o := { o with guard := none }) rfl s x ho v xs hs hn sv B ys hx hr hlen h)
def ChHead (m g5 g6 : Nat) (W : World) (s17 : Value) (wr : World) : Prop := ∃ (i : Nat) (en : List UInt8), i ≤ m ∧ en.length = 32 ∧ s17 = .int .i64 (i : Int) ∧ Row wr g5 26 (cellsOf en) ∧ Row wr g6 26 (cellsOf en) ∧ Two g5 g6 W wr

set_option maxHeartbeats 8000000 in
set_option maxRecDepth 100000 in
theorem chains_walk (hs : Sane) (f0 : List UInt8) (hf : f0.length = 32) (bs : List UInt8) (v : Value) (w : World) (hr : Rest w.heap.size w bs v) (hT : Tab w) :
    Calls Tryd.prog 10 #[dg f0, v] w fun e w' => e = .returned (.bool true) ∧ Below w.heap.size w w' := by
  have HT := Lib.hid hT
  have HR := Lib.hid hr
  have HLF := Lib.hid hf
  obtain ⟨va, vc, rfl⟩ : ∃ a cap, v = .slice a bs.length cap := by obtain ⟨a, cap, h, _⟩ := hr; exact ⟨a, cap, h⟩
  have HS : Hid (∀ W', Tab W' → Calls Tryd.prog 11 #[] W' fun e w' => e = .returned (.bool true) ∧ Below W'.heap.size W' w') := fun W' h => hs W' h
  have HB0 := Lib.hid (Below.refl w.heap.size w)
  clear hs hT hr hf
  go_enter Tryd.func10, Tryd.ntmps10
  go_wp2_with (first
    | (refine wpList_box_u rfl 2 rfl (.tmp 0) rfl (cellsOf f0) rfl ?_; intro g2 w1 hg hrow hb; have H2 := Lib.hid hrow; have HB0 := Lib.hid (below_next HB0.out hb); clear hg hrow hb)
    | fail)
  refine (HS.out w1 (HT.out.keep HB0.out)).mono ?_
  rintro e w2 ⟨rfl, hb⟩
  have HB2 := Lib.hid (below_next HB0.out hb)
  have H22 := Lib.hid (H2.out.keep hb)
  clear hb
  have HDA : Hid (DigAt (fun w' => Below w2.heap.size w2 w') g2 f0) := ⟨HLF.out, fun W' h => range_row (H22.out.keep h)⟩
  go_wp2_with fail
  refine' cut3 (F := fun (g5 g6 : Nat) (w' : World) => Row w' g5 26 (cellsOf f0) ∧ Row w' g6 26 (cellsOf f0) ∧ Below w2.heap.size w2 w' ∧ w2.heap.size ≤ g5 ∧ w2.heap.size ≤ g6 ∧ g5 ≠ g6) _ ?rest ?kk
  case rest =>
    intro K
    (refine wp_region_held_drew (S := fun w' => Below w2.heap.size w2 w') (by kernel_rfl) ((Below.refl _ w2).drew) (fun hHeld => ?_))
    (obtain ⟨w0, hw0⟩ : ∃ x, x = w2.drew := ⟨_, rfl⟩; rw [← hw0] at hHeld ⊢; have HB0 := Lib.hid hHeld; clear hHeld hw0)
    refine take_dig (i := 0) (oi := { dst := some 12, op := Op.load 26 (Operand.tmp 2), type := 26, pos := "law.go:192", after := #[], guard := none }) (HDA.out) rfl (by kernel_rfl) (by kernel_rfl) (by kernel_rfl) (fun _ _ _ h => h) HB0.out rfl rfl (by rfl) ?_
    try simp only [Act.put, List.setIfInBounds_toArray, List.set_cons_zero, List.set_cons_succ]
    refine take_dig (i := 1) (oi := { dst := some 13, op := Op.load 26 (Operand.tmp 2), type := 26, pos := "law.go:192", after := #[{ on := 4, ground := Ground.gcOnly Departure.lateStores }], guard := none }) (HDA.out) rfl (by kernel_rfl) (by kernel_rfl) (by kernel_rfl) (fun _ _ _ h => h) HB0.out rfl rfl (by rfl) ?_
    try simp only [Act.put, List.setIfInBounds_toArray, List.set_cons_zero, List.set_cons_succ]
    refine wpAnyH_ready (rs := [2, 3]) (by kernel_rfl) (by simp) ?_
    refine AllReadyH.cons (o := { dst := some 5, op := Op.alloc 26, type := 0, pos := "law.go:192", after := #[], guard := none }) rfl (fun K hK => ?_) ?_
    · rw [if_pos (by rfl)]
      ((refine wp_alloc_dig 5 rfl rfl ?_; intro g5 w5 hg hrow hb; have hge5 : w2.heap.size ≤ g5 := (by have := HB0.out.size; omega); (try have hne : g5 ≠ g6 := (by have := H6.out.lt; omega)); have H5 := Lib.hid hrow; (try have H6 := Lib.hid (H6.out.keep hb)); have HB0 := Lib.hid (below_next HB0.out hb); clear hg hrow hb))
      refine hK.out _ _ HB0.out (fun _ => ?_)
      clear hK K
      try simp only [Act.put, List.setIfInBounds_toArray, List.set_cons_zero, List.set_cons_succ]
      refine wpAnyH_ready (rs := [3]) (by kernel_rfl) (by simp) ?_
      refine AllReadyH.cons (o := { dst := some 6, op := Op.alloc 26, type := 0, pos := "law.go:192", after := #[], guard := none }) rfl (fun K hK => ?_) ?_
      · rw [if_pos (by rfl)]
        ((refine wp_alloc_dig 6 rfl rfl ?_; intro g6 w6 hg hrow hb; have hge6 : w2.heap.size ≤ g6 := (by have := HB0.out.size; omega); (try have hne : g5 ≠ g6 := (by have := H5.out.lt; omega)); have H6 := Lib.hid hrow; (try have H5 := Lib.hid (H5.out.keep hb)); have HB0 := Lib.hid (below_next HB0.out hb); clear hg hrow hb))
        refine hK.out _ _ HB0.out (fun _ => ?_)
        clear hK K
        try simp only [Act.put, List.setIfInBounds_toArray, List.set_cons_zero, List.set_cons_succ]
        refine wpAnyH_ready (rs := [4]) (by kernel_rfl) (by simp) ?_
        refine AllReadyH.cons (o := { dst := none, op := Op.store 26 (Operand.tmp 5) (Operand.tmp 12), type := 0, pos := "law.go:192", after := #[{ on := 2, ground := Ground.data }, { on := 0, ground := Ground.data }, { on := 0, ground := Ground.phase }, { on := 1, ground := Ground.textOnly Departure.lateStores }, { on := 2, ground := Ground.phase }, { on := 3, ground := Ground.phase }], guard := none }) rfl (fun K hK => ?_) ?_
        · rw [if_pos (by rfl)]
          ((refine wp_store_dig' _ _ rfl g5 f0 HLF.out rfl rfl H5.out HB0.out hge5 ?_; intro w' hrow hb hoth; have H6 := Lib.hid (hoth _ _ _ (fun h => hne h.symm) H6.out); have H5 := Lib.hid hrow; have HB0 := Lib.hid hb; clear hrow hb hoth))
          refine hK.out _ _ HB0.out (fun _ => ?_)
          clear hK K
          try simp only [Act.put]
          refine wpAnyH_ready (rs := [5]) (by kernel_rfl) (by simp) ?_
          refine AllReadyH.cons (o := { dst := none, op := Op.store 26 (Operand.tmp 6) (Operand.tmp 13), type := 0, pos := "law.go:192", after := #[{ on := 3, ground := Ground.data }, { on := 1, ground := Ground.data }, { on := 4, ground := Ground.chain }, { on := 0, ground := Ground.phase }, { on := 1, ground := Ground.phase }, { on := 2, ground := Ground.phase }, { on := 3, ground := Ground.phase }, { on := 4, ground := Ground.phase }], guard := none }) rfl (fun K hK => ?_) ?_
          · rw [if_pos (by rfl)]
            ((refine wp_store_dig' _ _ rfl g6 f0 HLF.out rfl rfl H6.out HB0.out hge6 ?_; intro w' hrow hb hoth; have H5 := Lib.hid (hoth _ _ _ hne H5.out); have H6 := Lib.hid hrow; have HB0 := Lib.hid hb; clear hrow hb hoth))
            refine hK.out _ _ HB0.out (fun _ => ?_)
            clear hK K
            try simp only [Act.put]
            refine wpAnyH_done (by kernel_rfl) ?_ _
            ((exact K g5 g6 _ ⟨H5.out, H6.out, HB0.out, hge5, hge6, hne⟩))
          exact AllReadyH.nil
        exact AllReadyH.nil
      exact AllReadyH.nil
    refine AllReadyH.cons (o := { dst := some 6, op := Op.alloc 26, type := 0, pos := "law.go:192", after := #[], guard := none }) rfl (fun K hK => ?_) ?_
    · rw [if_pos (by rfl)]
      ((refine wp_alloc_dig 6 rfl rfl ?_; intro g6 w6 hg hrow hb; have hge6 : w2.heap.size ≤ g6 := (by have := HB0.out.size; omega); (try have hne : g5 ≠ g6 := (by have := H5.out.lt; omega)); have H6 := Lib.hid hrow; (try have H5 := Lib.hid (H5.out.keep hb)); have HB0 := Lib.hid (below_next HB0.out hb); clear hg hrow hb))
      refine hK.out _ _ HB0.out (fun _ => ?_)
      clear hK K
      try simp only [Act.put, List.setIfInBounds_toArray, List.set_cons_zero, List.set_cons_succ]
      refine wpAnyH_ready (rs := [2]) (by kernel_rfl) (by simp) ?_
      refine AllReadyH.cons (o := { dst := some 5, op := Op.alloc 26, type := 0, pos := "law.go:192", after := #[], guard := none }) rfl (fun K hK => ?_) ?_
      · rw [if_pos (by rfl)]
        ((refine wp_alloc_dig 5 rfl rfl ?_; intro g5 w5 hg hrow hb; have hge5 : w2.heap.size ≤ g5 := (by have := HB0.out.size; omega); (try have hne : g5 ≠ g6 := (by have := H6.out.lt; omega)); have H5 := Lib.hid hrow; (try have H6 := Lib.hid (H6.out.keep hb)); have HB0 := Lib.hid (below_next HB0.out hb); clear hg hrow hb))
        refine hK.out _ _ HB0.out (fun _ => ?_)
        clear hK K
        try simp only [Act.put, List.setIfInBounds_toArray, List.set_cons_zero, List.set_cons_succ]
        refine wpAnyH_ready (rs := [4]) (by kernel_rfl) (by simp) ?_
        refine AllReadyH.cons (o := { dst := none, op := Op.store 26 (Operand.tmp 5) (Operand.tmp 12), type := 0, pos := "law.go:192", after := #[{ on := 2, ground := Ground.data }, { on := 0, ground := Ground.data }, { on := 0, ground := Ground.phase }, { on := 1, ground := Ground.textOnly Departure.lateStores }, { on := 2, ground := Ground.phase }, { on := 3, ground := Ground.phase }], guard := none }) rfl (fun K hK => ?_) ?_
        · rw [if_pos (by rfl)]
          ((refine wp_store_dig' _ _ rfl g5 f0 HLF.out rfl rfl H5.out HB0.out hge5 ?_; intro w' hrow hb hoth; have H6 := Lib.hid (hoth _ _ _ (fun h => hne h.symm) H6.out); have H5 := Lib.hid hrow; have HB0 := Lib.hid hb; clear hrow hb hoth))
          refine hK.out _ _ HB0.out (fun _ => ?_)
          clear hK K
          try simp only [Act.put]
          refine wpAnyH_ready (rs := [5]) (by kernel_rfl) (by simp) ?_
          refine AllReadyH.cons (o := { dst := none, op := Op.store 26 (Operand.tmp 6) (Operand.tmp 13), type := 0, pos := "law.go:192", after := #[{ on := 3, ground := Ground.data }, { on := 1, ground := Ground.data }, { on := 4, ground := Ground.chain }, { on := 0, ground := Ground.phase }, { on := 1, ground := Ground.phase }, { on := 2, ground := Ground.phase }, { on := 3, ground := Ground.phase }, { on := 4, ground := Ground.phase }], guard := none }) rfl (fun K hK => ?_) ?_
          · rw [if_pos (by rfl)]
            ((refine wp_store_dig' _ _ rfl g6 f0 HLF.out rfl rfl H6.out HB0.out hge6 ?_; intro w' hrow hb hoth; have H5 := Lib.hid (hoth _ _ _ hne H5.out); have H6 := Lib.hid hrow; have HB0 := Lib.hid hb; clear hrow hb hoth))
            refine hK.out _ _ HB0.out (fun _ => ?_)
            clear hK K
            try simp only [Act.put]
            refine wpAnyH_done (by kernel_rfl) ?_ _
            ((exact K g5 g6 _ ⟨H5.out, H6.out, HB0.out, hge5, hge6, hne⟩))
          exact AllReadyH.nil
        exact AllReadyH.nil
      exact AllReadyH.nil
    exact AllReadyH.nil
  case kk =>
    rintro g5 g6 w3 ⟨h5, h6, hb3, hge5, hge6, hne⟩
    have HB3 := Lib.hid (below_next HB2.out hb3)
    have H53 := Lib.hid h5
    have H63 := Lib.hid h6
    have HD := Lib.hid (digestsOf_call bs _ w3 (rest_keep HR.out HB3.out))
    have hw5 : w.heap.size ≤ g5 := by have := HB2.out.size; omega
    have hw6 : w.heap.size ≤ g6 := by have := HB2.out.size; omega
    have hl5 := h5.lt
    have hl6 := h6.lt
    clear h5 h6 hb3 hge5 hge6
    go_wp2_with fail
    refine HD.out.mono ?_
    rintro e W ⟨v3, rfl, hnew⟩
    clear HD
    obtain ⟨ds, hds⟩ : ∃ ds, ds = dgs bs := ⟨_, rfl⟩
    rw [← hds] at hnew
    have hlen : ds.length ≤ 24 := by rw [hds, dgs_len]; omega
    have HBW := Lib.hid (below_next HB3.out hnew.2.1)
    have H5W := Lib.hid (H53.out.keep hnew.2.1)
    have H6W := Lib.hid (H63.out.keep hnew.2.1)
    have HTW := Lib.hid (HT.out.keep HBW.out)
    have HDS : Hid (∀ W', Two g5 g6 W W' → DRest W'.heap.size W' ds v3) := fun W' h => dbuf_two hnew hl5 hl6 h
    have hWs := hnew.2.1.size
    obtain ⟨a3, c3, rfl⟩ := hnew.shape
    obtain ⟨m, hm⟩ : ∃ m, m = ds.length := ⟨_, rfl⟩
    rw [← hm] at hlen ⊢
    have HM := Lib.hid hm
    clear hds hnew hm
    go_wp2_with fail
    go_loopw [17] (fun s17 wr => ChHead m g5 g6 W s17 wr) (fun s17 _ => m - (intOf s17).toNat)
    case atStart => exact ⟨0, f0, by omega, HLF.out, by go_num, H5W.out, H6W.out, Two.refl _ _ _⟩
    case round =>
      obtain ⟨i, en, hi, hen, rfl, h5, h6, htw⟩ := hrel
      have H5r := Lib.hid h5
      have H6r := Lib.hid h6
      have HTWO := Lib.hid htw
      have HLE := Lib.hid hen
      have HBr : Hid (Below w.heap.size w wr) := by
        exact HBW.out.trans (htw.below hw5 hw6 HBW.out.size)
      clear h5 h6 htw hen
      rcases Nat.lt_or_ge i m with hlt | hge
      · have HDr := HDS.out wr HTWO.out
        obtain ⟨d, hd⟩ : ∃ d, d = ds.getD i [] := ⟨_, rfl⟩
        have hdl : d.length = 32 := by rw [hd]; exact HDr.1.get (by rw [← HM.out]; exact hlt)
        obtain ⟨b, off, c3', he, hcc, hcc2, hbl, hcd⟩ := HDr.some (by rw [← HM.out]; omega)
        injection he with h1 h2 h3
        subst h1 h3
        have HCL : Hid (∀ j, j < 32 → wr.cell? ⟨b, off + i * 32 + j, none⟩ = some (.int .u8 ((d.getD j 0).toNat : Int))) := fun j hj => by rw [hd]; exact hcd i (by rw [← HM.out]; exact hlt) j hj
        have HDL := Lib.hid hdl
        have hi0 : (0 : Int) ≤ (i : Int) := by omega
        have him : (i : Int) < (m : Int) := by omega
        have HBZ := Lib.hid (Below.refl wr.heap.size wr)
        clear hd hdl hcc hcc2 hcd h2 HDr
        go_wp2_with (first
          | (refine wpList_load_dig rfl (.tmp 19) rfl b (off + i * 32) rfl d HDL.out HCL.out ?_)
          | (refine wpList_alloc_dig rfl 8 rfl rfl ?_; intro g8 w8 hg hrow hb; have H8 := Lib.hid hrow; have hg8 : wr.heap.size ≤ g8 := (by omega); have HBZ := Lib.hid (below_next HBZ.out hb); clear hb hg hrow)
          | (refine wpList_store_dig rfl (.tmp 8) (.tmp 20) rfl g8 d HDL.out rfl rfl H8.out HBZ.out hg8 ?_; intro w9 hrow hb hoth; have H8 := Lib.hid hrow; have HBZ := Lib.hid hb; have H5z := Lib.hid (H5r.out.keep hb); clear hrow hb hoth)
          | (refine wpList_row_dig rfl (.tmp 5) rfl g5 en HLE.out rfl H5z.out ?_)
          | (refine wpList_alloc_dig rfl 9 rfl rfl ?_; intro g9 w10 hg hrow hb; have H9 := Lib.hid hrow; have h89 : g8 ≠ g9 := (by have := H8.out.lt; omega); have hg9 : wr.heap.size ≤ g9 := (by have := HBZ.out.size; omega); have H8 := Lib.hid (H8.out.keep hb); have HBZ := Lib.hid (below_next HBZ.out hb); clear hb hg hrow)
          | (refine wpList_store_dig rfl (.tmp 9) (.tmp 21) rfl g9 en HLE.out rfl rfl H9.out HBZ.out hg9 ?_; intro wb hrow hb hoth; have H9 := Lib.hid hrow; have H8 := Lib.hid (hoth _ _ _ h89 H8.out); have HBZ := Lib.hid hb; clear hrow hb hoth)
          | fail)
        have H5b := Lib.hid (H5r.out.keep HBZ.out)
        have H6b := Lib.hid (H6r.out.keep HBZ.out)
        have H8b := Lib.hid H8.out
        have H9b := Lib.hid H9.out
        have HTb := Lib.hid (HT.out.keep (below_next HBr.out HBZ.out))
        obtain ⟨nx, hnx⟩ : ∃ nx, nx = chainD en d := ⟨_, rfl⟩
        have HLN : Hid (nx.length = 32) := by rw [hnx]; exact tagged_len _ _
        have HC1 : Hid (∀ W', Below wb.heap.size wb W' → Calls Tryd.prog 25 #[dg en, dg d] W' fun e w' => e = .returned (dg nx) ∧ Below W'.heap.size W' w') := fun W' h => by rw [hnx]; exact chain_call en d HLE.out HDL.out W' (HTb.out.keep h)
        have HC2 : Hid (∀ W', Below wb.heap.size wb W' → Calls Tryd.prog 26 #[dg en, dg d] W' fun e w' => e = .returned (dg nx) ∧ Below W'.heap.size W' w') := fun W' h => by rw [hnx]; exact refchain_call en d HLE.out HDL.out W'
        have HNX := Lib.hid hnx
        have h58 : g8 ≠ g5 := by have := H5r.out.lt; omega
        have h68 : g8 ≠ g6 := by have := H6r.out.lt; omega
        have h59 : g9 ≠ g5 := by have := H5r.out.lt; omega
        have h69 : g9 ≠ g6 := by have := H6r.out.lt; omega
        clear hnx
        refine' cut1 (F := fun (w' : World) => Row w' g5 26 (cellsOf nx) ∧ Row w' g6 26 (cellsOf nx) ∧ Two g5 g6 wb w') _ ?rest ?kk
        case rest =>
          intro K
          refine wp_region_any (by kernel_rfl) ?_
          try (change wpAny _ _ _ _ _ _ _ (World.drew _))
          (obtain ⟨w0, hw0⟩ : ∃ x, x = wb.drew := ⟨_, rfl⟩; rw [← hw0]; have HB0 : Hid (Below wb.heap.size wb w0) := (by rw [hw0]; exact (Below.refl _ wb).drew); clear hw0)
          refine wpAny_ready (rs := [0, 1, 3, 4]) (by kernel_rfl) (by simp) ?_
          refine Go.BigFrame.allReady_want (o := { dst := some 22, op := Op.load 26 (Operand.tmp 5), type := 26, pos := "law.go:195", after := #[], guard := none }) rfl (by rfl) (fun K hK => ?_) ?_
          · skip
            ((refine wp_row_dig _ rfl g5 en HLE.out rfl (H5b.out.keep HB0.out) ?_))
            refine hK _ _ ?_
            clear hK K
            try simp only [Act.put, List.setIfInBounds_toArray, List.set_cons_zero, List.set_cons_succ]
            refine wpAny_ready (rs := [1, 3, 4]) (by kernel_rfl) (by simp) ?_
            refine Go.BigFrame.allReady_want (o := { dst := some 23, op := Op.load 26 (Operand.tmp 8), type := 26, pos := "law.go:195", after := #[], guard := none }) rfl (by rfl) (fun K hK => ?_) ?_
            · skip
              ((refine wp_row_dig _ rfl g8 d HDL.out rfl (H8b.out.keep HB0.out) ?_))
              refine hK _ _ ?_
              clear hK K
              try simp only [Act.put, List.setIfInBounds_toArray, List.set_cons_zero, List.set_cons_succ]
              refine wpAny_ready (rs := [2, 3, 4]) (by kernel_rfl) (by simp) ?_
              refine Go.BigFrame.allReady_want (o := { dst := some 24, op := Op.call { callee := Callee.value (Operand.func 25), args := #[Operand.tmp 22, Operand.tmp 23], argTypes := #[26, 26] }, type := 26, pos := "law.go:195", after := #[{ on := 0, ground := Ground.data }, { on := 1, ground := Ground.data }], guard := none }) rfl (by rfl) (fun K hK => ?_) ?_
              · skip
                go_simp
                go_wp2_with ((go_at_call 25; (refine (HC1.out _ HB0.out).mono ?_); rintro e w11 ⟨rfl, hb⟩; have HB0 := Lib.hid (below_next HB0.out hb); clear hb))
                refine wpAny_ready (rs := [3, 4]) (by kernel_rfl) (by simp) ?_
                refine Go.BigFrame.allReady_want (o := { dst := some 25, op := Op.load 26 (Operand.tmp 6), type := 26, pos := "law.go:195", after := #[], guard := none }) rfl (by rfl) (fun K hK => ?_) ?_
                · skip
                  ((refine wp_row_dig _ rfl g6 en HLE.out rfl (H6b.out.keep HB0.out) ?_))
                  refine hK _ _ ?_
                  clear hK K
                  try simp only [Act.put, List.setIfInBounds_toArray, List.set_cons_zero, List.set_cons_succ]
                  refine wpAny_ready (rs := [4]) (by kernel_rfl) (by simp) ?_
                  refine Go.BigFrame.allReady_want (o := { dst := some 26, op := Op.load 26 (Operand.tmp 8), type := 26, pos := "law.go:195", after := #[], guard := none }) rfl (by rfl) (fun K hK => ?_) ?_
                  · skip
                    ((refine wp_row_dig _ rfl g8 d HDL.out rfl (H8b.out.keep HB0.out) ?_))
                    refine hK _ _ ?_
                    clear hK K
                    try simp only [Act.put, List.setIfInBounds_toArray, List.set_cons_zero, List.set_cons_succ]
                    refine wpAny_ready (rs := [5]) (by kernel_rfl) (by simp) ?_
                    refine Go.BigFrame.allReady_want (o := { dst := some 27, op := Op.call { callee := Callee.value (Operand.func 26), args := #[Operand.tmp 25, Operand.tmp 26], argTypes := #[26, 26] }, type := 26, pos := "law.go:195", after := #[{ on := 3, ground := Ground.data }, { on := 4, ground := Ground.data }, { on := 2, ground := Ground.chain }], guard := none }) rfl (by rfl) (fun K hK => ?_) ?_
                    · skip
                      go_simp
                      go_wp2_with ((go_at_call 26; (refine (HC2.out _ HB0.out).mono ?_); rintro e w12 ⟨rfl, hb⟩; have HB0 := Lib.hid (below_next HB0.out hb); clear hb))
                      refine wpAny_ready (rs := [6]) (by kernel_rfl) (by simp) ?_
                      refine Go.BigFrame.allReady_want (o := { dst := none, op := Op.store 26 (Operand.tmp 5) (Operand.tmp 24), type := 0, pos := "law.go:195", after := #[{ on := 2, ground := Ground.data }, { on := 5, ground := Ground.chain }, { on := 0, ground := Ground.phase }, { on := 1, ground := Ground.phase }, { on := 2, ground := Ground.phase }, { on := 3, ground := Ground.textOnly Departure.lateStores }, { on := 4, ground := Ground.textOnly Departure.lateStores }, { on := 5, ground := Ground.textOnly Departure.lateStoresUnsure }], guard := none }) rfl (by rfl) (fun K hK => ?_) ?_
                      · skip
                        ((refine wp_store_two _ _ rfl g5 nx en HLN.out HLE.out rfl rfl (H5b.out.keep HB0.out) (.inl rfl) ((Two.refl g5 g6 wb).next HB0.out) ?_; intro w' hrow htw hoth; have HN5 := Lib.hid hrow; have HT5 := Lib.hid htw; have HN6 := Lib.hid (hoth _ _ _ (fun h => hne h.symm) (H6b.out.keep HB0.out)); clear hrow htw hoth))
                        refine hK _ _ ?_
                        clear hK K
                        try simp only [Act.put]
                        refine wpAny_ready (rs := [7]) (by kernel_rfl) (by simp) ?_
                        refine Go.BigFrame.allReady_want (o := { dst := none, op := Op.store 26 (Operand.tmp 6) (Operand.tmp 27), type := 0, pos := "law.go:195", after := #[{ on := 5, ground := Ground.data }, { on := 6, ground := Ground.chain }, { on := 0, ground := Ground.phase }, { on := 1, ground := Ground.phase }, { on := 2, ground := Ground.phase }, { on := 3, ground := Ground.phase }, { on := 4, ground := Ground.phase }, { on := 5, ground := Ground.phase }, { on := 6, ground := Ground.phase }], guard := none }) rfl (by rfl) (fun K hK => ?_) ?_
                        · skip
                          ((refine wp_store_two _ _ rfl g6 nx en HLN.out HLE.out rfl rfl HN6.out (.inr rfl) HT5.out ?_; intro w' hrow htw hoth; have HN5 := Lib.hid (hoth _ _ _ hne HN5.out); have HN6 := Lib.hid hrow; have HT5 := Lib.hid htw; clear hrow htw hoth))
                          refine hK _ _ ?_
                          clear hK K
                          try simp only [Act.put]
                          refine wpAny_done (by kernel_rfl) ?_ _
                          ((exact K _ ⟨HN5.out, HN6.out, HT5.out⟩))
                        exact AllReady.nil
                      exact AllReady.nil
                    exact AllReady.nil
                  exact AllReady.nil
                refine Go.BigFrame.allReady_want (o := { dst := some 26, op := Op.load 26 (Operand.tmp 8), type := 26, pos := "law.go:195", after := #[], guard := none }) rfl (by rfl) (fun K hK => ?_) ?_
                · skip
                  ((refine wp_row_dig _ rfl g8 d HDL.out rfl (H8b.out.keep HB0.out) ?_))
                  refine hK _ _ ?_
                  clear hK K
                  try simp only [Act.put, List.setIfInBounds_toArray, List.set_cons_zero, List.set_cons_succ]
                  refine wpAny_ready (rs := [3]) (by kernel_rfl) (by simp) ?_
                  refine Go.BigFrame.allReady_want (o := { dst := some 25, op := Op.load 26 (Operand.tmp 6), type := 26, pos := "law.go:195", after := #[], guard := none }) rfl (by rfl) (fun K hK => ?_) ?_
                  · skip
                    ((refine wp_row_dig _ rfl g6 en HLE.out rfl (H6b.out.keep HB0.out) ?_))
                    refine hK _ _ ?_
                    clear hK K
                    try simp only [Act.put, List.setIfInBounds_toArray, List.set_cons_zero, List.set_cons_succ]
                    refine wpAny_ready (rs := [5]) (by kernel_rfl) (by simp) ?_
                    refine Go.BigFrame.allReady_want (o := { dst := some 27, op := Op.call { callee := Callee.value (Operand.func 26), args := #[Operand.tmp 25, Operand.tmp 26], argTypes := #[26, 26] }, type := 26, pos := "law.go:195", after := #[{ on := 3, ground := Ground.data }, { on := 4, ground := Ground.data }, { on := 2, ground := Ground.chain }], guard := none }) rfl (by rfl) (fun K hK => ?_) ?_
                    · skip
                      go_simp
                      go_wp2_with ((go_at_call 26; (refine (HC2.out _ HB0.out).mono ?_); rintro e w12 ⟨rfl, hb⟩; have HB0 := Lib.hid (below_next HB0.out hb); clear hb))
                      refine wpAny_ready (rs := [6]) (by kernel_rfl) (by simp) ?_
                      refine Go.BigFrame.allReady_want (o := { dst := none, op := Op.store 26 (Operand.tmp 5) (Operand.tmp 24), type := 0, pos := "law.go:195", after := #[{ on := 2, ground := Ground.data }, { on := 5, ground := Ground.chain }, { on := 0, ground := Ground.phase }, { on := 1, ground := Ground.phase }, { on := 2, ground := Ground.phase }, { on := 3, ground := Ground.textOnly Departure.lateStores }, { on := 4, ground := Ground.textOnly Departure.lateStores }, { on := 5, ground := Ground.textOnly Departure.lateStoresUnsure }], guard := none }) rfl (by rfl) (fun K hK => ?_) ?_
                      · skip
                        ((refine wp_store_two _ _ rfl g5 nx en HLN.out HLE.out rfl rfl (H5b.out.keep HB0.out) (.inl rfl) ((Two.refl g5 g6 wb).next HB0.out) ?_; intro w' hrow htw hoth; have HN5 := Lib.hid hrow; have HT5 := Lib.hid htw; have HN6 := Lib.hid (hoth _ _ _ (fun h => hne h.symm) (H6b.out.keep HB0.out)); clear hrow htw hoth))
                        refine hK _ _ ?_
                        clear hK K
                        try simp only [Act.put]
                        refine wpAny_ready (rs := [7]) (by kernel_rfl) (by simp) ?_
                        refine Go.BigFrame.allReady_want (o := { dst := none, op := Op.store 26 (Operand.tmp 6) (Operand.tmp 27), type := 0, pos := "law.go:195", after := #[{ on := 5, ground := Ground.data }, { on := 6, ground := Ground.chain }, { on := 0, ground := Ground.phase }, { on := 1, ground := Ground.phase }, { on := 2, ground := Ground.phase }, { on := 3, ground := Ground.phase }, { on := 4, ground := Ground.phase }, { on := 5, ground := Ground.phase }, { on := 6, ground := Ground.phase }], guard := none }) rfl (by rfl) (fun K hK => ?_) ?_
                        · skip
                          ((refine wp_store_two _ _ rfl g6 nx en HLN.out HLE.out rfl rfl HN6.out (.inr rfl) HT5.out ?_; intro w' hrow htw hoth; have HN5 := Lib.hid (hoth _ _ _ hne HN5.out); have HN6 := Lib.hid hrow; have HT5 := Lib.hid htw; clear hrow htw hoth))
                          refine hK _ _ ?_
                          clear hK K
                          try simp only [Act.put]
                          refine wpAny_done (by kernel_rfl) ?_ _
                          ((exact K _ ⟨HN5.out, HN6.out, HT5.out⟩))
                        exact AllReady.nil
                      exact AllReady.nil
                    exact AllReady.nil
                  exact AllReady.nil
                exact AllReady.nil
              refine Go.BigFrame.allReady_want (o := { dst := some 25, op := Op.load 26 (Operand.tmp 6), type := 26, pos := "law.go:195", after := #[], guard := none }) rfl (by rfl) (fun K hK => ?_) ?_
              · skip
                ((refine wp_row_dig _ rfl g6 en HLE.out rfl (H6b.out.keep HB0.out) ?_))
                refine hK _ _ ?_
                clear hK K
                try simp only [Act.put, List.setIfInBounds_toArray, List.set_cons_zero, List.set_cons_succ]
                refine wpAny_ready (rs := [2, 4]) (by kernel_rfl) (by simp) ?_
                refine Go.BigFrame.allReady_want (o := { dst := some 24, op := Op.call { callee := Callee.value (Operand.func 25), args := #[Operand.tmp 22, Operand.tmp 23], argTypes := #[26, 26] }, type := 26, pos := "law.go:195", after := #[{ on := 0, ground := Ground.data }, { on := 1, ground := Ground.data }], guard := none }) rfl (by rfl) (fun K hK => ?_) ?_
                · skip
                  go_simp
                  go_wp2_with ((go_at_call 25; (refine (HC1.out _ HB0.out).mono ?_); rintro e w11 ⟨rfl, hb⟩; have HB0 := Lib.hid (below_next HB0.out hb); clear hb))
                  refine wpAny_ready (rs := [4]) (by kernel_rfl) (by simp) ?_
                  refine Go.BigFrame.allReady_want (o := { dst := some 26, op := Op.load 26 (Operand.tmp 8), type := 26, pos := "law.go:195", after := #[], guard := none }) rfl (by rfl) (fun K hK => ?_) ?_
                  · skip
                    ((refine wp_row_dig _ rfl g8 d HDL.out rfl (H8b.out.keep HB0.out) ?_))
                    refine hK _ _ ?_
                    clear hK K
                    try simp only [Act.put, List.setIfInBounds_toArray, List.set_cons_zero, List.set_cons_succ]
                    refine wpAny_ready (rs := [5]) (by kernel_rfl) (by simp) ?_
                    refine Go.BigFrame.allReady_want (o := { dst := some 27, op := Op.call { callee := Callee.value (Operand.func 26), args := #[Operand.tmp 25, Operand.tmp 26], argTypes := #[26, 26] }, type := 26, pos := "law.go:195", after := #[{ on := 3, ground := Ground.data }, { on := 4, ground := Ground.data }, { on := 2, ground := Ground.chain }], guard := none }) rfl (by rfl) (fun K hK => ?_) ?_
                    · skip
                      go_simp
                      go_wp2_with ((go_at_call 26; (refine (HC2.out _ HB0.out).mono ?_); rintro e w12 ⟨rfl, hb⟩; have HB0 := Lib.hid (below_next HB0.out hb); clear hb))
                      refine wpAny_ready (rs := [6]) (by kernel_rfl) (by simp) ?_
                      refine Go.BigFrame.allReady_want (o := { dst := none, op := Op.store 26 (Operand.tmp 5) (Operand.tmp 24), type := 0, pos := "law.go:195", after := #[{ on := 2, ground := Ground.data }, { on := 5, ground := Ground.chain }, { on := 0, ground := Ground.phase }, { on := 1, ground := Ground.phase }, { on := 2, ground := Ground.phase }, { on := 3, ground := Ground.textOnly Departure.lateStores }, { on := 4, ground := Ground.textOnly Departure.lateStores }, { on := 5, ground := Ground.textOnly Departure.lateStoresUnsure }], guard := none }) rfl (by rfl) (fun K hK => ?_) ?_
                      · skip
                        ((refine wp_store_two _ _ rfl g5 nx en HLN.out HLE.out rfl rfl (H5b.out.keep HB0.out) (.inl rfl) ((Two.refl g5 g6 wb).next HB0.out) ?_; intro w' hrow htw hoth; have HN5 := Lib.hid hrow; have HT5 := Lib.hid htw; have HN6 := Lib.hid (hoth _ _ _ (fun h => hne h.symm) (H6b.out.keep HB0.out)); clear hrow htw hoth))
                        refine hK _ _ ?_
                        clear hK K
                        try simp only [Act.put]
                        refine wpAny_ready (rs := [7]) (by kernel_rfl) (by simp) ?_
                        refine Go.BigFrame.allReady_want (o := { dst := none, op := Op.store 26 (Operand.tmp 6) (Operand.tmp 27), type := 0, pos := "law.go:195", after := #[{ on := 5, ground := Ground.data }, { on := 6, ground := Ground.chain }, { on := 0, ground := Ground.phase }, { on := 1, ground := Ground.phase }, { on := 2, ground := Ground.phase }, { on := 3, ground := Ground.phase }, { on := 4, ground := Ground.phase }, { on := 5, ground := Ground.phase }, { on := 6, ground := Ground.phase }], guard := none }) rfl (by rfl) (fun K hK => ?_) ?_
                        · skip
                          ((refine wp_store_two _ _ rfl g6 nx en HLN.out HLE.out rfl rfl HN6.out (.inr rfl) HT5.out ?_; intro w' hrow htw hoth; have HN5 := Lib.hid (hoth _ _ _ hne HN5.out); have HN6 := Lib.hid hrow; have HT5 := Lib.hid htw; clear hrow htw hoth))
                          refine hK _ _ ?_
                          clear hK K
                          try simp only [Act.put]
                          refine wpAny_done (by kernel_rfl) ?_ _
                          ((exact K _ ⟨HN5.out, HN6.out, HT5.out⟩))
                        exact AllReady.nil
                      exact AllReady.nil
                    exact AllReady.nil
                  exact AllReady.nil
                refine Go.BigFrame.allReady_want (o := { dst := some 26, op := Op.load 26 (Operand.tmp 8), type := 26, pos := "law.go:195", after := #[], guard := none }) rfl (by rfl) (fun K hK => ?_) ?_
                · skip
                  ((refine wp_row_dig _ rfl g8 d HDL.out rfl (H8b.out.keep HB0.out) ?_))
                  refine hK _ _ ?_
                  clear hK K
                  try simp only [Act.put, List.setIfInBounds_toArray, List.set_cons_zero, List.set_cons_succ]
                  refine wpAny_ready (rs := [2]) (by kernel_rfl) (by simp) ?_
                  refine Go.BigFrame.allReady_want (o := { dst := some 24, op := Op.call { callee := Callee.value (Operand.func 25), args := #[Operand.tmp 22, Operand.tmp 23], argTypes := #[26, 26] }, type := 26, pos := "law.go:195", after := #[{ on := 0, ground := Ground.data }, { on := 1, ground := Ground.data }], guard := none }) rfl (by rfl) (fun K hK => ?_) ?_
                  · skip
                    go_simp
                    go_wp2_with ((go_at_call 25; (refine (HC1.out _ HB0.out).mono ?_); rintro e w11 ⟨rfl, hb⟩; have HB0 := Lib.hid (below_next HB0.out hb); clear hb))
                    refine wpAny_ready (rs := [5]) (by kernel_rfl) (by simp) ?_
                    refine Go.BigFrame.allReady_want (o := { dst := some 27, op := Op.call { callee := Callee.value (Operand.func 26), args := #[Operand.tmp 25, Operand.tmp 26], argTypes := #[26, 26] }, type := 26, pos := "law.go:195", after := #[{ on := 3, ground := Ground.data }, { on := 4, ground := Ground.data }, { on := 2, ground := Ground.chain }], guard := none }) rfl (by rfl) (fun K hK => ?_) ?_
                    · skip
                      go_simp
                      go_wp2_with ((go_at_call 26; (refine (HC2.out _ HB0.out).mono ?_); rintro e w12 ⟨rfl, hb⟩; have HB0 := Lib.hid (below_next HB0.out hb); clear hb))
                      refine wpAny_ready (rs := [6]) (by kernel_rfl) (by simp) ?_
                      refine Go.BigFrame.allReady_want (o := { dst := none, op := Op.store 26 (Operand.tmp 5) (Operand.tmp 24), type := 0, pos := "law.go:195", after := #[{ on := 2, ground := Ground.data }, { on := 5, ground := Ground.chain }, { on := 0, ground := Ground.phase }, { on := 1, ground := Ground.phase }, { on := 2, ground := Ground.phase }, { on := 3, ground := Ground.textOnly Departure.lateStores }, { on := 4, ground := Ground.textOnly Departure.lateStores }, { on := 5, ground := Ground.textOnly Departure.lateStoresUnsure }], guard := none }) rfl (by rfl) (fun K hK => ?_) ?_
                      · skip
                        ((refine wp_store_two _ _ rfl g5 nx en HLN.out HLE.out rfl rfl (H5b.out.keep HB0.out) (.inl rfl) ((Two.refl g5 g6 wb).next HB0.out) ?_; intro w' hrow htw hoth; have HN5 := Lib.hid hrow; have HT5 := Lib.hid htw; have HN6 := Lib.hid (hoth _ _ _ (fun h => hne h.symm) (H6b.out.keep HB0.out)); clear hrow htw hoth))
                        refine hK _ _ ?_
                        clear hK K
                        try simp only [Act.put]
                        refine wpAny_ready (rs := [7]) (by kernel_rfl) (by simp) ?_
                        refine Go.BigFrame.allReady_want (o := { dst := none, op := Op.store 26 (Operand.tmp 6) (Operand.tmp 27), type := 0, pos := "law.go:195", after := #[{ on := 5, ground := Ground.data }, { on := 6, ground := Ground.chain }, { on := 0, ground := Ground.phase }, { on := 1, ground := Ground.phase }, { on := 2, ground := Ground.phase }, { on := 3, ground := Ground.phase }, { on := 4, ground := Ground.phase }, { on := 5, ground := Ground.phase }, { on := 6, ground := Ground.phase }], guard := none }) rfl (by rfl) (fun K hK => ?_) ?_
                        · skip
                          ((refine wp_store_two _ _ rfl g6 nx en HLN.out HLE.out rfl rfl HN6.out (.inr rfl) HT5.out ?_; intro w' hrow htw hoth; have HN5 := Lib.hid (hoth _ _ _ hne HN5.out); have HN6 := Lib.hid hrow; have HT5 := Lib.hid htw; clear hrow htw hoth))
                          refine hK _ _ ?_
                          clear hK K
                          try simp only [Act.put]
                          refine wpAny_done (by kernel_rfl) ?_ _
                          ((exact K _ ⟨HN5.out, HN6.out, HT5.out⟩))
                        exact AllReady.nil
                      exact AllReady.nil
                    exact AllReady.nil
                  exact AllReady.nil
                exact AllReady.nil
              refine Go.BigFrame.allReady_want (o := { dst := some 26, op := Op.load 26 (Operand.tmp 8), type := 26, pos := "law.go:195", after := #[], guard := none }) rfl (by rfl) (fun K hK => ?_) ?_
              · skip
                ((refine wp_row_dig _ rfl g8 d HDL.out rfl (H8b.out.keep HB0.out) ?_))
                refine hK _ _ ?_
                clear hK K
                try simp only [Act.put, List.setIfInBounds_toArray, List.set_cons_zero, List.set_cons_succ]
                refine wpAny_ready (rs := [2, 3]) (by kernel_rfl) (by simp) ?_
                refine Go.BigFrame.allReady_want (o := { dst := some 24, op := Op.call { callee := Callee.value (Operand.func 25), args := #[Operand.tmp 22, Operand.tmp 23], argTypes := #[26, 26] }, type := 26, pos := "law.go:195", after := #[{ on := 0, ground := Ground.data }, { on := 1, ground := Ground.data }], guard := none }) rfl (by rfl) (fun K hK => ?_) ?_
                · skip
                  go_simp
                  go_wp2_with ((go_at_call 25; (refine (HC1.out _ HB0.out).mono ?_); rintro e w11 ⟨rfl, hb⟩; have HB0 := Lib.hid (below_next HB0.out hb); clear hb))
                  refine wpAny_ready (rs := [3]) (by kernel_rfl) (by simp) ?_
                  refine Go.BigFrame.allReady_want (o := { dst := some 25, op := Op.load 26 (Operand.tmp 6), type := 26, pos := "law.go:195", after := #[], guard := none }) rfl (by rfl) (fun K hK => ?_) ?_
                  · skip
                    ((refine wp_row_dig _ rfl g6 en HLE.out rfl (H6b.out.keep HB0.out) ?_))
                    refine hK _ _ ?_
                    clear hK K
                    try simp only [Act.put, List.setIfInBounds_toArray, List.set_cons_zero, List.set_cons_succ]
                    refine wpAny_ready (rs := [5]) (by kernel_rfl) (by simp) ?_
                    refine Go.BigFrame.allReady_want (o := { dst := some 27, op := Op.call { callee := Callee.value (Operand.func 26), args := #[Operand.tmp 25, Operand.tmp 26], argTypes := #[26, 26] }, type := 26, pos := "law.go:195", after := #[{ on := 3, ground := Ground.data }, { on := 4, ground := Ground.data }, { on := 2, ground := Ground.chain }], guard := none }) rfl (by rfl) (fun K hK => ?_) ?_
                    · skip
                      go_simp
                      go_wp2_with ((go_at_call 26; (refine (HC2.out _ HB0.out).mono ?_); rintro e w12 ⟨rfl, hb⟩; have HB0 := Lib.hid (below_next HB0.out hb); clear hb))
                      refine wpAny_ready (rs := [6]) (by kernel_rfl) (by simp) ?_
                      refine Go.BigFrame.allReady_want (o := { dst := none, op := Op.store 26 (Operand.tmp 5) (Operand.tmp 24), type := 0, pos := "law.go:195", after := #[{ on := 2, ground := Ground.data }, { on := 5, ground := Ground.chain }, { on := 0, ground := Ground.phase }, { on := 1, ground := Ground.phase }, { on := 2, ground := Ground.phase }, { on := 3, ground := Ground.textOnly Departure.lateStores }, { on := 4, ground := Ground.textOnly Departure.lateStores }, { on := 5, ground := Ground.textOnly Departure.lateStoresUnsure }], guard := none }) rfl (by rfl) (fun K hK => ?_) ?_
                      · skip
                        ((refine wp_store_two _ _ rfl g5 nx en HLN.out HLE.out rfl rfl (H5b.out.keep HB0.out) (.inl rfl) ((Two.refl g5 g6 wb).next HB0.out) ?_; intro w' hrow htw hoth; have HN5 := Lib.hid hrow; have HT5 := Lib.hid htw; have HN6 := Lib.hid (hoth _ _ _ (fun h => hne h.symm) (H6b.out.keep HB0.out)); clear hrow htw hoth))
                        refine hK _ _ ?_
                        clear hK K
                        try simp only [Act.put]
                        refine wpAny_ready (rs := [7]) (by kernel_rfl) (by simp) ?_
                        refine Go.BigFrame.allReady_want (o := { dst := none, op := Op.store 26 (Operand.tmp 6) (Operand.tmp 27), type := 0, pos := "law.go:195", after := #[{ on := 5, ground := Ground.data }, { on := 6, ground := Ground.chain }, { on := 0, ground := Ground.phase }, { on := 1, ground := Ground.phase }, { on := 2, ground := Ground.phase }, { on := 3, ground := Ground.phase }, { on := 4, ground := Ground.phase }, { on := 5, ground := Ground.phase }, { on := 6, ground := Ground.phase }], guard := none }) rfl (by rfl) (fun K hK => ?_) ?_
                        · skip
                          ((refine wp_store_two _ _ rfl g6 nx en HLN.out HLE.out rfl rfl HN6.out (.inr rfl) HT5.out ?_; intro w' hrow htw hoth; have HN5 := Lib.hid (hoth _ _ _ hne HN5.out); have HN6 := Lib.hid hrow; have HT5 := Lib.hid htw; clear hrow htw hoth))
                          refine hK _ _ ?_
                          clear hK K
                          try simp only [Act.put]
                          refine wpAny_done (by kernel_rfl) ?_ _
                          ((exact K _ ⟨HN5.out, HN6.out, HT5.out⟩))
                        exact AllReady.nil
                      exact AllReady.nil
                    exact AllReady.nil
                  exact AllReady.nil
                refine Go.BigFrame.allReady_want (o := { dst := some 25, op := Op.load 26 (Operand.tmp 6), type := 26, pos := "law.go:195", after := #[], guard := none }) rfl (by rfl) (fun K hK => ?_) ?_
                · skip
                  ((refine wp_row_dig _ rfl g6 en HLE.out rfl (H6b.out.keep HB0.out) ?_))
                  refine hK _ _ ?_
                  clear hK K
                  try simp only [Act.put, List.setIfInBounds_toArray, List.set_cons_zero, List.set_cons_succ]
                  refine wpAny_ready (rs := [2]) (by kernel_rfl) (by simp) ?_
                  refine Go.BigFrame.allReady_want (o := { dst := some 24, op := Op.call { callee := Callee.value (Operand.func 25), args := #[Operand.tmp 22, Operand.tmp 23], argTypes := #[26, 26] }, type := 26, pos := "law.go:195", after := #[{ on := 0, ground := Ground.data }, { on := 1, ground := Ground.data }], guard := none }) rfl (by rfl) (fun K hK => ?_) ?_
                  · skip
                    go_simp
                    go_wp2_with ((go_at_call 25; (refine (HC1.out _ HB0.out).mono ?_); rintro e w11 ⟨rfl, hb⟩; have HB0 := Lib.hid (below_next HB0.out hb); clear hb))
                    refine wpAny_ready (rs := [5]) (by kernel_rfl) (by simp) ?_
                    refine Go.BigFrame.allReady_want (o := { dst := some 27, op := Op.call { callee := Callee.value (Operand.func 26), args := #[Operand.tmp 25, Operand.tmp 26], argTypes := #[26, 26] }, type := 26, pos := "law.go:195", after := #[{ on := 3, ground := Ground.data }, { on := 4, ground := Ground.data }, { on := 2, ground := Ground.chain }], guard := none }) rfl (by rfl) (fun K hK => ?_) ?_
                    · skip
                      go_simp
                      go_wp2_with ((go_at_call 26; (refine (HC2.out _ HB0.out).mono ?_); rintro e w12 ⟨rfl, hb⟩; have HB0 := Lib.hid (below_next HB0.out hb); clear hb))
                      refine wpAny_ready (rs := [6]) (by kernel_rfl) (by simp) ?_
                      refine Go.BigFrame.allReady_want (o := { dst := none, op := Op.store 26 (Operand.tmp 5) (Operand.tmp 24), type := 0, pos := "law.go:195", after := #[{ on := 2, ground := Ground.data }, { on := 5, ground := Ground.chain }, { on := 0, ground := Ground.phase }, { on := 1, ground := Ground.phase }, { on := 2, ground := Ground.phase }, { on := 3, ground := Ground.textOnly Departure.lateStores }, { on := 4, ground := Ground.textOnly Departure.lateStores }, { on := 5, ground := Ground.textOnly Departure.lateStoresUnsure }], guard := none }) rfl (by rfl) (fun K hK => ?_) ?_
                      · skip
                        ((refine wp_store_two _ _ rfl g5 nx en HLN.out HLE.out rfl rfl (H5b.out.keep HB0.out) (.inl rfl) ((Two.refl g5 g6 wb).next HB0.out) ?_; intro w' hrow htw hoth; have HN5 := Lib.hid hrow; have HT5 := Lib.hid htw; have HN6 := Lib.hid (hoth _ _ _ (fun h => hne h.symm) (H6b.out.keep HB0.out)); clear hrow htw hoth))
                        refine hK _ _ ?_
                        clear hK K
                        try simp only [Act.put]
                        refine wpAny_ready (rs := [7]) (by kernel_rfl) (by simp) ?_
                        refine Go.BigFrame.allReady_want (o := { dst := none, op := Op.store 26 (Operand.tmp 6) (Operand.tmp 27), type := 0, pos := "law.go:195", after := #[{ on := 5, ground := Ground.data }, { on := 6, ground := Ground.chain }, { on := 0, ground := Ground.phase }, { on := 1, ground := Ground.phase }, { on := 2, ground := Ground.phase }, { on := 3, ground := Ground.phase }, { on := 4, ground := Ground.phase }, { on := 5, ground := Ground.phase }, { on := 6, ground := Ground.phase }], guard := none }) rfl (by rfl) (fun K hK => ?_) ?_
                        · skip
                          ((refine wp_store_two _ _ rfl g6 nx en HLN.out HLE.out rfl rfl HN6.out (.inr rfl) HT5.out ?_; intro w' hrow htw hoth; have HN5 := Lib.hid (hoth _ _ _ hne HN5.out); have HN6 := Lib.hid hrow; have HT5 := Lib.hid htw; clear hrow htw hoth))
                          refine hK _ _ ?_
                          clear hK K
                          try simp only [Act.put]
                          refine wpAny_done (by kernel_rfl) ?_ _
                          ((exact K _ ⟨HN5.out, HN6.out, HT5.out⟩))
                        exact AllReady.nil
                      exact AllReady.nil
                    exact AllReady.nil
                  exact AllReady.nil
                exact AllReady.nil
              exact AllReady.nil
            refine Go.BigFrame.allReady_want (o := { dst := some 25, op := Op.load 26 (Operand.tmp 6), type := 26, pos := "law.go:195", after := #[], guard := none }) rfl (by rfl) (fun K hK => ?_) ?_
            · skip
              ((refine wp_row_dig _ rfl g6 en HLE.out rfl (H6b.out.keep HB0.out) ?_))
              refine hK _ _ ?_
              clear hK K
              try simp only [Act.put, List.setIfInBounds_toArray, List.set_cons_zero, List.set_cons_succ]
              refine wpAny_ready (rs := [1, 4]) (by kernel_rfl) (by simp) ?_
              refine Go.BigFrame.allReady_want (o := { dst := some 23, op := Op.load 26 (Operand.tmp 8), type := 26, pos := "law.go:195", after := #[], guard := none }) rfl (by rfl) (fun K hK => ?_) ?_
              · skip
                ((refine wp_row_dig _ rfl g8 d HDL.out rfl (H8b.out.keep HB0.out) ?_))
                refine hK _ _ ?_
                clear hK K
                try simp only [Act.put, List.setIfInBounds_toArray, List.set_cons_zero, List.set_cons_succ]
                refine wpAny_ready (rs := [2, 4]) (by kernel_rfl) (by simp) ?_
                refine Go.BigFrame.allReady_want (o := { dst := some 24, op := Op.call { callee := Callee.value (Operand.func 25), args := #[Operand.tmp 22, Operand.tmp 23], argTypes := #[26, 26] }, type := 26, pos := "law.go:195", after := #[{ on := 0, ground := Ground.data }, { on := 1, ground := Ground.data }], guard := none }) rfl (by rfl) (fun K hK => ?_) ?_
                · skip
                  go_simp
                  go_wp2_with ((go_at_call 25; (refine (HC1.out _ HB0.out).mono ?_); rintro e w11 ⟨rfl, hb⟩; have HB0 := Lib.hid (below_next HB0.out hb); clear hb))
                  refine wpAny_ready (rs := [4]) (by kernel_rfl) (by simp) ?_
                  refine Go.BigFrame.allReady_want (o := { dst := some 26, op := Op.load 26 (Operand.tmp 8), type := 26, pos := "law.go:195", after := #[], guard := none }) rfl (by rfl) (fun K hK => ?_) ?_
                  · skip
                    ((refine wp_row_dig _ rfl g8 d HDL.out rfl (H8b.out.keep HB0.out) ?_))
                    refine hK _ _ ?_
                    clear hK K
                    try simp only [Act.put, List.setIfInBounds_toArray, List.set_cons_zero, List.set_cons_succ]
                    refine wpAny_ready (rs := [5]) (by kernel_rfl) (by simp) ?_
                    refine Go.BigFrame.allReady_want (o := { dst := some 27, op := Op.call { callee := Callee.value (Operand.func 26), args := #[Operand.tmp 25, Operand.tmp 26], argTypes := #[26, 26] }, type := 26, pos := "law.go:195", after := #[{ on := 3, ground := Ground.data }, { on := 4, ground := Ground.data }, { on := 2, ground := Ground.chain }], guard := none }) rfl (by rfl) (fun K hK => ?_) ?_
                    · skip
                      go_simp
                      go_wp2_with ((go_at_call 26; (refine (HC2.out _ HB0.out).mono ?_); rintro e w12 ⟨rfl, hb⟩; have HB0 := Lib.hid (below_next HB0.out hb); clear hb))
                      refine wpAny_ready (rs := [6]) (by kernel_rfl) (by simp) ?_
                      refine Go.BigFrame.allReady_want (o := { dst := none, op := Op.store 26 (Operand.tmp 5) (Operand.tmp 24), type := 0, pos := "law.go:195", after := #[{ on := 2, ground := Ground.data }, { on := 5, ground := Ground.chain }, { on := 0, ground := Ground.phase }, { on := 1, ground := Ground.phase }, { on := 2, ground := Ground.phase }, { on := 3, ground := Ground.textOnly Departure.lateStores }, { on := 4, ground := Ground.textOnly Departure.lateStores }, { on := 5, ground := Ground.textOnly Departure.lateStoresUnsure }], guard := none }) rfl (by rfl) (fun K hK => ?_) ?_
                      · skip
                        ((refine wp_store_two _ _ rfl g5 nx en HLN.out HLE.out rfl rfl (H5b.out.keep HB0.out) (.inl rfl) ((Two.refl g5 g6 wb).next HB0.out) ?_; intro w' hrow htw hoth; have HN5 := Lib.hid hrow; have HT5 := Lib.hid htw; have HN6 := Lib.hid (hoth _ _ _ (fun h => hne h.symm) (H6b.out.keep HB0.out)); clear hrow htw hoth))
                        refine hK _ _ ?_
                        clear hK K
                        try simp only [Act.put]
                        refine wpAny_ready (rs := [7]) (by kernel_rfl) (by simp) ?_
                        refine Go.BigFrame.allReady_want (o := { dst := none, op := Op.store 26 (Operand.tmp 6) (Operand.tmp 27), type := 0, pos := "law.go:195", after := #[{ on := 5, ground := Ground.data }, { on := 6, ground := Ground.chain }, { on := 0, ground := Ground.phase }, { on := 1, ground := Ground.phase }, { on := 2, ground := Ground.phase }, { on := 3, ground := Ground.phase }, { on := 4, ground := Ground.phase }, { on := 5, ground := Ground.phase }, { on := 6, ground := Ground.phase }], guard := none }) rfl (by rfl) (fun K hK => ?_) ?_
                        · skip
                          ((refine wp_store_two _ _ rfl g6 nx en HLN.out HLE.out rfl rfl HN6.out (.inr rfl) HT5.out ?_; intro w' hrow htw hoth; have HN5 := Lib.hid (hoth _ _ _ hne HN5.out); have HN6 := Lib.hid hrow; have HT5 := Lib.hid htw; clear hrow htw hoth))
                          refine hK _ _ ?_
                          clear hK K
                          try simp only [Act.put]
                          refine wpAny_done (by kernel_rfl) ?_ _
                          ((exact K _ ⟨HN5.out, HN6.out, HT5.out⟩))
                        exact AllReady.nil
                      exact AllReady.nil
                    exact AllReady.nil
                  exact AllReady.nil
                refine Go.BigFrame.allReady_want (o := { dst := some 26, op := Op.load 26 (Operand.tmp 8), type := 26, pos := "law.go:195", after := #[], guard := none }) rfl (by rfl) (fun K hK => ?_) ?_
                · skip
                  ((refine wp_row_dig _ rfl g8 d HDL.out rfl (H8b.out.keep HB0.out) ?_))
                  refine hK _ _ ?_
                  clear hK K
                  try simp only [Act.put, List.setIfInBounds_toArray, List.set_cons_zero, List.set_cons_succ]
                  refine wpAny_ready (rs := [2]) (by kernel_rfl) (by simp) ?_
                  refine Go.BigFrame.allReady_want (o := { dst := some 24, op := Op.call { callee := Callee.value (Operand.func 25), args := #[Operand.tmp 22, Operand.tmp 23], argTypes := #[26, 26] }, type := 26, pos := "law.go:195", after := #[{ on := 0, ground := Ground.data }, { on := 1, ground := Ground.data }], guard := none }) rfl (by rfl) (fun K hK => ?_) ?_
                  · skip
                    go_simp
                    go_wp2_with ((go_at_call 25; (refine (HC1.out _ HB0.out).mono ?_); rintro e w11 ⟨rfl, hb⟩; have HB0 := Lib.hid (below_next HB0.out hb); clear hb))
                    refine wpAny_ready (rs := [5]) (by kernel_rfl) (by simp) ?_
                    refine Go.BigFrame.allReady_want (o := { dst := some 27, op := Op.call { callee := Callee.value (Operand.func 26), args := #[Operand.tmp 25, Operand.tmp 26], argTypes := #[26, 26] }, type := 26, pos := "law.go:195", after := #[{ on := 3, ground := Ground.data }, { on := 4, ground := Ground.data }, { on := 2, ground := Ground.chain }], guard := none }) rfl (by rfl) (fun K hK => ?_) ?_
                    · skip
                      go_simp
                      go_wp2_with ((go_at_call 26; (refine (HC2.out _ HB0.out).mono ?_); rintro e w12 ⟨rfl, hb⟩; have HB0 := Lib.hid (below_next HB0.out hb); clear hb))
                      refine wpAny_ready (rs := [6]) (by kernel_rfl) (by simp) ?_
                      refine Go.BigFrame.allReady_want (o := { dst := none, op := Op.store 26 (Operand.tmp 5) (Operand.tmp 24), type := 0, pos := "law.go:195", after := #[{ on := 2, ground := Ground.data }, { on := 5, ground := Ground.chain }, { on := 0, ground := Ground.phase }, { on := 1, ground := Ground.phase }, { on := 2, ground := Ground.phase }, { on := 3, ground := Ground.textOnly Departure.lateStores }, { on := 4, ground := Ground.textOnly Departure.lateStores }, { on := 5, ground := Ground.textOnly Departure.lateStoresUnsure }], guard := none }) rfl (by rfl) (fun K hK => ?_) ?_
                      · skip
                        ((refine wp_store_two _ _ rfl g5 nx en HLN.out HLE.out rfl rfl (H5b.out.keep HB0.out) (.inl rfl) ((Two.refl g5 g6 wb).next HB0.out) ?_; intro w' hrow htw hoth; have HN5 := Lib.hid hrow; have HT5 := Lib.hid htw; have HN6 := Lib.hid (hoth _ _ _ (fun h => hne h.symm) (H6b.out.keep HB0.out)); clear hrow htw hoth))
                        refine hK _ _ ?_
                        clear hK K
                        try simp only [Act.put]
                        refine wpAny_ready (rs := [7]) (by kernel_rfl) (by simp) ?_
                        refine Go.BigFrame.allReady_want (o := { dst := none, op := Op.store 26 (Operand.tmp 6) (Operand.tmp 27), type := 0, pos := "law.go:195", after := #[{ on := 5, ground := Ground.data }, { on := 6, ground := Ground.chain }, { on := 0, ground := Ground.phase }, { on := 1, ground := Ground.phase }, { on := 2, ground := Ground.phase }, { on := 3, ground := Ground.phase }, { on := 4, ground := Ground.phase }, { on := 5, ground := Ground.phase }, { on := 6, ground := Ground.phase }], guard := none }) rfl (by rfl) (fun K hK => ?_) ?_
                        · skip
                          ((refine wp_store_two _ _ rfl g6 nx en HLN.out HLE.out rfl rfl HN6.out (.inr rfl) HT5.out ?_; intro w' hrow htw hoth; have HN5 := Lib.hid (hoth _ _ _ hne HN5.out); have HN6 := Lib.hid hrow; have HT5 := Lib.hid htw; clear hrow htw hoth))
                          refine hK _ _ ?_
                          clear hK K
                          try simp only [Act.put]
                          refine wpAny_done (by kernel_rfl) ?_ _
                          ((exact K _ ⟨HN5.out, HN6.out, HT5.out⟩))
                        exact AllReady.nil
                      exact AllReady.nil
                    exact AllReady.nil
                  exact AllReady.nil
                exact AllReady.nil
              refine Go.BigFrame.allReady_want (o := { dst := some 26, op := Op.load 26 (Operand.tmp 8), type := 26, pos := "law.go:195", after := #[], guard := none }) rfl (by rfl) (fun K hK => ?_) ?_
              · skip
                ((refine wp_row_dig _ rfl g8 d HDL.out rfl (H8b.out.keep HB0.out) ?_))
                refine hK _ _ ?_
                clear hK K
                try simp only [Act.put, List.setIfInBounds_toArray, List.set_cons_zero, List.set_cons_succ]
                refine wpAny_ready (rs := [1]) (by kernel_rfl) (by simp) ?_
                refine Go.BigFrame.allReady_want (o := { dst := some 23, op := Op.load 26 (Operand.tmp 8), type := 26, pos := "law.go:195", after := #[], guard := none }) rfl (by rfl) (fun K hK => ?_) ?_
                · skip
                  ((refine wp_row_dig _ rfl g8 d HDL.out rfl (H8b.out.keep HB0.out) ?_))
                  refine hK _ _ ?_
                  clear hK K
                  try simp only [Act.put, List.setIfInBounds_toArray, List.set_cons_zero, List.set_cons_succ]
                  refine wpAny_ready (rs := [2]) (by kernel_rfl) (by simp) ?_
                  refine Go.BigFrame.allReady_want (o := { dst := some 24, op := Op.call { callee := Callee.value (Operand.func 25), args := #[Operand.tmp 22, Operand.tmp 23], argTypes := #[26, 26] }, type := 26, pos := "law.go:195", after := #[{ on := 0, ground := Ground.data }, { on := 1, ground := Ground.data }], guard := none }) rfl (by rfl) (fun K hK => ?_) ?_
                  · skip
                    go_simp
                    go_wp2_with ((go_at_call 25; (refine (HC1.out _ HB0.out).mono ?_); rintro e w11 ⟨rfl, hb⟩; have HB0 := Lib.hid (below_next HB0.out hb); clear hb))
                    refine wpAny_ready (rs := [5]) (by kernel_rfl) (by simp) ?_
                    refine Go.BigFrame.allReady_want (o := { dst := some 27, op := Op.call { callee := Callee.value (Operand.func 26), args := #[Operand.tmp 25, Operand.tmp 26], argTypes := #[26, 26] }, type := 26, pos := "law.go:195", after := #[{ on := 3, ground := Ground.data }, { on := 4, ground := Ground.data }, { on := 2, ground := Ground.chain }], guard := none }) rfl (by rfl) (fun K hK => ?_) ?_
                    · skip
                      go_simp
                      go_wp2_with ((go_at_call 26; (refine (HC2.out _ HB0.out).mono ?_); rintro e w12 ⟨rfl, hb⟩; have HB0 := Lib.hid (below_next HB0.out hb); clear hb))
                      refine wpAny_ready (rs := [6]) (by kernel_rfl) (by simp) ?_
                      refine Go.BigFrame.allReady_want (o := { dst := none, op := Op.store 26 (Operand.tmp 5) (Operand.tmp 24), type := 0, pos := "law.go:195", after := #[{ on := 2, ground := Ground.data }, { on := 5, ground := Ground.chain }, { on := 0, ground := Ground.phase }, { on := 1, ground := Ground.phase }, { on := 2, ground := Ground.phase }, { on := 3, ground := Ground.textOnly Departure.lateStores }, { on := 4, ground := Ground.textOnly Departure.lateStores }, { on := 5, ground := Ground.textOnly Departure.lateStoresUnsure }], guard := none }) rfl (by rfl) (fun K hK => ?_) ?_
                      · skip
                        ((refine wp_store_two _ _ rfl g5 nx en HLN.out HLE.out rfl rfl (H5b.out.keep HB0.out) (.inl rfl) ((Two.refl g5 g6 wb).next HB0.out) ?_; intro w' hrow htw hoth; have HN5 := Lib.hid hrow; have HT5 := Lib.hid htw; have HN6 := Lib.hid (hoth _ _ _ (fun h => hne h.symm) (H6b.out.keep HB0.out)); clear hrow htw hoth))
                        refine hK _ _ ?_
                        clear hK K
                        try simp only [Act.put]
                        refine wpAny_ready (rs := [7]) (by kernel_rfl) (by simp) ?_
                        refine Go.BigFrame.allReady_want (o := { dst := none, op := Op.store 26 (Operand.tmp 6) (Operand.tmp 27), type := 0, pos := "law.go:195", after := #[{ on := 5, ground := Ground.data }, { on := 6, ground := Ground.chain }, { on := 0, ground := Ground.phase }, { on := 1, ground := Ground.phase }, { on := 2, ground := Ground.phase }, { on := 3, ground := Ground.phase }, { on := 4, ground := Ground.phase }, { on := 5, ground := Ground.phase }, { on := 6, ground := Ground.phase }], guard := none }) rfl (by rfl) (fun K hK => ?_) ?_
                        · skip
                          ((refine wp_store_two _ _ rfl g6 nx en HLN.out HLE.out rfl rfl HN6.out (.inr rfl) HT5.out ?_; intro w' hrow htw hoth; have HN5 := Lib.hid (hoth _ _ _ hne HN5.out); have HN6 := Lib.hid hrow; have HT5 := Lib.hid htw; clear hrow htw hoth))
                          refine hK _ _ ?_
                          clear hK K
                          try simp only [Act.put]
                          refine wpAny_done (by kernel_rfl) ?_ _
                          ((exact K _ ⟨HN5.out, HN6.out, HT5.out⟩))
                        exact AllReady.nil
                      exact AllReady.nil
                    exact AllReady.nil
                  exact AllReady.nil
                exact AllReady.nil
              exact AllReady.nil
            refine Go.BigFrame.allReady_want (o := { dst := some 26, op := Op.load 26 (Operand.tmp 8), type := 26, pos := "law.go:195", after := #[], guard := none }) rfl (by rfl) (fun K hK => ?_) ?_
            · skip
              ((refine wp_row_dig _ rfl g8 d HDL.out rfl (H8b.out.keep HB0.out) ?_))
              refine hK _ _ ?_
              clear hK K
              try simp only [Act.put, List.setIfInBounds_toArray, List.set_cons_zero, List.set_cons_succ]
              refine wpAny_ready (rs := [1, 3]) (by kernel_rfl) (by simp) ?_
              refine Go.BigFrame.allReady_want (o := { dst := some 23, op := Op.load 26 (Operand.tmp 8), type := 26, pos := "law.go:195", after := #[], guard := none }) rfl (by rfl) (fun K hK => ?_) ?_
              · skip
                ((refine wp_row_dig _ rfl g8 d HDL.out rfl (H8b.out.keep HB0.out) ?_))
                refine hK _ _ ?_
                clear hK K
                try simp only [Act.put, List.setIfInBounds_toArray, List.set_cons_zero, List.set_cons_succ]
                refine wpAny_ready (rs := [2, 3]) (by kernel_rfl) (by simp) ?_
                refine Go.BigFrame.allReady_want (o := { dst := some 24, op := Op.call { callee := Callee.value (Operand.func 25), args := #[Operand.tmp 22, Operand.tmp 23], argTypes := #[26, 26] }, type := 26, pos := "law.go:195", after := #[{ on := 0, ground := Ground.data }, { on := 1, ground := Ground.data }], guard := none }) rfl (by rfl) (fun K hK => ?_) ?_
                · skip
                  go_simp
                  go_wp2_with ((go_at_call 25; (refine (HC1.out _ HB0.out).mono ?_); rintro e w11 ⟨rfl, hb⟩; have HB0 := Lib.hid (below_next HB0.out hb); clear hb))
                  refine wpAny_ready (rs := [3]) (by kernel_rfl) (by simp) ?_
                  refine Go.BigFrame.allReady_want (o := { dst := some 25, op := Op.load 26 (Operand.tmp 6), type := 26, pos := "law.go:195", after := #[], guard := none }) rfl (by rfl) (fun K hK => ?_) ?_
                  · skip
                    ((refine wp_row_dig _ rfl g6 en HLE.out rfl (H6b.out.keep HB0.out) ?_))
                    refine hK _ _ ?_
                    clear hK K
                    try simp only [Act.put, List.setIfInBounds_toArray, List.set_cons_zero, List.set_cons_succ]
                    refine wpAny_ready (rs := [5]) (by kernel_rfl) (by simp) ?_
                    refine Go.BigFrame.allReady_want (o := { dst := some 27, op := Op.call { callee := Callee.value (Operand.func 26), args := #[Operand.tmp 25, Operand.tmp 26], argTypes := #[26, 26] }, type := 26, pos := "law.go:195", after := #[{ on := 3, ground := Ground.data }, { on := 4, ground := Ground.data }, { on := 2, ground := Ground.chain }], guard := none }) rfl (by rfl) (fun K hK => ?_) ?_
                    · skip
                      go_simp
                      go_wp2_with ((go_at_call 26; (refine (HC2.out _ HB0.out).mono ?_); rintro e w12 ⟨rfl, hb⟩; have HB0 := Lib.hid (below_next HB0.out hb); clear hb))
                      refine wpAny_ready (rs := [6]) (by kernel_rfl) (by simp) ?_
                      refine Go.BigFrame.allReady_want (o := { dst := none, op := Op.store 26 (Operand.tmp 5) (Operand.tmp 24), type := 0, pos := "law.go:195", after := #[{ on := 2, ground := Ground.data }, { on := 5, ground := Ground.chain }, { on := 0, ground := Ground.phase }, { on := 1, ground := Ground.phase }, { on := 2, ground := Ground.phase }, { on := 3, ground := Ground.textOnly Departure.lateStores }, { on := 4, ground := Ground.textOnly Departure.lateStores }, { on := 5, ground := Ground.textOnly Departure.lateStoresUnsure }], guard := none }) rfl (by rfl) (fun K hK => ?_) ?_
                      · skip
                        ((refine wp_store_two _ _ rfl g5 nx en HLN.out HLE.out rfl rfl (H5b.out.keep HB0.out) (.inl rfl) ((Two.refl g5 g6 wb).next HB0.out) ?_; intro w' hrow htw hoth; have HN5 := Lib.hid hrow; have HT5 := Lib.hid htw; have HN6 := Lib.hid (hoth _ _ _ (fun h => hne h.symm) (H6b.out.keep HB0.out)); clear hrow htw hoth))
                        refine hK _ _ ?_
                        clear hK K
                        try simp only [Act.put]
                        refine wpAny_ready (rs := [7]) (by kernel_rfl) (by simp) ?_
                        refine Go.BigFrame.allReady_want (o := { dst := none, op := Op.store 26 (Operand.tmp 6) (Operand.tmp 27), type := 0, pos := "law.go:195", after := #[{ on := 5, ground := Ground.data }, { on := 6, ground := Ground.chain }, { on := 0, ground := Ground.phase }, { on := 1, ground := Ground.phase }, { on := 2, ground := Ground.phase }, { on := 3, ground := Ground.phase }, { on := 4, ground := Ground.phase }, { on := 5, ground := Ground.phase }, { on := 6, ground := Ground.phase }], guard := none }) rfl (by rfl) (fun K hK => ?_) ?_
                        · skip
                          ((refine wp_store_two _ _ rfl g6 nx en HLN.out HLE.out rfl rfl HN6.out (.inr rfl) HT5.out ?_; intro w' hrow htw hoth; have HN5 := Lib.hid (hoth _ _ _ hne HN5.out); have HN6 := Lib.hid hrow; have HT5 := Lib.hid htw; clear hrow htw hoth))
                          refine hK _ _ ?_
                          clear hK K
                          try simp only [Act.put]
                          refine wpAny_done (by kernel_rfl) ?_ _
                          ((exact K _ ⟨HN5.out, HN6.out, HT5.out⟩))
                        exact AllReady.nil
                      exact AllReady.nil
                    exact AllReady.nil
                  exact AllReady.nil
                refine Go.BigFrame.allReady_want (o := { dst := some 25, op := Op.load 26 (Operand.tmp 6), type := 26, pos := "law.go:195", after := #[], guard := none }) rfl (by rfl) (fun K hK => ?_) ?_
                · skip
                  ((refine wp_row_dig _ rfl g6 en HLE.out rfl (H6b.out.keep HB0.out) ?_))
                  refine hK _ _ ?_
                  clear hK K
                  try simp only [Act.put, List.setIfInBounds_toArray, List.set_cons_zero, List.set_cons_succ]
                  refine wpAny_ready (rs := [2]) (by kernel_rfl) (by simp) ?_
                  refine Go.BigFrame.allReady_want (o := { dst := some 24, op := Op.call { callee := Callee.value (Operand.func 25), args := #[Operand.tmp 22, Operand.tmp 23], argTypes := #[26, 26] }, type := 26, pos := "law.go:195", after := #[{ on := 0, ground := Ground.data }, { on := 1, ground := Ground.data }], guard := none }) rfl (by rfl) (fun K hK => ?_) ?_
                  · skip
                    go_simp
                    go_wp2_with ((go_at_call 25; (refine (HC1.out _ HB0.out).mono ?_); rintro e w11 ⟨rfl, hb⟩; have HB0 := Lib.hid (below_next HB0.out hb); clear hb))
                    refine wpAny_ready (rs := [5]) (by kernel_rfl) (by simp) ?_
                    refine Go.BigFrame.allReady_want (o := { dst := some 27, op := Op.call { callee := Callee.value (Operand.func 26), args := #[Operand.tmp 25, Operand.tmp 26], argTypes := #[26, 26] }, type := 26, pos := "law.go:195", after := #[{ on := 3, ground := Ground.data }, { on := 4, ground := Ground.data }, { on := 2, ground := Ground.chain }], guard := none }) rfl (by rfl) (fun K hK => ?_) ?_
                    · skip
                      go_simp
                      go_wp2_with ((go_at_call 26; (refine (HC2.out _ HB0.out).mono ?_); rintro e w12 ⟨rfl, hb⟩; have HB0 := Lib.hid (below_next HB0.out hb); clear hb))
                      refine wpAny_ready (rs := [6]) (by kernel_rfl) (by simp) ?_
                      refine Go.BigFrame.allReady_want (o := { dst := none, op := Op.store 26 (Operand.tmp 5) (Operand.tmp 24), type := 0, pos := "law.go:195", after := #[{ on := 2, ground := Ground.data }, { on := 5, ground := Ground.chain }, { on := 0, ground := Ground.phase }, { on := 1, ground := Ground.phase }, { on := 2, ground := Ground.phase }, { on := 3, ground := Ground.textOnly Departure.lateStores }, { on := 4, ground := Ground.textOnly Departure.lateStores }, { on := 5, ground := Ground.textOnly Departure.lateStoresUnsure }], guard := none }) rfl (by rfl) (fun K hK => ?_) ?_
                      · skip
                        ((refine wp_store_two _ _ rfl g5 nx en HLN.out HLE.out rfl rfl (H5b.out.keep HB0.out) (.inl rfl) ((Two.refl g5 g6 wb).next HB0.out) ?_; intro w' hrow htw hoth; have HN5 := Lib.hid hrow; have HT5 := Lib.hid htw; have HN6 := Lib.hid (hoth _ _ _ (fun h => hne h.symm) (H6b.out.keep HB0.out)); clear hrow htw hoth))
                        refine hK _ _ ?_
                        clear hK K
                        try simp only [Act.put]
                        refine wpAny_ready (rs := [7]) (by kernel_rfl) (by simp) ?_
                        refine Go.BigFrame.allReady_want (o := { dst := none, op := Op.store 26 (Operand.tmp 6) (Operand.tmp 27), type := 0, pos := "law.go:195", after := #[{ on := 5, ground := Ground.data }, { on := 6, ground := Ground.chain }, { on := 0, ground := Ground.phase }, { on := 1, ground := Ground.phase }, { on := 2, ground := Ground.phase }, { on := 3, ground := Ground.phase }, { on := 4, ground := Ground.phase }, { on := 5, ground := Ground.phase }, { on := 6, ground := Ground.phase }], guard := none }) rfl (by rfl) (fun K hK => ?_) ?_
                        · skip
                          ((refine wp_store_two _ _ rfl g6 nx en HLN.out HLE.out rfl rfl HN6.out (.inr rfl) HT5.out ?_; intro w' hrow htw hoth; have HN5 := Lib.hid (hoth _ _ _ hne HN5.out); have HN6 := Lib.hid hrow; have HT5 := Lib.hid htw; clear hrow htw hoth))
                          refine hK _ _ ?_
                          clear hK K
                          try simp only [Act.put]
                          refine wpAny_done (by kernel_rfl) ?_ _
                          ((exact K _ ⟨HN5.out, HN6.out, HT5.out⟩))
                        exact AllReady.nil
                      exact AllReady.nil
                    exact AllReady.nil
                  exact AllReady.nil
                exact AllReady.nil
              refine Go.BigFrame.allReady_want (o := { dst := some 25, op := Op.load 26 (Operand.tmp 6), type := 26, pos := "law.go:195", after := #[], guard := none }) rfl (by rfl) (fun K hK => ?_) ?_
              · skip
                ((refine wp_row_dig _ rfl g6 en HLE.out rfl (H6b.out.keep HB0.out) ?_))
                refine hK _ _ ?_
                clear hK K
                try simp only [Act.put, List.setIfInBounds_toArray, List.set_cons_zero, List.set_cons_succ]
                refine wpAny_ready (rs := [1]) (by kernel_rfl) (by simp) ?_
                refine Go.BigFrame.allReady_want (o := { dst := some 23, op := Op.load 26 (Operand.tmp 8), type := 26, pos := "law.go:195", after := #[], guard := none }) rfl (by rfl) (fun K hK => ?_) ?_
                · skip
                  ((refine wp_row_dig _ rfl g8 d HDL.out rfl (H8b.out.keep HB0.out) ?_))
                  refine hK _ _ ?_
                  clear hK K
                  try simp only [Act.put, List.setIfInBounds_toArray, List.set_cons_zero, List.set_cons_succ]
                  refine wpAny_ready (rs := [2]) (by kernel_rfl) (by simp) ?_
                  refine Go.BigFrame.allReady_want (o := { dst := some 24, op := Op.call { callee := Callee.value (Operand.func 25), args := #[Operand.tmp 22, Operand.tmp 23], argTypes := #[26, 26] }, type := 26, pos := "law.go:195", after := #[{ on := 0, ground := Ground.data }, { on := 1, ground := Ground.data }], guard := none }) rfl (by rfl) (fun K hK => ?_) ?_
                  · skip
                    go_simp
                    go_wp2_with ((go_at_call 25; (refine (HC1.out _ HB0.out).mono ?_); rintro e w11 ⟨rfl, hb⟩; have HB0 := Lib.hid (below_next HB0.out hb); clear hb))
                    refine wpAny_ready (rs := [5]) (by kernel_rfl) (by simp) ?_
                    refine Go.BigFrame.allReady_want (o := { dst := some 27, op := Op.call { callee := Callee.value (Operand.func 26), args := #[Operand.tmp 25, Operand.tmp 26], argTypes := #[26, 26] }, type := 26, pos := "law.go:195", after := #[{ on := 3, ground := Ground.data }, { on := 4, ground := Ground.data }, { on := 2, ground := Ground.chain }], guard := none }) rfl (by rfl) (fun K hK => ?_) ?_
                    · skip
                      go_simp
                      go_wp2_with ((go_at_call 26; (refine (HC2.out _ HB0.out).mono ?_); rintro e w12 ⟨rfl, hb⟩; have HB0 := Lib.hid (below_next HB0.out hb); clear hb))
                      refine wpAny_ready (rs := [6]) (by kernel_rfl) (by simp) ?_
                      refine Go.BigFrame.allReady_want (o := { dst := none, op := Op.store 26 (Operand.tmp 5) (Operand.tmp 24), type := 0, pos := "law.go:195", after := #[{ on := 2, ground := Ground.data }, { on := 5, ground := Ground.chain }, { on := 0, ground := Ground.phase }, { on := 1, ground := Ground.phase }, { on := 2, ground := Ground.phase }, { on := 3, ground := Ground.textOnly Departure.lateStores }, { on := 4, ground := Ground.textOnly Departure.lateStores }, { on := 5, ground := Ground.textOnly Departure.lateStoresUnsure }], guard := none }) rfl (by rfl) (fun K hK => ?_) ?_
                      · skip
                        ((refine wp_store_two _ _ rfl g5 nx en HLN.out HLE.out rfl rfl (H5b.out.keep HB0.out) (.inl rfl) ((Two.refl g5 g6 wb).next HB0.out) ?_; intro w' hrow htw hoth; have HN5 := Lib.hid hrow; have HT5 := Lib.hid htw; have HN6 := Lib.hid (hoth _ _ _ (fun h => hne h.symm) (H6b.out.keep HB0.out)); clear hrow htw hoth))
                        refine hK _ _ ?_
                        clear hK K
                        try simp only [Act.put]
                        refine wpAny_ready (rs := [7]) (by kernel_rfl) (by simp) ?_
                        refine Go.BigFrame.allReady_want (o := { dst := none, op := Op.store 26 (Operand.tmp 6) (Operand.tmp 27), type := 0, pos := "law.go:195", after := #[{ on := 5, ground := Ground.data }, { on := 6, ground := Ground.chain }, { on := 0, ground := Ground.phase }, { on := 1, ground := Ground.phase }, { on := 2, ground := Ground.phase }, { on := 3, ground := Ground.phase }, { on := 4, ground := Ground.phase }, { on := 5, ground := Ground.phase }, { on := 6, ground := Ground.phase }], guard := none }) rfl (by rfl) (fun K hK => ?_) ?_
                        · skip
                          ((refine wp_store_two _ _ rfl g6 nx en HLN.out HLE.out rfl rfl HN6.out (.inr rfl) HT5.out ?_; intro w' hrow htw hoth; have HN5 := Lib.hid (hoth _ _ _ hne HN5.out); have HN6 := Lib.hid hrow; have HT5 := Lib.hid htw; clear hrow htw hoth))
                          refine hK _ _ ?_
                          clear hK K
                          try simp only [Act.put]
                          refine wpAny_done (by kernel_rfl) ?_ _
                          ((exact K _ ⟨HN5.out, HN6.out, HT5.out⟩))
                        exact AllReady.nil
                      exact AllReady.nil
                    exact AllReady.nil
                  exact AllReady.nil
                exact AllReady.nil
              exact AllReady.nil
            exact AllReady.nil
          refine Go.BigFrame.allReady_want (o := { dst := some 23, op := Op.load 26 (Operand.tmp 8), type := 26, pos := "law.go:195", after := #[], guard := none }) rfl (by rfl) (fun K hK => ?_) ?_
          · skip
            ((refine wp_row_dig _ rfl g8 d HDL.out rfl (H8b.out.keep HB0.out) ?_))
            refine hK _ _ ?_
            clear hK K
            try simp only [Act.put, List.setIfInBounds_toArray, List.set_cons_zero, List.set_cons_succ]
            refine wpAny_ready (rs := [0, 3, 4]) (by kernel_rfl) (by simp) ?_
            refine Go.BigFrame.allReady_want (o := { dst := some 22, op := Op.load 26 (Operand.tmp 5), type := 26, pos := "law.go:195", after := #[], guard := none }) rfl (by rfl) (fun K hK => ?_) ?_
            · skip
              ((refine wp_row_dig _ rfl g5 en HLE.out rfl (H5b.out.keep HB0.out) ?_))
              refine hK _ _ ?_
              clear hK K
              try simp only [Act.put, List.setIfInBounds_toArray, List.set_cons_zero, List.set_cons_succ]
              refine wpAny_ready (rs := [2, 3, 4]) (by kernel_rfl) (by simp) ?_
              refine Go.BigFrame.allReady_want (o := { dst := some 24, op := Op.call { callee := Callee.value (Operand.func 25), args := #[Operand.tmp 22, Operand.tmp 23], argTypes := #[26, 26] }, type := 26, pos := "law.go:195", after := #[{ on := 0, ground := Ground.data }, { on := 1, ground := Ground.data }], guard := none }) rfl (by rfl) (fun K hK => ?_) ?_
              · skip
                go_simp
                go_wp2_with ((go_at_call 25; (refine (HC1.out _ HB0.out).mono ?_); rintro e w11 ⟨rfl, hb⟩; have HB0 := Lib.hid (below_next HB0.out hb); clear hb))
                refine wpAny_ready (rs := [3, 4]) (by kernel_rfl) (by simp) ?_
                refine Go.BigFrame.allReady_want (o := { dst := some 25, op := Op.load 26 (Operand.tmp 6), type := 26, pos := "law.go:195", after := #[], guard := none }) rfl (by rfl) (fun K hK => ?_) ?_
                · skip
                  ((refine wp_row_dig _ rfl g6 en HLE.out rfl (H6b.out.keep HB0.out) ?_))
                  refine hK _ _ ?_
                  clear hK K
                  try simp only [Act.put, List.setIfInBounds_toArray, List.set_cons_zero, List.set_cons_succ]
                  refine wpAny_ready (rs := [4]) (by kernel_rfl) (by simp) ?_
                  refine Go.BigFrame.allReady_want (o := { dst := some 26, op := Op.load 26 (Operand.tmp 8), type := 26, pos := "law.go:195", after := #[], guard := none }) rfl (by rfl) (fun K hK => ?_) ?_
                  · skip
                    ((refine wp_row_dig _ rfl g8 d HDL.out rfl (H8b.out.keep HB0.out) ?_))
                    refine hK _ _ ?_
                    clear hK K
                    try simp only [Act.put, List.setIfInBounds_toArray, List.set_cons_zero, List.set_cons_succ]
                    refine wpAny_ready (rs := [5]) (by kernel_rfl) (by simp) ?_
                    refine Go.BigFrame.allReady_want (o := { dst := some 27, op := Op.call { callee := Callee.value (Operand.func 26), args := #[Operand.tmp 25, Operand.tmp 26], argTypes := #[26, 26] }, type := 26, pos := "law.go:195", after := #[{ on := 3, ground := Ground.data }, { on := 4, ground := Ground.data }, { on := 2, ground := Ground.chain }], guard := none }) rfl (by rfl) (fun K hK => ?_) ?_
                    · skip
                      go_simp
                      go_wp2_with ((go_at_call 26; (refine (HC2.out _ HB0.out).mono ?_); rintro e w12 ⟨rfl, hb⟩; have HB0 := Lib.hid (below_next HB0.out hb); clear hb))
                      refine wpAny_ready (rs := [6]) (by kernel_rfl) (by simp) ?_
                      refine Go.BigFrame.allReady_want (o := { dst := none, op := Op.store 26 (Operand.tmp 5) (Operand.tmp 24), type := 0, pos := "law.go:195", after := #[{ on := 2, ground := Ground.data }, { on := 5, ground := Ground.chain }, { on := 0, ground := Ground.phase }, { on := 1, ground := Ground.phase }, { on := 2, ground := Ground.phase }, { on := 3, ground := Ground.textOnly Departure.lateStores }, { on := 4, ground := Ground.textOnly Departure.lateStores }, { on := 5, ground := Ground.textOnly Departure.lateStoresUnsure }], guard := none }) rfl (by rfl) (fun K hK => ?_) ?_
                      · skip
                        ((refine wp_store_two _ _ rfl g5 nx en HLN.out HLE.out rfl rfl (H5b.out.keep HB0.out) (.inl rfl) ((Two.refl g5 g6 wb).next HB0.out) ?_; intro w' hrow htw hoth; have HN5 := Lib.hid hrow; have HT5 := Lib.hid htw; have HN6 := Lib.hid (hoth _ _ _ (fun h => hne h.symm) (H6b.out.keep HB0.out)); clear hrow htw hoth))
                        refine hK _ _ ?_
                        clear hK K
                        try simp only [Act.put]
                        refine wpAny_ready (rs := [7]) (by kernel_rfl) (by simp) ?_
                        refine Go.BigFrame.allReady_want (o := { dst := none, op := Op.store 26 (Operand.tmp 6) (Operand.tmp 27), type := 0, pos := "law.go:195", after := #[{ on := 5, ground := Ground.data }, { on := 6, ground := Ground.chain }, { on := 0, ground := Ground.phase }, { on := 1, ground := Ground.phase }, { on := 2, ground := Ground.phase }, { on := 3, ground := Ground.phase }, { on := 4, ground := Ground.phase }, { on := 5, ground := Ground.phase }, { on := 6, ground := Ground.phase }], guard := none }) rfl (by rfl) (fun K hK => ?_) ?_
                        · skip
                          ((refine wp_store_two _ _ rfl g6 nx en HLN.out HLE.out rfl rfl HN6.out (.inr rfl) HT5.out ?_; intro w' hrow htw hoth; have HN5 := Lib.hid (hoth _ _ _ hne HN5.out); have HN6 := Lib.hid hrow; have HT5 := Lib.hid htw; clear hrow htw hoth))
                          refine hK _ _ ?_
                          clear hK K
                          try simp only [Act.put]
                          refine wpAny_done (by kernel_rfl) ?_ _
                          ((exact K _ ⟨HN5.out, HN6.out, HT5.out⟩))
                        exact AllReady.nil
                      exact AllReady.nil
                    exact AllReady.nil
                  exact AllReady.nil
                refine Go.BigFrame.allReady_want (o := { dst := some 26, op := Op.load 26 (Operand.tmp 8), type := 26, pos := "law.go:195", after := #[], guard := none }) rfl (by rfl) (fun K hK => ?_) ?_
                · skip
                  ((refine wp_row_dig _ rfl g8 d HDL.out rfl (H8b.out.keep HB0.out) ?_))
                  refine hK _ _ ?_
                  clear hK K
                  try simp only [Act.put, List.setIfInBounds_toArray, List.set_cons_zero, List.set_cons_succ]
                  refine wpAny_ready (rs := [3]) (by kernel_rfl) (by simp) ?_
                  refine Go.BigFrame.allReady_want (o := { dst := some 25, op := Op.load 26 (Operand.tmp 6), type := 26, pos := "law.go:195", after := #[], guard := none }) rfl (by rfl) (fun K hK => ?_) ?_
                  · skip
                    ((refine wp_row_dig _ rfl g6 en HLE.out rfl (H6b.out.keep HB0.out) ?_))
                    refine hK _ _ ?_
                    clear hK K
                    try simp only [Act.put, List.setIfInBounds_toArray, List.set_cons_zero, List.set_cons_succ]
                    refine wpAny_ready (rs := [5]) (by kernel_rfl) (by simp) ?_
                    refine Go.BigFrame.allReady_want (o := { dst := some 27, op := Op.call { callee := Callee.value (Operand.func 26), args := #[Operand.tmp 25, Operand.tmp 26], argTypes := #[26, 26] }, type := 26, pos := "law.go:195", after := #[{ on := 3, ground := Ground.data }, { on := 4, ground := Ground.data }, { on := 2, ground := Ground.chain }], guard := none }) rfl (by rfl) (fun K hK => ?_) ?_
                    · skip
                      go_simp
                      go_wp2_with ((go_at_call 26; (refine (HC2.out _ HB0.out).mono ?_); rintro e w12 ⟨rfl, hb⟩; have HB0 := Lib.hid (below_next HB0.out hb); clear hb))
                      refine wpAny_ready (rs := [6]) (by kernel_rfl) (by simp) ?_
                      refine Go.BigFrame.allReady_want (o := { dst := none, op := Op.store 26 (Operand.tmp 5) (Operand.tmp 24), type := 0, pos := "law.go:195", after := #[{ on := 2, ground := Ground.data }, { on := 5, ground := Ground.chain }, { on := 0, ground := Ground.phase }, { on := 1, ground := Ground.phase }, { on := 2, ground := Ground.phase }, { on := 3, ground := Ground.textOnly Departure.lateStores }, { on := 4, ground := Ground.textOnly Departure.lateStores }, { on := 5, ground := Ground.textOnly Departure.lateStoresUnsure }], guard := none }) rfl (by rfl) (fun K hK => ?_) ?_
                      · skip
                        ((refine wp_store_two _ _ rfl g5 nx en HLN.out HLE.out rfl rfl (H5b.out.keep HB0.out) (.inl rfl) ((Two.refl g5 g6 wb).next HB0.out) ?_; intro w' hrow htw hoth; have HN5 := Lib.hid hrow; have HT5 := Lib.hid htw; have HN6 := Lib.hid (hoth _ _ _ (fun h => hne h.symm) (H6b.out.keep HB0.out)); clear hrow htw hoth))
                        refine hK _ _ ?_
                        clear hK K
                        try simp only [Act.put]
                        refine wpAny_ready (rs := [7]) (by kernel_rfl) (by simp) ?_
                        refine Go.BigFrame.allReady_want (o := { dst := none, op := Op.store 26 (Operand.tmp 6) (Operand.tmp 27), type := 0, pos := "law.go:195", after := #[{ on := 5, ground := Ground.data }, { on := 6, ground := Ground.chain }, { on := 0, ground := Ground.phase }, { on := 1, ground := Ground.phase }, { on := 2, ground := Ground.phase }, { on := 3, ground := Ground.phase }, { on := 4, ground := Ground.phase }, { on := 5, ground := Ground.phase }, { on := 6, ground := Ground.phase }], guard := none }) rfl (by rfl) (fun K hK => ?_) ?_
                        · skip
                          ((refine wp_store_two _ _ rfl g6 nx en HLN.out HLE.out rfl rfl HN6.out (.inr rfl) HT5.out ?_; intro w' hrow htw hoth; have HN5 := Lib.hid (hoth _ _ _ hne HN5.out); have HN6 := Lib.hid hrow; have HT5 := Lib.hid htw; clear hrow htw hoth))
                          refine hK _ _ ?_
                          clear hK K
                          try simp only [Act.put]
                          refine wpAny_done (by kernel_rfl) ?_ _
                          ((exact K _ ⟨HN5.out, HN6.out, HT5.out⟩))
                        exact AllReady.nil
                      exact AllReady.nil
                    exact AllReady.nil
                  exact AllReady.nil
                exact AllReady.nil
              refine Go.BigFrame.allReady_want (o := { dst := some 25, op := Op.load 26 (Operand.tmp 6), type := 26, pos := "law.go:195", after := #[], guard := none }) rfl (by rfl) (fun K hK => ?_) ?_
              · skip
                ((refine wp_row_dig _ rfl g6 en HLE.out rfl (H6b.out.keep HB0.out) ?_))
                refine hK _ _ ?_
                clear hK K
                try simp only [Act.put, List.setIfInBounds_toArray, List.set_cons_zero, List.set_cons_succ]
                refine wpAny_ready (rs := [2, 4]) (by kernel_rfl) (by simp) ?_
                refine Go.BigFrame.allReady_want (o := { dst := some 24, op := Op.call { callee := Callee.value (Operand.func 25), args := #[Operand.tmp 22, Operand.tmp 23], argTypes := #[26, 26] }, type := 26, pos := "law.go:195", after := #[{ on := 0, ground := Ground.data }, { on := 1, ground := Ground.data }], guard := none }) rfl (by rfl) (fun K hK => ?_) ?_
                · skip
                  go_simp
                  go_wp2_with ((go_at_call 25; (refine (HC1.out _ HB0.out).mono ?_); rintro e w11 ⟨rfl, hb⟩; have HB0 := Lib.hid (below_next HB0.out hb); clear hb))
                  refine wpAny_ready (rs := [4]) (by kernel_rfl) (by simp) ?_
                  refine Go.BigFrame.allReady_want (o := { dst := some 26, op := Op.load 26 (Operand.tmp 8), type := 26, pos := "law.go:195", after := #[], guard := none }) rfl (by rfl) (fun K hK => ?_) ?_
                  · skip
                    ((refine wp_row_dig _ rfl g8 d HDL.out rfl (H8b.out.keep HB0.out) ?_))
                    refine hK _ _ ?_
                    clear hK K
                    try simp only [Act.put, List.setIfInBounds_toArray, List.set_cons_zero, List.set_cons_succ]
                    refine wpAny_ready (rs := [5]) (by kernel_rfl) (by simp) ?_
                    refine Go.BigFrame.allReady_want (o := { dst := some 27, op := Op.call { callee := Callee.value (Operand.func 26), args := #[Operand.tmp 25, Operand.tmp 26], argTypes := #[26, 26] }, type := 26, pos := "law.go:195", after := #[{ on := 3, ground := Ground.data }, { on := 4, ground := Ground.data }, { on := 2, ground := Ground.chain }], guard := none }) rfl (by rfl) (fun K hK => ?_) ?_
                    · skip
                      go_simp
                      go_wp2_with ((go_at_call 26; (refine (HC2.out _ HB0.out).mono ?_); rintro e w12 ⟨rfl, hb⟩; have HB0 := Lib.hid (below_next HB0.out hb); clear hb))
                      refine wpAny_ready (rs := [6]) (by kernel_rfl) (by simp) ?_
                      refine Go.BigFrame.allReady_want (o := { dst := none, op := Op.store 26 (Operand.tmp 5) (Operand.tmp 24), type := 0, pos := "law.go:195", after := #[{ on := 2, ground := Ground.data }, { on := 5, ground := Ground.chain }, { on := 0, ground := Ground.phase }, { on := 1, ground := Ground.phase }, { on := 2, ground := Ground.phase }, { on := 3, ground := Ground.textOnly Departure.lateStores }, { on := 4, ground := Ground.textOnly Departure.lateStores }, { on := 5, ground := Ground.textOnly Departure.lateStoresUnsure }], guard := none }) rfl (by rfl) (fun K hK => ?_) ?_
                      · skip
                        ((refine wp_store_two _ _ rfl g5 nx en HLN.out HLE.out rfl rfl (H5b.out.keep HB0.out) (.inl rfl) ((Two.refl g5 g6 wb).next HB0.out) ?_; intro w' hrow htw hoth; have HN5 := Lib.hid hrow; have HT5 := Lib.hid htw; have HN6 := Lib.hid (hoth _ _ _ (fun h => hne h.symm) (H6b.out.keep HB0.out)); clear hrow htw hoth))
                        refine hK _ _ ?_
                        clear hK K
                        try simp only [Act.put]
                        refine wpAny_ready (rs := [7]) (by kernel_rfl) (by simp) ?_
                        refine Go.BigFrame.allReady_want (o := { dst := none, op := Op.store 26 (Operand.tmp 6) (Operand.tmp 27), type := 0, pos := "law.go:195", after := #[{ on := 5, ground := Ground.data }, { on := 6, ground := Ground.chain }, { on := 0, ground := Ground.phase }, { on := 1, ground := Ground.phase }, { on := 2, ground := Ground.phase }, { on := 3, ground := Ground.phase }, { on := 4, ground := Ground.phase }, { on := 5, ground := Ground.phase }, { on := 6, ground := Ground.phase }], guard := none }) rfl (by rfl) (fun K hK => ?_) ?_
                        · skip
                          ((refine wp_store_two _ _ rfl g6 nx en HLN.out HLE.out rfl rfl HN6.out (.inr rfl) HT5.out ?_; intro w' hrow htw hoth; have HN5 := Lib.hid (hoth _ _ _ hne HN5.out); have HN6 := Lib.hid hrow; have HT5 := Lib.hid htw; clear hrow htw hoth))
                          refine hK _ _ ?_
                          clear hK K
                          try simp only [Act.put]
                          refine wpAny_done (by kernel_rfl) ?_ _
                          ((exact K _ ⟨HN5.out, HN6.out, HT5.out⟩))
                        exact AllReady.nil
                      exact AllReady.nil
                    exact AllReady.nil
                  exact AllReady.nil
                refine Go.BigFrame.allReady_want (o := { dst := some 26, op := Op.load 26 (Operand.tmp 8), type := 26, pos := "law.go:195", after := #[], guard := none }) rfl (by rfl) (fun K hK => ?_) ?_
                · skip
                  ((refine wp_row_dig _ rfl g8 d HDL.out rfl (H8b.out.keep HB0.out) ?_))
                  refine hK _ _ ?_
                  clear hK K
                  try simp only [Act.put, List.setIfInBounds_toArray, List.set_cons_zero, List.set_cons_succ]
                  refine wpAny_ready (rs := [2]) (by kernel_rfl) (by simp) ?_
                  refine Go.BigFrame.allReady_want (o := { dst := some 24, op := Op.call { callee := Callee.value (Operand.func 25), args := #[Operand.tmp 22, Operand.tmp 23], argTypes := #[26, 26] }, type := 26, pos := "law.go:195", after := #[{ on := 0, ground := Ground.data }, { on := 1, ground := Ground.data }], guard := none }) rfl (by rfl) (fun K hK => ?_) ?_
                  · skip
                    go_simp
                    go_wp2_with ((go_at_call 25; (refine (HC1.out _ HB0.out).mono ?_); rintro e w11 ⟨rfl, hb⟩; have HB0 := Lib.hid (below_next HB0.out hb); clear hb))
                    refine wpAny_ready (rs := [5]) (by kernel_rfl) (by simp) ?_
                    refine Go.BigFrame.allReady_want (o := { dst := some 27, op := Op.call { callee := Callee.value (Operand.func 26), args := #[Operand.tmp 25, Operand.tmp 26], argTypes := #[26, 26] }, type := 26, pos := "law.go:195", after := #[{ on := 3, ground := Ground.data }, { on := 4, ground := Ground.data }, { on := 2, ground := Ground.chain }], guard := none }) rfl (by rfl) (fun K hK => ?_) ?_
                    · skip
                      go_simp
                      go_wp2_with ((go_at_call 26; (refine (HC2.out _ HB0.out).mono ?_); rintro e w12 ⟨rfl, hb⟩; have HB0 := Lib.hid (below_next HB0.out hb); clear hb))
                      refine wpAny_ready (rs := [6]) (by kernel_rfl) (by simp) ?_
                      refine Go.BigFrame.allReady_want (o := { dst := none, op := Op.store 26 (Operand.tmp 5) (Operand.tmp 24), type := 0, pos := "law.go:195", after := #[{ on := 2, ground := Ground.data }, { on := 5, ground := Ground.chain }, { on := 0, ground := Ground.phase }, { on := 1, ground := Ground.phase }, { on := 2, ground := Ground.phase }, { on := 3, ground := Ground.textOnly Departure.lateStores }, { on := 4, ground := Ground.textOnly Departure.lateStores }, { on := 5, ground := Ground.textOnly Departure.lateStoresUnsure }], guard := none }) rfl (by rfl) (fun K hK => ?_) ?_
                      · skip
                        ((refine wp_store_two _ _ rfl g5 nx en HLN.out HLE.out rfl rfl (H5b.out.keep HB0.out) (.inl rfl) ((Two.refl g5 g6 wb).next HB0.out) ?_; intro w' hrow htw hoth; have HN5 := Lib.hid hrow; have HT5 := Lib.hid htw; have HN6 := Lib.hid (hoth _ _ _ (fun h => hne h.symm) (H6b.out.keep HB0.out)); clear hrow htw hoth))
                        refine hK _ _ ?_
                        clear hK K
                        try simp only [Act.put]
                        refine wpAny_ready (rs := [7]) (by kernel_rfl) (by simp) ?_
                        refine Go.BigFrame.allReady_want (o := { dst := none, op := Op.store 26 (Operand.tmp 6) (Operand.tmp 27), type := 0, pos := "law.go:195", after := #[{ on := 5, ground := Ground.data }, { on := 6, ground := Ground.chain }, { on := 0, ground := Ground.phase }, { on := 1, ground := Ground.phase }, { on := 2, ground := Ground.phase }, { on := 3, ground := Ground.phase }, { on := 4, ground := Ground.phase }, { on := 5, ground := Ground.phase }, { on := 6, ground := Ground.phase }], guard := none }) rfl (by rfl) (fun K hK => ?_) ?_
                        · skip
                          ((refine wp_store_two _ _ rfl g6 nx en HLN.out HLE.out rfl rfl HN6.out (.inr rfl) HT5.out ?_; intro w' hrow htw hoth; have HN5 := Lib.hid (hoth _ _ _ hne HN5.out); have HN6 := Lib.hid hrow; have HT5 := Lib.hid htw; clear hrow htw hoth))
                          refine hK _ _ ?_
                          clear hK K
                          try simp only [Act.put]
                          refine wpAny_done (by kernel_rfl) ?_ _
                          ((exact K _ ⟨HN5.out, HN6.out, HT5.out⟩))
                        exact AllReady.nil
                      exact AllReady.nil
                    exact AllReady.nil
                  exact AllReady.nil
                exact AllReady.nil
              refine Go.BigFrame.allReady_want (o := { dst := some 26, op := Op.load 26 (Operand.tmp 8), type := 26, pos := "law.go:195", after := #[], guard := none }) rfl (by rfl) (fun K hK => ?_) ?_
              · skip
                ((refine wp_row_dig _ rfl g8 d HDL.out rfl (H8b.out.keep HB0.out) ?_))
                refine hK _ _ ?_
                clear hK K
                try simp only [Act.put, List.setIfInBounds_toArray, List.set_cons_zero, List.set_cons_succ]
                refine wpAny_ready (rs := [2, 3]) (by kernel_rfl) (by simp) ?_
                refine Go.BigFrame.allReady_want (o := { dst := some 24, op := Op.call { callee := Callee.value (Operand.func 25), args := #[Operand.tmp 22, Operand.tmp 23], argTypes := #[26, 26] }, type := 26, pos := "law.go:195", after := #[{ on := 0, ground := Ground.data }, { on := 1, ground := Ground.data }], guard := none }) rfl (by rfl) (fun K hK => ?_) ?_
                · skip
                  go_simp
                  go_wp2_with ((go_at_call 25; (refine (HC1.out _ HB0.out).mono ?_); rintro e w11 ⟨rfl, hb⟩; have HB0 := Lib.hid (below_next HB0.out hb); clear hb))
                  refine wpAny_ready (rs := [3]) (by kernel_rfl) (by simp) ?_
                  refine Go.BigFrame.allReady_want (o := { dst := some 25, op := Op.load 26 (Operand.tmp 6), type := 26, pos := "law.go:195", after := #[], guard := none }) rfl (by rfl) (fun K hK => ?_) ?_
                  · skip
                    ((refine wp_row_dig _ rfl g6 en HLE.out rfl (H6b.out.keep HB0.out) ?_))
                    refine hK _ _ ?_
                    clear hK K
                    try simp only [Act.put, List.setIfInBounds_toArray, List.set_cons_zero, List.set_cons_succ]
                    refine wpAny_ready (rs := [5]) (by kernel_rfl) (by simp) ?_
                    refine Go.BigFrame.allReady_want (o := { dst := some 27, op := Op.call { callee := Callee.value (Operand.func 26), args := #[Operand.tmp 25, Operand.tmp 26], argTypes := #[26, 26] }, type := 26, pos := "law.go:195", after := #[{ on := 3, ground := Ground.data }, { on := 4, ground := Ground.data }, { on := 2, ground := Ground.chain }], guard := none }) rfl (by rfl) (fun K hK => ?_) ?_
                    · skip
                      go_simp
                      go_wp2_with ((go_at_call 26; (refine (HC2.out _ HB0.out).mono ?_); rintro e w12 ⟨rfl, hb⟩; have HB0 := Lib.hid (below_next HB0.out hb); clear hb))
                      refine wpAny_ready (rs := [6]) (by kernel_rfl) (by simp) ?_
                      refine Go.BigFrame.allReady_want (o := { dst := none, op := Op.store 26 (Operand.tmp 5) (Operand.tmp 24), type := 0, pos := "law.go:195", after := #[{ on := 2, ground := Ground.data }, { on := 5, ground := Ground.chain }, { on := 0, ground := Ground.phase }, { on := 1, ground := Ground.phase }, { on := 2, ground := Ground.phase }, { on := 3, ground := Ground.textOnly Departure.lateStores }, { on := 4, ground := Ground.textOnly Departure.lateStores }, { on := 5, ground := Ground.textOnly Departure.lateStoresUnsure }], guard := none }) rfl (by rfl) (fun K hK => ?_) ?_
                      · skip
                        ((refine wp_store_two _ _ rfl g5 nx en HLN.out HLE.out rfl rfl (H5b.out.keep HB0.out) (.inl rfl) ((Two.refl g5 g6 wb).next HB0.out) ?_; intro w' hrow htw hoth; have HN5 := Lib.hid hrow; have HT5 := Lib.hid htw; have HN6 := Lib.hid (hoth _ _ _ (fun h => hne h.symm) (H6b.out.keep HB0.out)); clear hrow htw hoth))
                        refine hK _ _ ?_
                        clear hK K
                        try simp only [Act.put]
                        refine wpAny_ready (rs := [7]) (by kernel_rfl) (by simp) ?_
                        refine Go.BigFrame.allReady_want (o := { dst := none, op := Op.store 26 (Operand.tmp 6) (Operand.tmp 27), type := 0, pos := "law.go:195", after := #[{ on := 5, ground := Ground.data }, { on := 6, ground := Ground.chain }, { on := 0, ground := Ground.phase }, { on := 1, ground := Ground.phase }, { on := 2, ground := Ground.phase }, { on := 3, ground := Ground.phase }, { on := 4, ground := Ground.phase }, { on := 5, ground := Ground.phase }, { on := 6, ground := Ground.phase }], guard := none }) rfl (by rfl) (fun K hK => ?_) ?_
                        · skip
                          ((refine wp_store_two _ _ rfl g6 nx en HLN.out HLE.out rfl rfl HN6.out (.inr rfl) HT5.out ?_; intro w' hrow htw hoth; have HN5 := Lib.hid (hoth _ _ _ hne HN5.out); have HN6 := Lib.hid hrow; have HT5 := Lib.hid htw; clear hrow htw hoth))
                          refine hK _ _ ?_
                          clear hK K
                          try simp only [Act.put]
                          refine wpAny_done (by kernel_rfl) ?_ _
                          ((exact K _ ⟨HN5.out, HN6.out, HT5.out⟩))
                        exact AllReady.nil
                      exact AllReady.nil
                    exact AllReady.nil
                  exact AllReady.nil
                refine Go.BigFrame.allReady_want (o := { dst := some 25, op := Op.load 26 (Operand.tmp 6), type := 26, pos := "law.go:195", after := #[], guard := none }) rfl (by rfl) (fun K hK => ?_) ?_
                · skip
                  ((refine wp_row_dig _ rfl g6 en HLE.out rfl (H6b.out.keep HB0.out) ?_))
                  refine hK _ _ ?_
                  clear hK K
                  try simp only [Act.put, List.setIfInBounds_toArray, List.set_cons_zero, List.set_cons_succ]
                  refine wpAny_ready (rs := [2]) (by kernel_rfl) (by simp) ?_
                  refine Go.BigFrame.allReady_want (o := { dst := some 24, op := Op.call { callee := Callee.value (Operand.func 25), args := #[Operand.tmp 22, Operand.tmp 23], argTypes := #[26, 26] }, type := 26, pos := "law.go:195", after := #[{ on := 0, ground := Ground.data }, { on := 1, ground := Ground.data }], guard := none }) rfl (by rfl) (fun K hK => ?_) ?_
                  · skip
                    go_simp
                    go_wp2_with ((go_at_call 25; (refine (HC1.out _ HB0.out).mono ?_); rintro e w11 ⟨rfl, hb⟩; have HB0 := Lib.hid (below_next HB0.out hb); clear hb))
                    refine wpAny_ready (rs := [5]) (by kernel_rfl) (by simp) ?_
                    refine Go.BigFrame.allReady_want (o := { dst := some 27, op := Op.call { callee := Callee.value (Operand.func 26), args := #[Operand.tmp 25, Operand.tmp 26], argTypes := #[26, 26] }, type := 26, pos := "law.go:195", after := #[{ on := 3, ground := Ground.data }, { on := 4, ground := Ground.data }, { on := 2, ground := Ground.chain }], guard := none }) rfl (by rfl) (fun K hK => ?_) ?_
                    · skip
                      go_simp
                      go_wp2_with ((go_at_call 26; (refine (HC2.out _ HB0.out).mono ?_); rintro e w12 ⟨rfl, hb⟩; have HB0 := Lib.hid (below_next HB0.out hb); clear hb))
                      refine wpAny_ready (rs := [6]) (by kernel_rfl) (by simp) ?_
                      refine Go.BigFrame.allReady_want (o := { dst := none, op := Op.store 26 (Operand.tmp 5) (Operand.tmp 24), type := 0, pos := "law.go:195", after := #[{ on := 2, ground := Ground.data }, { on := 5, ground := Ground.chain }, { on := 0, ground := Ground.phase }, { on := 1, ground := Ground.phase }, { on := 2, ground := Ground.phase }, { on := 3, ground := Ground.textOnly Departure.lateStores }, { on := 4, ground := Ground.textOnly Departure.lateStores }, { on := 5, ground := Ground.textOnly Departure.lateStoresUnsure }], guard := none }) rfl (by rfl) (fun K hK => ?_) ?_
                      · skip
                        ((refine wp_store_two _ _ rfl g5 nx en HLN.out HLE.out rfl rfl (H5b.out.keep HB0.out) (.inl rfl) ((Two.refl g5 g6 wb).next HB0.out) ?_; intro w' hrow htw hoth; have HN5 := Lib.hid hrow; have HT5 := Lib.hid htw; have HN6 := Lib.hid (hoth _ _ _ (fun h => hne h.symm) (H6b.out.keep HB0.out)); clear hrow htw hoth))
                        refine hK _ _ ?_
                        clear hK K
                        try simp only [Act.put]
                        refine wpAny_ready (rs := [7]) (by kernel_rfl) (by simp) ?_
                        refine Go.BigFrame.allReady_want (o := { dst := none, op := Op.store 26 (Operand.tmp 6) (Operand.tmp 27), type := 0, pos := "law.go:195", after := #[{ on := 5, ground := Ground.data }, { on := 6, ground := Ground.chain }, { on := 0, ground := Ground.phase }, { on := 1, ground := Ground.phase }, { on := 2, ground := Ground.phase }, { on := 3, ground := Ground.phase }, { on := 4, ground := Ground.phase }, { on := 5, ground := Ground.phase }, { on := 6, ground := Ground.phase }], guard := none }) rfl (by rfl) (fun K hK => ?_) ?_
                        · skip
                          ((refine wp_store_two _ _ rfl g6 nx en HLN.out HLE.out rfl rfl HN6.out (.inr rfl) HT5.out ?_; intro w' hrow htw hoth; have HN5 := Lib.hid (hoth _ _ _ hne HN5.out); have HN6 := Lib.hid hrow; have HT5 := Lib.hid htw; clear hrow htw hoth))
                          refine hK _ _ ?_
                          clear hK K
                          try simp only [Act.put]
                          refine wpAny_done (by kernel_rfl) ?_ _
                          ((exact K _ ⟨HN5.out, HN6.out, HT5.out⟩))
                        exact AllReady.nil
                      exact AllReady.nil
                    exact AllReady.nil
                  exact AllReady.nil
                exact AllReady.nil
              exact AllReady.nil
            refine Go.BigFrame.allReady_want (o := { dst := some 25, op := Op.load 26 (Operand.tmp 6), type := 26, pos := "law.go:195", after := #[], guard := none }) rfl (by rfl) (fun K hK => ?_) ?_
            · skip
              ((refine wp_row_dig _ rfl g6 en HLE.out rfl (H6b.out.keep HB0.out) ?_))
              refine hK _ _ ?_
              clear hK K
              try simp only [Act.put, List.setIfInBounds_toArray, List.set_cons_zero, List.set_cons_succ]
              refine wpAny_ready (rs := [0, 4]) (by kernel_rfl) (by simp) ?_
              refine Go.BigFrame.allReady_want (o := { dst := some 22, op := Op.load 26 (Operand.tmp 5), type := 26, pos := "law.go:195", after := #[], guard := none }) rfl (by rfl) (fun K hK => ?_) ?_
              · skip
                ((refine wp_row_dig _ rfl g5 en HLE.out rfl (H5b.out.keep HB0.out) ?_))
                refine hK _ _ ?_
                clear hK K
                try simp only [Act.put, List.setIfInBounds_toArray, List.set_cons_zero, List.set_cons_succ]
                refine wpAny_ready (rs := [2, 4]) (by kernel_rfl) (by simp) ?_
                refine Go.BigFrame.allReady_want (o := { dst := some 24, op := Op.call { callee := Callee.value (Operand.func 25), args := #[Operand.tmp 22, Operand.tmp 23], argTypes := #[26, 26] }, type := 26, pos := "law.go:195", after := #[{ on := 0, ground := Ground.data }, { on := 1, ground := Ground.data }], guard := none }) rfl (by rfl) (fun K hK => ?_) ?_
                · skip
                  go_simp
                  go_wp2_with ((go_at_call 25; (refine (HC1.out _ HB0.out).mono ?_); rintro e w11 ⟨rfl, hb⟩; have HB0 := Lib.hid (below_next HB0.out hb); clear hb))
                  refine wpAny_ready (rs := [4]) (by kernel_rfl) (by simp) ?_
                  refine Go.BigFrame.allReady_want (o := { dst := some 26, op := Op.load 26 (Operand.tmp 8), type := 26, pos := "law.go:195", after := #[], guard := none }) rfl (by rfl) (fun K hK => ?_) ?_
                  · skip
                    ((refine wp_row_dig _ rfl g8 d HDL.out rfl (H8b.out.keep HB0.out) ?_))
                    refine hK _ _ ?_
                    clear hK K
                    try simp only [Act.put, List.setIfInBounds_toArray, List.set_cons_zero, List.set_cons_succ]
                    refine wpAny_ready (rs := [5]) (by kernel_rfl) (by simp) ?_
                    refine Go.BigFrame.allReady_want (o := { dst := some 27, op := Op.call { callee := Callee.value (Operand.func 26), args := #[Operand.tmp 25, Operand.tmp 26], argTypes := #[26, 26] }, type := 26, pos := "law.go:195", after := #[{ on := 3, ground := Ground.data }, { on := 4, ground := Ground.data }, { on := 2, ground := Ground.chain }], guard := none }) rfl (by rfl) (fun K hK => ?_) ?_
                    · skip
                      go_simp
                      go_wp2_with ((go_at_call 26; (refine (HC2.out _ HB0.out).mono ?_); rintro e w12 ⟨rfl, hb⟩; have HB0 := Lib.hid (below_next HB0.out hb); clear hb))
                      refine wpAny_ready (rs := [6]) (by kernel_rfl) (by simp) ?_
                      refine Go.BigFrame.allReady_want (o := { dst := none, op := Op.store 26 (Operand.tmp 5) (Operand.tmp 24), type := 0, pos := "law.go:195", after := #[{ on := 2, ground := Ground.data }, { on := 5, ground := Ground.chain }, { on := 0, ground := Ground.phase }, { on := 1, ground := Ground.phase }, { on := 2, ground := Ground.phase }, { on := 3, ground := Ground.textOnly Departure.lateStores }, { on := 4, ground := Ground.textOnly Departure.lateStores }, { on := 5, ground := Ground.textOnly Departure.lateStoresUnsure }], guard := none }) rfl (by rfl) (fun K hK => ?_) ?_
                      · skip
                        ((refine wp_store_two _ _ rfl g5 nx en HLN.out HLE.out rfl rfl (H5b.out.keep HB0.out) (.inl rfl) ((Two.refl g5 g6 wb).next HB0.out) ?_; intro w' hrow htw hoth; have HN5 := Lib.hid hrow; have HT5 := Lib.hid htw; have HN6 := Lib.hid (hoth _ _ _ (fun h => hne h.symm) (H6b.out.keep HB0.out)); clear hrow htw hoth))
                        refine hK _ _ ?_
                        clear hK K
                        try simp only [Act.put]
                        refine wpAny_ready (rs := [7]) (by kernel_rfl) (by simp) ?_
                        refine Go.BigFrame.allReady_want (o := { dst := none, op := Op.store 26 (Operand.tmp 6) (Operand.tmp 27), type := 0, pos := "law.go:195", after := #[{ on := 5, ground := Ground.data }, { on := 6, ground := Ground.chain }, { on := 0, ground := Ground.phase }, { on := 1, ground := Ground.phase }, { on := 2, ground := Ground.phase }, { on := 3, ground := Ground.phase }, { on := 4, ground := Ground.phase }, { on := 5, ground := Ground.phase }, { on := 6, ground := Ground.phase }], guard := none }) rfl (by rfl) (fun K hK => ?_) ?_
                        · skip
                          ((refine wp_store_two _ _ rfl g6 nx en HLN.out HLE.out rfl rfl HN6.out (.inr rfl) HT5.out ?_; intro w' hrow htw hoth; have HN5 := Lib.hid (hoth _ _ _ hne HN5.out); have HN6 := Lib.hid hrow; have HT5 := Lib.hid htw; clear hrow htw hoth))
                          refine hK _ _ ?_
                          clear hK K
                          try simp only [Act.put]
                          refine wpAny_done (by kernel_rfl) ?_ _
                          ((exact K _ ⟨HN5.out, HN6.out, HT5.out⟩))
                        exact AllReady.nil
                      exact AllReady.nil
                    exact AllReady.nil
                  exact AllReady.nil
                refine Go.BigFrame.allReady_want (o := { dst := some 26, op := Op.load 26 (Operand.tmp 8), type := 26, pos := "law.go:195", after := #[], guard := none }) rfl (by rfl) (fun K hK => ?_) ?_
                · skip
                  ((refine wp_row_dig _ rfl g8 d HDL.out rfl (H8b.out.keep HB0.out) ?_))
                  refine hK _ _ ?_
                  clear hK K
                  try simp only [Act.put, List.setIfInBounds_toArray, List.set_cons_zero, List.set_cons_succ]
                  refine wpAny_ready (rs := [2]) (by kernel_rfl) (by simp) ?_
                  refine Go.BigFrame.allReady_want (o := { dst := some 24, op := Op.call { callee := Callee.value (Operand.func 25), args := #[Operand.tmp 22, Operand.tmp 23], argTypes := #[26, 26] }, type := 26, pos := "law.go:195", after := #[{ on := 0, ground := Ground.data }, { on := 1, ground := Ground.data }], guard := none }) rfl (by rfl) (fun K hK => ?_) ?_
                  · skip
                    go_simp
                    go_wp2_with ((go_at_call 25; (refine (HC1.out _ HB0.out).mono ?_); rintro e w11 ⟨rfl, hb⟩; have HB0 := Lib.hid (below_next HB0.out hb); clear hb))
                    refine wpAny_ready (rs := [5]) (by kernel_rfl) (by simp) ?_
                    refine Go.BigFrame.allReady_want (o := { dst := some 27, op := Op.call { callee := Callee.value (Operand.func 26), args := #[Operand.tmp 25, Operand.tmp 26], argTypes := #[26, 26] }, type := 26, pos := "law.go:195", after := #[{ on := 3, ground := Ground.data }, { on := 4, ground := Ground.data }, { on := 2, ground := Ground.chain }], guard := none }) rfl (by rfl) (fun K hK => ?_) ?_
                    · skip
                      go_simp
                      go_wp2_with ((go_at_call 26; (refine (HC2.out _ HB0.out).mono ?_); rintro e w12 ⟨rfl, hb⟩; have HB0 := Lib.hid (below_next HB0.out hb); clear hb))
                      refine wpAny_ready (rs := [6]) (by kernel_rfl) (by simp) ?_
                      refine Go.BigFrame.allReady_want (o := { dst := none, op := Op.store 26 (Operand.tmp 5) (Operand.tmp 24), type := 0, pos := "law.go:195", after := #[{ on := 2, ground := Ground.data }, { on := 5, ground := Ground.chain }, { on := 0, ground := Ground.phase }, { on := 1, ground := Ground.phase }, { on := 2, ground := Ground.phase }, { on := 3, ground := Ground.textOnly Departure.lateStores }, { on := 4, ground := Ground.textOnly Departure.lateStores }, { on := 5, ground := Ground.textOnly Departure.lateStoresUnsure }], guard := none }) rfl (by rfl) (fun K hK => ?_) ?_
                      · skip
                        ((refine wp_store_two _ _ rfl g5 nx en HLN.out HLE.out rfl rfl (H5b.out.keep HB0.out) (.inl rfl) ((Two.refl g5 g6 wb).next HB0.out) ?_; intro w' hrow htw hoth; have HN5 := Lib.hid hrow; have HT5 := Lib.hid htw; have HN6 := Lib.hid (hoth _ _ _ (fun h => hne h.symm) (H6b.out.keep HB0.out)); clear hrow htw hoth))
                        refine hK _ _ ?_
                        clear hK K
                        try simp only [Act.put]
                        refine wpAny_ready (rs := [7]) (by kernel_rfl) (by simp) ?_
                        refine Go.BigFrame.allReady_want (o := { dst := none, op := Op.store 26 (Operand.tmp 6) (Operand.tmp 27), type := 0, pos := "law.go:195", after := #[{ on := 5, ground := Ground.data }, { on := 6, ground := Ground.chain }, { on := 0, ground := Ground.phase }, { on := 1, ground := Ground.phase }, { on := 2, ground := Ground.phase }, { on := 3, ground := Ground.phase }, { on := 4, ground := Ground.phase }, { on := 5, ground := Ground.phase }, { on := 6, ground := Ground.phase }], guard := none }) rfl (by rfl) (fun K hK => ?_) ?_
                        · skip
                          ((refine wp_store_two _ _ rfl g6 nx en HLN.out HLE.out rfl rfl HN6.out (.inr rfl) HT5.out ?_; intro w' hrow htw hoth; have HN5 := Lib.hid (hoth _ _ _ hne HN5.out); have HN6 := Lib.hid hrow; have HT5 := Lib.hid htw; clear hrow htw hoth))
                          refine hK _ _ ?_
                          clear hK K
                          try simp only [Act.put]
                          refine wpAny_done (by kernel_rfl) ?_ _
                          ((exact K _ ⟨HN5.out, HN6.out, HT5.out⟩))
                        exact AllReady.nil
                      exact AllReady.nil
                    exact AllReady.nil
                  exact AllReady.nil
                exact AllReady.nil
              refine Go.BigFrame.allReady_want (o := { dst := some 26, op := Op.load 26 (Operand.tmp 8), type := 26, pos := "law.go:195", after := #[], guard := none }) rfl (by rfl) (fun K hK => ?_) ?_
              · skip
                ((refine wp_row_dig _ rfl g8 d HDL.out rfl (H8b.out.keep HB0.out) ?_))
                refine hK _ _ ?_
                clear hK K
                try simp only [Act.put, List.setIfInBounds_toArray, List.set_cons_zero, List.set_cons_succ]
                refine wpAny_ready (rs := [0]) (by kernel_rfl) (by simp) ?_
                refine Go.BigFrame.allReady_want (o := { dst := some 22, op := Op.load 26 (Operand.tmp 5), type := 26, pos := "law.go:195", after := #[], guard := none }) rfl (by rfl) (fun K hK => ?_) ?_
                · skip
                  ((refine wp_row_dig _ rfl g5 en HLE.out rfl (H5b.out.keep HB0.out) ?_))
                  refine hK _ _ ?_
                  clear hK K
                  try simp only [Act.put, List.setIfInBounds_toArray, List.set_cons_zero, List.set_cons_succ]
                  refine wpAny_ready (rs := [2]) (by kernel_rfl) (by simp) ?_
                  refine Go.BigFrame.allReady_want (o := { dst := some 24, op := Op.call { callee := Callee.value (Operand.func 25), args := #[Operand.tmp 22, Operand.tmp 23], argTypes := #[26, 26] }, type := 26, pos := "law.go:195", after := #[{ on := 0, ground := Ground.data }, { on := 1, ground := Ground.data }], guard := none }) rfl (by rfl) (fun K hK => ?_) ?_
                  · skip
                    go_simp
                    go_wp2_with ((go_at_call 25; (refine (HC1.out _ HB0.out).mono ?_); rintro e w11 ⟨rfl, hb⟩; have HB0 := Lib.hid (below_next HB0.out hb); clear hb))
                    refine wpAny_ready (rs := [5]) (by kernel_rfl) (by simp) ?_
                    refine Go.BigFrame.allReady_want (o := { dst := some 27, op := Op.call { callee := Callee.value (Operand.func 26), args := #[Operand.tmp 25, Operand.tmp 26], argTypes := #[26, 26] }, type := 26, pos := "law.go:195", after := #[{ on := 3, ground := Ground.data }, { on := 4, ground := Ground.data }, { on := 2, ground := Ground.chain }], guard := none }) rfl (by rfl) (fun K hK => ?_) ?_
                    · skip
                      go_simp
                      go_wp2_with ((go_at_call 26; (refine (HC2.out _ HB0.out).mono ?_); rintro e w12 ⟨rfl, hb⟩; have HB0 := Lib.hid (below_next HB0.out hb); clear hb))
                      refine wpAny_ready (rs := [6]) (by kernel_rfl) (by simp) ?_
                      refine Go.BigFrame.allReady_want (o := { dst := none, op := Op.store 26 (Operand.tmp 5) (Operand.tmp 24), type := 0, pos := "law.go:195", after := #[{ on := 2, ground := Ground.data }, { on := 5, ground := Ground.chain }, { on := 0, ground := Ground.phase }, { on := 1, ground := Ground.phase }, { on := 2, ground := Ground.phase }, { on := 3, ground := Ground.textOnly Departure.lateStores }, { on := 4, ground := Ground.textOnly Departure.lateStores }, { on := 5, ground := Ground.textOnly Departure.lateStoresUnsure }], guard := none }) rfl (by rfl) (fun K hK => ?_) ?_
                      · skip
                        ((refine wp_store_two _ _ rfl g5 nx en HLN.out HLE.out rfl rfl (H5b.out.keep HB0.out) (.inl rfl) ((Two.refl g5 g6 wb).next HB0.out) ?_; intro w' hrow htw hoth; have HN5 := Lib.hid hrow; have HT5 := Lib.hid htw; have HN6 := Lib.hid (hoth _ _ _ (fun h => hne h.symm) (H6b.out.keep HB0.out)); clear hrow htw hoth))
                        refine hK _ _ ?_
                        clear hK K
                        try simp only [Act.put]
                        refine wpAny_ready (rs := [7]) (by kernel_rfl) (by simp) ?_
                        refine Go.BigFrame.allReady_want (o := { dst := none, op := Op.store 26 (Operand.tmp 6) (Operand.tmp 27), type := 0, pos := "law.go:195", after := #[{ on := 5, ground := Ground.data }, { on := 6, ground := Ground.chain }, { on := 0, ground := Ground.phase }, { on := 1, ground := Ground.phase }, { on := 2, ground := Ground.phase }, { on := 3, ground := Ground.phase }, { on := 4, ground := Ground.phase }, { on := 5, ground := Ground.phase }, { on := 6, ground := Ground.phase }], guard := none }) rfl (by rfl) (fun K hK => ?_) ?_
                        · skip
                          ((refine wp_store_two _ _ rfl g6 nx en HLN.out HLE.out rfl rfl HN6.out (.inr rfl) HT5.out ?_; intro w' hrow htw hoth; have HN5 := Lib.hid (hoth _ _ _ hne HN5.out); have HN6 := Lib.hid hrow; have HT5 := Lib.hid htw; clear hrow htw hoth))
                          refine hK _ _ ?_
                          clear hK K
                          try simp only [Act.put]
                          refine wpAny_done (by kernel_rfl) ?_ _
                          ((exact K _ ⟨HN5.out, HN6.out, HT5.out⟩))
                        exact AllReady.nil
                      exact AllReady.nil
                    exact AllReady.nil
                  exact AllReady.nil
                exact AllReady.nil
              exact AllReady.nil
            refine Go.BigFrame.allReady_want (o := { dst := some 26, op := Op.load 26 (Operand.tmp 8), type := 26, pos := "law.go:195", after := #[], guard := none }) rfl (by rfl) (fun K hK => ?_) ?_
            · skip
              ((refine wp_row_dig _ rfl g8 d HDL.out rfl (H8b.out.keep HB0.out) ?_))
              refine hK _ _ ?_
              clear hK K
              try simp only [Act.put, List.setIfInBounds_toArray, List.set_cons_zero, List.set_cons_succ]
              refine wpAny_ready (rs := [0, 3]) (by kernel_rfl) (by simp) ?_
              refine Go.BigFrame.allReady_want (o := { dst := some 22, op := Op.load 26 (Operand.tmp 5), type := 26, pos := "law.go:195", after := #[], guard := none }) rfl (by rfl) (fun K hK => ?_) ?_
              · skip
                ((refine wp_row_dig _ rfl g5 en HLE.out rfl (H5b.out.keep HB0.out) ?_))
                refine hK _ _ ?_
                clear hK K
                try simp only [Act.put, List.setIfInBounds_toArray, List.set_cons_zero, List.set_cons_succ]
                refine wpAny_ready (rs := [2, 3]) (by kernel_rfl) (by simp) ?_
                refine Go.BigFrame.allReady_want (o := { dst := some 24, op := Op.call { callee := Callee.value (Operand.func 25), args := #[Operand.tmp 22, Operand.tmp 23], argTypes := #[26, 26] }, type := 26, pos := "law.go:195", after := #[{ on := 0, ground := Ground.data }, { on := 1, ground := Ground.data }], guard := none }) rfl (by rfl) (fun K hK => ?_) ?_
                · skip
                  go_simp
                  go_wp2_with ((go_at_call 25; (refine (HC1.out _ HB0.out).mono ?_); rintro e w11 ⟨rfl, hb⟩; have HB0 := Lib.hid (below_next HB0.out hb); clear hb))
                  refine wpAny_ready (rs := [3]) (by kernel_rfl) (by simp) ?_
                  refine Go.BigFrame.allReady_want (o := { dst := some 25, op := Op.load 26 (Operand.tmp 6), type := 26, pos := "law.go:195", after := #[], guard := none }) rfl (by rfl) (fun K hK => ?_) ?_
                  · skip
                    ((refine wp_row_dig _ rfl g6 en HLE.out rfl (H6b.out.keep HB0.out) ?_))
                    refine hK _ _ ?_
                    clear hK K
                    try simp only [Act.put, List.setIfInBounds_toArray, List.set_cons_zero, List.set_cons_succ]
                    refine wpAny_ready (rs := [5]) (by kernel_rfl) (by simp) ?_
                    refine Go.BigFrame.allReady_want (o := { dst := some 27, op := Op.call { callee := Callee.value (Operand.func 26), args := #[Operand.tmp 25, Operand.tmp 26], argTypes := #[26, 26] }, type := 26, pos := "law.go:195", after := #[{ on := 3, ground := Ground.data }, { on := 4, ground := Ground.data }, { on := 2, ground := Ground.chain }], guard := none }) rfl (by rfl) (fun K hK => ?_) ?_
                    · skip
                      go_simp
                      go_wp2_with ((go_at_call 26; (refine (HC2.out _ HB0.out).mono ?_); rintro e w12 ⟨rfl, hb⟩; have HB0 := Lib.hid (below_next HB0.out hb); clear hb))
                      refine wpAny_ready (rs := [6]) (by kernel_rfl) (by simp) ?_
                      refine Go.BigFrame.allReady_want (o := { dst := none, op := Op.store 26 (Operand.tmp 5) (Operand.tmp 24), type := 0, pos := "law.go:195", after := #[{ on := 2, ground := Ground.data }, { on := 5, ground := Ground.chain }, { on := 0, ground := Ground.phase }, { on := 1, ground := Ground.phase }, { on := 2, ground := Ground.phase }, { on := 3, ground := Ground.textOnly Departure.lateStores }, { on := 4, ground := Ground.textOnly Departure.lateStores }, { on := 5, ground := Ground.textOnly Departure.lateStoresUnsure }], guard := none }) rfl (by rfl) (fun K hK => ?_) ?_
                      · skip
                        ((refine wp_store_two _ _ rfl g5 nx en HLN.out HLE.out rfl rfl (H5b.out.keep HB0.out) (.inl rfl) ((Two.refl g5 g6 wb).next HB0.out) ?_; intro w' hrow htw hoth; have HN5 := Lib.hid hrow; have HT5 := Lib.hid htw; have HN6 := Lib.hid (hoth _ _ _ (fun h => hne h.symm) (H6b.out.keep HB0.out)); clear hrow htw hoth))
                        refine hK _ _ ?_
                        clear hK K
                        try simp only [Act.put]
                        refine wpAny_ready (rs := [7]) (by kernel_rfl) (by simp) ?_
                        refine Go.BigFrame.allReady_want (o := { dst := none, op := Op.store 26 (Operand.tmp 6) (Operand.tmp 27), type := 0, pos := "law.go:195", after := #[{ on := 5, ground := Ground.data }, { on := 6, ground := Ground.chain }, { on := 0, ground := Ground.phase }, { on := 1, ground := Ground.phase }, { on := 2, ground := Ground.phase }, { on := 3, ground := Ground.phase }, { on := 4, ground := Ground.phase }, { on := 5, ground := Ground.phase }, { on := 6, ground := Ground.phase }], guard := none }) rfl (by rfl) (fun K hK => ?_) ?_
                        · skip
                          ((refine wp_store_two _ _ rfl g6 nx en HLN.out HLE.out rfl rfl HN6.out (.inr rfl) HT5.out ?_; intro w' hrow htw hoth; have HN5 := Lib.hid (hoth _ _ _ hne HN5.out); have HN6 := Lib.hid hrow; have HT5 := Lib.hid htw; clear hrow htw hoth))
                          refine hK _ _ ?_
                          clear hK K
                          try simp only [Act.put]
                          refine wpAny_done (by kernel_rfl) ?_ _
                          ((exact K _ ⟨HN5.out, HN6.out, HT5.out⟩))
                        exact AllReady.nil
                      exact AllReady.nil
                    exact AllReady.nil
                  exact AllReady.nil
                refine Go.BigFrame.allReady_want (o := { dst := some 25, op := Op.load 26 (Operand.tmp 6), type := 26, pos := "law.go:195", after := #[], guard := none }) rfl (by rfl) (fun K hK => ?_) ?_
                · skip
                  ((refine wp_row_dig _ rfl g6 en HLE.out rfl (H6b.out.keep HB0.out) ?_))
                  refine hK _ _ ?_
                  clear hK K
                  try simp only [Act.put, List.setIfInBounds_toArray, List.set_cons_zero, List.set_cons_succ]
                  refine wpAny_ready (rs := [2]) (by kernel_rfl) (by simp) ?_
                  refine Go.BigFrame.allReady_want (o := { dst := some 24, op := Op.call { callee := Callee.value (Operand.func 25), args := #[Operand.tmp 22, Operand.tmp 23], argTypes := #[26, 26] }, type := 26, pos := "law.go:195", after := #[{ on := 0, ground := Ground.data }, { on := 1, ground := Ground.data }], guard := none }) rfl (by rfl) (fun K hK => ?_) ?_
                  · skip
                    go_simp
                    go_wp2_with ((go_at_call 25; (refine (HC1.out _ HB0.out).mono ?_); rintro e w11 ⟨rfl, hb⟩; have HB0 := Lib.hid (below_next HB0.out hb); clear hb))
                    refine wpAny_ready (rs := [5]) (by kernel_rfl) (by simp) ?_
                    refine Go.BigFrame.allReady_want (o := { dst := some 27, op := Op.call { callee := Callee.value (Operand.func 26), args := #[Operand.tmp 25, Operand.tmp 26], argTypes := #[26, 26] }, type := 26, pos := "law.go:195", after := #[{ on := 3, ground := Ground.data }, { on := 4, ground := Ground.data }, { on := 2, ground := Ground.chain }], guard := none }) rfl (by rfl) (fun K hK => ?_) ?_
                    · skip
                      go_simp
                      go_wp2_with ((go_at_call 26; (refine (HC2.out _ HB0.out).mono ?_); rintro e w12 ⟨rfl, hb⟩; have HB0 := Lib.hid (below_next HB0.out hb); clear hb))
                      refine wpAny_ready (rs := [6]) (by kernel_rfl) (by simp) ?_
                      refine Go.BigFrame.allReady_want (o := { dst := none, op := Op.store 26 (Operand.tmp 5) (Operand.tmp 24), type := 0, pos := "law.go:195", after := #[{ on := 2, ground := Ground.data }, { on := 5, ground := Ground.chain }, { on := 0, ground := Ground.phase }, { on := 1, ground := Ground.phase }, { on := 2, ground := Ground.phase }, { on := 3, ground := Ground.textOnly Departure.lateStores }, { on := 4, ground := Ground.textOnly Departure.lateStores }, { on := 5, ground := Ground.textOnly Departure.lateStoresUnsure }], guard := none }) rfl (by rfl) (fun K hK => ?_) ?_
                      · skip
                        ((refine wp_store_two _ _ rfl g5 nx en HLN.out HLE.out rfl rfl (H5b.out.keep HB0.out) (.inl rfl) ((Two.refl g5 g6 wb).next HB0.out) ?_; intro w' hrow htw hoth; have HN5 := Lib.hid hrow; have HT5 := Lib.hid htw; have HN6 := Lib.hid (hoth _ _ _ (fun h => hne h.symm) (H6b.out.keep HB0.out)); clear hrow htw hoth))
                        refine hK _ _ ?_
                        clear hK K
                        try simp only [Act.put]
                        refine wpAny_ready (rs := [7]) (by kernel_rfl) (by simp) ?_
                        refine Go.BigFrame.allReady_want (o := { dst := none, op := Op.store 26 (Operand.tmp 6) (Operand.tmp 27), type := 0, pos := "law.go:195", after := #[{ on := 5, ground := Ground.data }, { on := 6, ground := Ground.chain }, { on := 0, ground := Ground.phase }, { on := 1, ground := Ground.phase }, { on := 2, ground := Ground.phase }, { on := 3, ground := Ground.phase }, { on := 4, ground := Ground.phase }, { on := 5, ground := Ground.phase }, { on := 6, ground := Ground.phase }], guard := none }) rfl (by rfl) (fun K hK => ?_) ?_
                        · skip
                          ((refine wp_store_two _ _ rfl g6 nx en HLN.out HLE.out rfl rfl HN6.out (.inr rfl) HT5.out ?_; intro w' hrow htw hoth; have HN5 := Lib.hid (hoth _ _ _ hne HN5.out); have HN6 := Lib.hid hrow; have HT5 := Lib.hid htw; clear hrow htw hoth))
                          refine hK _ _ ?_
                          clear hK K
                          try simp only [Act.put]
                          refine wpAny_done (by kernel_rfl) ?_ _
                          ((exact K _ ⟨HN5.out, HN6.out, HT5.out⟩))
                        exact AllReady.nil
                      exact AllReady.nil
                    exact AllReady.nil
                  exact AllReady.nil
                exact AllReady.nil
              refine Go.BigFrame.allReady_want (o := { dst := some 25, op := Op.load 26 (Operand.tmp 6), type := 26, pos := "law.go:195", after := #[], guard := none }) rfl (by rfl) (fun K hK => ?_) ?_
              · skip
                ((refine wp_row_dig _ rfl g6 en HLE.out rfl (H6b.out.keep HB0.out) ?_))
                refine hK _ _ ?_
                clear hK K
                try simp only [Act.put, List.setIfInBounds_toArray, List.set_cons_zero, List.set_cons_succ]
                refine wpAny_ready (rs := [0]) (by kernel_rfl) (by simp) ?_
                refine Go.BigFrame.allReady_want (o := { dst := some 22, op := Op.load 26 (Operand.tmp 5), type := 26, pos := "law.go:195", after := #[], guard := none }) rfl (by rfl) (fun K hK => ?_) ?_
                · skip
                  ((refine wp_row_dig _ rfl g5 en HLE.out rfl (H5b.out.keep HB0.out) ?_))
                  refine hK _ _ ?_
                  clear hK K
                  try simp only [Act.put, List.setIfInBounds_toArray, List.set_cons_zero, List.set_cons_succ]
                  refine wpAny_ready (rs := [2]) (by kernel_rfl) (by simp) ?_
                  refine Go.BigFrame.allReady_want (o := { dst := some 24, op := Op.call { callee := Callee.value (Operand.func 25), args := #[Operand.tmp 22, Operand.tmp 23], argTypes := #[26, 26] }, type := 26, pos := "law.go:195", after := #[{ on := 0, ground := Ground.data }, { on := 1, ground := Ground.data }], guard := none }) rfl (by rfl) (fun K hK => ?_) ?_
                  · skip
                    go_simp
                    go_wp2_with ((go_at_call 25; (refine (HC1.out _ HB0.out).mono ?_); rintro e w11 ⟨rfl, hb⟩; have HB0 := Lib.hid (below_next HB0.out hb); clear hb))
                    refine wpAny_ready (rs := [5]) (by kernel_rfl) (by simp) ?_
                    refine Go.BigFrame.allReady_want (o := { dst := some 27, op := Op.call { callee := Callee.value (Operand.func 26), args := #[Operand.tmp 25, Operand.tmp 26], argTypes := #[26, 26] }, type := 26, pos := "law.go:195", after := #[{ on := 3, ground := Ground.data }, { on := 4, ground := Ground.data }, { on := 2, ground := Ground.chain }], guard := none }) rfl (by rfl) (fun K hK => ?_) ?_
                    · skip
                      go_simp
                      go_wp2_with ((go_at_call 26; (refine (HC2.out _ HB0.out).mono ?_); rintro e w12 ⟨rfl, hb⟩; have HB0 := Lib.hid (below_next HB0.out hb); clear hb))
                      refine wpAny_ready (rs := [6]) (by kernel_rfl) (by simp) ?_
                      refine Go.BigFrame.allReady_want (o := { dst := none, op := Op.store 26 (Operand.tmp 5) (Operand.tmp 24), type := 0, pos := "law.go:195", after := #[{ on := 2, ground := Ground.data }, { on := 5, ground := Ground.chain }, { on := 0, ground := Ground.phase }, { on := 1, ground := Ground.phase }, { on := 2, ground := Ground.phase }, { on := 3, ground := Ground.textOnly Departure.lateStores }, { on := 4, ground := Ground.textOnly Departure.lateStores }, { on := 5, ground := Ground.textOnly Departure.lateStoresUnsure }], guard := none }) rfl (by rfl) (fun K hK => ?_) ?_
                      · skip
                        ((refine wp_store_two _ _ rfl g5 nx en HLN.out HLE.out rfl rfl (H5b.out.keep HB0.out) (.inl rfl) ((Two.refl g5 g6 wb).next HB0.out) ?_; intro w' hrow htw hoth; have HN5 := Lib.hid hrow; have HT5 := Lib.hid htw; have HN6 := Lib.hid (hoth _ _ _ (fun h => hne h.symm) (H6b.out.keep HB0.out)); clear hrow htw hoth))
                        refine hK _ _ ?_
                        clear hK K
                        try simp only [Act.put]
                        refine wpAny_ready (rs := [7]) (by kernel_rfl) (by simp) ?_
                        refine Go.BigFrame.allReady_want (o := { dst := none, op := Op.store 26 (Operand.tmp 6) (Operand.tmp 27), type := 0, pos := "law.go:195", after := #[{ on := 5, ground := Ground.data }, { on := 6, ground := Ground.chain }, { on := 0, ground := Ground.phase }, { on := 1, ground := Ground.phase }, { on := 2, ground := Ground.phase }, { on := 3, ground := Ground.phase }, { on := 4, ground := Ground.phase }, { on := 5, ground := Ground.phase }, { on := 6, ground := Ground.phase }], guard := none }) rfl (by rfl) (fun K hK => ?_) ?_
                        · skip
                          ((refine wp_store_two _ _ rfl g6 nx en HLN.out HLE.out rfl rfl HN6.out (.inr rfl) HT5.out ?_; intro w' hrow htw hoth; have HN5 := Lib.hid (hoth _ _ _ hne HN5.out); have HN6 := Lib.hid hrow; have HT5 := Lib.hid htw; clear hrow htw hoth))
                          refine hK _ _ ?_
                          clear hK K
                          try simp only [Act.put]
                          refine wpAny_done (by kernel_rfl) ?_ _
                          ((exact K _ ⟨HN5.out, HN6.out, HT5.out⟩))
                        exact AllReady.nil
                      exact AllReady.nil
                    exact AllReady.nil
                  exact AllReady.nil
                exact AllReady.nil
              exact AllReady.nil
            exact AllReady.nil
          refine Go.BigFrame.allReady_want (o := { dst := some 25, op := Op.load 26 (Operand.tmp 6), type := 26, pos := "law.go:195", after := #[], guard := none }) rfl (by rfl) (fun K hK => ?_) ?_
          · skip
            ((refine wp_row_dig _ rfl g6 en HLE.out rfl (H6b.out.keep HB0.out) ?_))
            refine hK _ _ ?_
            clear hK K
            try simp only [Act.put, List.setIfInBounds_toArray, List.set_cons_zero, List.set_cons_succ]
            refine wpAny_ready (rs := [0, 1, 4]) (by kernel_rfl) (by simp) ?_
            refine Go.BigFrame.allReady_want (o := { dst := some 22, op := Op.load 26 (Operand.tmp 5), type := 26, pos := "law.go:195", after := #[], guard := none }) rfl (by rfl) (fun K hK => ?_) ?_
            · skip
              ((refine wp_row_dig _ rfl g5 en HLE.out rfl (H5b.out.keep HB0.out) ?_))
              refine hK _ _ ?_
              clear hK K
              try simp only [Act.put, List.setIfInBounds_toArray, List.set_cons_zero, List.set_cons_succ]
              refine wpAny_ready (rs := [1, 4]) (by kernel_rfl) (by simp) ?_
              refine Go.BigFrame.allReady_want (o := { dst := some 23, op := Op.load 26 (Operand.tmp 8), type := 26, pos := "law.go:195", after := #[], guard := none }) rfl (by rfl) (fun K hK => ?_) ?_
              · skip
                ((refine wp_row_dig _ rfl g8 d HDL.out rfl (H8b.out.keep HB0.out) ?_))
                refine hK _ _ ?_
                clear hK K
                try simp only [Act.put, List.setIfInBounds_toArray, List.set_cons_zero, List.set_cons_succ]
                refine wpAny_ready (rs := [2, 4]) (by kernel_rfl) (by simp) ?_
                refine Go.BigFrame.allReady_want (o := { dst := some 24, op := Op.call { callee := Callee.value (Operand.func 25), args := #[Operand.tmp 22, Operand.tmp 23], argTypes := #[26, 26] }, type := 26, pos := "law.go:195", after := #[{ on := 0, ground := Ground.data }, { on := 1, ground := Ground.data }], guard := none }) rfl (by rfl) (fun K hK => ?_) ?_
                · skip
                  go_simp
                  go_wp2_with ((go_at_call 25; (refine (HC1.out _ HB0.out).mono ?_); rintro e w11 ⟨rfl, hb⟩; have HB0 := Lib.hid (below_next HB0.out hb); clear hb))
                  refine wpAny_ready (rs := [4]) (by kernel_rfl) (by simp) ?_
                  refine Go.BigFrame.allReady_want (o := { dst := some 26, op := Op.load 26 (Operand.tmp 8), type := 26, pos := "law.go:195", after := #[], guard := none }) rfl (by rfl) (fun K hK => ?_) ?_
                  · skip
                    ((refine wp_row_dig _ rfl g8 d HDL.out rfl (H8b.out.keep HB0.out) ?_))
                    refine hK _ _ ?_
                    clear hK K
                    try simp only [Act.put, List.setIfInBounds_toArray, List.set_cons_zero, List.set_cons_succ]
                    refine wpAny_ready (rs := [5]) (by kernel_rfl) (by simp) ?_
                    refine Go.BigFrame.allReady_want (o := { dst := some 27, op := Op.call { callee := Callee.value (Operand.func 26), args := #[Operand.tmp 25, Operand.tmp 26], argTypes := #[26, 26] }, type := 26, pos := "law.go:195", after := #[{ on := 3, ground := Ground.data }, { on := 4, ground := Ground.data }, { on := 2, ground := Ground.chain }], guard := none }) rfl (by rfl) (fun K hK => ?_) ?_
                    · skip
                      go_simp
                      go_wp2_with ((go_at_call 26; (refine (HC2.out _ HB0.out).mono ?_); rintro e w12 ⟨rfl, hb⟩; have HB0 := Lib.hid (below_next HB0.out hb); clear hb))
                      refine wpAny_ready (rs := [6]) (by kernel_rfl) (by simp) ?_
                      refine Go.BigFrame.allReady_want (o := { dst := none, op := Op.store 26 (Operand.tmp 5) (Operand.tmp 24), type := 0, pos := "law.go:195", after := #[{ on := 2, ground := Ground.data }, { on := 5, ground := Ground.chain }, { on := 0, ground := Ground.phase }, { on := 1, ground := Ground.phase }, { on := 2, ground := Ground.phase }, { on := 3, ground := Ground.textOnly Departure.lateStores }, { on := 4, ground := Ground.textOnly Departure.lateStores }, { on := 5, ground := Ground.textOnly Departure.lateStoresUnsure }], guard := none }) rfl (by rfl) (fun K hK => ?_) ?_
                      · skip
                        ((refine wp_store_two _ _ rfl g5 nx en HLN.out HLE.out rfl rfl (H5b.out.keep HB0.out) (.inl rfl) ((Two.refl g5 g6 wb).next HB0.out) ?_; intro w' hrow htw hoth; have HN5 := Lib.hid hrow; have HT5 := Lib.hid htw; have HN6 := Lib.hid (hoth _ _ _ (fun h => hne h.symm) (H6b.out.keep HB0.out)); clear hrow htw hoth))
                        refine hK _ _ ?_
                        clear hK K
                        try simp only [Act.put]
                        refine wpAny_ready (rs := [7]) (by kernel_rfl) (by simp) ?_
                        refine Go.BigFrame.allReady_want (o := { dst := none, op := Op.store 26 (Operand.tmp 6) (Operand.tmp 27), type := 0, pos := "law.go:195", after := #[{ on := 5, ground := Ground.data }, { on := 6, ground := Ground.chain }, { on := 0, ground := Ground.phase }, { on := 1, ground := Ground.phase }, { on := 2, ground := Ground.phase }, { on := 3, ground := Ground.phase }, { on := 4, ground := Ground.phase }, { on := 5, ground := Ground.phase }, { on := 6, ground := Ground.phase }], guard := none }) rfl (by rfl) (fun K hK => ?_) ?_
                        · skip
                          ((refine wp_store_two _ _ rfl g6 nx en HLN.out HLE.out rfl rfl HN6.out (.inr rfl) HT5.out ?_; intro w' hrow htw hoth; have HN5 := Lib.hid (hoth _ _ _ hne HN5.out); have HN6 := Lib.hid hrow; have HT5 := Lib.hid htw; clear hrow htw hoth))
                          refine hK _ _ ?_
                          clear hK K
                          try simp only [Act.put]
                          refine wpAny_done (by kernel_rfl) ?_ _
                          ((exact K _ ⟨HN5.out, HN6.out, HT5.out⟩))
                        exact AllReady.nil
                      exact AllReady.nil
                    exact AllReady.nil
                  exact AllReady.nil
                refine Go.BigFrame.allReady_want (o := { dst := some 26, op := Op.load 26 (Operand.tmp 8), type := 26, pos := "law.go:195", after := #[], guard := none }) rfl (by rfl) (fun K hK => ?_) ?_
                · skip
                  ((refine wp_row_dig _ rfl g8 d HDL.out rfl (H8b.out.keep HB0.out) ?_))
                  refine hK _ _ ?_
                  clear hK K
                  try simp only [Act.put, List.setIfInBounds_toArray, List.set_cons_zero, List.set_cons_succ]
                  refine wpAny_ready (rs := [2]) (by kernel_rfl) (by simp) ?_
                  refine Go.BigFrame.allReady_want (o := { dst := some 24, op := Op.call { callee := Callee.value (Operand.func 25), args := #[Operand.tmp 22, Operand.tmp 23], argTypes := #[26, 26] }, type := 26, pos := "law.go:195", after := #[{ on := 0, ground := Ground.data }, { on := 1, ground := Ground.data }], guard := none }) rfl (by rfl) (fun K hK => ?_) ?_
                  · skip
                    go_simp
                    go_wp2_with ((go_at_call 25; (refine (HC1.out _ HB0.out).mono ?_); rintro e w11 ⟨rfl, hb⟩; have HB0 := Lib.hid (below_next HB0.out hb); clear hb))
                    refine wpAny_ready (rs := [5]) (by kernel_rfl) (by simp) ?_
                    refine Go.BigFrame.allReady_want (o := { dst := some 27, op := Op.call { callee := Callee.value (Operand.func 26), args := #[Operand.tmp 25, Operand.tmp 26], argTypes := #[26, 26] }, type := 26, pos := "law.go:195", after := #[{ on := 3, ground := Ground.data }, { on := 4, ground := Ground.data }, { on := 2, ground := Ground.chain }], guard := none }) rfl (by rfl) (fun K hK => ?_) ?_
                    · skip
                      go_simp
                      go_wp2_with ((go_at_call 26; (refine (HC2.out _ HB0.out).mono ?_); rintro e w12 ⟨rfl, hb⟩; have HB0 := Lib.hid (below_next HB0.out hb); clear hb))
                      refine wpAny_ready (rs := [6]) (by kernel_rfl) (by simp) ?_
                      refine Go.BigFrame.allReady_want (o := { dst := none, op := Op.store 26 (Operand.tmp 5) (Operand.tmp 24), type := 0, pos := "law.go:195", after := #[{ on := 2, ground := Ground.data }, { on := 5, ground := Ground.chain }, { on := 0, ground := Ground.phase }, { on := 1, ground := Ground.phase }, { on := 2, ground := Ground.phase }, { on := 3, ground := Ground.textOnly Departure.lateStores }, { on := 4, ground := Ground.textOnly Departure.lateStores }, { on := 5, ground := Ground.textOnly Departure.lateStoresUnsure }], guard := none }) rfl (by rfl) (fun K hK => ?_) ?_
                      · skip
                        ((refine wp_store_two _ _ rfl g5 nx en HLN.out HLE.out rfl rfl (H5b.out.keep HB0.out) (.inl rfl) ((Two.refl g5 g6 wb).next HB0.out) ?_; intro w' hrow htw hoth; have HN5 := Lib.hid hrow; have HT5 := Lib.hid htw; have HN6 := Lib.hid (hoth _ _ _ (fun h => hne h.symm) (H6b.out.keep HB0.out)); clear hrow htw hoth))
                        refine hK _ _ ?_
                        clear hK K
                        try simp only [Act.put]
                        refine wpAny_ready (rs := [7]) (by kernel_rfl) (by simp) ?_
                        refine Go.BigFrame.allReady_want (o := { dst := none, op := Op.store 26 (Operand.tmp 6) (Operand.tmp 27), type := 0, pos := "law.go:195", after := #[{ on := 5, ground := Ground.data }, { on := 6, ground := Ground.chain }, { on := 0, ground := Ground.phase }, { on := 1, ground := Ground.phase }, { on := 2, ground := Ground.phase }, { on := 3, ground := Ground.phase }, { on := 4, ground := Ground.phase }, { on := 5, ground := Ground.phase }, { on := 6, ground := Ground.phase }], guard := none }) rfl (by rfl) (fun K hK => ?_) ?_
                        · skip
                          ((refine wp_store_two _ _ rfl g6 nx en HLN.out HLE.out rfl rfl HN6.out (.inr rfl) HT5.out ?_; intro w' hrow htw hoth; have HN5 := Lib.hid (hoth _ _ _ hne HN5.out); have HN6 := Lib.hid hrow; have HT5 := Lib.hid htw; clear hrow htw hoth))
                          refine hK _ _ ?_
                          clear hK K
                          try simp only [Act.put]
                          refine wpAny_done (by kernel_rfl) ?_ _
                          ((exact K _ ⟨HN5.out, HN6.out, HT5.out⟩))
                        exact AllReady.nil
                      exact AllReady.nil
                    exact AllReady.nil
                  exact AllReady.nil
                exact AllReady.nil
              refine Go.BigFrame.allReady_want (o := { dst := some 26, op := Op.load 26 (Operand.tmp 8), type := 26, pos := "law.go:195", after := #[], guard := none }) rfl (by rfl) (fun K hK => ?_) ?_
              · skip
                ((refine wp_row_dig _ rfl g8 d HDL.out rfl (H8b.out.keep HB0.out) ?_))
                refine hK _ _ ?_
                clear hK K
                try simp only [Act.put, List.setIfInBounds_toArray, List.set_cons_zero, List.set_cons_succ]
                refine wpAny_ready (rs := [1]) (by kernel_rfl) (by simp) ?_
                refine Go.BigFrame.allReady_want (o := { dst := some 23, op := Op.load 26 (Operand.tmp 8), type := 26, pos := "law.go:195", after := #[], guard := none }) rfl (by rfl) (fun K hK => ?_) ?_
                · skip
                  ((refine wp_row_dig _ rfl g8 d HDL.out rfl (H8b.out.keep HB0.out) ?_))
                  refine hK _ _ ?_
                  clear hK K
                  try simp only [Act.put, List.setIfInBounds_toArray, List.set_cons_zero, List.set_cons_succ]
                  refine wpAny_ready (rs := [2]) (by kernel_rfl) (by simp) ?_
                  refine Go.BigFrame.allReady_want (o := { dst := some 24, op := Op.call { callee := Callee.value (Operand.func 25), args := #[Operand.tmp 22, Operand.tmp 23], argTypes := #[26, 26] }, type := 26, pos := "law.go:195", after := #[{ on := 0, ground := Ground.data }, { on := 1, ground := Ground.data }], guard := none }) rfl (by rfl) (fun K hK => ?_) ?_
                  · skip
                    go_simp
                    go_wp2_with ((go_at_call 25; (refine (HC1.out _ HB0.out).mono ?_); rintro e w11 ⟨rfl, hb⟩; have HB0 := Lib.hid (below_next HB0.out hb); clear hb))
                    refine wpAny_ready (rs := [5]) (by kernel_rfl) (by simp) ?_
                    refine Go.BigFrame.allReady_want (o := { dst := some 27, op := Op.call { callee := Callee.value (Operand.func 26), args := #[Operand.tmp 25, Operand.tmp 26], argTypes := #[26, 26] }, type := 26, pos := "law.go:195", after := #[{ on := 3, ground := Ground.data }, { on := 4, ground := Ground.data }, { on := 2, ground := Ground.chain }], guard := none }) rfl (by rfl) (fun K hK => ?_) ?_
                    · skip
                      go_simp
                      go_wp2_with ((go_at_call 26; (refine (HC2.out _ HB0.out).mono ?_); rintro e w12 ⟨rfl, hb⟩; have HB0 := Lib.hid (below_next HB0.out hb); clear hb))
                      refine wpAny_ready (rs := [6]) (by kernel_rfl) (by simp) ?_
                      refine Go.BigFrame.allReady_want (o := { dst := none, op := Op.store 26 (Operand.tmp 5) (Operand.tmp 24), type := 0, pos := "law.go:195", after := #[{ on := 2, ground := Ground.data }, { on := 5, ground := Ground.chain }, { on := 0, ground := Ground.phase }, { on := 1, ground := Ground.phase }, { on := 2, ground := Ground.phase }, { on := 3, ground := Ground.textOnly Departure.lateStores }, { on := 4, ground := Ground.textOnly Departure.lateStores }, { on := 5, ground := Ground.textOnly Departure.lateStoresUnsure }], guard := none }) rfl (by rfl) (fun K hK => ?_) ?_
                      · skip
                        ((refine wp_store_two _ _ rfl g5 nx en HLN.out HLE.out rfl rfl (H5b.out.keep HB0.out) (.inl rfl) ((Two.refl g5 g6 wb).next HB0.out) ?_; intro w' hrow htw hoth; have HN5 := Lib.hid hrow; have HT5 := Lib.hid htw; have HN6 := Lib.hid (hoth _ _ _ (fun h => hne h.symm) (H6b.out.keep HB0.out)); clear hrow htw hoth))
                        refine hK _ _ ?_
                        clear hK K
                        try simp only [Act.put]
                        refine wpAny_ready (rs := [7]) (by kernel_rfl) (by simp) ?_
                        refine Go.BigFrame.allReady_want (o := { dst := none, op := Op.store 26 (Operand.tmp 6) (Operand.tmp 27), type := 0, pos := "law.go:195", after := #[{ on := 5, ground := Ground.data }, { on := 6, ground := Ground.chain }, { on := 0, ground := Ground.phase }, { on := 1, ground := Ground.phase }, { on := 2, ground := Ground.phase }, { on := 3, ground := Ground.phase }, { on := 4, ground := Ground.phase }, { on := 5, ground := Ground.phase }, { on := 6, ground := Ground.phase }], guard := none }) rfl (by rfl) (fun K hK => ?_) ?_
                        · skip
                          ((refine wp_store_two _ _ rfl g6 nx en HLN.out HLE.out rfl rfl HN6.out (.inr rfl) HT5.out ?_; intro w' hrow htw hoth; have HN5 := Lib.hid (hoth _ _ _ hne HN5.out); have HN6 := Lib.hid hrow; have HT5 := Lib.hid htw; clear hrow htw hoth))
                          refine hK _ _ ?_
                          clear hK K
                          try simp only [Act.put]
                          refine wpAny_done (by kernel_rfl) ?_ _
                          ((exact K _ ⟨HN5.out, HN6.out, HT5.out⟩))
                        exact AllReady.nil
                      exact AllReady.nil
                    exact AllReady.nil
                  exact AllReady.nil
                exact AllReady.nil
              exact AllReady.nil
            refine Go.BigFrame.allReady_want (o := { dst := some 23, op := Op.load 26 (Operand.tmp 8), type := 26, pos := "law.go:195", after := #[], guard := none }) rfl (by rfl) (fun K hK => ?_) ?_
            · skip
              ((refine wp_row_dig _ rfl g8 d HDL.out rfl (H8b.out.keep HB0.out) ?_))
              refine hK _ _ ?_
              clear hK K
              try simp only [Act.put, List.setIfInBounds_toArray, List.set_cons_zero, List.set_cons_succ]
              refine wpAny_ready (rs := [0, 4]) (by kernel_rfl) (by simp) ?_
              refine Go.BigFrame.allReady_want (o := { dst := some 22, op := Op.load 26 (Operand.tmp 5), type := 26, pos := "law.go:195", after := #[], guard := none }) rfl (by rfl) (fun K hK => ?_) ?_
              · skip
                ((refine wp_row_dig _ rfl g5 en HLE.out rfl (H5b.out.keep HB0.out) ?_))
                refine hK _ _ ?_
                clear hK K
                try simp only [Act.put, List.setIfInBounds_toArray, List.set_cons_zero, List.set_cons_succ]
                refine wpAny_ready (rs := [2, 4]) (by kernel_rfl) (by simp) ?_
                refine Go.BigFrame.allReady_want (o := { dst := some 24, op := Op.call { callee := Callee.value (Operand.func 25), args := #[Operand.tmp 22, Operand.tmp 23], argTypes := #[26, 26] }, type := 26, pos := "law.go:195", after := #[{ on := 0, ground := Ground.data }, { on := 1, ground := Ground.data }], guard := none }) rfl (by rfl) (fun K hK => ?_) ?_
                · skip
                  go_simp
                  go_wp2_with ((go_at_call 25; (refine (HC1.out _ HB0.out).mono ?_); rintro e w11 ⟨rfl, hb⟩; have HB0 := Lib.hid (below_next HB0.out hb); clear hb))
                  refine wpAny_ready (rs := [4]) (by kernel_rfl) (by simp) ?_
                  refine Go.BigFrame.allReady_want (o := { dst := some 26, op := Op.load 26 (Operand.tmp 8), type := 26, pos := "law.go:195", after := #[], guard := none }) rfl (by rfl) (fun K hK => ?_) ?_
                  · skip
                    ((refine wp_row_dig _ rfl g8 d HDL.out rfl (H8b.out.keep HB0.out) ?_))
                    refine hK _ _ ?_
                    clear hK K
                    try simp only [Act.put, List.setIfInBounds_toArray, List.set_cons_zero, List.set_cons_succ]
                    refine wpAny_ready (rs := [5]) (by kernel_rfl) (by simp) ?_
                    refine Go.BigFrame.allReady_want (o := { dst := some 27, op := Op.call { callee := Callee.value (Operand.func 26), args := #[Operand.tmp 25, Operand.tmp 26], argTypes := #[26, 26] }, type := 26, pos := "law.go:195", after := #[{ on := 3, ground := Ground.data }, { on := 4, ground := Ground.data }, { on := 2, ground := Ground.chain }], guard := none }) rfl (by rfl) (fun K hK => ?_) ?_
                    · skip
                      go_simp
                      go_wp2_with ((go_at_call 26; (refine (HC2.out _ HB0.out).mono ?_); rintro e w12 ⟨rfl, hb⟩; have HB0 := Lib.hid (below_next HB0.out hb); clear hb))
                      refine wpAny_ready (rs := [6]) (by kernel_rfl) (by simp) ?_
                      refine Go.BigFrame.allReady_want (o := { dst := none, op := Op.store 26 (Operand.tmp 5) (Operand.tmp 24), type := 0, pos := "law.go:195", after := #[{ on := 2, ground := Ground.data }, { on := 5, ground := Ground.chain }, { on := 0, ground := Ground.phase }, { on := 1, ground := Ground.phase }, { on := 2, ground := Ground.phase }, { on := 3, ground := Ground.textOnly Departure.lateStores }, { on := 4, ground := Ground.textOnly Departure.lateStores }, { on := 5, ground := Ground.textOnly Departure.lateStoresUnsure }], guard := none }) rfl (by rfl) (fun K hK => ?_) ?_
                      · skip
                        ((refine wp_store_two _ _ rfl g5 nx en HLN.out HLE.out rfl rfl (H5b.out.keep HB0.out) (.inl rfl) ((Two.refl g5 g6 wb).next HB0.out) ?_; intro w' hrow htw hoth; have HN5 := Lib.hid hrow; have HT5 := Lib.hid htw; have HN6 := Lib.hid (hoth _ _ _ (fun h => hne h.symm) (H6b.out.keep HB0.out)); clear hrow htw hoth))
                        refine hK _ _ ?_
                        clear hK K
                        try simp only [Act.put]
                        refine wpAny_ready (rs := [7]) (by kernel_rfl) (by simp) ?_
                        refine Go.BigFrame.allReady_want (o := { dst := none, op := Op.store 26 (Operand.tmp 6) (Operand.tmp 27), type := 0, pos := "law.go:195", after := #[{ on := 5, ground := Ground.data }, { on := 6, ground := Ground.chain }, { on := 0, ground := Ground.phase }, { on := 1, ground := Ground.phase }, { on := 2, ground := Ground.phase }, { on := 3, ground := Ground.phase }, { on := 4, ground := Ground.phase }, { on := 5, ground := Ground.phase }, { on := 6, ground := Ground.phase }], guard := none }) rfl (by rfl) (fun K hK => ?_) ?_
                        · skip
                          ((refine wp_store_two _ _ rfl g6 nx en HLN.out HLE.out rfl rfl HN6.out (.inr rfl) HT5.out ?_; intro w' hrow htw hoth; have HN5 := Lib.hid (hoth _ _ _ hne HN5.out); have HN6 := Lib.hid hrow; have HT5 := Lib.hid htw; clear hrow htw hoth))
                          refine hK _ _ ?_
                          clear hK K
                          try simp only [Act.put]
                          refine wpAny_done (by kernel_rfl) ?_ _
                          ((exact K _ ⟨HN5.out, HN6.out, HT5.out⟩))
                        exact AllReady.nil
                      exact AllReady.nil
                    exact AllReady.nil
                  exact AllReady.nil
                refine Go.BigFrame.allReady_want (o := { dst := some 26, op := Op.load 26 (Operand.tmp 8), type := 26, pos := "law.go:195", after := #[], guard := none }) rfl (by rfl) (fun K hK => ?_) ?_
                · skip
                  ((refine wp_row_dig _ rfl g8 d HDL.out rfl (H8b.out.keep HB0.out) ?_))
                  refine hK _ _ ?_
                  clear hK K
                  try simp only [Act.put, List.setIfInBounds_toArray, List.set_cons_zero, List.set_cons_succ]
                  refine wpAny_ready (rs := [2]) (by kernel_rfl) (by simp) ?_
                  refine Go.BigFrame.allReady_want (o := { dst := some 24, op := Op.call { callee := Callee.value (Operand.func 25), args := #[Operand.tmp 22, Operand.tmp 23], argTypes := #[26, 26] }, type := 26, pos := "law.go:195", after := #[{ on := 0, ground := Ground.data }, { on := 1, ground := Ground.data }], guard := none }) rfl (by rfl) (fun K hK => ?_) ?_
                  · skip
                    go_simp
                    go_wp2_with ((go_at_call 25; (refine (HC1.out _ HB0.out).mono ?_); rintro e w11 ⟨rfl, hb⟩; have HB0 := Lib.hid (below_next HB0.out hb); clear hb))
                    refine wpAny_ready (rs := [5]) (by kernel_rfl) (by simp) ?_
                    refine Go.BigFrame.allReady_want (o := { dst := some 27, op := Op.call { callee := Callee.value (Operand.func 26), args := #[Operand.tmp 25, Operand.tmp 26], argTypes := #[26, 26] }, type := 26, pos := "law.go:195", after := #[{ on := 3, ground := Ground.data }, { on := 4, ground := Ground.data }, { on := 2, ground := Ground.chain }], guard := none }) rfl (by rfl) (fun K hK => ?_) ?_
                    · skip
                      go_simp
                      go_wp2_with ((go_at_call 26; (refine (HC2.out _ HB0.out).mono ?_); rintro e w12 ⟨rfl, hb⟩; have HB0 := Lib.hid (below_next HB0.out hb); clear hb))
                      refine wpAny_ready (rs := [6]) (by kernel_rfl) (by simp) ?_
                      refine Go.BigFrame.allReady_want (o := { dst := none, op := Op.store 26 (Operand.tmp 5) (Operand.tmp 24), type := 0, pos := "law.go:195", after := #[{ on := 2, ground := Ground.data }, { on := 5, ground := Ground.chain }, { on := 0, ground := Ground.phase }, { on := 1, ground := Ground.phase }, { on := 2, ground := Ground.phase }, { on := 3, ground := Ground.textOnly Departure.lateStores }, { on := 4, ground := Ground.textOnly Departure.lateStores }, { on := 5, ground := Ground.textOnly Departure.lateStoresUnsure }], guard := none }) rfl (by rfl) (fun K hK => ?_) ?_
                      · skip
                        ((refine wp_store_two _ _ rfl g5 nx en HLN.out HLE.out rfl rfl (H5b.out.keep HB0.out) (.inl rfl) ((Two.refl g5 g6 wb).next HB0.out) ?_; intro w' hrow htw hoth; have HN5 := Lib.hid hrow; have HT5 := Lib.hid htw; have HN6 := Lib.hid (hoth _ _ _ (fun h => hne h.symm) (H6b.out.keep HB0.out)); clear hrow htw hoth))
                        refine hK _ _ ?_
                        clear hK K
                        try simp only [Act.put]
                        refine wpAny_ready (rs := [7]) (by kernel_rfl) (by simp) ?_
                        refine Go.BigFrame.allReady_want (o := { dst := none, op := Op.store 26 (Operand.tmp 6) (Operand.tmp 27), type := 0, pos := "law.go:195", after := #[{ on := 5, ground := Ground.data }, { on := 6, ground := Ground.chain }, { on := 0, ground := Ground.phase }, { on := 1, ground := Ground.phase }, { on := 2, ground := Ground.phase }, { on := 3, ground := Ground.phase }, { on := 4, ground := Ground.phase }, { on := 5, ground := Ground.phase }, { on := 6, ground := Ground.phase }], guard := none }) rfl (by rfl) (fun K hK => ?_) ?_
                        · skip
                          ((refine wp_store_two _ _ rfl g6 nx en HLN.out HLE.out rfl rfl HN6.out (.inr rfl) HT5.out ?_; intro w' hrow htw hoth; have HN5 := Lib.hid (hoth _ _ _ hne HN5.out); have HN6 := Lib.hid hrow; have HT5 := Lib.hid htw; clear hrow htw hoth))
                          refine hK _ _ ?_
                          clear hK K
                          try simp only [Act.put]
                          refine wpAny_done (by kernel_rfl) ?_ _
                          ((exact K _ ⟨HN5.out, HN6.out, HT5.out⟩))
                        exact AllReady.nil
                      exact AllReady.nil
                    exact AllReady.nil
                  exact AllReady.nil
                exact AllReady.nil
              refine Go.BigFrame.allReady_want (o := { dst := some 26, op := Op.load 26 (Operand.tmp 8), type := 26, pos := "law.go:195", after := #[], guard := none }) rfl (by rfl) (fun K hK => ?_) ?_
              · skip
                ((refine wp_row_dig _ rfl g8 d HDL.out rfl (H8b.out.keep HB0.out) ?_))
                refine hK _ _ ?_
                clear hK K
                try simp only [Act.put, List.setIfInBounds_toArray, List.set_cons_zero, List.set_cons_succ]
                refine wpAny_ready (rs := [0]) (by kernel_rfl) (by simp) ?_
                refine Go.BigFrame.allReady_want (o := { dst := some 22, op := Op.load 26 (Operand.tmp 5), type := 26, pos := "law.go:195", after := #[], guard := none }) rfl (by rfl) (fun K hK => ?_) ?_
                · skip
                  ((refine wp_row_dig _ rfl g5 en HLE.out rfl (H5b.out.keep HB0.out) ?_))
                  refine hK _ _ ?_
                  clear hK K
                  try simp only [Act.put, List.setIfInBounds_toArray, List.set_cons_zero, List.set_cons_succ]
                  refine wpAny_ready (rs := [2]) (by kernel_rfl) (by simp) ?_
                  refine Go.BigFrame.allReady_want (o := { dst := some 24, op := Op.call { callee := Callee.value (Operand.func 25), args := #[Operand.tmp 22, Operand.tmp 23], argTypes := #[26, 26] }, type := 26, pos := "law.go:195", after := #[{ on := 0, ground := Ground.data }, { on := 1, ground := Ground.data }], guard := none }) rfl (by rfl) (fun K hK => ?_) ?_
                  · skip
                    go_simp
                    go_wp2_with ((go_at_call 25; (refine (HC1.out _ HB0.out).mono ?_); rintro e w11 ⟨rfl, hb⟩; have HB0 := Lib.hid (below_next HB0.out hb); clear hb))
                    refine wpAny_ready (rs := [5]) (by kernel_rfl) (by simp) ?_
                    refine Go.BigFrame.allReady_want (o := { dst := some 27, op := Op.call { callee := Callee.value (Operand.func 26), args := #[Operand.tmp 25, Operand.tmp 26], argTypes := #[26, 26] }, type := 26, pos := "law.go:195", after := #[{ on := 3, ground := Ground.data }, { on := 4, ground := Ground.data }, { on := 2, ground := Ground.chain }], guard := none }) rfl (by rfl) (fun K hK => ?_) ?_
                    · skip
                      go_simp
                      go_wp2_with ((go_at_call 26; (refine (HC2.out _ HB0.out).mono ?_); rintro e w12 ⟨rfl, hb⟩; have HB0 := Lib.hid (below_next HB0.out hb); clear hb))
                      refine wpAny_ready (rs := [6]) (by kernel_rfl) (by simp) ?_
                      refine Go.BigFrame.allReady_want (o := { dst := none, op := Op.store 26 (Operand.tmp 5) (Operand.tmp 24), type := 0, pos := "law.go:195", after := #[{ on := 2, ground := Ground.data }, { on := 5, ground := Ground.chain }, { on := 0, ground := Ground.phase }, { on := 1, ground := Ground.phase }, { on := 2, ground := Ground.phase }, { on := 3, ground := Ground.textOnly Departure.lateStores }, { on := 4, ground := Ground.textOnly Departure.lateStores }, { on := 5, ground := Ground.textOnly Departure.lateStoresUnsure }], guard := none }) rfl (by rfl) (fun K hK => ?_) ?_
                      · skip
                        ((refine wp_store_two _ _ rfl g5 nx en HLN.out HLE.out rfl rfl (H5b.out.keep HB0.out) (.inl rfl) ((Two.refl g5 g6 wb).next HB0.out) ?_; intro w' hrow htw hoth; have HN5 := Lib.hid hrow; have HT5 := Lib.hid htw; have HN6 := Lib.hid (hoth _ _ _ (fun h => hne h.symm) (H6b.out.keep HB0.out)); clear hrow htw hoth))
                        refine hK _ _ ?_
                        clear hK K
                        try simp only [Act.put]
                        refine wpAny_ready (rs := [7]) (by kernel_rfl) (by simp) ?_
                        refine Go.BigFrame.allReady_want (o := { dst := none, op := Op.store 26 (Operand.tmp 6) (Operand.tmp 27), type := 0, pos := "law.go:195", after := #[{ on := 5, ground := Ground.data }, { on := 6, ground := Ground.chain }, { on := 0, ground := Ground.phase }, { on := 1, ground := Ground.phase }, { on := 2, ground := Ground.phase }, { on := 3, ground := Ground.phase }, { on := 4, ground := Ground.phase }, { on := 5, ground := Ground.phase }, { on := 6, ground := Ground.phase }], guard := none }) rfl (by rfl) (fun K hK => ?_) ?_
                        · skip
                          ((refine wp_store_two _ _ rfl g6 nx en HLN.out HLE.out rfl rfl HN6.out (.inr rfl) HT5.out ?_; intro w' hrow htw hoth; have HN5 := Lib.hid (hoth _ _ _ hne HN5.out); have HN6 := Lib.hid hrow; have HT5 := Lib.hid htw; clear hrow htw hoth))
                          refine hK _ _ ?_
                          clear hK K
                          try simp only [Act.put]
                          refine wpAny_done (by kernel_rfl) ?_ _
                          ((exact K _ ⟨HN5.out, HN6.out, HT5.out⟩))
                        exact AllReady.nil
                      exact AllReady.nil
                    exact AllReady.nil
                  exact AllReady.nil
                exact AllReady.nil
              exact AllReady.nil
            refine Go.BigFrame.allReady_want (o := { dst := some 26, op := Op.load 26 (Operand.tmp 8), type := 26, pos := "law.go:195", after := #[], guard := none }) rfl (by rfl) (fun K hK => ?_) ?_
            · skip
              ((refine wp_row_dig _ rfl g8 d HDL.out rfl (H8b.out.keep HB0.out) ?_))
              refine hK _ _ ?_
              clear hK K
              try simp only [Act.put, List.setIfInBounds_toArray, List.set_cons_zero, List.set_cons_succ]
              refine wpAny_ready (rs := [0, 1]) (by kernel_rfl) (by simp) ?_
              refine Go.BigFrame.allReady_want (o := { dst := some 22, op := Op.load 26 (Operand.tmp 5), type := 26, pos := "law.go:195", after := #[], guard := none }) rfl (by rfl) (fun K hK => ?_) ?_
              · skip
                ((refine wp_row_dig _ rfl g5 en HLE.out rfl (H5b.out.keep HB0.out) ?_))
                refine hK _ _ ?_
                clear hK K
                try simp only [Act.put, List.setIfInBounds_toArray, List.set_cons_zero, List.set_cons_succ]
                refine wpAny_ready (rs := [1]) (by kernel_rfl) (by simp) ?_
                refine Go.BigFrame.allReady_want (o := { dst := some 23, op := Op.load 26 (Operand.tmp 8), type := 26, pos := "law.go:195", after := #[], guard := none }) rfl (by rfl) (fun K hK => ?_) ?_
                · skip
                  ((refine wp_row_dig _ rfl g8 d HDL.out rfl (H8b.out.keep HB0.out) ?_))
                  refine hK _ _ ?_
                  clear hK K
                  try simp only [Act.put, List.setIfInBounds_toArray, List.set_cons_zero, List.set_cons_succ]
                  refine wpAny_ready (rs := [2]) (by kernel_rfl) (by simp) ?_
                  refine Go.BigFrame.allReady_want (o := { dst := some 24, op := Op.call { callee := Callee.value (Operand.func 25), args := #[Operand.tmp 22, Operand.tmp 23], argTypes := #[26, 26] }, type := 26, pos := "law.go:195", after := #[{ on := 0, ground := Ground.data }, { on := 1, ground := Ground.data }], guard := none }) rfl (by rfl) (fun K hK => ?_) ?_
                  · skip
                    go_simp
                    go_wp2_with ((go_at_call 25; (refine (HC1.out _ HB0.out).mono ?_); rintro e w11 ⟨rfl, hb⟩; have HB0 := Lib.hid (below_next HB0.out hb); clear hb))
                    refine wpAny_ready (rs := [5]) (by kernel_rfl) (by simp) ?_
                    refine Go.BigFrame.allReady_want (o := { dst := some 27, op := Op.call { callee := Callee.value (Operand.func 26), args := #[Operand.tmp 25, Operand.tmp 26], argTypes := #[26, 26] }, type := 26, pos := "law.go:195", after := #[{ on := 3, ground := Ground.data }, { on := 4, ground := Ground.data }, { on := 2, ground := Ground.chain }], guard := none }) rfl (by rfl) (fun K hK => ?_) ?_
                    · skip
                      go_simp
                      go_wp2_with ((go_at_call 26; (refine (HC2.out _ HB0.out).mono ?_); rintro e w12 ⟨rfl, hb⟩; have HB0 := Lib.hid (below_next HB0.out hb); clear hb))
                      refine wpAny_ready (rs := [6]) (by kernel_rfl) (by simp) ?_
                      refine Go.BigFrame.allReady_want (o := { dst := none, op := Op.store 26 (Operand.tmp 5) (Operand.tmp 24), type := 0, pos := "law.go:195", after := #[{ on := 2, ground := Ground.data }, { on := 5, ground := Ground.chain }, { on := 0, ground := Ground.phase }, { on := 1, ground := Ground.phase }, { on := 2, ground := Ground.phase }, { on := 3, ground := Ground.textOnly Departure.lateStores }, { on := 4, ground := Ground.textOnly Departure.lateStores }, { on := 5, ground := Ground.textOnly Departure.lateStoresUnsure }], guard := none }) rfl (by rfl) (fun K hK => ?_) ?_
                      · skip
                        ((refine wp_store_two _ _ rfl g5 nx en HLN.out HLE.out rfl rfl (H5b.out.keep HB0.out) (.inl rfl) ((Two.refl g5 g6 wb).next HB0.out) ?_; intro w' hrow htw hoth; have HN5 := Lib.hid hrow; have HT5 := Lib.hid htw; have HN6 := Lib.hid (hoth _ _ _ (fun h => hne h.symm) (H6b.out.keep HB0.out)); clear hrow htw hoth))
                        refine hK _ _ ?_
                        clear hK K
                        try simp only [Act.put]
                        refine wpAny_ready (rs := [7]) (by kernel_rfl) (by simp) ?_
                        refine Go.BigFrame.allReady_want (o := { dst := none, op := Op.store 26 (Operand.tmp 6) (Operand.tmp 27), type := 0, pos := "law.go:195", after := #[{ on := 5, ground := Ground.data }, { on := 6, ground := Ground.chain }, { on := 0, ground := Ground.phase }, { on := 1, ground := Ground.phase }, { on := 2, ground := Ground.phase }, { on := 3, ground := Ground.phase }, { on := 4, ground := Ground.phase }, { on := 5, ground := Ground.phase }, { on := 6, ground := Ground.phase }], guard := none }) rfl (by rfl) (fun K hK => ?_) ?_
                        · skip
                          ((refine wp_store_two _ _ rfl g6 nx en HLN.out HLE.out rfl rfl HN6.out (.inr rfl) HT5.out ?_; intro w' hrow htw hoth; have HN5 := Lib.hid (hoth _ _ _ hne HN5.out); have HN6 := Lib.hid hrow; have HT5 := Lib.hid htw; clear hrow htw hoth))
                          refine hK _ _ ?_
                          clear hK K
                          try simp only [Act.put]
                          refine wpAny_done (by kernel_rfl) ?_ _
                          ((exact K _ ⟨HN5.out, HN6.out, HT5.out⟩))
                        exact AllReady.nil
                      exact AllReady.nil
                    exact AllReady.nil
                  exact AllReady.nil
                exact AllReady.nil
              refine Go.BigFrame.allReady_want (o := { dst := some 23, op := Op.load 26 (Operand.tmp 8), type := 26, pos := "law.go:195", after := #[], guard := none }) rfl (by rfl) (fun K hK => ?_) ?_
              · skip
                ((refine wp_row_dig _ rfl g8 d HDL.out rfl (H8b.out.keep HB0.out) ?_))
                refine hK _ _ ?_
                clear hK K
                try simp only [Act.put, List.setIfInBounds_toArray, List.set_cons_zero, List.set_cons_succ]
                refine wpAny_ready (rs := [0]) (by kernel_rfl) (by simp) ?_
                refine Go.BigFrame.allReady_want (o := { dst := some 22, op := Op.load 26 (Operand.tmp 5), type := 26, pos := "law.go:195", after := #[], guard := none }) rfl (by rfl) (fun K hK => ?_) ?_
                · skip
                  ((refine wp_row_dig _ rfl g5 en HLE.out rfl (H5b.out.keep HB0.out) ?_))
                  refine hK _ _ ?_
                  clear hK K
                  try simp only [Act.put, List.setIfInBounds_toArray, List.set_cons_zero, List.set_cons_succ]
                  refine wpAny_ready (rs := [2]) (by kernel_rfl) (by simp) ?_
                  refine Go.BigFrame.allReady_want (o := { dst := some 24, op := Op.call { callee := Callee.value (Operand.func 25), args := #[Operand.tmp 22, Operand.tmp 23], argTypes := #[26, 26] }, type := 26, pos := "law.go:195", after := #[{ on := 0, ground := Ground.data }, { on := 1, ground := Ground.data }], guard := none }) rfl (by rfl) (fun K hK => ?_) ?_
                  · skip
                    go_simp
                    go_wp2_with ((go_at_call 25; (refine (HC1.out _ HB0.out).mono ?_); rintro e w11 ⟨rfl, hb⟩; have HB0 := Lib.hid (below_next HB0.out hb); clear hb))
                    refine wpAny_ready (rs := [5]) (by kernel_rfl) (by simp) ?_
                    refine Go.BigFrame.allReady_want (o := { dst := some 27, op := Op.call { callee := Callee.value (Operand.func 26), args := #[Operand.tmp 25, Operand.tmp 26], argTypes := #[26, 26] }, type := 26, pos := "law.go:195", after := #[{ on := 3, ground := Ground.data }, { on := 4, ground := Ground.data }, { on := 2, ground := Ground.chain }], guard := none }) rfl (by rfl) (fun K hK => ?_) ?_
                    · skip
                      go_simp
                      go_wp2_with ((go_at_call 26; (refine (HC2.out _ HB0.out).mono ?_); rintro e w12 ⟨rfl, hb⟩; have HB0 := Lib.hid (below_next HB0.out hb); clear hb))
                      refine wpAny_ready (rs := [6]) (by kernel_rfl) (by simp) ?_
                      refine Go.BigFrame.allReady_want (o := { dst := none, op := Op.store 26 (Operand.tmp 5) (Operand.tmp 24), type := 0, pos := "law.go:195", after := #[{ on := 2, ground := Ground.data }, { on := 5, ground := Ground.chain }, { on := 0, ground := Ground.phase }, { on := 1, ground := Ground.phase }, { on := 2, ground := Ground.phase }, { on := 3, ground := Ground.textOnly Departure.lateStores }, { on := 4, ground := Ground.textOnly Departure.lateStores }, { on := 5, ground := Ground.textOnly Departure.lateStoresUnsure }], guard := none }) rfl (by rfl) (fun K hK => ?_) ?_
                      · skip
                        ((refine wp_store_two _ _ rfl g5 nx en HLN.out HLE.out rfl rfl (H5b.out.keep HB0.out) (.inl rfl) ((Two.refl g5 g6 wb).next HB0.out) ?_; intro w' hrow htw hoth; have HN5 := Lib.hid hrow; have HT5 := Lib.hid htw; have HN6 := Lib.hid (hoth _ _ _ (fun h => hne h.symm) (H6b.out.keep HB0.out)); clear hrow htw hoth))
                        refine hK _ _ ?_
                        clear hK K
                        try simp only [Act.put]
                        refine wpAny_ready (rs := [7]) (by kernel_rfl) (by simp) ?_
                        refine Go.BigFrame.allReady_want (o := { dst := none, op := Op.store 26 (Operand.tmp 6) (Operand.tmp 27), type := 0, pos := "law.go:195", after := #[{ on := 5, ground := Ground.data }, { on := 6, ground := Ground.chain }, { on := 0, ground := Ground.phase }, { on := 1, ground := Ground.phase }, { on := 2, ground := Ground.phase }, { on := 3, ground := Ground.phase }, { on := 4, ground := Ground.phase }, { on := 5, ground := Ground.phase }, { on := 6, ground := Ground.phase }], guard := none }) rfl (by rfl) (fun K hK => ?_) ?_
                        · skip
                          ((refine wp_store_two _ _ rfl g6 nx en HLN.out HLE.out rfl rfl HN6.out (.inr rfl) HT5.out ?_; intro w' hrow htw hoth; have HN5 := Lib.hid (hoth _ _ _ hne HN5.out); have HN6 := Lib.hid hrow; have HT5 := Lib.hid htw; clear hrow htw hoth))
                          refine hK _ _ ?_
                          clear hK K
                          try simp only [Act.put]
                          refine wpAny_done (by kernel_rfl) ?_ _
                          ((exact K _ ⟨HN5.out, HN6.out, HT5.out⟩))
                        exact AllReady.nil
                      exact AllReady.nil
                    exact AllReady.nil
                  exact AllReady.nil
                exact AllReady.nil
              exact AllReady.nil
            exact AllReady.nil
          refine Go.BigFrame.allReady_want (o := { dst := some 26, op := Op.load 26 (Operand.tmp 8), type := 26, pos := "law.go:195", after := #[], guard := none }) rfl (by rfl) (fun K hK => ?_) ?_
          · skip
            ((refine wp_row_dig _ rfl g8 d HDL.out rfl (H8b.out.keep HB0.out) ?_))
            refine hK _ _ ?_
            clear hK K
            try simp only [Act.put, List.setIfInBounds_toArray, List.set_cons_zero, List.set_cons_succ]
            refine wpAny_ready (rs := [0, 1, 3]) (by kernel_rfl) (by simp) ?_
            refine Go.BigFrame.allReady_want (o := { dst := some 22, op := Op.load 26 (Operand.tmp 5), type := 26, pos := "law.go:195", after := #[], guard := none }) rfl (by rfl) (fun K hK => ?_) ?_
            · skip
              ((refine wp_row_dig _ rfl g5 en HLE.out rfl (H5b.out.keep HB0.out) ?_))
              refine hK _ _ ?_
              clear hK K
              try simp only [Act.put, List.setIfInBounds_toArray, List.set_cons_zero, List.set_cons_succ]
              refine wpAny_ready (rs := [1, 3]) (by kernel_rfl) (by simp) ?_
              refine Go.BigFrame.allReady_want (o := { dst := some 23, op := Op.load 26 (Operand.tmp 8), type := 26, pos := "law.go:195", after := #[], guard := none }) rfl (by rfl) (fun K hK => ?_) ?_
              · skip
                ((refine wp_row_dig _ rfl g8 d HDL.out rfl (H8b.out.keep HB0.out) ?_))
                refine hK _ _ ?_
                clear hK K
                try simp only [Act.put, List.setIfInBounds_toArray, List.set_cons_zero, List.set_cons_succ]
                refine wpAny_ready (rs := [2, 3]) (by kernel_rfl) (by simp) ?_
                refine Go.BigFrame.allReady_want (o := { dst := some 24, op := Op.call { callee := Callee.value (Operand.func 25), args := #[Operand.tmp 22, Operand.tmp 23], argTypes := #[26, 26] }, type := 26, pos := "law.go:195", after := #[{ on := 0, ground := Ground.data }, { on := 1, ground := Ground.data }], guard := none }) rfl (by rfl) (fun K hK => ?_) ?_
                · skip
                  go_simp
                  go_wp2_with ((go_at_call 25; (refine (HC1.out _ HB0.out).mono ?_); rintro e w11 ⟨rfl, hb⟩; have HB0 := Lib.hid (below_next HB0.out hb); clear hb))
                  refine wpAny_ready (rs := [3]) (by kernel_rfl) (by simp) ?_
                  refine Go.BigFrame.allReady_want (o := { dst := some 25, op := Op.load 26 (Operand.tmp 6), type := 26, pos := "law.go:195", after := #[], guard := none }) rfl (by rfl) (fun K hK => ?_) ?_
                  · skip
                    ((refine wp_row_dig _ rfl g6 en HLE.out rfl (H6b.out.keep HB0.out) ?_))
                    refine hK _ _ ?_
                    clear hK K
                    try simp only [Act.put, List.setIfInBounds_toArray, List.set_cons_zero, List.set_cons_succ]
                    refine wpAny_ready (rs := [5]) (by kernel_rfl) (by simp) ?_
                    refine Go.BigFrame.allReady_want (o := { dst := some 27, op := Op.call { callee := Callee.value (Operand.func 26), args := #[Operand.tmp 25, Operand.tmp 26], argTypes := #[26, 26] }, type := 26, pos := "law.go:195", after := #[{ on := 3, ground := Ground.data }, { on := 4, ground := Ground.data }, { on := 2, ground := Ground.chain }], guard := none }) rfl (by rfl) (fun K hK => ?_) ?_
                    · skip
                      go_simp
                      go_wp2_with ((go_at_call 26; (refine (HC2.out _ HB0.out).mono ?_); rintro e w12 ⟨rfl, hb⟩; have HB0 := Lib.hid (below_next HB0.out hb); clear hb))
                      refine wpAny_ready (rs := [6]) (by kernel_rfl) (by simp) ?_
                      refine Go.BigFrame.allReady_want (o := { dst := none, op := Op.store 26 (Operand.tmp 5) (Operand.tmp 24), type := 0, pos := "law.go:195", after := #[{ on := 2, ground := Ground.data }, { on := 5, ground := Ground.chain }, { on := 0, ground := Ground.phase }, { on := 1, ground := Ground.phase }, { on := 2, ground := Ground.phase }, { on := 3, ground := Ground.textOnly Departure.lateStores }, { on := 4, ground := Ground.textOnly Departure.lateStores }, { on := 5, ground := Ground.textOnly Departure.lateStoresUnsure }], guard := none }) rfl (by rfl) (fun K hK => ?_) ?_
                      · skip
                        ((refine wp_store_two _ _ rfl g5 nx en HLN.out HLE.out rfl rfl (H5b.out.keep HB0.out) (.inl rfl) ((Two.refl g5 g6 wb).next HB0.out) ?_; intro w' hrow htw hoth; have HN5 := Lib.hid hrow; have HT5 := Lib.hid htw; have HN6 := Lib.hid (hoth _ _ _ (fun h => hne h.symm) (H6b.out.keep HB0.out)); clear hrow htw hoth))
                        refine hK _ _ ?_
                        clear hK K
                        try simp only [Act.put]
                        refine wpAny_ready (rs := [7]) (by kernel_rfl) (by simp) ?_
                        refine Go.BigFrame.allReady_want (o := { dst := none, op := Op.store 26 (Operand.tmp 6) (Operand.tmp 27), type := 0, pos := "law.go:195", after := #[{ on := 5, ground := Ground.data }, { on := 6, ground := Ground.chain }, { on := 0, ground := Ground.phase }, { on := 1, ground := Ground.phase }, { on := 2, ground := Ground.phase }, { on := 3, ground := Ground.phase }, { on := 4, ground := Ground.phase }, { on := 5, ground := Ground.phase }, { on := 6, ground := Ground.phase }], guard := none }) rfl (by rfl) (fun K hK => ?_) ?_
                        · skip
                          ((refine wp_store_two _ _ rfl g6 nx en HLN.out HLE.out rfl rfl HN6.out (.inr rfl) HT5.out ?_; intro w' hrow htw hoth; have HN5 := Lib.hid (hoth _ _ _ hne HN5.out); have HN6 := Lib.hid hrow; have HT5 := Lib.hid htw; clear hrow htw hoth))
                          refine hK _ _ ?_
                          clear hK K
                          try simp only [Act.put]
                          refine wpAny_done (by kernel_rfl) ?_ _
                          ((exact K _ ⟨HN5.out, HN6.out, HT5.out⟩))
                        exact AllReady.nil
                      exact AllReady.nil
                    exact AllReady.nil
                  exact AllReady.nil
                refine Go.BigFrame.allReady_want (o := { dst := some 25, op := Op.load 26 (Operand.tmp 6), type := 26, pos := "law.go:195", after := #[], guard := none }) rfl (by rfl) (fun K hK => ?_) ?_
                · skip
                  ((refine wp_row_dig _ rfl g6 en HLE.out rfl (H6b.out.keep HB0.out) ?_))
                  refine hK _ _ ?_
                  clear hK K
                  try simp only [Act.put, List.setIfInBounds_toArray, List.set_cons_zero, List.set_cons_succ]
                  refine wpAny_ready (rs := [2]) (by kernel_rfl) (by simp) ?_
                  refine Go.BigFrame.allReady_want (o := { dst := some 24, op := Op.call { callee := Callee.value (Operand.func 25), args := #[Operand.tmp 22, Operand.tmp 23], argTypes := #[26, 26] }, type := 26, pos := "law.go:195", after := #[{ on := 0, ground := Ground.data }, { on := 1, ground := Ground.data }], guard := none }) rfl (by rfl) (fun K hK => ?_) ?_
                  · skip
                    go_simp
                    go_wp2_with ((go_at_call 25; (refine (HC1.out _ HB0.out).mono ?_); rintro e w11 ⟨rfl, hb⟩; have HB0 := Lib.hid (below_next HB0.out hb); clear hb))
                    refine wpAny_ready (rs := [5]) (by kernel_rfl) (by simp) ?_
                    refine Go.BigFrame.allReady_want (o := { dst := some 27, op := Op.call { callee := Callee.value (Operand.func 26), args := #[Operand.tmp 25, Operand.tmp 26], argTypes := #[26, 26] }, type := 26, pos := "law.go:195", after := #[{ on := 3, ground := Ground.data }, { on := 4, ground := Ground.data }, { on := 2, ground := Ground.chain }], guard := none }) rfl (by rfl) (fun K hK => ?_) ?_
                    · skip
                      go_simp
                      go_wp2_with ((go_at_call 26; (refine (HC2.out _ HB0.out).mono ?_); rintro e w12 ⟨rfl, hb⟩; have HB0 := Lib.hid (below_next HB0.out hb); clear hb))
                      refine wpAny_ready (rs := [6]) (by kernel_rfl) (by simp) ?_
                      refine Go.BigFrame.allReady_want (o := { dst := none, op := Op.store 26 (Operand.tmp 5) (Operand.tmp 24), type := 0, pos := "law.go:195", after := #[{ on := 2, ground := Ground.data }, { on := 5, ground := Ground.chain }, { on := 0, ground := Ground.phase }, { on := 1, ground := Ground.phase }, { on := 2, ground := Ground.phase }, { on := 3, ground := Ground.textOnly Departure.lateStores }, { on := 4, ground := Ground.textOnly Departure.lateStores }, { on := 5, ground := Ground.textOnly Departure.lateStoresUnsure }], guard := none }) rfl (by rfl) (fun K hK => ?_) ?_
                      · skip
                        ((refine wp_store_two _ _ rfl g5 nx en HLN.out HLE.out rfl rfl (H5b.out.keep HB0.out) (.inl rfl) ((Two.refl g5 g6 wb).next HB0.out) ?_; intro w' hrow htw hoth; have HN5 := Lib.hid hrow; have HT5 := Lib.hid htw; have HN6 := Lib.hid (hoth _ _ _ (fun h => hne h.symm) (H6b.out.keep HB0.out)); clear hrow htw hoth))
                        refine hK _ _ ?_
                        clear hK K
                        try simp only [Act.put]
                        refine wpAny_ready (rs := [7]) (by kernel_rfl) (by simp) ?_
                        refine Go.BigFrame.allReady_want (o := { dst := none, op := Op.store 26 (Operand.tmp 6) (Operand.tmp 27), type := 0, pos := "law.go:195", after := #[{ on := 5, ground := Ground.data }, { on := 6, ground := Ground.chain }, { on := 0, ground := Ground.phase }, { on := 1, ground := Ground.phase }, { on := 2, ground := Ground.phase }, { on := 3, ground := Ground.phase }, { on := 4, ground := Ground.phase }, { on := 5, ground := Ground.phase }, { on := 6, ground := Ground.phase }], guard := none }) rfl (by rfl) (fun K hK => ?_) ?_
                        · skip
                          ((refine wp_store_two _ _ rfl g6 nx en HLN.out HLE.out rfl rfl HN6.out (.inr rfl) HT5.out ?_; intro w' hrow htw hoth; have HN5 := Lib.hid (hoth _ _ _ hne HN5.out); have HN6 := Lib.hid hrow; have HT5 := Lib.hid htw; clear hrow htw hoth))
                          refine hK _ _ ?_
                          clear hK K
                          try simp only [Act.put]
                          refine wpAny_done (by kernel_rfl) ?_ _
                          ((exact K _ ⟨HN5.out, HN6.out, HT5.out⟩))
                        exact AllReady.nil
                      exact AllReady.nil
                    exact AllReady.nil
                  exact AllReady.nil
                exact AllReady.nil
              refine Go.BigFrame.allReady_want (o := { dst := some 25, op := Op.load 26 (Operand.tmp 6), type := 26, pos := "law.go:195", after := #[], guard := none }) rfl (by rfl) (fun K hK => ?_) ?_
              · skip
                ((refine wp_row_dig _ rfl g6 en HLE.out rfl (H6b.out.keep HB0.out) ?_))
                refine hK _ _ ?_
                clear hK K
                try simp only [Act.put, List.setIfInBounds_toArray, List.set_cons_zero, List.set_cons_succ]
                refine wpAny_ready (rs := [1]) (by kernel_rfl) (by simp) ?_
                refine Go.BigFrame.allReady_want (o := { dst := some 23, op := Op.load 26 (Operand.tmp 8), type := 26, pos := "law.go:195", after := #[], guard := none }) rfl (by rfl) (fun K hK => ?_) ?_
                · skip
                  ((refine wp_row_dig _ rfl g8 d HDL.out rfl (H8b.out.keep HB0.out) ?_))
                  refine hK _ _ ?_
                  clear hK K
                  try simp only [Act.put, List.setIfInBounds_toArray, List.set_cons_zero, List.set_cons_succ]
                  refine wpAny_ready (rs := [2]) (by kernel_rfl) (by simp) ?_
                  refine Go.BigFrame.allReady_want (o := { dst := some 24, op := Op.call { callee := Callee.value (Operand.func 25), args := #[Operand.tmp 22, Operand.tmp 23], argTypes := #[26, 26] }, type := 26, pos := "law.go:195", after := #[{ on := 0, ground := Ground.data }, { on := 1, ground := Ground.data }], guard := none }) rfl (by rfl) (fun K hK => ?_) ?_
                  · skip
                    go_simp
                    go_wp2_with ((go_at_call 25; (refine (HC1.out _ HB0.out).mono ?_); rintro e w11 ⟨rfl, hb⟩; have HB0 := Lib.hid (below_next HB0.out hb); clear hb))
                    refine wpAny_ready (rs := [5]) (by kernel_rfl) (by simp) ?_
                    refine Go.BigFrame.allReady_want (o := { dst := some 27, op := Op.call { callee := Callee.value (Operand.func 26), args := #[Operand.tmp 25, Operand.tmp 26], argTypes := #[26, 26] }, type := 26, pos := "law.go:195", after := #[{ on := 3, ground := Ground.data }, { on := 4, ground := Ground.data }, { on := 2, ground := Ground.chain }], guard := none }) rfl (by rfl) (fun K hK => ?_) ?_
                    · skip
                      go_simp
                      go_wp2_with ((go_at_call 26; (refine (HC2.out _ HB0.out).mono ?_); rintro e w12 ⟨rfl, hb⟩; have HB0 := Lib.hid (below_next HB0.out hb); clear hb))
                      refine wpAny_ready (rs := [6]) (by kernel_rfl) (by simp) ?_
                      refine Go.BigFrame.allReady_want (o := { dst := none, op := Op.store 26 (Operand.tmp 5) (Operand.tmp 24), type := 0, pos := "law.go:195", after := #[{ on := 2, ground := Ground.data }, { on := 5, ground := Ground.chain }, { on := 0, ground := Ground.phase }, { on := 1, ground := Ground.phase }, { on := 2, ground := Ground.phase }, { on := 3, ground := Ground.textOnly Departure.lateStores }, { on := 4, ground := Ground.textOnly Departure.lateStores }, { on := 5, ground := Ground.textOnly Departure.lateStoresUnsure }], guard := none }) rfl (by rfl) (fun K hK => ?_) ?_
                      · skip
                        ((refine wp_store_two _ _ rfl g5 nx en HLN.out HLE.out rfl rfl (H5b.out.keep HB0.out) (.inl rfl) ((Two.refl g5 g6 wb).next HB0.out) ?_; intro w' hrow htw hoth; have HN5 := Lib.hid hrow; have HT5 := Lib.hid htw; have HN6 := Lib.hid (hoth _ _ _ (fun h => hne h.symm) (H6b.out.keep HB0.out)); clear hrow htw hoth))
                        refine hK _ _ ?_
                        clear hK K
                        try simp only [Act.put]
                        refine wpAny_ready (rs := [7]) (by kernel_rfl) (by simp) ?_
                        refine Go.BigFrame.allReady_want (o := { dst := none, op := Op.store 26 (Operand.tmp 6) (Operand.tmp 27), type := 0, pos := "law.go:195", after := #[{ on := 5, ground := Ground.data }, { on := 6, ground := Ground.chain }, { on := 0, ground := Ground.phase }, { on := 1, ground := Ground.phase }, { on := 2, ground := Ground.phase }, { on := 3, ground := Ground.phase }, { on := 4, ground := Ground.phase }, { on := 5, ground := Ground.phase }, { on := 6, ground := Ground.phase }], guard := none }) rfl (by rfl) (fun K hK => ?_) ?_
                        · skip
                          ((refine wp_store_two _ _ rfl g6 nx en HLN.out HLE.out rfl rfl HN6.out (.inr rfl) HT5.out ?_; intro w' hrow htw hoth; have HN5 := Lib.hid (hoth _ _ _ hne HN5.out); have HN6 := Lib.hid hrow; have HT5 := Lib.hid htw; clear hrow htw hoth))
                          refine hK _ _ ?_
                          clear hK K
                          try simp only [Act.put]
                          refine wpAny_done (by kernel_rfl) ?_ _
                          ((exact K _ ⟨HN5.out, HN6.out, HT5.out⟩))
                        exact AllReady.nil
                      exact AllReady.nil
                    exact AllReady.nil
                  exact AllReady.nil
                exact AllReady.nil
              exact AllReady.nil
            refine Go.BigFrame.allReady_want (o := { dst := some 23, op := Op.load 26 (Operand.tmp 8), type := 26, pos := "law.go:195", after := #[], guard := none }) rfl (by rfl) (fun K hK => ?_) ?_
            · skip
              ((refine wp_row_dig _ rfl g8 d HDL.out rfl (H8b.out.keep HB0.out) ?_))
              refine hK _ _ ?_
              clear hK K
              try simp only [Act.put, List.setIfInBounds_toArray, List.set_cons_zero, List.set_cons_succ]
              refine wpAny_ready (rs := [0, 3]) (by kernel_rfl) (by simp) ?_
              refine Go.BigFrame.allReady_want (o := { dst := some 22, op := Op.load 26 (Operand.tmp 5), type := 26, pos := "law.go:195", after := #[], guard := none }) rfl (by rfl) (fun K hK => ?_) ?_
              · skip
                ((refine wp_row_dig _ rfl g5 en HLE.out rfl (H5b.out.keep HB0.out) ?_))
                refine hK _ _ ?_
                clear hK K
                try simp only [Act.put, List.setIfInBounds_toArray, List.set_cons_zero, List.set_cons_succ]
                refine wpAny_ready (rs := [2, 3]) (by kernel_rfl) (by simp) ?_
                refine Go.BigFrame.allReady_want (o := { dst := some 24, op := Op.call { callee := Callee.value (Operand.func 25), args := #[Operand.tmp 22, Operand.tmp 23], argTypes := #[26, 26] }, type := 26, pos := "law.go:195", after := #[{ on := 0, ground := Ground.data }, { on := 1, ground := Ground.data }], guard := none }) rfl (by rfl) (fun K hK => ?_) ?_
                · skip
                  go_simp
                  go_wp2_with ((go_at_call 25; (refine (HC1.out _ HB0.out).mono ?_); rintro e w11 ⟨rfl, hb⟩; have HB0 := Lib.hid (below_next HB0.out hb); clear hb))
                  refine wpAny_ready (rs := [3]) (by kernel_rfl) (by simp) ?_
                  refine Go.BigFrame.allReady_want (o := { dst := some 25, op := Op.load 26 (Operand.tmp 6), type := 26, pos := "law.go:195", after := #[], guard := none }) rfl (by rfl) (fun K hK => ?_) ?_
                  · skip
                    ((refine wp_row_dig _ rfl g6 en HLE.out rfl (H6b.out.keep HB0.out) ?_))
                    refine hK _ _ ?_
                    clear hK K
                    try simp only [Act.put, List.setIfInBounds_toArray, List.set_cons_zero, List.set_cons_succ]
                    refine wpAny_ready (rs := [5]) (by kernel_rfl) (by simp) ?_
                    refine Go.BigFrame.allReady_want (o := { dst := some 27, op := Op.call { callee := Callee.value (Operand.func 26), args := #[Operand.tmp 25, Operand.tmp 26], argTypes := #[26, 26] }, type := 26, pos := "law.go:195", after := #[{ on := 3, ground := Ground.data }, { on := 4, ground := Ground.data }, { on := 2, ground := Ground.chain }], guard := none }) rfl (by rfl) (fun K hK => ?_) ?_
                    · skip
                      go_simp
                      go_wp2_with ((go_at_call 26; (refine (HC2.out _ HB0.out).mono ?_); rintro e w12 ⟨rfl, hb⟩; have HB0 := Lib.hid (below_next HB0.out hb); clear hb))
                      refine wpAny_ready (rs := [6]) (by kernel_rfl) (by simp) ?_
                      refine Go.BigFrame.allReady_want (o := { dst := none, op := Op.store 26 (Operand.tmp 5) (Operand.tmp 24), type := 0, pos := "law.go:195", after := #[{ on := 2, ground := Ground.data }, { on := 5, ground := Ground.chain }, { on := 0, ground := Ground.phase }, { on := 1, ground := Ground.phase }, { on := 2, ground := Ground.phase }, { on := 3, ground := Ground.textOnly Departure.lateStores }, { on := 4, ground := Ground.textOnly Departure.lateStores }, { on := 5, ground := Ground.textOnly Departure.lateStoresUnsure }], guard := none }) rfl (by rfl) (fun K hK => ?_) ?_
                      · skip
                        ((refine wp_store_two _ _ rfl g5 nx en HLN.out HLE.out rfl rfl (H5b.out.keep HB0.out) (.inl rfl) ((Two.refl g5 g6 wb).next HB0.out) ?_; intro w' hrow htw hoth; have HN5 := Lib.hid hrow; have HT5 := Lib.hid htw; have HN6 := Lib.hid (hoth _ _ _ (fun h => hne h.symm) (H6b.out.keep HB0.out)); clear hrow htw hoth))
                        refine hK _ _ ?_
                        clear hK K
                        try simp only [Act.put]
                        refine wpAny_ready (rs := [7]) (by kernel_rfl) (by simp) ?_
                        refine Go.BigFrame.allReady_want (o := { dst := none, op := Op.store 26 (Operand.tmp 6) (Operand.tmp 27), type := 0, pos := "law.go:195", after := #[{ on := 5, ground := Ground.data }, { on := 6, ground := Ground.chain }, { on := 0, ground := Ground.phase }, { on := 1, ground := Ground.phase }, { on := 2, ground := Ground.phase }, { on := 3, ground := Ground.phase }, { on := 4, ground := Ground.phase }, { on := 5, ground := Ground.phase }, { on := 6, ground := Ground.phase }], guard := none }) rfl (by rfl) (fun K hK => ?_) ?_
                        · skip
                          ((refine wp_store_two _ _ rfl g6 nx en HLN.out HLE.out rfl rfl HN6.out (.inr rfl) HT5.out ?_; intro w' hrow htw hoth; have HN5 := Lib.hid (hoth _ _ _ hne HN5.out); have HN6 := Lib.hid hrow; have HT5 := Lib.hid htw; clear hrow htw hoth))
                          refine hK _ _ ?_
                          clear hK K
                          try simp only [Act.put]
                          refine wpAny_done (by kernel_rfl) ?_ _
                          ((exact K _ ⟨HN5.out, HN6.out, HT5.out⟩))
                        exact AllReady.nil
                      exact AllReady.nil
                    exact AllReady.nil
                  exact AllReady.nil
                refine Go.BigFrame.allReady_want (o := { dst := some 25, op := Op.load 26 (Operand.tmp 6), type := 26, pos := "law.go:195", after := #[], guard := none }) rfl (by rfl) (fun K hK => ?_) ?_
                · skip
                  ((refine wp_row_dig _ rfl g6 en HLE.out rfl (H6b.out.keep HB0.out) ?_))
                  refine hK _ _ ?_
                  clear hK K
                  try simp only [Act.put, List.setIfInBounds_toArray, List.set_cons_zero, List.set_cons_succ]
                  refine wpAny_ready (rs := [2]) (by kernel_rfl) (by simp) ?_
                  refine Go.BigFrame.allReady_want (o := { dst := some 24, op := Op.call { callee := Callee.value (Operand.func 25), args := #[Operand.tmp 22, Operand.tmp 23], argTypes := #[26, 26] }, type := 26, pos := "law.go:195", after := #[{ on := 0, ground := Ground.data }, { on := 1, ground := Ground.data }], guard := none }) rfl (by rfl) (fun K hK => ?_) ?_
                  · skip
                    go_simp
                    go_wp2_with ((go_at_call 25; (refine (HC1.out _ HB0.out).mono ?_); rintro e w11 ⟨rfl, hb⟩; have HB0 := Lib.hid (below_next HB0.out hb); clear hb))
                    refine wpAny_ready (rs := [5]) (by kernel_rfl) (by simp) ?_
                    refine Go.BigFrame.allReady_want (o := { dst := some 27, op := Op.call { callee := Callee.value (Operand.func 26), args := #[Operand.tmp 25, Operand.tmp 26], argTypes := #[26, 26] }, type := 26, pos := "law.go:195", after := #[{ on := 3, ground := Ground.data }, { on := 4, ground := Ground.data }, { on := 2, ground := Ground.chain }], guard := none }) rfl (by rfl) (fun K hK => ?_) ?_
                    · skip
                      go_simp
                      go_wp2_with ((go_at_call 26; (refine (HC2.out _ HB0.out).mono ?_); rintro e w12 ⟨rfl, hb⟩; have HB0 := Lib.hid (below_next HB0.out hb); clear hb))
                      refine wpAny_ready (rs := [6]) (by kernel_rfl) (by simp) ?_
                      refine Go.BigFrame.allReady_want (o := { dst := none, op := Op.store 26 (Operand.tmp 5) (Operand.tmp 24), type := 0, pos := "law.go:195", after := #[{ on := 2, ground := Ground.data }, { on := 5, ground := Ground.chain }, { on := 0, ground := Ground.phase }, { on := 1, ground := Ground.phase }, { on := 2, ground := Ground.phase }, { on := 3, ground := Ground.textOnly Departure.lateStores }, { on := 4, ground := Ground.textOnly Departure.lateStores }, { on := 5, ground := Ground.textOnly Departure.lateStoresUnsure }], guard := none }) rfl (by rfl) (fun K hK => ?_) ?_
                      · skip
                        ((refine wp_store_two _ _ rfl g5 nx en HLN.out HLE.out rfl rfl (H5b.out.keep HB0.out) (.inl rfl) ((Two.refl g5 g6 wb).next HB0.out) ?_; intro w' hrow htw hoth; have HN5 := Lib.hid hrow; have HT5 := Lib.hid htw; have HN6 := Lib.hid (hoth _ _ _ (fun h => hne h.symm) (H6b.out.keep HB0.out)); clear hrow htw hoth))
                        refine hK _ _ ?_
                        clear hK K
                        try simp only [Act.put]
                        refine wpAny_ready (rs := [7]) (by kernel_rfl) (by simp) ?_
                        refine Go.BigFrame.allReady_want (o := { dst := none, op := Op.store 26 (Operand.tmp 6) (Operand.tmp 27), type := 0, pos := "law.go:195", after := #[{ on := 5, ground := Ground.data }, { on := 6, ground := Ground.chain }, { on := 0, ground := Ground.phase }, { on := 1, ground := Ground.phase }, { on := 2, ground := Ground.phase }, { on := 3, ground := Ground.phase }, { on := 4, ground := Ground.phase }, { on := 5, ground := Ground.phase }, { on := 6, ground := Ground.phase }], guard := none }) rfl (by rfl) (fun K hK => ?_) ?_
                        · skip
                          ((refine wp_store_two _ _ rfl g6 nx en HLN.out HLE.out rfl rfl HN6.out (.inr rfl) HT5.out ?_; intro w' hrow htw hoth; have HN5 := Lib.hid (hoth _ _ _ hne HN5.out); have HN6 := Lib.hid hrow; have HT5 := Lib.hid htw; clear hrow htw hoth))
                          refine hK _ _ ?_
                          clear hK K
                          try simp only [Act.put]
                          refine wpAny_done (by kernel_rfl) ?_ _
                          ((exact K _ ⟨HN5.out, HN6.out, HT5.out⟩))
                        exact AllReady.nil
                      exact AllReady.nil
                    exact AllReady.nil
                  exact AllReady.nil
                exact AllReady.nil
              refine Go.BigFrame.allReady_want (o := { dst := some 25, op := Op.load 26 (Operand.tmp 6), type := 26, pos := "law.go:195", after := #[], guard := none }) rfl (by rfl) (fun K hK => ?_) ?_
              · skip
                ((refine wp_row_dig _ rfl g6 en HLE.out rfl (H6b.out.keep HB0.out) ?_))
                refine hK _ _ ?_
                clear hK K
                try simp only [Act.put, List.setIfInBounds_toArray, List.set_cons_zero, List.set_cons_succ]
                refine wpAny_ready (rs := [0]) (by kernel_rfl) (by simp) ?_
                refine Go.BigFrame.allReady_want (o := { dst := some 22, op := Op.load 26 (Operand.tmp 5), type := 26, pos := "law.go:195", after := #[], guard := none }) rfl (by rfl) (fun K hK => ?_) ?_
                · skip
                  ((refine wp_row_dig _ rfl g5 en HLE.out rfl (H5b.out.keep HB0.out) ?_))
                  refine hK _ _ ?_
                  clear hK K
                  try simp only [Act.put, List.setIfInBounds_toArray, List.set_cons_zero, List.set_cons_succ]
                  refine wpAny_ready (rs := [2]) (by kernel_rfl) (by simp) ?_
                  refine Go.BigFrame.allReady_want (o := { dst := some 24, op := Op.call { callee := Callee.value (Operand.func 25), args := #[Operand.tmp 22, Operand.tmp 23], argTypes := #[26, 26] }, type := 26, pos := "law.go:195", after := #[{ on := 0, ground := Ground.data }, { on := 1, ground := Ground.data }], guard := none }) rfl (by rfl) (fun K hK => ?_) ?_
                  · skip
                    go_simp
                    go_wp2_with ((go_at_call 25; (refine (HC1.out _ HB0.out).mono ?_); rintro e w11 ⟨rfl, hb⟩; have HB0 := Lib.hid (below_next HB0.out hb); clear hb))
                    refine wpAny_ready (rs := [5]) (by kernel_rfl) (by simp) ?_
                    refine Go.BigFrame.allReady_want (o := { dst := some 27, op := Op.call { callee := Callee.value (Operand.func 26), args := #[Operand.tmp 25, Operand.tmp 26], argTypes := #[26, 26] }, type := 26, pos := "law.go:195", after := #[{ on := 3, ground := Ground.data }, { on := 4, ground := Ground.data }, { on := 2, ground := Ground.chain }], guard := none }) rfl (by rfl) (fun K hK => ?_) ?_
                    · skip
                      go_simp
                      go_wp2_with ((go_at_call 26; (refine (HC2.out _ HB0.out).mono ?_); rintro e w12 ⟨rfl, hb⟩; have HB0 := Lib.hid (below_next HB0.out hb); clear hb))
                      refine wpAny_ready (rs := [6]) (by kernel_rfl) (by simp) ?_
                      refine Go.BigFrame.allReady_want (o := { dst := none, op := Op.store 26 (Operand.tmp 5) (Operand.tmp 24), type := 0, pos := "law.go:195", after := #[{ on := 2, ground := Ground.data }, { on := 5, ground := Ground.chain }, { on := 0, ground := Ground.phase }, { on := 1, ground := Ground.phase }, { on := 2, ground := Ground.phase }, { on := 3, ground := Ground.textOnly Departure.lateStores }, { on := 4, ground := Ground.textOnly Departure.lateStores }, { on := 5, ground := Ground.textOnly Departure.lateStoresUnsure }], guard := none }) rfl (by rfl) (fun K hK => ?_) ?_
                      · skip
                        ((refine wp_store_two _ _ rfl g5 nx en HLN.out HLE.out rfl rfl (H5b.out.keep HB0.out) (.inl rfl) ((Two.refl g5 g6 wb).next HB0.out) ?_; intro w' hrow htw hoth; have HN5 := Lib.hid hrow; have HT5 := Lib.hid htw; have HN6 := Lib.hid (hoth _ _ _ (fun h => hne h.symm) (H6b.out.keep HB0.out)); clear hrow htw hoth))
                        refine hK _ _ ?_
                        clear hK K
                        try simp only [Act.put]
                        refine wpAny_ready (rs := [7]) (by kernel_rfl) (by simp) ?_
                        refine Go.BigFrame.allReady_want (o := { dst := none, op := Op.store 26 (Operand.tmp 6) (Operand.tmp 27), type := 0, pos := "law.go:195", after := #[{ on := 5, ground := Ground.data }, { on := 6, ground := Ground.chain }, { on := 0, ground := Ground.phase }, { on := 1, ground := Ground.phase }, { on := 2, ground := Ground.phase }, { on := 3, ground := Ground.phase }, { on := 4, ground := Ground.phase }, { on := 5, ground := Ground.phase }, { on := 6, ground := Ground.phase }], guard := none }) rfl (by rfl) (fun K hK => ?_) ?_
                        · skip
                          ((refine wp_store_two _ _ rfl g6 nx en HLN.out HLE.out rfl rfl HN6.out (.inr rfl) HT5.out ?_; intro w' hrow htw hoth; have HN5 := Lib.hid (hoth _ _ _ hne HN5.out); have HN6 := Lib.hid hrow; have HT5 := Lib.hid htw; clear hrow htw hoth))
                          refine hK _ _ ?_
                          clear hK K
                          try simp only [Act.put]
                          refine wpAny_done (by kernel_rfl) ?_ _
                          ((exact K _ ⟨HN5.out, HN6.out, HT5.out⟩))
                        exact AllReady.nil
                      exact AllReady.nil
                    exact AllReady.nil
                  exact AllReady.nil
                exact AllReady.nil
              exact AllReady.nil
            refine Go.BigFrame.allReady_want (o := { dst := some 25, op := Op.load 26 (Operand.tmp 6), type := 26, pos := "law.go:195", after := #[], guard := none }) rfl (by rfl) (fun K hK => ?_) ?_
            · skip
              ((refine wp_row_dig _ rfl g6 en HLE.out rfl (H6b.out.keep HB0.out) ?_))
              refine hK _ _ ?_
              clear hK K
              try simp only [Act.put, List.setIfInBounds_toArray, List.set_cons_zero, List.set_cons_succ]
              refine wpAny_ready (rs := [0, 1]) (by kernel_rfl) (by simp) ?_
              refine Go.BigFrame.allReady_want (o := { dst := some 22, op := Op.load 26 (Operand.tmp 5), type := 26, pos := "law.go:195", after := #[], guard := none }) rfl (by rfl) (fun K hK => ?_) ?_
              · skip
                ((refine wp_row_dig _ rfl g5 en HLE.out rfl (H5b.out.keep HB0.out) ?_))
                refine hK _ _ ?_
                clear hK K
                try simp only [Act.put, List.setIfInBounds_toArray, List.set_cons_zero, List.set_cons_succ]
                refine wpAny_ready (rs := [1]) (by kernel_rfl) (by simp) ?_
                refine Go.BigFrame.allReady_want (o := { dst := some 23, op := Op.load 26 (Operand.tmp 8), type := 26, pos := "law.go:195", after := #[], guard := none }) rfl (by rfl) (fun K hK => ?_) ?_
                · skip
                  ((refine wp_row_dig _ rfl g8 d HDL.out rfl (H8b.out.keep HB0.out) ?_))
                  refine hK _ _ ?_
                  clear hK K
                  try simp only [Act.put, List.setIfInBounds_toArray, List.set_cons_zero, List.set_cons_succ]
                  refine wpAny_ready (rs := [2]) (by kernel_rfl) (by simp) ?_
                  refine Go.BigFrame.allReady_want (o := { dst := some 24, op := Op.call { callee := Callee.value (Operand.func 25), args := #[Operand.tmp 22, Operand.tmp 23], argTypes := #[26, 26] }, type := 26, pos := "law.go:195", after := #[{ on := 0, ground := Ground.data }, { on := 1, ground := Ground.data }], guard := none }) rfl (by rfl) (fun K hK => ?_) ?_
                  · skip
                    go_simp
                    go_wp2_with ((go_at_call 25; (refine (HC1.out _ HB0.out).mono ?_); rintro e w11 ⟨rfl, hb⟩; have HB0 := Lib.hid (below_next HB0.out hb); clear hb))
                    refine wpAny_ready (rs := [5]) (by kernel_rfl) (by simp) ?_
                    refine Go.BigFrame.allReady_want (o := { dst := some 27, op := Op.call { callee := Callee.value (Operand.func 26), args := #[Operand.tmp 25, Operand.tmp 26], argTypes := #[26, 26] }, type := 26, pos := "law.go:195", after := #[{ on := 3, ground := Ground.data }, { on := 4, ground := Ground.data }, { on := 2, ground := Ground.chain }], guard := none }) rfl (by rfl) (fun K hK => ?_) ?_
                    · skip
                      go_simp
                      go_wp2_with ((go_at_call 26; (refine (HC2.out _ HB0.out).mono ?_); rintro e w12 ⟨rfl, hb⟩; have HB0 := Lib.hid (below_next HB0.out hb); clear hb))
                      refine wpAny_ready (rs := [6]) (by kernel_rfl) (by simp) ?_
                      refine Go.BigFrame.allReady_want (o := { dst := none, op := Op.store 26 (Operand.tmp 5) (Operand.tmp 24), type := 0, pos := "law.go:195", after := #[{ on := 2, ground := Ground.data }, { on := 5, ground := Ground.chain }, { on := 0, ground := Ground.phase }, { on := 1, ground := Ground.phase }, { on := 2, ground := Ground.phase }, { on := 3, ground := Ground.textOnly Departure.lateStores }, { on := 4, ground := Ground.textOnly Departure.lateStores }, { on := 5, ground := Ground.textOnly Departure.lateStoresUnsure }], guard := none }) rfl (by rfl) (fun K hK => ?_) ?_
                      · skip
                        ((refine wp_store_two _ _ rfl g5 nx en HLN.out HLE.out rfl rfl (H5b.out.keep HB0.out) (.inl rfl) ((Two.refl g5 g6 wb).next HB0.out) ?_; intro w' hrow htw hoth; have HN5 := Lib.hid hrow; have HT5 := Lib.hid htw; have HN6 := Lib.hid (hoth _ _ _ (fun h => hne h.symm) (H6b.out.keep HB0.out)); clear hrow htw hoth))
                        refine hK _ _ ?_
                        clear hK K
                        try simp only [Act.put]
                        refine wpAny_ready (rs := [7]) (by kernel_rfl) (by simp) ?_
                        refine Go.BigFrame.allReady_want (o := { dst := none, op := Op.store 26 (Operand.tmp 6) (Operand.tmp 27), type := 0, pos := "law.go:195", after := #[{ on := 5, ground := Ground.data }, { on := 6, ground := Ground.chain }, { on := 0, ground := Ground.phase }, { on := 1, ground := Ground.phase }, { on := 2, ground := Ground.phase }, { on := 3, ground := Ground.phase }, { on := 4, ground := Ground.phase }, { on := 5, ground := Ground.phase }, { on := 6, ground := Ground.phase }], guard := none }) rfl (by rfl) (fun K hK => ?_) ?_
                        · skip
                          ((refine wp_store_two _ _ rfl g6 nx en HLN.out HLE.out rfl rfl HN6.out (.inr rfl) HT5.out ?_; intro w' hrow htw hoth; have HN5 := Lib.hid (hoth _ _ _ hne HN5.out); have HN6 := Lib.hid hrow; have HT5 := Lib.hid htw; clear hrow htw hoth))
                          refine hK _ _ ?_
                          clear hK K
                          try simp only [Act.put]
                          refine wpAny_done (by kernel_rfl) ?_ _
                          ((exact K _ ⟨HN5.out, HN6.out, HT5.out⟩))
                        exact AllReady.nil
                      exact AllReady.nil
                    exact AllReady.nil
                  exact AllReady.nil
                exact AllReady.nil
              refine Go.BigFrame.allReady_want (o := { dst := some 23, op := Op.load 26 (Operand.tmp 8), type := 26, pos := "law.go:195", after := #[], guard := none }) rfl (by rfl) (fun K hK => ?_) ?_
              · skip
                ((refine wp_row_dig _ rfl g8 d HDL.out rfl (H8b.out.keep HB0.out) ?_))
                refine hK _ _ ?_
                clear hK K
                try simp only [Act.put, List.setIfInBounds_toArray, List.set_cons_zero, List.set_cons_succ]
                refine wpAny_ready (rs := [0]) (by kernel_rfl) (by simp) ?_
                refine Go.BigFrame.allReady_want (o := { dst := some 22, op := Op.load 26 (Operand.tmp 5), type := 26, pos := "law.go:195", after := #[], guard := none }) rfl (by rfl) (fun K hK => ?_) ?_
                · skip
                  ((refine wp_row_dig _ rfl g5 en HLE.out rfl (H5b.out.keep HB0.out) ?_))
                  refine hK _ _ ?_
                  clear hK K
                  try simp only [Act.put, List.setIfInBounds_toArray, List.set_cons_zero, List.set_cons_succ]
                  refine wpAny_ready (rs := [2]) (by kernel_rfl) (by simp) ?_
                  refine Go.BigFrame.allReady_want (o := { dst := some 24, op := Op.call { callee := Callee.value (Operand.func 25), args := #[Operand.tmp 22, Operand.tmp 23], argTypes := #[26, 26] }, type := 26, pos := "law.go:195", after := #[{ on := 0, ground := Ground.data }, { on := 1, ground := Ground.data }], guard := none }) rfl (by rfl) (fun K hK => ?_) ?_
                  · skip
                    go_simp
                    go_wp2_with ((go_at_call 25; (refine (HC1.out _ HB0.out).mono ?_); rintro e w11 ⟨rfl, hb⟩; have HB0 := Lib.hid (below_next HB0.out hb); clear hb))
                    refine wpAny_ready (rs := [5]) (by kernel_rfl) (by simp) ?_
                    refine Go.BigFrame.allReady_want (o := { dst := some 27, op := Op.call { callee := Callee.value (Operand.func 26), args := #[Operand.tmp 25, Operand.tmp 26], argTypes := #[26, 26] }, type := 26, pos := "law.go:195", after := #[{ on := 3, ground := Ground.data }, { on := 4, ground := Ground.data }, { on := 2, ground := Ground.chain }], guard := none }) rfl (by rfl) (fun K hK => ?_) ?_
                    · skip
                      go_simp
                      go_wp2_with ((go_at_call 26; (refine (HC2.out _ HB0.out).mono ?_); rintro e w12 ⟨rfl, hb⟩; have HB0 := Lib.hid (below_next HB0.out hb); clear hb))
                      refine wpAny_ready (rs := [6]) (by kernel_rfl) (by simp) ?_
                      refine Go.BigFrame.allReady_want (o := { dst := none, op := Op.store 26 (Operand.tmp 5) (Operand.tmp 24), type := 0, pos := "law.go:195", after := #[{ on := 2, ground := Ground.data }, { on := 5, ground := Ground.chain }, { on := 0, ground := Ground.phase }, { on := 1, ground := Ground.phase }, { on := 2, ground := Ground.phase }, { on := 3, ground := Ground.textOnly Departure.lateStores }, { on := 4, ground := Ground.textOnly Departure.lateStores }, { on := 5, ground := Ground.textOnly Departure.lateStoresUnsure }], guard := none }) rfl (by rfl) (fun K hK => ?_) ?_
                      · skip
                        ((refine wp_store_two _ _ rfl g5 nx en HLN.out HLE.out rfl rfl (H5b.out.keep HB0.out) (.inl rfl) ((Two.refl g5 g6 wb).next HB0.out) ?_; intro w' hrow htw hoth; have HN5 := Lib.hid hrow; have HT5 := Lib.hid htw; have HN6 := Lib.hid (hoth _ _ _ (fun h => hne h.symm) (H6b.out.keep HB0.out)); clear hrow htw hoth))
                        refine hK _ _ ?_
                        clear hK K
                        try simp only [Act.put]
                        refine wpAny_ready (rs := [7]) (by kernel_rfl) (by simp) ?_
                        refine Go.BigFrame.allReady_want (o := { dst := none, op := Op.store 26 (Operand.tmp 6) (Operand.tmp 27), type := 0, pos := "law.go:195", after := #[{ on := 5, ground := Ground.data }, { on := 6, ground := Ground.chain }, { on := 0, ground := Ground.phase }, { on := 1, ground := Ground.phase }, { on := 2, ground := Ground.phase }, { on := 3, ground := Ground.phase }, { on := 4, ground := Ground.phase }, { on := 5, ground := Ground.phase }, { on := 6, ground := Ground.phase }], guard := none }) rfl (by rfl) (fun K hK => ?_) ?_
                        · skip
                          ((refine wp_store_two _ _ rfl g6 nx en HLN.out HLE.out rfl rfl HN6.out (.inr rfl) HT5.out ?_; intro w' hrow htw hoth; have HN5 := Lib.hid (hoth _ _ _ hne HN5.out); have HN6 := Lib.hid hrow; have HT5 := Lib.hid htw; clear hrow htw hoth))
                          refine hK _ _ ?_
                          clear hK K
                          try simp only [Act.put]
                          refine wpAny_done (by kernel_rfl) ?_ _
                          ((exact K _ ⟨HN5.out, HN6.out, HT5.out⟩))
                        exact AllReady.nil
                      exact AllReady.nil
                    exact AllReady.nil
                  exact AllReady.nil
                exact AllReady.nil
              exact AllReady.nil
            exact AllReady.nil
          exact AllReady.nil
        case kk =>
          rintro wc ⟨h5, h6, htw⟩
          have H5c := Lib.hid h5
          have H6c := Lib.hid h6
          have H8c := Lib.hid (row_two H8b.out htw h58 h68)
          have H9c := Lib.hid (row_two H9b.out htw h59 h69)
          have HTc := Lib.hid ((HTWO.out.next HBZ.out).trans htw)
          have HTabc : Hid (Tab wc) := by
            have h1 := below_next HBr.out HBZ.out
            exact HT.out.keep (h1.trans (htw.below hw5 hw6 h1.size))
          have HD5 : Hid (DigAt (fun w' => Below wc.heap.size wc w') g5 nx) := ⟨HLN.out, fun W' h => range_row (H5c.out.keep h)⟩
          have HD6 : Hid (DigAt (fun w' => Below wc.heap.size wc w') g6 nx) := ⟨HLN.out, fun W' h => range_row (H6c.out.keep h)⟩
          have HTG : Hid (∀ (W' : World) (u : Value), Rest W'.heap.size W' (en ++ d) u → Below wc.heap.size wc W' → Calls Tryd.prog 14 #[.string ⟨#[99, 104, 97, 105, 110]⟩, u] W' (RetD W' nx)) := fun W' u h1 h2 => by
            rw [HNX.out]
            exact tagged_call ⟨#[99, 104, 97, 105, 110]⟩ (en ++ d) u W' (by decide) (by rw [List.length_append, HLE.out, HDL.out]; omega) h1 (HTabc.out.keep h2)
          have HK1 : Hid (([] : List UInt8).length + en.length ≤ 70368744177664) := by show ([] : List UInt8).length + en.length ≤ 70368744177664; rw [HLE.out]; simp
          have HK2 : Hid (en.length + d.length ≤ 70368744177664) := by show en.length + d.length ≤ 70368744177664; rw [HLE.out, HDL.out]; omega
          clear h5 h6 htw
          go_wp2_with fail
          (refine wp_region_held_drew (S := fun w' => Below wc.heap.size wc w') (by kernel_rfl) ((Below.refl _ wc).drew) (fun hHeld => ?_))
          (obtain ⟨w0, hw0⟩ : ∃ x, x = wc.drew := ⟨_, rfl⟩; rw [← hw0] at hHeld ⊢; have HB0 := Lib.hid hHeld; clear hHeld hw0)
          refine take_dig (i := 0) (oi := { dst := some 28, op := Op.load 26 (Operand.tmp 5), type := 26, pos := "law.go:196", after := #[], guard := none }) HD5.out rfl (by kernel_rfl) (by kernel_rfl) (by kernel_rfl) (fun _ _ _ h => h) HB0.out rfl rfl (by rfl) ?_
          try simp only [Act.put, List.setIfInBounds_toArray, List.set_cons_zero, List.set_cons_succ]
          refine take_dig (i := 1) (oi := { dst := some 29, op := Op.load 26 (Operand.tmp 6), type := 26, pos := "law.go:196", after := #[], guard := none }) HD6.out rfl (by kernel_rfl) (by kernel_rfl) (by kernel_rfl) (fun _ _ _ h => h) HB0.out rfl rfl (by rfl) ?_
          try simp only [Act.put, List.setIfInBounds_toArray, List.set_cons_zero, List.set_cons_succ]
          refine wpAnyH_ready (rs := [2]) (by kernel_rfl) (by simp) ?_
          refine AllReadyH.cons (o := { dst := some 30, op := Op.binOp BinOp.neq 26 (Operand.tmp 28) (Operand.tmp 29) 26, type := 4, pos := "law.go:196", after := #[{ on := 0, ground := Ground.data }, { on := 1, ground := Ground.data }], guard := none }) rfl (fun K hK => ?_) ?_
          · rw [if_pos (by rfl)]
            ((refine wp_neq_dig _ _ rfl nx nx HLN.out HLN.out rfl rfl ?_; rw [beq_self_eq_true, Bool.not_true]))
            refine hK.out _ _ HB0.out (fun _ => ?_)
            clear hK K
            try simp only [Act.put, List.setIfInBounds_toArray, List.set_cons_zero, List.set_cons_succ]
            refine wpAnyH_take (i := 3) (oi := { dst := some 31, op := Op.move (Operand.tmp 30), type := 4, pos := "law.go:196", after := #[{ on := 2, ground := Ground.data }], guard := none }) (v := ?_) rfl (by kernel_rfl) (by kernel_rfl) (by kernel_rfl) (fun _ _ _ h => h) (Or.inl ⟨by rfl, ?_⟩) HB0.out ?_
            rotate_left
            · (intro w _; go_simp; with_reducible rfl)
            try simp only [Act.put, List.setIfInBounds_toArray, List.set_cons_zero, List.set_cons_succ]
            refine wpAnyH_take (i := 6) (oi := { dst := some 34, op := Op.slice 26 (Operand.tmp 9) none none none, type := 22, pos := "law.go:196", after := #[{ on := 3, ground := Ground.guard }], guard := some (3, false) }) (v := ?_) rfl (by kernel_rfl) (by kernel_rfl) (by kernel_rfl) (fun _ _ _ h => h) (Or.inl ⟨by rfl, ?_⟩) HB0.out ?_
            rotate_left
            · (intro w _; go_simp; with_reducible rfl)
            try simp only [Act.put, List.setIfInBounds_toArray, List.set_cons_zero, List.set_cons_succ]
            refine wpAnyH_take (i := 8) (oi := { dst := some 36, op := Op.slice 26 (Operand.tmp 8) none none none, type := 22, pos := "law.go:196", after := #[{ on := 3, ground := Ground.guard }], guard := some (3, false) }) (v := ?_) rfl (by kernel_rfl) (by kernel_rfl) (by kernel_rfl) (fun _ _ _ h => h) (Or.inl ⟨by rfl, ?_⟩) HB0.out ?_
            rotate_left
            · (intro w _; go_simp; with_reducible rfl)
            try simp only [Act.put, List.setIfInBounds_toArray, List.set_cons_zero, List.set_cons_succ]
            refine take_dig (i := 4) (oi := { dst := some 32, op := Op.load 26 (Operand.tmp 5), type := 26, pos := "law.go:196", after := #[{ on := 3, ground := Ground.guard }], guard := some (3, false) }) HD5.out rfl (by kernel_rfl) (by kernel_rfl) (by kernel_rfl) (fun _ _ _ h => h) HB0.out rfl rfl (by rfl) ?_
            try simp only [Act.put, List.setIfInBounds_toArray, List.set_cons_zero, List.set_cons_succ]
            refine wpAnyH_ready (rs := [5]) (by kernel_rfl) (by simp) ?_
            refine AllReadyH.cons (o := { dst := some 33, op := Op.buildSlice 22 0 #[], type := 22, pos := "law.go:196", after := #[{ on := 3, ground := Ground.guard }], guard := some (3, false) }) rfl (fun K hK => ?_) ?_
            · rw [if_pos (by rfl)]
              ((refine wp_none' rfl HB0.out ?_; intro x0 w13 hn; have HN := Lib.hid hn; have HB0 := Lib.hid hn.2.1; clear hn))
              refine hK.out _ _ HB0.out (fun _ => ?_)
              clear hK K
              try simp only [Act.put, List.setIfInBounds_toArray, List.set_cons_zero, List.set_cons_succ]
              refine wpAnyH_ready (rs := [7]) (by kernel_rfl) (by simp) ?_
              refine AllReadyH.cons (o := { dst := some 35, op := Op.call { callee := Callee.builtin Builtin.append, args := #[Operand.tmp 33, Operand.tmp 34], argTypes := #[22, 22] }, type := 22, pos := "law.go:196", after := #[{ on := 5, ground := Ground.data }, { on := 6, ground := Ground.data }, { on := 3, ground := Ground.chain }, { on := 3, ground := Ground.guard }], guard := some (3, false) }) rfl (fun K hK => ?_) ?_
              · rw [if_pos (by rfl)]
                ((refine wp_bufg _ _ rfl x0 [] rfl HN.out _ _ en rfl (row_rest32 (H9c.out.keep HB0.out) HLE.out) HK1.out ?_; intro x1 w14 hn; have HN : Hid (New wc w14 x1 en) := hn; have HB0 := Lib.hid hn.2.1; clear hn))
                refine hK.out _ _ HB0.out (fun _ => ?_)
                clear hK K
                try simp only [Act.put, List.setIfInBounds_toArray, List.set_cons_zero, List.set_cons_succ]
                refine wpAnyH_ready (rs := [9]) (by kernel_rfl) (by simp) ?_
                refine AllReadyH.cons (o := { dst := some 37, op := Op.call { callee := Callee.builtin Builtin.append, args := #[Operand.tmp 35, Operand.tmp 36], argTypes := #[22, 22] }, type := 22, pos := "law.go:196", after := #[{ on := 7, ground := Ground.data }, { on := 8, ground := Ground.data }, { on := 7, ground := Ground.chain }, { on := 3, ground := Ground.guard }], guard := some (3, false) }) rfl (fun K hK => ?_) ?_
                · rw [if_pos (by rfl)]
                  ((refine wp_bufg _ _ rfl x1 en rfl HN.out _ _ d rfl (row_rest32 (H8c.out.keep HB0.out) HDL.out) HK2.out ?_; intro x2 w15 hn; have HN := Lib.hid hn; have HB0 := Lib.hid hn.2.1; clear hn))
                  refine hK.out _ _ HB0.out (fun _ => ?_)
                  clear hK K
                  try simp only [Act.put, List.setIfInBounds_toArray, List.set_cons_zero, List.set_cons_succ]
                  refine wpAnyH_ready (rs := [10]) (by kernel_rfl) (by simp) ?_
                  refine AllReadyH.cons (o := { dst := some 38, op := Op.call { callee := Callee.value (Operand.func 14), args := #[Operand.const (Value.string { data := #[99, 104, 97, 105, 110] }), Operand.tmp 37], argTypes := #[9, 22] }, type := 26, pos := "law.go:196", after := #[{ on := 9, ground := Ground.data }, { on := 9, ground := Ground.chain }, { on := 3, ground := Ground.guard }], guard := some (3, false) }) rfl (fun K hK => ?_) ?_
                  · rw [if_pos (by rfl)]
                    go_simp
                    go_wp2_with ((go_at_call 14; (refine (HTG.out _ _ (buf_rest' HN.out.1) HB0.out).mono ?_); rintro e w16 ⟨rfl, hb⟩; have HB0 := Lib.hid (below_next HB0.out hb); clear hb))
                    refine hK.out _ _ HB0.out (fun _ => ?_)
                    clear hK K
                    try simp only [Act.put, List.setIfInBounds_toArray, List.set_cons_zero, List.set_cons_succ]
                    refine wpAnyH_ready (rs := [11]) (by kernel_rfl) (by simp) ?_
                    refine AllReadyH.cons (o := { dst := some 39, op := Op.binOp BinOp.neq 26 (Operand.tmp 32) (Operand.tmp 38) 26, type := 4, pos := "law.go:196", after := #[{ on := 4, ground := Ground.data }, { on := 10, ground := Ground.data }, { on := 3, ground := Ground.guard }], guard := some (3, false) }) rfl (fun K hK => ?_) ?_
                    · rw [if_pos (by rfl)]
                      ((refine wp_neq_dig _ _ rfl nx nx HLN.out HLN.out rfl rfl ?_; rw [beq_self_eq_true, Bool.not_true]))
                      refine hK.out _ _ HB0.out (fun _ => ?_)
                      clear hK K
                      try simp only [Act.put, List.setIfInBounds_toArray, List.set_cons_zero, List.set_cons_succ]
                      refine wpAnyH_take (i := 12) (oi := { dst := some 40, op := Op.pick (Operand.tmp 31) (Operand.const (Value.bool true)) (Operand.tmp 39), type := 4, pos := "law.go:196", after := #[{ on := 3, ground := Ground.data }, { on := 11, ground := Ground.data }], guard := none }) (v := ?_) rfl (by kernel_rfl) (by kernel_rfl) (by kernel_rfl) (fun _ _ _ h => h) (Or.inl ⟨by rfl, ?_⟩) HB0.out ?_
                      rotate_left
                      · (intro w _; go_simp; with_reducible rfl)
                      try simp only [Act.put, List.setIfInBounds_toArray, List.set_cons_zero, List.set_cons_succ]
                      refine wpAnyH_done (by kernel_rfl) ?_ _
                      ((go_wp2_with fail; exact ⟨⟨i + 1, nx, (by omega), HLN.out, (by go_num), H5c.out.keep HB0.out, H6c.out.keep HB0.out, HTc.out.next HB0.out⟩, (by simp [intOf]; omega)⟩))
                    exact AllReadyH.nil
                  exact AllReadyH.nil
                exact AllReadyH.nil
              exact AllReadyH.nil
            exact AllReadyH.nil
          exact AllReadyH.nil
      · obtain rfl : i = m := by omega
        go_wp2_with fail
        go_ret
        exact ⟨rfl, HBr.out⟩
end Go.Proofs.YtjibhelahagliaaDoor
