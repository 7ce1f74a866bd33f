/- DigestNext: the law's walk. -/
import Derived.Test.YtjibhelahagliaaDoorCb
import Derived.Test.YtjibhelahagliaaDoorPl
import Derived.Deep.RegionLaw
import Derived.Deep.RegionHeld
import Derived.BigRegion
namespace Go.Proofs.YtjibhelahagliaaDoor
open Go.RowKit

theorem hf_next {n j : Nat} (h : n = 2 ^ j) (h1 : 1 ≤ n) : hf (n + 1) = n := (hf_unique (by omega) h (by omega) (by omega)).symm
theorem next_tree (l : List (List UInt8)) (d : List UInt8) (n j : Nat) (h : n = 2 ^ j) (h1 : 1 ≤ n) (hn : n ≤ l.length) :
    tree (l.take n ++ [d]) = nd (tree (l.take n)) (tree [d]) ∧ path (l.take n ++ [d]) n = [tree (l.take n)] := by
  have hl : (l.take n ++ [d]).length = n + 1 := by rw [List.length_append, List.length_take, List.length_singleton]; omega
  have hlt : (l.take n).length = n := by rw [List.length_take]; omega
  have ht : (l.take n ++ [d]).take n = l.take n := by rw [List.take_append_of_le_length (by omega), List.take_of_length_le (by omega)]
  have hd : (l.take n ++ [d]).drop n = [d] := by rw [List.drop_append_of_le_length (by omega), List.drop_of_length_le (by omega), List.nil_append]
  constructor
  · rw [tree_2 _ (by omega), hl, hf_next h h1, ht, hd]
  · rw [path_r _ _ (by omega) (by rw [hl, hf_next h h1]; omega), hl, hf_next h h1, ht, hd, path_1 [d] _ (by simp), List.nil_append]
theorem cut5 {A B C D E : Type} {R0 : A → B → C → D → E → Prop} (G : A → B → C → D → E → Prop) {R : Prop} (rest : (∀ a b c d e, R0 a b c d e → G a b c d e) → R) (kk : ∀ a b c d e, R0 a b c d e → G a b c d e) : R := rest kk
theorem cut4 {A B C D : Type} {R0 : A → B → C → D → Prop} (G : A → B → C → D → Prop) {R : Prop} (rest : (∀ a b c d, R0 a b c d → G a b c d) → R) (kk : ∀ a b c d, R0 a b c d → G a b c d) : R := rest kk
def NxHead (W : World) (s6 : Value) (wr : World) : Prop := ∃ n j : Nat, n = 2 ^ j ∧ 1 ≤ n ∧ n ≤ 48 ∧ s6 = .int .i64 (n : Int) ∧ Below W.heap.size W wr

set_option maxHeartbeats 8000000 in
set_option maxRecDepth 100000 in
theorem next_walk (hs : Sane) (bs : List UInt8) (v : Value) (d : List UInt8) (hd : d.length = 32) (w : World) (hr : Rest w.heap.size w bs v) (hT : Tab w) :
    Calls Tryd.prog 8 #[v, dg d] w fun e w' => e = .returned (.bool true) ∧ Below w.heap.size w w' := by
  have HT := Lib.hid hT
  have HR := Lib.hid hr
  have HDL := Lib.hid hd
  obtain ⟨a, cap, rfl⟩ : ∃ a cap, v = .slice a bs.length cap := by obtain ⟨a, cap, h, _⟩ := hr; exact ⟨a, cap, h⟩
  obtain ⟨w0, hw0⟩ : ∃ w0, w0 = w.alloc (.cells (cellsOf d).toArray 26) := ⟨_, rfl⟩
  have hb0 : Below w.heap.size w w0 := by rw [hw0]; exact Joins.below_alloc1 w _
  have HB0 := Lib.hid hb0
  have HG3 : Hid (Row w0 w.heap.size 26 (cellsOf d)) := by rw [hw0]; exact row_new w 26 _
  obtain ⟨g3, hg3⟩ : ∃ g3, g3 = w.heap.size := ⟨_, rfl⟩
  have HE3 := Lib.hid hg3
  have HW0 := Lib.hid hw0
  have HS := Lib.hid (hs w0 (hT.keep hb0))
  have HR0 := Lib.hid (rest_keep hr hb0)
  clear hs hT hr hd hw0 hb0 hg3
  unfold dg
  go_enter Tryd.func8, Tryd.ntmps8
  go_wp2_with fail
  rw [← HW0.out]
  refine HS.out.mono ?_
  rintro e w1 ⟨rfl, hb1⟩
  have HB1 := Lib.hid hb1
  have HD := Lib.hid (digestsOf_call bs _ w1 (rest_keep HR0.out hb1))
  clear HS hb1
  go_wp2_with fail
  refine HD.out.mono ?_
  rintro e W ⟨v3, rfl, hnew⟩
  clear HD
  obtain ⟨ds, hds⟩ : ∃ ds, ds = dgs bs := ⟨_, rfl⟩
  rw [← hds] at hnew
  have hlen : ds.length ≤ 24 := by rw [hds, dgs_len]; omega
  have HB01 := Lib.hid (below_next HB1.out hnew.2.1)
  have HBW := Lib.hid (below_next HB0.out HB01.out)
  have HDW := Lib.hid (dbuf_rest hnew.1)
  have HTW := Lib.hid (HT.out.keep HBW.out)
  have HG3W : Hid (Row W g3 26 (cellsOf d)) := by rw [HE3.out]; exact HG3.out.keep HB01.out
  rw [← HE3.out]
  obtain ⟨a3, c3, rfl⟩ := hnew.shape
  obtain ⟨m, hm⟩ : ∃ m, m = ds.length := ⟨_, rfl⟩
  rw [← hm] at hlen ⊢
  have HM := Lib.hid hm
  clear hds hnew HB1 HB01 HR0 HR HT hm HG3 HW0 HB0
  go_wp2_with fail
  go_loopw [6] (fun s6 wr => NxHead W s6 wr) (fun s6 _ => 49 - (intOf s6).toNat)
  case atStart => exact ⟨1, 0, rfl, by omega, by omega, by go_num, Below.refl _ _⟩
  case round =>
    obtain ⟨n, j, hn, hn1, hn48, rfl, hbr⟩ := hrel
    have HBR := Lib.hid hbr
    have HN2 := Lib.hid hn
    clear hbr hn
    rcases Nat.lt_or_ge m n with hlt | hge
    · have hno : ¬ ((n : Int) ≤ (m : Int)) := by omega
      go_wp2_with fail
      go_ret
      exact ⟨rfl, below_next HBW.out HBR.out⟩
    · have hle : (n : Int) ≤ (m : Int) := by omega
      obtain ⟨b, off, c3', he, hcc, hcc2, hbl, hcd⟩ := HDW.out.some (by rw [← HM.out]; omega)
      injection he with h1 h2 h3
      subst h1 h3
      rw [← HM.out] at hcc
      obtain ⟨tA, htA⟩ : ∃ tA, tA = tree (ds.take n) := ⟨_, rfl⟩
      obtain ⟨tB, htB⟩ : ∃ tB, tB = tree [d] := ⟨_, rfl⟩
      have HLA : Hid (tA.length = 32) := by rw [htA]; exact tree_len _
      have HLB : Hid (tB.length = 32) := by rw [htB]; exact tree_len _
      have HL : Hid (∀ W' : World, Below wr.heap.size wr W' → Calls Tryd.prog 17 #[.slice (some ⟨b, off, none⟩) n c3] W' (RetD W' tA)) := fun W' h => by
        have hb := below_next HBR.out h
        have hp := drest_part (HDW.out.keep hb) 0 n c3 (by rw [← HM.out]; omega) (by omega) (Nat.le_refl _)
        rw [List.drop_zero, Nat.zero_mul, Nat.add_zero] at hp
        rw [htA]
        exact tree_call _ (by rw [List.length_take]; omega) _ W' hp (HTW.out.keep hb)
      have HLd : Hid (∀ (W' : World) (u : Value), Below wr.heap.size wr W' → DRest W'.heap.size W' [d] u → Calls Tryd.prog 17 #[u] W' (RetD W' tB)) := fun W' u h hu => by
        rw [htB]
        exact tree_call _ (by simp) _ W' hu (HTW.out.keep (below_next HBR.out h))
      have HDA : Hid (DigAt (fun w' => Below wr.heap.size wr w') g3 d) := ⟨HDL.out, fun W' h => range_row (HG3W.out.keep (below_next HBR.out h))⟩
      have hkc : n ≤ c3 := by omega
      have hkn : n ≤ m := by omega
      have hnc : n ≤ 24 := by omega
      have HTA := Lib.hid htA
      have HTB := Lib.hid htB
      clear htA htB hcd hcc2 h2
      go_wp2_with fail
      refine' cut4 (R0 := fun (g7 g8 : Nat) (_ : Nat) (w' : World) => Row w' g7 26 (cellsOf tA) ∧ Row w' g8 26 (cellsOf tB) ∧ Below wr.heap.size wr w') _ ?rest ?kk
      case rest =>
        intro K
        (refine wp_region_held_drew (S := fun w' => Below wr.heap.size wr w') (by kernel_rfl) ((Below.refl _ wr).drew) (fun hHeld => ?_))
        (obtain ⟨w0, hw0⟩ : ∃ x, x = wr.drew := ⟨_, rfl⟩; rw [← hw0] at hHeld ⊢; have HB0 := Lib.hid hHeld; clear hHeld hw0)
        refine wpAnyH_take (i := 0) (oi := { dst := some 22, op := Op.move (Operand.tmp 5), type := 30, pos := "law.go:137", after := #[], guard := none }) (v := ?_) rfl (by kernel_rfl) (by kernel_rfl) (by kernel_rfl) (fun _ _ _ h => h) (Or.inl ⟨by rfl, ?_⟩) HB0.out ?_
        rotate_left
        · (intro w _; go_simp; with_reducible rfl)
        try simp only [Act.put, List.setIfInBounds_toArray, List.set_cons_zero, List.set_cons_succ]
        refine wpAnyH_take (i := 1) (oi := { dst := some 23, op := Op.move (Operand.tmp 6), type := 3, pos := "law.go:137", after := #[], guard := none }) (v := ?_) rfl (by kernel_rfl) (by kernel_rfl) (by kernel_rfl) (fun _ _ _ h => h) (Or.inl ⟨by rfl, ?_⟩) HB0.out ?_
        rotate_left
        · (intro w _; go_simp; with_reducible rfl)
        try simp only [Act.put, List.setIfInBounds_toArray, List.set_cons_zero, List.set_cons_succ]
        refine wpAnyH_take (i := 2) (oi := { dst := some 24, op := Op.slice 30 (Operand.tmp 22) none (some (Operand.tmp 23)) none, type := 30, pos := "law.go:137", after := #[{ on := 0, ground := Ground.data }, { on := 1, ground := Ground.data }], guard := none }) (v := ?_) rfl (by kernel_rfl) (by kernel_rfl) (by kernel_rfl) (fun _ _ _ h => h) (Or.inl ⟨by rfl, ?_⟩) HB0.out ?_
        rotate_left
        · (intro w _; go_simp; with_reducible rfl)
        try simp only [Act.put, List.setIfInBounds_toArray, List.set_cons_zero, List.set_cons_succ]
        refine take_dig (i := 4) (oi := { dst := some 26, op := Op.load 26 (Operand.tmp 3), type := 26, pos := "law.go:137", after := #[], guard := none }) (HDA.out) rfl (by kernel_rfl) (by kernel_rfl) (by kernel_rfl) (fun _ _ _ h => h) HB0.out rfl rfl (by rfl) ?_
        try simp only [Act.put, List.setIfInBounds_toArray, List.set_cons_zero, List.set_cons_succ]
        refine wpAnyH_ready (rs := [3, 5, 7, 8]) (by kernel_rfl) (by simp) ?_
        refine AllReadyH.cons (o := { dst := some 25, op := Op.call { callee := Callee.value (Operand.func 17), args := #[Operand.tmp 24], argTypes := #[30] }, type := 26, pos := "law.go:137", after := #[{ on := 2, ground := Ground.data }], guard := none }) rfl (fun K hK => ?_) ?_
        · rw [if_pos (by rfl)]
          go_simp
          go_wp2_with ((go_at_call 17; (with_reducible refine (HL.out _ HB0.out).mono ?_); rintro e w3 ⟨rfl, hb⟩; have HB0 := Lib.hid (below_next HB0.out hb); (try have HR7 := Lib.hid (HR7.out.keep hb)); (try have HR8 := Lib.hid (HR8.out.keep hb)); (try have HG := Lib.hid (HG.out.keep hb)); clear hb))
          refine hK.out _ _ HB0.out (fun _ => ?_)
          clear hK K
          try simp only [Act.put, List.setIfInBounds_toArray, List.set_cons_zero, List.set_cons_succ]
          refine wpAnyH_ready (rs := [5, 7, 8]) (by kernel_rfl) (by simp) ?_
          refine AllReadyH.cons (o := { dst := some 27, op := Op.buildSlice 30 1 #[(0, Operand.tmp 26)], type := 30, pos := "law.go:137", after := #[{ on := 4, ground := Ground.data }], guard := none }) rfl (fun K hK => ?_) ?_
          · rw [if_pos (by rfl)]
            ((refine wp_one' _ rfl d HDL.out rfl ?_; intro g w12 hrow hg hb; (try have HR7 := Lib.hid (HR7.out.keep hb)); (try have HR8 := Lib.hid (HR8.out.keep hb)); have HG := Lib.hid hrow; have HB0 := Lib.hid (below_next HB0.out hb); clear hrow hg hb))
            refine hK.out _ _ HB0.out (fun _ => ?_)
            clear hK K
            try simp only [Act.put, List.setIfInBounds_toArray, List.set_cons_zero, List.set_cons_succ]
            refine wpAnyH_ready (rs := [6, 7, 8]) (by kernel_rfl) (by simp) ?_
            refine AllReadyH.cons (o := { dst := some 28, op := Op.call { callee := Callee.value (Operand.func 17), args := #[Operand.tmp 27], argTypes := #[30] }, type := 26, pos := "law.go:137", after := #[{ on := 5, ground := Ground.data }, { on := 3, ground := Ground.chain }], guard := none }) rfl (fun K hK => ?_) ?_
            · rw [if_pos (by rfl)]
              go_simp
              go_wp2_with ((go_at_call 17; (refine (HLd.out _ _ HB0.out (drest_one' HG.out HDL.out)).mono ?_); rintro e w4 ⟨rfl, hb⟩; have HB0 := Lib.hid (below_next HB0.out hb); (try have HR7 := Lib.hid (HR7.out.keep hb)); (try have HR8 := Lib.hid (HR8.out.keep hb)); clear hb))
              refine hK.out _ _ HB0.out (fun _ => ?_)
              clear hK K
              try simp only [Act.put, List.setIfInBounds_toArray, List.set_cons_zero, List.set_cons_succ]
              refine wpAnyH_ready (rs := [7, 8]) (by kernel_rfl) (by simp) ?_
              refine AllReadyH.cons (o := { dst := some 7, op := Op.alloc 26, type := 0, pos := "law.go:137", after := #[], guard := none }) rfl (fun K hK => ?_) ?_
              · rw [if_pos (by rfl)]
                ((refine wp_alloc_dig 7 rfl rfl ?_; intro g7 w5 hg hrow hb; have hge7 : wr.heap.size ≤ g7 := (by have := HB0.out.size; omega); (try have hne : g7 ≠ g8 := (by have := HR8.out.lt; omega)); have HR7 := Lib.hid hrow; (try have HR8 := Lib.hid (HR8.out.keep hb)); (try have HG := Lib.hid (HG.out.keep hb)); have HB0 := Lib.hid (below_next HB0.out hb); clear hg hrow hb))
                refine hK.out _ _ HB0.out (fun _ => ?_)
                clear hK K
                try simp only [Act.put, List.setIfInBounds_toArray, List.set_cons_zero, List.set_cons_succ]
                refine wpAnyH_ready (rs := [8]) (by kernel_rfl) (by simp) ?_
                refine AllReadyH.cons (o := { dst := some 8, op := Op.alloc 26, type := 0, pos := "law.go:137", after := #[], guard := none }) rfl (fun K hK => ?_) ?_
                · rw [if_pos (by rfl)]
                  ((refine wp_alloc_dig 8 rfl rfl ?_; intro g8 w6 hg hrow hb; have hge8 : wr.heap.size ≤ g8 := (by have := HB0.out.size; omega); (try have hne : g7 ≠ g8 := (by have := HR7.out.lt; omega)); have HR8 := Lib.hid hrow; (try have HR7 := Lib.hid (HR7.out.keep hb)); (try have HG := Lib.hid (HG.out.keep hb)); have HB0 := Lib.hid (below_next HB0.out hb); clear hg hrow hb))
                  refine hK.out _ _ HB0.out (fun _ => ?_)
                  clear hK K
                  try simp only [Act.put, List.setIfInBounds_toArray, List.set_cons_zero, List.set_cons_succ]
                  refine wpAnyH_ready (rs := [9]) (by kernel_rfl) (by simp) ?_
                  refine AllReadyH.cons (o := { dst := none, op := Op.store 26 (Operand.tmp 7) (Operand.tmp 25), type := 0, pos := "law.go:137", after := #[{ on := 7, ground := Ground.data }, { on := 3, ground := Ground.data }, { on := 6, ground := Ground.chain }, { on := 0, ground := Ground.phase }, { on := 1, ground := Ground.phase }, { on := 2, ground := Ground.phase }, { on := 3, ground := Ground.phase }, { on := 4, ground := Ground.textOnly Departure.lateStores }, { on := 5, ground := Ground.textOnly Departure.lateStoresUnsure }, { on := 6, ground := Ground.phase }, { on := 7, ground := Ground.phase }, { on := 8, ground := Ground.phase }], guard := none }) rfl (fun K hK => ?_) ?_
                  · rw [if_pos (by rfl)]
                    ((refine wp_store_dig' _ _ rfl g7 tA HLA.out rfl rfl HR7.out HB0.out hge7 ?_; intro w' hrow hb hoth; have HR8 := Lib.hid (hoth _ _ _ (fun h => hne h.symm) HR8.out); have HR7 := Lib.hid hrow; have HB0 := Lib.hid hb; clear hrow hb hoth))
                    refine hK.out _ _ HB0.out (fun _ => ?_)
                    clear hK K
                    try simp only [Act.put]
                    refine wpAnyH_ready (rs := [10]) (by kernel_rfl) (by simp) ?_
                    refine AllReadyH.cons (o := { dst := none, op := Op.store 26 (Operand.tmp 8) (Operand.tmp 28), type := 0, pos := "law.go:137", after := #[{ on := 8, ground := Ground.data }, { on := 6, ground := Ground.data }, { on := 9, ground := Ground.chain }, { on := 0, ground := Ground.phase }, { on := 1, ground := Ground.phase }, { on := 2, ground := Ground.phase }, { on := 3, ground := Ground.phase }, { on := 4, ground := Ground.phase }, { on := 5, ground := Ground.phase }, { on := 6, ground := Ground.phase }, { on := 7, ground := Ground.phase }, { on := 8, ground := Ground.phase }, { on := 9, ground := Ground.phase }], guard := none }) rfl (fun K hK => ?_) ?_
                    · rw [if_pos (by rfl)]
                      ((refine wp_store_dig' _ _ rfl g8 tB HLB.out rfl rfl HR8.out HB0.out hge8 ?_; intro w' hrow hb hoth; have HR7 := Lib.hid (hoth _ _ _ hne HR7.out); have HR8 := Lib.hid hrow; have HB0 := Lib.hid hb; clear hrow hb hoth))
                      refine hK.out _ _ HB0.out (fun _ => ?_)
                      clear hK K
                      try simp only [Act.put]
                      refine wpAnyH_done (by kernel_rfl) ?_ _
                      ((exact K g7 g8 g _ ⟨HR7.out, HR8.out, HB0.out⟩))
                    exact AllReadyH.nil
                  exact AllReadyH.nil
                exact AllReadyH.nil
              refine AllReadyH.cons (o := { dst := some 8, op := Op.alloc 26, type := 0, pos := "law.go:137", after := #[], guard := none }) rfl (fun K hK => ?_) ?_
              · rw [if_pos (by rfl)]
                ((refine wp_alloc_dig 8 rfl rfl ?_; intro g8 w6 hg hrow hb; have hge8 : wr.heap.size ≤ g8 := (by have := HB0.out.size; omega); (try have hne : g7 ≠ g8 := (by have := HR7.out.lt; omega)); have HR8 := Lib.hid hrow; (try have HR7 := Lib.hid (HR7.out.keep hb)); (try have HG := Lib.hid (HG.out.keep hb)); have HB0 := Lib.hid (below_next HB0.out hb); clear hg hrow hb))
                refine hK.out _ _ HB0.out (fun _ => ?_)
                clear hK K
                try simp only [Act.put, List.setIfInBounds_toArray, List.set_cons_zero, List.set_cons_succ]
                refine wpAnyH_ready (rs := [7]) (by kernel_rfl) (by simp) ?_
                refine AllReadyH.cons (o := { dst := some 7, op := Op.alloc 26, type := 0, pos := "law.go:137", after := #[], guard := none }) rfl (fun K hK => ?_) ?_
                · rw [if_pos (by rfl)]
                  ((refine wp_alloc_dig 7 rfl rfl ?_; intro g7 w5 hg hrow hb; have hge7 : wr.heap.size ≤ g7 := (by have := HB0.out.size; omega); (try have hne : g7 ≠ g8 := (by have := HR8.out.lt; omega)); have HR7 := Lib.hid hrow; (try have HR8 := Lib.hid (HR8.out.keep hb)); (try have HG := Lib.hid (HG.out.keep hb)); have HB0 := Lib.hid (below_next HB0.out hb); clear hg hrow hb))
                  refine hK.out _ _ HB0.out (fun _ => ?_)
                  clear hK K
                  try simp only [Act.put, List.setIfInBounds_toArray, List.set_cons_zero, List.set_cons_succ]
                  refine wpAnyH_ready (rs := [9]) (by kernel_rfl) (by simp) ?_
                  refine AllReadyH.cons (o := { dst := none, op := Op.store 26 (Operand.tmp 7) (Operand.tmp 25), type := 0, pos := "law.go:137", after := #[{ on := 7, ground := Ground.data }, { on := 3, ground := Ground.data }, { on := 6, ground := Ground.chain }, { on := 0, ground := Ground.phase }, { on := 1, ground := Ground.phase }, { on := 2, ground := Ground.phase }, { on := 3, ground := Ground.phase }, { on := 4, ground := Ground.textOnly Departure.lateStores }, { on := 5, ground := Ground.textOnly Departure.lateStoresUnsure }, { on := 6, ground := Ground.phase }, { on := 7, ground := Ground.phase }, { on := 8, ground := Ground.phase }], guard := none }) rfl (fun K hK => ?_) ?_
                  · rw [if_pos (by rfl)]
                    ((refine wp_store_dig' _ _ rfl g7 tA HLA.out rfl rfl HR7.out HB0.out hge7 ?_; intro w' hrow hb hoth; have HR8 := Lib.hid (hoth _ _ _ (fun h => hne h.symm) HR8.out); have HR7 := Lib.hid hrow; have HB0 := Lib.hid hb; clear hrow hb hoth))
                    refine hK.out _ _ HB0.out (fun _ => ?_)
                    clear hK K
                    try simp only [Act.put]
                    refine wpAnyH_ready (rs := [10]) (by kernel_rfl) (by simp) ?_
                    refine AllReadyH.cons (o := { dst := none, op := Op.store 26 (Operand.tmp 8) (Operand.tmp 28), type := 0, pos := "law.go:137", after := #[{ on := 8, ground := Ground.data }, { on := 6, ground := Ground.data }, { on := 9, ground := Ground.chain }, { on := 0, ground := Ground.phase }, { on := 1, ground := Ground.phase }, { on := 2, ground := Ground.phase }, { on := 3, ground := Ground.phase }, { on := 4, ground := Ground.phase }, { on := 5, ground := Ground.phase }, { on := 6, ground := Ground.phase }, { on := 7, ground := Ground.phase }, { on := 8, ground := Ground.phase }, { on := 9, ground := Ground.phase }], guard := none }) rfl (fun K hK => ?_) ?_
                    · rw [if_pos (by rfl)]
                      ((refine wp_store_dig' _ _ rfl g8 tB HLB.out rfl rfl HR8.out HB0.out hge8 ?_; intro w' hrow hb hoth; have HR7 := Lib.hid (hoth _ _ _ hne HR7.out); have HR8 := Lib.hid hrow; have HB0 := Lib.hid hb; clear hrow hb hoth))
                      refine hK.out _ _ HB0.out (fun _ => ?_)
                      clear hK K
                      try simp only [Act.put]
                      refine wpAnyH_done (by kernel_rfl) ?_ _
                      ((exact K g7 g8 g _ ⟨HR7.out, HR8.out, HB0.out⟩))
                    exact AllReadyH.nil
                  exact AllReadyH.nil
                exact AllReadyH.nil
              exact AllReadyH.nil
            refine AllReadyH.cons (o := { dst := some 7, op := Op.alloc 26, type := 0, pos := "law.go:137", after := #[], guard := none }) rfl (fun K hK => ?_) ?_
            · rw [if_pos (by rfl)]
              ((refine wp_alloc_dig 7 rfl rfl ?_; intro g7 w5 hg hrow hb; have hge7 : wr.heap.size ≤ g7 := (by have := HB0.out.size; omega); (try have hne : g7 ≠ g8 := (by have := HR8.out.lt; omega)); have HR7 := Lib.hid hrow; (try have HR8 := Lib.hid (HR8.out.keep hb)); (try have HG := Lib.hid (HG.out.keep hb)); have HB0 := Lib.hid (below_next HB0.out hb); clear hg hrow hb))
              refine hK.out _ _ HB0.out (fun _ => ?_)
              clear hK K
              try simp only [Act.put, List.setIfInBounds_toArray, List.set_cons_zero, List.set_cons_succ]
              refine wpAnyH_ready (rs := [6, 8]) (by kernel_rfl) (by simp) ?_
              refine AllReadyH.cons (o := { dst := some 28, op := Op.call { callee := Callee.value (Operand.func 17), args := #[Operand.tmp 27], argTypes := #[30] }, type := 26, pos := "law.go:137", after := #[{ on := 5, ground := Ground.data }, { on := 3, ground := Ground.chain }], guard := none }) rfl (fun K hK => ?_) ?_
              · rw [if_pos (by rfl)]
                go_simp
                go_wp2_with ((go_at_call 17; (refine (HLd.out _ _ HB0.out (drest_one' HG.out HDL.out)).mono ?_); rintro e w4 ⟨rfl, hb⟩; have HB0 := Lib.hid (below_next HB0.out hb); (try have HR7 := Lib.hid (HR7.out.keep hb)); (try have HR8 := Lib.hid (HR8.out.keep hb)); clear hb))
                refine hK.out _ _ HB0.out (fun _ => ?_)
                clear hK K
                try simp only [Act.put, List.setIfInBounds_toArray, List.set_cons_zero, List.set_cons_succ]
                refine wpAnyH_ready (rs := [8]) (by kernel_rfl) (by simp) ?_
                refine AllReadyH.cons (o := { dst := some 8, op := Op.alloc 26, type := 0, pos := "law.go:137", after := #[], guard := none }) rfl (fun K hK => ?_) ?_
                · rw [if_pos (by rfl)]
                  ((refine wp_alloc_dig 8 rfl rfl ?_; intro g8 w6 hg hrow hb; have hge8 : wr.heap.size ≤ g8 := (by have := HB0.out.size; omega); (try have hne : g7 ≠ g8 := (by have := HR7.out.lt; omega)); have HR8 := Lib.hid hrow; (try have HR7 := Lib.hid (HR7.out.keep hb)); (try have HG := Lib.hid (HG.out.keep hb)); have HB0 := Lib.hid (below_next HB0.out hb); clear hg hrow hb))
                  refine hK.out _ _ HB0.out (fun _ => ?_)
                  clear hK K
                  try simp only [Act.put, List.setIfInBounds_toArray, List.set_cons_zero, List.set_cons_succ]
                  refine wpAnyH_ready (rs := [9]) (by kernel_rfl) (by simp) ?_
                  refine AllReadyH.cons (o := { dst := none, op := Op.store 26 (Operand.tmp 7) (Operand.tmp 25), type := 0, pos := "law.go:137", after := #[{ on := 7, ground := Ground.data }, { on := 3, ground := Ground.data }, { on := 6, ground := Ground.chain }, { on := 0, ground := Ground.phase }, { on := 1, ground := Ground.phase }, { on := 2, ground := Ground.phase }, { on := 3, ground := Ground.phase }, { on := 4, ground := Ground.textOnly Departure.lateStores }, { on := 5, ground := Ground.textOnly Departure.lateStoresUnsure }, { on := 6, ground := Ground.phase }, { on := 7, ground := Ground.phase }, { on := 8, ground := Ground.phase }], guard := none }) rfl (fun K hK => ?_) ?_
                  · rw [if_pos (by rfl)]
                    ((refine wp_store_dig' _ _ rfl g7 tA HLA.out rfl rfl HR7.out HB0.out hge7 ?_; intro w' hrow hb hoth; have HR8 := Lib.hid (hoth _ _ _ (fun h => hne h.symm) HR8.out); have HR7 := Lib.hid hrow; have HB0 := Lib.hid hb; clear hrow hb hoth))
                    refine hK.out _ _ HB0.out (fun _ => ?_)
                    clear hK K
                    try simp only [Act.put]
                    refine wpAnyH_ready (rs := [10]) (by kernel_rfl) (by simp) ?_
                    refine AllReadyH.cons (o := { dst := none, op := Op.store 26 (Operand.tmp 8) (Operand.tmp 28), type := 0, pos := "law.go:137", after := #[{ on := 8, ground := Ground.data }, { on := 6, ground := Ground.data }, { on := 9, ground := Ground.chain }, { on := 0, ground := Ground.phase }, { on := 1, ground := Ground.phase }, { on := 2, ground := Ground.phase }, { on := 3, ground := Ground.phase }, { on := 4, ground := Ground.phase }, { on := 5, ground := Ground.phase }, { on := 6, ground := Ground.phase }, { on := 7, ground := Ground.phase }, { on := 8, ground := Ground.phase }, { on := 9, ground := Ground.phase }], guard := none }) rfl (fun K hK => ?_) ?_
                    · rw [if_pos (by rfl)]
                      ((refine wp_store_dig' _ _ rfl g8 tB HLB.out rfl rfl HR8.out HB0.out hge8 ?_; intro w' hrow hb hoth; have HR7 := Lib.hid (hoth _ _ _ hne HR7.out); have HR8 := Lib.hid hrow; have HB0 := Lib.hid hb; clear hrow hb hoth))
                      refine hK.out _ _ HB0.out (fun _ => ?_)
                      clear hK K
                      try simp only [Act.put]
                      refine wpAnyH_done (by kernel_rfl) ?_ _
                      ((exact K g7 g8 g _ ⟨HR7.out, HR8.out, HB0.out⟩))
                    exact AllReadyH.nil
                  exact AllReadyH.nil
                exact AllReadyH.nil
              refine AllReadyH.cons (o := { dst := some 8, op := Op.alloc 26, type := 0, pos := "law.go:137", after := #[], guard := none }) rfl (fun K hK => ?_) ?_
              · rw [if_pos (by rfl)]
                ((refine wp_alloc_dig 8 rfl rfl ?_; intro g8 w6 hg hrow hb; have hge8 : wr.heap.size ≤ g8 := (by have := HB0.out.size; omega); (try have hne : g7 ≠ g8 := (by have := HR7.out.lt; omega)); have HR8 := Lib.hid hrow; (try have HR7 := Lib.hid (HR7.out.keep hb)); (try have HG := Lib.hid (HG.out.keep hb)); have HB0 := Lib.hid (below_next HB0.out hb); clear hg hrow hb))
                refine hK.out _ _ HB0.out (fun _ => ?_)
                clear hK K
                try simp only [Act.put, List.setIfInBounds_toArray, List.set_cons_zero, List.set_cons_succ]
                refine wpAnyH_ready (rs := [6]) (by kernel_rfl) (by simp) ?_
                refine AllReadyH.cons (o := { dst := some 28, op := Op.call { callee := Callee.value (Operand.func 17), args := #[Operand.tmp 27], argTypes := #[30] }, type := 26, pos := "law.go:137", after := #[{ on := 5, ground := Ground.data }, { on := 3, ground := Ground.chain }], guard := none }) rfl (fun K hK => ?_) ?_
                · rw [if_pos (by rfl)]
                  go_simp
                  go_wp2_with ((go_at_call 17; (refine (HLd.out _ _ HB0.out (drest_one' HG.out HDL.out)).mono ?_); rintro e w4 ⟨rfl, hb⟩; have HB0 := Lib.hid (below_next HB0.out hb); (try have HR7 := Lib.hid (HR7.out.keep hb)); (try have HR8 := Lib.hid (HR8.out.keep hb)); clear hb))
                  refine hK.out _ _ HB0.out (fun _ => ?_)
                  clear hK K
                  try simp only [Act.put, List.setIfInBounds_toArray, List.set_cons_zero, List.set_cons_succ]
                  refine wpAnyH_ready (rs := [9]) (by kernel_rfl) (by simp) ?_
                  refine AllReadyH.cons (o := { dst := none, op := Op.store 26 (Operand.tmp 7) (Operand.tmp 25), type := 0, pos := "law.go:137", after := #[{ on := 7, ground := Ground.data }, { on := 3, ground := Ground.data }, { on := 6, ground := Ground.chain }, { on := 0, ground := Ground.phase }, { on := 1, ground := Ground.phase }, { on := 2, ground := Ground.phase }, { on := 3, ground := Ground.phase }, { on := 4, ground := Ground.textOnly Departure.lateStores }, { on := 5, ground := Ground.textOnly Departure.lateStoresUnsure }, { on := 6, ground := Ground.phase }, { on := 7, ground := Ground.phase }, { on := 8, ground := Ground.phase }], guard := none }) rfl (fun K hK => ?_) ?_
                  · rw [if_pos (by rfl)]
                    ((refine wp_store_dig' _ _ rfl g7 tA HLA.out rfl rfl HR7.out HB0.out hge7 ?_; intro w' hrow hb hoth; have HR8 := Lib.hid (hoth _ _ _ (fun h => hne h.symm) HR8.out); have HR7 := Lib.hid hrow; have HB0 := Lib.hid hb; clear hrow hb hoth))
                    refine hK.out _ _ HB0.out (fun _ => ?_)
                    clear hK K
                    try simp only [Act.put]
                    refine wpAnyH_ready (rs := [10]) (by kernel_rfl) (by simp) ?_
                    refine AllReadyH.cons (o := { dst := none, op := Op.store 26 (Operand.tmp 8) (Operand.tmp 28), type := 0, pos := "law.go:137", after := #[{ on := 8, ground := Ground.data }, { on := 6, ground := Ground.data }, { on := 9, ground := Ground.chain }, { on := 0, ground := Ground.phase }, { on := 1, ground := Ground.phase }, { on := 2, ground := Ground.phase }, { on := 3, ground := Ground.phase }, { on := 4, ground := Ground.phase }, { on := 5, ground := Ground.phase }, { on := 6, ground := Ground.phase }, { on := 7, ground := Ground.phase }, { on := 8, ground := Ground.phase }, { on := 9, ground := Ground.phase }], guard := none }) rfl (fun K hK => ?_) ?_
                    · rw [if_pos (by rfl)]
                      ((refine wp_store_dig' _ _ rfl g8 tB HLB.out rfl rfl HR8.out HB0.out hge8 ?_; intro w' hrow hb hoth; have HR7 := Lib.hid (hoth _ _ _ hne HR7.out); have HR8 := Lib.hid hrow; have HB0 := Lib.hid hb; clear hrow hb hoth))
                      refine hK.out _ _ HB0.out (fun _ => ?_)
                      clear hK K
                      try simp only [Act.put]
                      refine wpAnyH_done (by kernel_rfl) ?_ _
                      ((exact K g7 g8 g _ ⟨HR7.out, HR8.out, HB0.out⟩))
                    exact AllReadyH.nil
                  exact AllReadyH.nil
                exact AllReadyH.nil
              exact AllReadyH.nil
            refine AllReadyH.cons (o := { dst := some 8, op := Op.alloc 26, type := 0, pos := "law.go:137", after := #[], guard := none }) rfl (fun K hK => ?_) ?_
            · rw [if_pos (by rfl)]
              ((refine wp_alloc_dig 8 rfl rfl ?_; intro g8 w6 hg hrow hb; have hge8 : wr.heap.size ≤ g8 := (by have := HB0.out.size; omega); (try have hne : g7 ≠ g8 := (by have := HR7.out.lt; omega)); have HR8 := Lib.hid hrow; (try have HR7 := Lib.hid (HR7.out.keep hb)); (try have HG := Lib.hid (HG.out.keep hb)); have HB0 := Lib.hid (below_next HB0.out hb); clear hg hrow hb))
              refine hK.out _ _ HB0.out (fun _ => ?_)
              clear hK K
              try simp only [Act.put, List.setIfInBounds_toArray, List.set_cons_zero, List.set_cons_succ]
              refine wpAnyH_ready (rs := [6, 7]) (by kernel_rfl) (by simp) ?_
              refine AllReadyH.cons (o := { dst := some 28, op := Op.call { callee := Callee.value (Operand.func 17), args := #[Operand.tmp 27], argTypes := #[30] }, type := 26, pos := "law.go:137", after := #[{ on := 5, ground := Ground.data }, { on := 3, ground := Ground.chain }], guard := none }) rfl (fun K hK => ?_) ?_
              · rw [if_pos (by rfl)]
                go_simp
                go_wp2_with ((go_at_call 17; (refine (HLd.out _ _ HB0.out (drest_one' HG.out HDL.out)).mono ?_); rintro e w4 ⟨rfl, hb⟩; have HB0 := Lib.hid (below_next HB0.out hb); (try have HR7 := Lib.hid (HR7.out.keep hb)); (try have HR8 := Lib.hid (HR8.out.keep hb)); clear hb))
                refine hK.out _ _ HB0.out (fun _ => ?_)
                clear hK K
                try simp only [Act.put, List.setIfInBounds_toArray, List.set_cons_zero, List.set_cons_succ]
                refine wpAnyH_ready (rs := [7]) (by kernel_rfl) (by simp) ?_
                refine AllReadyH.cons (o := { dst := some 7, op := Op.alloc 26, type := 0, pos := "law.go:137", after := #[], guard := none }) rfl (fun K hK => ?_) ?_
                · rw [if_pos (by rfl)]
                  ((refine wp_alloc_dig 7 rfl rfl ?_; intro g7 w5 hg hrow hb; have hge7 : wr.heap.size ≤ g7 := (by have := HB0.out.size; omega); (try have hne : g7 ≠ g8 := (by have := HR8.out.lt; omega)); have HR7 := Lib.hid hrow; (try have HR8 := Lib.hid (HR8.out.keep hb)); (try have HG := Lib.hid (HG.out.keep hb)); have HB0 := Lib.hid (below_next HB0.out hb); clear hg hrow hb))
                  refine hK.out _ _ HB0.out (fun _ => ?_)
                  clear hK K
                  try simp only [Act.put, List.setIfInBounds_toArray, List.set_cons_zero, List.set_cons_succ]
                  refine wpAnyH_ready (rs := [9]) (by kernel_rfl) (by simp) ?_
                  refine AllReadyH.cons (o := { dst := none, op := Op.store 26 (Operand.tmp 7) (Operand.tmp 25), type := 0, pos := "law.go:137", after := #[{ on := 7, ground := Ground.data }, { on := 3, ground := Ground.data }, { on := 6, ground := Ground.chain }, { on := 0, ground := Ground.phase }, { on := 1, ground := Ground.phase }, { on := 2, ground := Ground.phase }, { on := 3, ground := Ground.phase }, { on := 4, ground := Ground.textOnly Departure.lateStores }, { on := 5, ground := Ground.textOnly Departure.lateStoresUnsure }, { on := 6, ground := Ground.phase }, { on := 7, ground := Ground.phase }, { on := 8, ground := Ground.phase }], guard := none }) rfl (fun K hK => ?_) ?_
                  · rw [if_pos (by rfl)]
                    ((refine wp_store_dig' _ _ rfl g7 tA HLA.out rfl rfl HR7.out HB0.out hge7 ?_; intro w' hrow hb hoth; have HR8 := Lib.hid (hoth _ _ _ (fun h => hne h.symm) HR8.out); have HR7 := Lib.hid hrow; have HB0 := Lib.hid hb; clear hrow hb hoth))
                    refine hK.out _ _ HB0.out (fun _ => ?_)
                    clear hK K
                    try simp only [Act.put]
                    refine wpAnyH_ready (rs := [10]) (by kernel_rfl) (by simp) ?_
                    refine AllReadyH.cons (o := { dst := none, op := Op.store 26 (Operand.tmp 8) (Operand.tmp 28), type := 0, pos := "law.go:137", after := #[{ on := 8, ground := Ground.data }, { on := 6, ground := Ground.data }, { on := 9, ground := Ground.chain }, { on := 0, ground := Ground.phase }, { on := 1, ground := Ground.phase }, { on := 2, ground := Ground.phase }, { on := 3, ground := Ground.phase }, { on := 4, ground := Ground.phase }, { on := 5, ground := Ground.phase }, { on := 6, ground := Ground.phase }, { on := 7, ground := Ground.phase }, { on := 8, ground := Ground.phase }, { on := 9, ground := Ground.phase }], guard := none }) rfl (fun K hK => ?_) ?_
                    · rw [if_pos (by rfl)]
                      ((refine wp_store_dig' _ _ rfl g8 tB HLB.out rfl rfl HR8.out HB0.out hge8 ?_; intro w' hrow hb hoth; have HR7 := Lib.hid (hoth _ _ _ hne HR7.out); have HR8 := Lib.hid hrow; have HB0 := Lib.hid hb; clear hrow hb hoth))
                      refine hK.out _ _ HB0.out (fun _ => ?_)
                      clear hK K
                      try simp only [Act.put]
                      refine wpAnyH_done (by kernel_rfl) ?_ _
                      ((exact K g7 g8 g _ ⟨HR7.out, HR8.out, HB0.out⟩))
                    exact AllReadyH.nil
                  exact AllReadyH.nil
                exact AllReadyH.nil
              refine AllReadyH.cons (o := { dst := some 7, op := Op.alloc 26, type := 0, pos := "law.go:137", after := #[], guard := none }) rfl (fun K hK => ?_) ?_
              · rw [if_pos (by rfl)]
                ((refine wp_alloc_dig 7 rfl rfl ?_; intro g7 w5 hg hrow hb; have hge7 : wr.heap.size ≤ g7 := (by have := HB0.out.size; omega); (try have hne : g7 ≠ g8 := (by have := HR8.out.lt; omega)); have HR7 := Lib.hid hrow; (try have HR8 := Lib.hid (HR8.out.keep hb)); (try have HG := Lib.hid (HG.out.keep hb)); have HB0 := Lib.hid (below_next HB0.out hb); clear hg hrow hb))
                refine hK.out _ _ HB0.out (fun _ => ?_)
                clear hK K
                try simp only [Act.put, List.setIfInBounds_toArray, List.set_cons_zero, List.set_cons_succ]
                refine wpAnyH_ready (rs := [6]) (by kernel_rfl) (by simp) ?_
                refine AllReadyH.cons (o := { dst := some 28, op := Op.call { callee := Callee.value (Operand.func 17), args := #[Operand.tmp 27], argTypes := #[30] }, type := 26, pos := "law.go:137", after := #[{ on := 5, ground := Ground.data }, { on := 3, ground := Ground.chain }], guard := none }) rfl (fun K hK => ?_) ?_
                · rw [if_pos (by rfl)]
                  go_simp
                  go_wp2_with ((go_at_call 17; (refine (HLd.out _ _ HB0.out (drest_one' HG.out HDL.out)).mono ?_); rintro e w4 ⟨rfl, hb⟩; have HB0 := Lib.hid (below_next HB0.out hb); (try have HR7 := Lib.hid (HR7.out.keep hb)); (try have HR8 := Lib.hid (HR8.out.keep hb)); clear hb))
                  refine hK.out _ _ HB0.out (fun _ => ?_)
                  clear hK K
                  try simp only [Act.put, List.setIfInBounds_toArray, List.set_cons_zero, List.set_cons_succ]
                  refine wpAnyH_ready (rs := [9]) (by kernel_rfl) (by simp) ?_
                  refine AllReadyH.cons (o := { dst := none, op := Op.store 26 (Operand.tmp 7) (Operand.tmp 25), type := 0, pos := "law.go:137", after := #[{ on := 7, ground := Ground.data }, { on := 3, ground := Ground.data }, { on := 6, ground := Ground.chain }, { on := 0, ground := Ground.phase }, { on := 1, ground := Ground.phase }, { on := 2, ground := Ground.phase }, { on := 3, ground := Ground.phase }, { on := 4, ground := Ground.textOnly Departure.lateStores }, { on := 5, ground := Ground.textOnly Departure.lateStoresUnsure }, { on := 6, ground := Ground.phase }, { on := 7, ground := Ground.phase }, { on := 8, ground := Ground.phase }], guard := none }) rfl (fun K hK => ?_) ?_
                  · rw [if_pos (by rfl)]
                    ((refine wp_store_dig' _ _ rfl g7 tA HLA.out rfl rfl HR7.out HB0.out hge7 ?_; intro w' hrow hb hoth; have HR8 := Lib.hid (hoth _ _ _ (fun h => hne h.symm) HR8.out); have HR7 := Lib.hid hrow; have HB0 := Lib.hid hb; clear hrow hb hoth))
                    refine hK.out _ _ HB0.out (fun _ => ?_)
                    clear hK K
                    try simp only [Act.put]
                    refine wpAnyH_ready (rs := [10]) (by kernel_rfl) (by simp) ?_
                    refine AllReadyH.cons (o := { dst := none, op := Op.store 26 (Operand.tmp 8) (Operand.tmp 28), type := 0, pos := "law.go:137", after := #[{ on := 8, ground := Ground.data }, { on := 6, ground := Ground.data }, { on := 9, ground := Ground.chain }, { on := 0, ground := Ground.phase }, { on := 1, ground := Ground.phase }, { on := 2, ground := Ground.phase }, { on := 3, ground := Ground.phase }, { on := 4, ground := Ground.phase }, { on := 5, ground := Ground.phase }, { on := 6, ground := Ground.phase }, { on := 7, ground := Ground.phase }, { on := 8, ground := Ground.phase }, { on := 9, ground := Ground.phase }], guard := none }) rfl (fun K hK => ?_) ?_
                    · rw [if_pos (by rfl)]
                      ((refine wp_store_dig' _ _ rfl g8 tB HLB.out rfl rfl HR8.out HB0.out hge8 ?_; intro w' hrow hb hoth; have HR7 := Lib.hid (hoth _ _ _ hne HR7.out); have HR8 := Lib.hid hrow; have HB0 := Lib.hid hb; clear hrow hb hoth))
                      refine hK.out _ _ HB0.out (fun _ => ?_)
                      clear hK K
                      try simp only [Act.put]
                      refine wpAnyH_done (by kernel_rfl) ?_ _
                      ((exact K g7 g8 g _ ⟨HR7.out, HR8.out, HB0.out⟩))
                    exact AllReadyH.nil
                  exact AllReadyH.nil
                exact AllReadyH.nil
              exact AllReadyH.nil
            exact AllReadyH.nil
          refine AllReadyH.cons (o := { dst := some 7, op := Op.alloc 26, type := 0, pos := "law.go:137", after := #[], guard := none }) rfl (fun K hK => ?_) ?_
          · rw [if_pos (by rfl)]
            ((refine wp_alloc_dig 7 rfl rfl ?_; intro g7 w5 hg hrow hb; have hge7 : wr.heap.size ≤ g7 := (by have := HB0.out.size; omega); (try have hne : g7 ≠ g8 := (by have := HR8.out.lt; omega)); have HR7 := Lib.hid hrow; (try have HR8 := Lib.hid (HR8.out.keep hb)); (try have HG := Lib.hid (HG.out.keep hb)); have HB0 := Lib.hid (below_next HB0.out hb); clear hg hrow hb))
            refine hK.out _ _ HB0.out (fun _ => ?_)
            clear hK K
            try simp only [Act.put, List.setIfInBounds_toArray, List.set_cons_zero, List.set_cons_succ]
            refine wpAnyH_ready (rs := [5, 8]) (by kernel_rfl) (by simp) ?_
            refine AllReadyH.cons (o := { dst := some 27, op := Op.buildSlice 30 1 #[(0, Operand.tmp 26)], type := 30, pos := "law.go:137", after := #[{ on := 4, ground := Ground.data }], guard := none }) rfl (fun K hK => ?_) ?_
            · rw [if_pos (by rfl)]
              ((refine wp_one' _ rfl d HDL.out rfl ?_; intro g w12 hrow hg hb; (try have HR7 := Lib.hid (HR7.out.keep hb)); (try have HR8 := Lib.hid (HR8.out.keep hb)); have HG := Lib.hid hrow; have HB0 := Lib.hid (below_next HB0.out hb); clear hrow hg hb))
              refine hK.out _ _ HB0.out (fun _ => ?_)
              clear hK K
              try simp only [Act.put, List.setIfInBounds_toArray, List.set_cons_zero, List.set_cons_succ]
              refine wpAnyH_ready (rs := [6, 8]) (by kernel_rfl) (by simp) ?_
              refine AllReadyH.cons (o := { dst := some 28, op := Op.call { callee := Callee.value (Operand.func 17), args := #[Operand.tmp 27], argTypes := #[30] }, type := 26, pos := "law.go:137", after := #[{ on := 5, ground := Ground.data }, { on := 3, ground := Ground.chain }], guard := none }) rfl (fun K hK => ?_) ?_
              · rw [if_pos (by rfl)]
                go_simp
                go_wp2_with ((go_at_call 17; (refine (HLd.out _ _ HB0.out (drest_one' HG.out HDL.out)).mono ?_); rintro e w4 ⟨rfl, hb⟩; have HB0 := Lib.hid (below_next HB0.out hb); (try have HR7 := Lib.hid (HR7.out.keep hb)); (try have HR8 := Lib.hid (HR8.out.keep hb)); clear hb))
                refine hK.out _ _ HB0.out (fun _ => ?_)
                clear hK K
                try simp only [Act.put, List.setIfInBounds_toArray, List.set_cons_zero, List.set_cons_succ]
                refine wpAnyH_ready (rs := [8]) (by kernel_rfl) (by simp) ?_
                refine AllReadyH.cons (o := { dst := some 8, op := Op.alloc 26, type := 0, pos := "law.go:137", after := #[], guard := none }) rfl (fun K hK => ?_) ?_
                · rw [if_pos (by rfl)]
                  ((refine wp_alloc_dig 8 rfl rfl ?_; intro g8 w6 hg hrow hb; have hge8 : wr.heap.size ≤ g8 := (by have := HB0.out.size; omega); (try have hne : g7 ≠ g8 := (by have := HR7.out.lt; omega)); have HR8 := Lib.hid hrow; (try have HR7 := Lib.hid (HR7.out.keep hb)); (try have HG := Lib.hid (HG.out.keep hb)); have HB0 := Lib.hid (below_next HB0.out hb); clear hg hrow hb))
                  refine hK.out _ _ HB0.out (fun _ => ?_)
                  clear hK K
                  try simp only [Act.put, List.setIfInBounds_toArray, List.set_cons_zero, List.set_cons_succ]
                  refine wpAnyH_ready (rs := [9]) (by kernel_rfl) (by simp) ?_
                  refine AllReadyH.cons (o := { dst := none, op := Op.store 26 (Operand.tmp 7) (Operand.tmp 25), type := 0, pos := "law.go:137", after := #[{ on := 7, ground := Ground.data }, { on := 3, ground := Ground.data }, { on := 6, ground := Ground.chain }, { on := 0, ground := Ground.phase }, { on := 1, ground := Ground.phase }, { on := 2, ground := Ground.phase }, { on := 3, ground := Ground.phase }, { on := 4, ground := Ground.textOnly Departure.lateStores }, { on := 5, ground := Ground.textOnly Departure.lateStoresUnsure }, { on := 6, ground := Ground.phase }, { on := 7, ground := Ground.phase }, { on := 8, ground := Ground.phase }], guard := none }) rfl (fun K hK => ?_) ?_
                  · rw [if_pos (by rfl)]
                    ((refine wp_store_dig' _ _ rfl g7 tA HLA.out rfl rfl HR7.out HB0.out hge7 ?_; intro w' hrow hb hoth; have HR8 := Lib.hid (hoth _ _ _ (fun h => hne h.symm) HR8.out); have HR7 := Lib.hid hrow; have HB0 := Lib.hid hb; clear hrow hb hoth))
                    refine hK.out _ _ HB0.out (fun _ => ?_)
                    clear hK K
                    try simp only [Act.put]
                    refine wpAnyH_ready (rs := [10]) (by kernel_rfl) (by simp) ?_
                    refine AllReadyH.cons (o := { dst := none, op := Op.store 26 (Operand.tmp 8) (Operand.tmp 28), type := 0, pos := "law.go:137", after := #[{ on := 8, ground := Ground.data }, { on := 6, ground := Ground.data }, { on := 9, ground := Ground.chain }, { on := 0, ground := Ground.phase }, { on := 1, ground := Ground.phase }, { on := 2, ground := Ground.phase }, { on := 3, ground := Ground.phase }, { on := 4, ground := Ground.phase }, { on := 5, ground := Ground.phase }, { on := 6, ground := Ground.phase }, { on := 7, ground := Ground.phase }, { on := 8, ground := Ground.phase }, { on := 9, ground := Ground.phase }], guard := none }) rfl (fun K hK => ?_) ?_
                    · rw [if_pos (by rfl)]
                      ((refine wp_store_dig' _ _ rfl g8 tB HLB.out rfl rfl HR8.out HB0.out hge8 ?_; intro w' hrow hb hoth; have HR7 := Lib.hid (hoth _ _ _ hne HR7.out); have HR8 := Lib.hid hrow; have HB0 := Lib.hid hb; clear hrow hb hoth))
                      refine hK.out _ _ HB0.out (fun _ => ?_)
                      clear hK K
                      try simp only [Act.put]
                      refine wpAnyH_done (by kernel_rfl) ?_ _
                      ((exact K g7 g8 g _ ⟨HR7.out, HR8.out, HB0.out⟩))
                    exact AllReadyH.nil
                  exact AllReadyH.nil
                exact AllReadyH.nil
              refine AllReadyH.cons (o := { dst := some 8, op := Op.alloc 26, type := 0, pos := "law.go:137", after := #[], guard := none }) rfl (fun K hK => ?_) ?_
              · rw [if_pos (by rfl)]
                ((refine wp_alloc_dig 8 rfl rfl ?_; intro g8 w6 hg hrow hb; have hge8 : wr.heap.size ≤ g8 := (by have := HB0.out.size; omega); (try have hne : g7 ≠ g8 := (by have := HR7.out.lt; omega)); have HR8 := Lib.hid hrow; (try have HR7 := Lib.hid (HR7.out.keep hb)); (try have HG := Lib.hid (HG.out.keep hb)); have HB0 := Lib.hid (below_next HB0.out hb); clear hg hrow hb))
                refine hK.out _ _ HB0.out (fun _ => ?_)
                clear hK K
                try simp only [Act.put, List.setIfInBounds_toArray, List.set_cons_zero, List.set_cons_succ]
                refine wpAnyH_ready (rs := [6]) (by kernel_rfl) (by simp) ?_
                refine AllReadyH.cons (o := { dst := some 28, op := Op.call { callee := Callee.value (Operand.func 17), args := #[Operand.tmp 27], argTypes := #[30] }, type := 26, pos := "law.go:137", after := #[{ on := 5, ground := Ground.data }, { on := 3, ground := Ground.chain }], guard := none }) rfl (fun K hK => ?_) ?_
                · rw [if_pos (by rfl)]
                  go_simp
                  go_wp2_with ((go_at_call 17; (refine (HLd.out _ _ HB0.out (drest_one' HG.out HDL.out)).mono ?_); rintro e w4 ⟨rfl, hb⟩; have HB0 := Lib.hid (below_next HB0.out hb); (try have HR7 := Lib.hid (HR7.out.keep hb)); (try have HR8 := Lib.hid (HR8.out.keep hb)); clear hb))
                  refine hK.out _ _ HB0.out (fun _ => ?_)
                  clear hK K
                  try simp only [Act.put, List.setIfInBounds_toArray, List.set_cons_zero, List.set_cons_succ]
                  refine wpAnyH_ready (rs := [9]) (by kernel_rfl) (by simp) ?_
                  refine AllReadyH.cons (o := { dst := none, op := Op.store 26 (Operand.tmp 7) (Operand.tmp 25), type := 0, pos := "law.go:137", after := #[{ on := 7, ground := Ground.data }, { on := 3, ground := Ground.data }, { on := 6, ground := Ground.chain }, { on := 0, ground := Ground.phase }, { on := 1, ground := Ground.phase }, { on := 2, ground := Ground.phase }, { on := 3, ground := Ground.phase }, { on := 4, ground := Ground.textOnly Departure.lateStores }, { on := 5, ground := Ground.textOnly Departure.lateStoresUnsure }, { on := 6, ground := Ground.phase }, { on := 7, ground := Ground.phase }, { on := 8, ground := Ground.phase }], guard := none }) rfl (fun K hK => ?_) ?_
                  · rw [if_pos (by rfl)]
                    ((refine wp_store_dig' _ _ rfl g7 tA HLA.out rfl rfl HR7.out HB0.out hge7 ?_; intro w' hrow hb hoth; have HR8 := Lib.hid (hoth _ _ _ (fun h => hne h.symm) HR8.out); have HR7 := Lib.hid hrow; have HB0 := Lib.hid hb; clear hrow hb hoth))
                    refine hK.out _ _ HB0.out (fun _ => ?_)
                    clear hK K
                    try simp only [Act.put]
                    refine wpAnyH_ready (rs := [10]) (by kernel_rfl) (by simp) ?_
                    refine AllReadyH.cons (o := { dst := none, op := Op.store 26 (Operand.tmp 8) (Operand.tmp 28), type := 0, pos := "law.go:137", after := #[{ on := 8, ground := Ground.data }, { on := 6, ground := Ground.data }, { on := 9, ground := Ground.chain }, { on := 0, ground := Ground.phase }, { on := 1, ground := Ground.phase }, { on := 2, ground := Ground.phase }, { on := 3, ground := Ground.phase }, { on := 4, ground := Ground.phase }, { on := 5, ground := Ground.phase }, { on := 6, ground := Ground.phase }, { on := 7, ground := Ground.phase }, { on := 8, ground := Ground.phase }, { on := 9, ground := Ground.phase }], guard := none }) rfl (fun K hK => ?_) ?_
                    · rw [if_pos (by rfl)]
                      ((refine wp_store_dig' _ _ rfl g8 tB HLB.out rfl rfl HR8.out HB0.out hge8 ?_; intro w' hrow hb hoth; have HR7 := Lib.hid (hoth _ _ _ hne HR7.out); have HR8 := Lib.hid hrow; have HB0 := Lib.hid hb; clear hrow hb hoth))
                      refine hK.out _ _ HB0.out (fun _ => ?_)
                      clear hK K
                      try simp only [Act.put]
                      refine wpAnyH_done (by kernel_rfl) ?_ _
                      ((exact K g7 g8 g _ ⟨HR7.out, HR8.out, HB0.out⟩))
                    exact AllReadyH.nil
                  exact AllReadyH.nil
                exact AllReadyH.nil
              exact AllReadyH.nil
            refine AllReadyH.cons (o := { dst := some 8, op := Op.alloc 26, type := 0, pos := "law.go:137", after := #[], guard := none }) rfl (fun K hK => ?_) ?_
            · rw [if_pos (by rfl)]
              ((refine wp_alloc_dig 8 rfl rfl ?_; intro g8 w6 hg hrow hb; have hge8 : wr.heap.size ≤ g8 := (by have := HB0.out.size; omega); (try have hne : g7 ≠ g8 := (by have := HR7.out.lt; omega)); have HR8 := Lib.hid hrow; (try have HR7 := Lib.hid (HR7.out.keep hb)); (try have HG := Lib.hid (HG.out.keep hb)); have HB0 := Lib.hid (below_next HB0.out hb); clear hg hrow hb))
              refine hK.out _ _ HB0.out (fun _ => ?_)
              clear hK K
              try simp only [Act.put, List.setIfInBounds_toArray, List.set_cons_zero, List.set_cons_succ]
              refine wpAnyH_ready (rs := [5]) (by kernel_rfl) (by simp) ?_
              refine AllReadyH.cons (o := { dst := some 27, op := Op.buildSlice 30 1 #[(0, Operand.tmp 26)], type := 30, pos := "law.go:137", after := #[{ on := 4, ground := Ground.data }], guard := none }) rfl (fun K hK => ?_) ?_
              · rw [if_pos (by rfl)]
                ((refine wp_one' _ rfl d HDL.out rfl ?_; intro g w12 hrow hg hb; (try have HR7 := Lib.hid (HR7.out.keep hb)); (try have HR8 := Lib.hid (HR8.out.keep hb)); have HG := Lib.hid hrow; have HB0 := Lib.hid (below_next HB0.out hb); clear hrow hg hb))
                refine hK.out _ _ HB0.out (fun _ => ?_)
                clear hK K
                try simp only [Act.put, List.setIfInBounds_toArray, List.set_cons_zero, List.set_cons_succ]
                refine wpAnyH_ready (rs := [6]) (by kernel_rfl) (by simp) ?_
                refine AllReadyH.cons (o := { dst := some 28, op := Op.call { callee := Callee.value (Operand.func 17), args := #[Operand.tmp 27], argTypes := #[30] }, type := 26, pos := "law.go:137", after := #[{ on := 5, ground := Ground.data }, { on := 3, ground := Ground.chain }], guard := none }) rfl (fun K hK => ?_) ?_
                · rw [if_pos (by rfl)]
                  go_simp
                  go_wp2_with ((go_at_call 17; (refine (HLd.out _ _ HB0.out (drest_one' HG.out HDL.out)).mono ?_); rintro e w4 ⟨rfl, hb⟩; have HB0 := Lib.hid (below_next HB0.out hb); (try have HR7 := Lib.hid (HR7.out.keep hb)); (try have HR8 := Lib.hid (HR8.out.keep hb)); clear hb))
                  refine hK.out _ _ HB0.out (fun _ => ?_)
                  clear hK K
                  try simp only [Act.put, List.setIfInBounds_toArray, List.set_cons_zero, List.set_cons_succ]
                  refine wpAnyH_ready (rs := [9]) (by kernel_rfl) (by simp) ?_
                  refine AllReadyH.cons (o := { dst := none, op := Op.store 26 (Operand.tmp 7) (Operand.tmp 25), type := 0, pos := "law.go:137", after := #[{ on := 7, ground := Ground.data }, { on := 3, ground := Ground.data }, { on := 6, ground := Ground.chain }, { on := 0, ground := Ground.phase }, { on := 1, ground := Ground.phase }, { on := 2, ground := Ground.phase }, { on := 3, ground := Ground.phase }, { on := 4, ground := Ground.textOnly Departure.lateStores }, { on := 5, ground := Ground.textOnly Departure.lateStoresUnsure }, { on := 6, ground := Ground.phase }, { on := 7, ground := Ground.phase }, { on := 8, ground := Ground.phase }], guard := none }) rfl (fun K hK => ?_) ?_
                  · rw [if_pos (by rfl)]
                    ((refine wp_store_dig' _ _ rfl g7 tA HLA.out rfl rfl HR7.out HB0.out hge7 ?_; intro w' hrow hb hoth; have HR8 := Lib.hid (hoth _ _ _ (fun h => hne h.symm) HR8.out); have HR7 := Lib.hid hrow; have HB0 := Lib.hid hb; clear hrow hb hoth))
                    refine hK.out _ _ HB0.out (fun _ => ?_)
                    clear hK K
                    try simp only [Act.put]
                    refine wpAnyH_ready (rs := [10]) (by kernel_rfl) (by simp) ?_
                    refine AllReadyH.cons (o := { dst := none, op := Op.store 26 (Operand.tmp 8) (Operand.tmp 28), type := 0, pos := "law.go:137", after := #[{ on := 8, ground := Ground.data }, { on := 6, ground := Ground.data }, { on := 9, ground := Ground.chain }, { on := 0, ground := Ground.phase }, { on := 1, ground := Ground.phase }, { on := 2, ground := Ground.phase }, { on := 3, ground := Ground.phase }, { on := 4, ground := Ground.phase }, { on := 5, ground := Ground.phase }, { on := 6, ground := Ground.phase }, { on := 7, ground := Ground.phase }, { on := 8, ground := Ground.phase }, { on := 9, ground := Ground.phase }], guard := none }) rfl (fun K hK => ?_) ?_
                    · rw [if_pos (by rfl)]
                      ((refine wp_store_dig' _ _ rfl g8 tB HLB.out rfl rfl HR8.out HB0.out hge8 ?_; intro w' hrow hb hoth; have HR7 := Lib.hid (hoth _ _ _ hne HR7.out); have HR8 := Lib.hid hrow; have HB0 := Lib.hid hb; clear hrow hb hoth))
                      refine hK.out _ _ HB0.out (fun _ => ?_)
                      clear hK K
                      try simp only [Act.put]
                      refine wpAnyH_done (by kernel_rfl) ?_ _
                      ((exact K g7 g8 g _ ⟨HR7.out, HR8.out, HB0.out⟩))
                    exact AllReadyH.nil
                  exact AllReadyH.nil
                exact AllReadyH.nil
              exact AllReadyH.nil
            exact AllReadyH.nil
          refine AllReadyH.cons (o := { dst := some 8, op := Op.alloc 26, type := 0, pos := "law.go:137", after := #[], guard := none }) rfl (fun K hK => ?_) ?_
          · rw [if_pos (by rfl)]
            ((refine wp_alloc_dig 8 rfl rfl ?_; intro g8 w6 hg hrow hb; have hge8 : wr.heap.size ≤ g8 := (by have := HB0.out.size; omega); (try have hne : g7 ≠ g8 := (by have := HR7.out.lt; omega)); have HR8 := Lib.hid hrow; (try have HR7 := Lib.hid (HR7.out.keep hb)); (try have HG := Lib.hid (HG.out.keep hb)); have HB0 := Lib.hid (below_next HB0.out hb); clear hg hrow hb))
            refine hK.out _ _ HB0.out (fun _ => ?_)
            clear hK K
            try simp only [Act.put, List.setIfInBounds_toArray, List.set_cons_zero, List.set_cons_succ]
            refine wpAnyH_ready (rs := [5, 7]) (by kernel_rfl) (by simp) ?_
            refine AllReadyH.cons (o := { dst := some 27, op := Op.buildSlice 30 1 #[(0, Operand.tmp 26)], type := 30, pos := "law.go:137", after := #[{ on := 4, ground := Ground.data }], guard := none }) rfl (fun K hK => ?_) ?_
            · rw [if_pos (by rfl)]
              ((refine wp_one' _ rfl d HDL.out rfl ?_; intro g w12 hrow hg hb; (try have HR7 := Lib.hid (HR7.out.keep hb)); (try have HR8 := Lib.hid (HR8.out.keep hb)); have HG := Lib.hid hrow; have HB0 := Lib.hid (below_next HB0.out hb); clear hrow hg hb))
              refine hK.out _ _ HB0.out (fun _ => ?_)
              clear hK K
              try simp only [Act.put, List.setIfInBounds_toArray, List.set_cons_zero, List.set_cons_succ]
              refine wpAnyH_ready (rs := [6, 7]) (by kernel_rfl) (by simp) ?_
              refine AllReadyH.cons (o := { dst := some 28, op := Op.call { callee := Callee.value (Operand.func 17), args := #[Operand.tmp 27], argTypes := #[30] }, type := 26, pos := "law.go:137", after := #[{ on := 5, ground := Ground.data }, { on := 3, ground := Ground.chain }], guard := none }) rfl (fun K hK => ?_) ?_
              · rw [if_pos (by rfl)]
                go_simp
                go_wp2_with ((go_at_call 17; (refine (HLd.out _ _ HB0.out (drest_one' HG.out HDL.out)).mono ?_); rintro e w4 ⟨rfl, hb⟩; have HB0 := Lib.hid (below_next HB0.out hb); (try have HR7 := Lib.hid (HR7.out.keep hb)); (try have HR8 := Lib.hid (HR8.out.keep hb)); clear hb))
                refine hK.out _ _ HB0.out (fun _ => ?_)
                clear hK K
                try simp only [Act.put, List.setIfInBounds_toArray, List.set_cons_zero, List.set_cons_succ]
                refine wpAnyH_ready (rs := [7]) (by kernel_rfl) (by simp) ?_
                refine AllReadyH.cons (o := { dst := some 7, op := Op.alloc 26, type := 0, pos := "law.go:137", after := #[], guard := none }) rfl (fun K hK => ?_) ?_
                · rw [if_pos (by rfl)]
                  ((refine wp_alloc_dig 7 rfl rfl ?_; intro g7 w5 hg hrow hb; have hge7 : wr.heap.size ≤ g7 := (by have := HB0.out.size; omega); (try have hne : g7 ≠ g8 := (by have := HR8.out.lt; omega)); have HR7 := Lib.hid hrow; (try have HR8 := Lib.hid (HR8.out.keep hb)); (try have HG := Lib.hid (HG.out.keep hb)); have HB0 := Lib.hid (below_next HB0.out hb); clear hg hrow hb))
                  refine hK.out _ _ HB0.out (fun _ => ?_)
                  clear hK K
                  try simp only [Act.put, List.setIfInBounds_toArray, List.set_cons_zero, List.set_cons_succ]
                  refine wpAnyH_ready (rs := [9]) (by kernel_rfl) (by simp) ?_
                  refine AllReadyH.cons (o := { dst := none, op := Op.store 26 (Operand.tmp 7) (Operand.tmp 25), type := 0, pos := "law.go:137", after := #[{ on := 7, ground := Ground.data }, { on := 3, ground := Ground.data }, { on := 6, ground := Ground.chain }, { on := 0, ground := Ground.phase }, { on := 1, ground := Ground.phase }, { on := 2, ground := Ground.phase }, { on := 3, ground := Ground.phase }, { on := 4, ground := Ground.textOnly Departure.lateStores }, { on := 5, ground := Ground.textOnly Departure.lateStoresUnsure }, { on := 6, ground := Ground.phase }, { on := 7, ground := Ground.phase }, { on := 8, ground := Ground.phase }], guard := none }) rfl (fun K hK => ?_) ?_
                  · rw [if_pos (by rfl)]
                    ((refine wp_store_dig' _ _ rfl g7 tA HLA.out rfl rfl HR7.out HB0.out hge7 ?_; intro w' hrow hb hoth; have HR8 := Lib.hid (hoth _ _ _ (fun h => hne h.symm) HR8.out); have HR7 := Lib.hid hrow; have HB0 := Lib.hid hb; clear hrow hb hoth))
                    refine hK.out _ _ HB0.out (fun _ => ?_)
                    clear hK K
                    try simp only [Act.put]
                    refine wpAnyH_ready (rs := [10]) (by kernel_rfl) (by simp) ?_
                    refine AllReadyH.cons (o := { dst := none, op := Op.store 26 (Operand.tmp 8) (Operand.tmp 28), type := 0, pos := "law.go:137", after := #[{ on := 8, ground := Ground.data }, { on := 6, ground := Ground.data }, { on := 9, ground := Ground.chain }, { on := 0, ground := Ground.phase }, { on := 1, ground := Ground.phase }, { on := 2, ground := Ground.phase }, { on := 3, ground := Ground.phase }, { on := 4, ground := Ground.phase }, { on := 5, ground := Ground.phase }, { on := 6, ground := Ground.phase }, { on := 7, ground := Ground.phase }, { on := 8, ground := Ground.phase }, { on := 9, ground := Ground.phase }], guard := none }) rfl (fun K hK => ?_) ?_
                    · rw [if_pos (by rfl)]
                      ((refine wp_store_dig' _ _ rfl g8 tB HLB.out rfl rfl HR8.out HB0.out hge8 ?_; intro w' hrow hb hoth; have HR7 := Lib.hid (hoth _ _ _ hne HR7.out); have HR8 := Lib.hid hrow; have HB0 := Lib.hid hb; clear hrow hb hoth))
                      refine hK.out _ _ HB0.out (fun _ => ?_)
                      clear hK K
                      try simp only [Act.put]
                      refine wpAnyH_done (by kernel_rfl) ?_ _
                      ((exact K g7 g8 g _ ⟨HR7.out, HR8.out, HB0.out⟩))
                    exact AllReadyH.nil
                  exact AllReadyH.nil
                exact AllReadyH.nil
              refine AllReadyH.cons (o := { dst := some 7, op := Op.alloc 26, type := 0, pos := "law.go:137", after := #[], guard := none }) rfl (fun K hK => ?_) ?_
              · rw [if_pos (by rfl)]
                ((refine wp_alloc_dig 7 rfl rfl ?_; intro g7 w5 hg hrow hb; have hge7 : wr.heap.size ≤ g7 := (by have := HB0.out.size; omega); (try have hne : g7 ≠ g8 := (by have := HR8.out.lt; omega)); have HR7 := Lib.hid hrow; (try have HR8 := Lib.hid (HR8.out.keep hb)); (try have HG := Lib.hid (HG.out.keep hb)); have HB0 := Lib.hid (below_next HB0.out hb); clear hg hrow hb))
                refine hK.out _ _ HB0.out (fun _ => ?_)
                clear hK K
                try simp only [Act.put, List.setIfInBounds_toArray, List.set_cons_zero, List.set_cons_succ]
                refine wpAnyH_ready (rs := [6]) (by kernel_rfl) (by simp) ?_
                refine AllReadyH.cons (o := { dst := some 28, op := Op.call { callee := Callee.value (Operand.func 17), args := #[Operand.tmp 27], argTypes := #[30] }, type := 26, pos := "law.go:137", after := #[{ on := 5, ground := Ground.data }, { on := 3, ground := Ground.chain }], guard := none }) rfl (fun K hK => ?_) ?_
                · rw [if_pos (by rfl)]
                  go_simp
                  go_wp2_with ((go_at_call 17; (refine (HLd.out _ _ HB0.out (drest_one' HG.out HDL.out)).mono ?_); rintro e w4 ⟨rfl, hb⟩; have HB0 := Lib.hid (below_next HB0.out hb); (try have HR7 := Lib.hid (HR7.out.keep hb)); (try have HR8 := Lib.hid (HR8.out.keep hb)); clear hb))
                  refine hK.out _ _ HB0.out (fun _ => ?_)
                  clear hK K
                  try simp only [Act.put, List.setIfInBounds_toArray, List.set_cons_zero, List.set_cons_succ]
                  refine wpAnyH_ready (rs := [9]) (by kernel_rfl) (by simp) ?_
                  refine AllReadyH.cons (o := { dst := none, op := Op.store 26 (Operand.tmp 7) (Operand.tmp 25), type := 0, pos := "law.go:137", after := #[{ on := 7, ground := Ground.data }, { on := 3, ground := Ground.data }, { on := 6, ground := Ground.chain }, { on := 0, ground := Ground.phase }, { on := 1, ground := Ground.phase }, { on := 2, ground := Ground.phase }, { on := 3, ground := Ground.phase }, { on := 4, ground := Ground.textOnly Departure.lateStores }, { on := 5, ground := Ground.textOnly Departure.lateStoresUnsure }, { on := 6, ground := Ground.phase }, { on := 7, ground := Ground.phase }, { on := 8, ground := Ground.phase }], guard := none }) rfl (fun K hK => ?_) ?_
                  · rw [if_pos (by rfl)]
                    ((refine wp_store_dig' _ _ rfl g7 tA HLA.out rfl rfl HR7.out HB0.out hge7 ?_; intro w' hrow hb hoth; have HR8 := Lib.hid (hoth _ _ _ (fun h => hne h.symm) HR8.out); have HR7 := Lib.hid hrow; have HB0 := Lib.hid hb; clear hrow hb hoth))
                    refine hK.out _ _ HB0.out (fun _ => ?_)
                    clear hK K
                    try simp only [Act.put]
                    refine wpAnyH_ready (rs := [10]) (by kernel_rfl) (by simp) ?_
                    refine AllReadyH.cons (o := { dst := none, op := Op.store 26 (Operand.tmp 8) (Operand.tmp 28), type := 0, pos := "law.go:137", after := #[{ on := 8, ground := Ground.data }, { on := 6, ground := Ground.data }, { on := 9, ground := Ground.chain }, { on := 0, ground := Ground.phase }, { on := 1, ground := Ground.phase }, { on := 2, ground := Ground.phase }, { on := 3, ground := Ground.phase }, { on := 4, ground := Ground.phase }, { on := 5, ground := Ground.phase }, { on := 6, ground := Ground.phase }, { on := 7, ground := Ground.phase }, { on := 8, ground := Ground.phase }, { on := 9, ground := Ground.phase }], guard := none }) rfl (fun K hK => ?_) ?_
                    · rw [if_pos (by rfl)]
                      ((refine wp_store_dig' _ _ rfl g8 tB HLB.out rfl rfl HR8.out HB0.out hge8 ?_; intro w' hrow hb hoth; have HR7 := Lib.hid (hoth _ _ _ hne HR7.out); have HR8 := Lib.hid hrow; have HB0 := Lib.hid hb; clear hrow hb hoth))
                      refine hK.out _ _ HB0.out (fun _ => ?_)
                      clear hK K
                      try simp only [Act.put]
                      refine wpAnyH_done (by kernel_rfl) ?_ _
                      ((exact K g7 g8 g _ ⟨HR7.out, HR8.out, HB0.out⟩))
                    exact AllReadyH.nil
                  exact AllReadyH.nil
                exact AllReadyH.nil
              exact AllReadyH.nil
            refine AllReadyH.cons (o := { dst := some 7, op := Op.alloc 26, type := 0, pos := "law.go:137", after := #[], guard := none }) rfl (fun K hK => ?_) ?_
            · rw [if_pos (by rfl)]
              ((refine wp_alloc_dig 7 rfl rfl ?_; intro g7 w5 hg hrow hb; have hge7 : wr.heap.size ≤ g7 := (by have := HB0.out.size; omega); (try have hne : g7 ≠ g8 := (by have := HR8.out.lt; omega)); have HR7 := Lib.hid hrow; (try have HR8 := Lib.hid (HR8.out.keep hb)); (try have HG := Lib.hid (HG.out.keep hb)); have HB0 := Lib.hid (below_next HB0.out hb); clear hg hrow hb))
              refine hK.out _ _ HB0.out (fun _ => ?_)
              clear hK K
              try simp only [Act.put, List.setIfInBounds_toArray, List.set_cons_zero, List.set_cons_succ]
              refine wpAnyH_ready (rs := [5]) (by kernel_rfl) (by simp) ?_
              refine AllReadyH.cons (o := { dst := some 27, op := Op.buildSlice 30 1 #[(0, Operand.tmp 26)], type := 30, pos := "law.go:137", after := #[{ on := 4, ground := Ground.data }], guard := none }) rfl (fun K hK => ?_) ?_
              · rw [if_pos (by rfl)]
                ((refine wp_one' _ rfl d HDL.out rfl ?_; intro g w12 hrow hg hb; (try have HR7 := Lib.hid (HR7.out.keep hb)); (try have HR8 := Lib.hid (HR8.out.keep hb)); have HG := Lib.hid hrow; have HB0 := Lib.hid (below_next HB0.out hb); clear hrow hg hb))
                refine hK.out _ _ HB0.out (fun _ => ?_)
                clear hK K
                try simp only [Act.put, List.setIfInBounds_toArray, List.set_cons_zero, List.set_cons_succ]
                refine wpAnyH_ready (rs := [6]) (by kernel_rfl) (by simp) ?_
                refine AllReadyH.cons (o := { dst := some 28, op := Op.call { callee := Callee.value (Operand.func 17), args := #[Operand.tmp 27], argTypes := #[30] }, type := 26, pos := "law.go:137", after := #[{ on := 5, ground := Ground.data }, { on := 3, ground := Ground.chain }], guard := none }) rfl (fun K hK => ?_) ?_
                · rw [if_pos (by rfl)]
                  go_simp
                  go_wp2_with ((go_at_call 17; (refine (HLd.out _ _ HB0.out (drest_one' HG.out HDL.out)).mono ?_); rintro e w4 ⟨rfl, hb⟩; have HB0 := Lib.hid (below_next HB0.out hb); (try have HR7 := Lib.hid (HR7.out.keep hb)); (try have HR8 := Lib.hid (HR8.out.keep hb)); clear hb))
                  refine hK.out _ _ HB0.out (fun _ => ?_)
                  clear hK K
                  try simp only [Act.put, List.setIfInBounds_toArray, List.set_cons_zero, List.set_cons_succ]
                  refine wpAnyH_ready (rs := [9]) (by kernel_rfl) (by simp) ?_
                  refine AllReadyH.cons (o := { dst := none, op := Op.store 26 (Operand.tmp 7) (Operand.tmp 25), type := 0, pos := "law.go:137", after := #[{ on := 7, ground := Ground.data }, { on := 3, ground := Ground.data }, { on := 6, ground := Ground.chain }, { on := 0, ground := Ground.phase }, { on := 1, ground := Ground.phase }, { on := 2, ground := Ground.phase }, { on := 3, ground := Ground.phase }, { on := 4, ground := Ground.textOnly Departure.lateStores }, { on := 5, ground := Ground.textOnly Departure.lateStoresUnsure }, { on := 6, ground := Ground.phase }, { on := 7, ground := Ground.phase }, { on := 8, ground := Ground.phase }], guard := none }) rfl (fun K hK => ?_) ?_
                  · rw [if_pos (by rfl)]
                    ((refine wp_store_dig' _ _ rfl g7 tA HLA.out rfl rfl HR7.out HB0.out hge7 ?_; intro w' hrow hb hoth; have HR8 := Lib.hid (hoth _ _ _ (fun h => hne h.symm) HR8.out); have HR7 := Lib.hid hrow; have HB0 := Lib.hid hb; clear hrow hb hoth))
                    refine hK.out _ _ HB0.out (fun _ => ?_)
                    clear hK K
                    try simp only [Act.put]
                    refine wpAnyH_ready (rs := [10]) (by kernel_rfl) (by simp) ?_
                    refine AllReadyH.cons (o := { dst := none, op := Op.store 26 (Operand.tmp 8) (Operand.tmp 28), type := 0, pos := "law.go:137", after := #[{ on := 8, ground := Ground.data }, { on := 6, ground := Ground.data }, { on := 9, ground := Ground.chain }, { on := 0, ground := Ground.phase }, { on := 1, ground := Ground.phase }, { on := 2, ground := Ground.phase }, { on := 3, ground := Ground.phase }, { on := 4, ground := Ground.phase }, { on := 5, ground := Ground.phase }, { on := 6, ground := Ground.phase }, { on := 7, ground := Ground.phase }, { on := 8, ground := Ground.phase }, { on := 9, ground := Ground.phase }], guard := none }) rfl (fun K hK => ?_) ?_
                    · rw [if_pos (by rfl)]
                      ((refine wp_store_dig' _ _ rfl g8 tB HLB.out rfl rfl HR8.out HB0.out hge8 ?_; intro w' hrow hb hoth; have HR7 := Lib.hid (hoth _ _ _ hne HR7.out); have HR8 := Lib.hid hrow; have HB0 := Lib.hid hb; clear hrow hb hoth))
                      refine hK.out _ _ HB0.out (fun _ => ?_)
                      clear hK K
                      try simp only [Act.put]
                      refine wpAnyH_done (by kernel_rfl) ?_ _
                      ((exact K g7 g8 g _ ⟨HR7.out, HR8.out, HB0.out⟩))
                    exact AllReadyH.nil
                  exact AllReadyH.nil
                exact AllReadyH.nil
              exact AllReadyH.nil
            exact AllReadyH.nil
          exact AllReadyH.nil
        refine AllReadyH.cons (o := { dst := some 27, op := Op.buildSlice 30 1 #[(0, Operand.tmp 26)], type := 30, pos := "law.go:137", after := #[{ on := 4, ground := Ground.data }], guard := none }) rfl (fun K hK => ?_) ?_
        · rw [if_pos (by rfl)]
          ((refine wp_one' _ rfl d HDL.out rfl ?_; intro g w12 hrow hg hb; (try have HR7 := Lib.hid (HR7.out.keep hb)); (try have HR8 := Lib.hid (HR8.out.keep hb)); have HG := Lib.hid hrow; have HB0 := Lib.hid (below_next HB0.out hb); clear hrow hg hb))
          refine hK.out _ _ HB0.out (fun _ => ?_)
          clear hK K
          try simp only [Act.put, List.setIfInBounds_toArray, List.set_cons_zero, List.set_cons_succ]
          refine wpAnyH_ready (rs := [3, 7, 8]) (by kernel_rfl) (by simp) ?_
          refine AllReadyH.cons (o := { dst := some 25, op := Op.call { callee := Callee.value (Operand.func 17), args := #[Operand.tmp 24], argTypes := #[30] }, type := 26, pos := "law.go:137", after := #[{ on := 2, ground := Ground.data }], guard := none }) rfl (fun K hK => ?_) ?_
          · rw [if_pos (by rfl)]
            go_simp
            go_wp2_with ((go_at_call 17; (with_reducible refine (HL.out _ HB0.out).mono ?_); rintro e w3 ⟨rfl, hb⟩; have HB0 := Lib.hid (below_next HB0.out hb); (try have HR7 := Lib.hid (HR7.out.keep hb)); (try have HR8 := Lib.hid (HR8.out.keep hb)); (try have HG := Lib.hid (HG.out.keep hb)); clear hb))
            refine hK.out _ _ HB0.out (fun _ => ?_)
            clear hK K
            try simp only [Act.put, List.setIfInBounds_toArray, List.set_cons_zero, List.set_cons_succ]
            refine wpAnyH_ready (rs := [6, 7, 8]) (by kernel_rfl) (by simp) ?_
            refine AllReadyH.cons (o := { dst := some 28, op := Op.call { callee := Callee.value (Operand.func 17), args := #[Operand.tmp 27], argTypes := #[30] }, type := 26, pos := "law.go:137", after := #[{ on := 5, ground := Ground.data }, { on := 3, ground := Ground.chain }], guard := none }) rfl (fun K hK => ?_) ?_
            · rw [if_pos (by rfl)]
              go_simp
              go_wp2_with ((go_at_call 17; (refine (HLd.out _ _ HB0.out (drest_one' HG.out HDL.out)).mono ?_); rintro e w4 ⟨rfl, hb⟩; have HB0 := Lib.hid (below_next HB0.out hb); (try have HR7 := Lib.hid (HR7.out.keep hb)); (try have HR8 := Lib.hid (HR8.out.keep hb)); clear hb))
              refine hK.out _ _ HB0.out (fun _ => ?_)
              clear hK K
              try simp only [Act.put, List.setIfInBounds_toArray, List.set_cons_zero, List.set_cons_succ]
              refine wpAnyH_ready (rs := [7, 8]) (by kernel_rfl) (by simp) ?_
              refine AllReadyH.cons (o := { dst := some 7, op := Op.alloc 26, type := 0, pos := "law.go:137", after := #[], guard := none }) rfl (fun K hK => ?_) ?_
              · rw [if_pos (by rfl)]
                ((refine wp_alloc_dig 7 rfl rfl ?_; intro g7 w5 hg hrow hb; have hge7 : wr.heap.size ≤ g7 := (by have := HB0.out.size; omega); (try have hne : g7 ≠ g8 := (by have := HR8.out.lt; omega)); have HR7 := Lib.hid hrow; (try have HR8 := Lib.hid (HR8.out.keep hb)); (try have HG := Lib.hid (HG.out.keep hb)); have HB0 := Lib.hid (below_next HB0.out hb); clear hg hrow hb))
                refine hK.out _ _ HB0.out (fun _ => ?_)
                clear hK K
                try simp only [Act.put, List.setIfInBounds_toArray, List.set_cons_zero, List.set_cons_succ]
                refine wpAnyH_ready (rs := [8]) (by kernel_rfl) (by simp) ?_
                refine AllReadyH.cons (o := { dst := some 8, op := Op.alloc 26, type := 0, pos := "law.go:137", after := #[], guard := none }) rfl (fun K hK => ?_) ?_
                · rw [if_pos (by rfl)]
                  ((refine wp_alloc_dig 8 rfl rfl ?_; intro g8 w6 hg hrow hb; have hge8 : wr.heap.size ≤ g8 := (by have := HB0.out.size; omega); (try have hne : g7 ≠ g8 := (by have := HR7.out.lt; omega)); have HR8 := Lib.hid hrow; (try have HR7 := Lib.hid (HR7.out.keep hb)); (try have HG := Lib.hid (HG.out.keep hb)); have HB0 := Lib.hid (below_next HB0.out hb); clear hg hrow hb))
                  refine hK.out _ _ HB0.out (fun _ => ?_)
                  clear hK K
                  try simp only [Act.put, List.setIfInBounds_toArray, List.set_cons_zero, List.set_cons_succ]
                  refine wpAnyH_ready (rs := [9]) (by kernel_rfl) (by simp) ?_
                  refine AllReadyH.cons (o := { dst := none, op := Op.store 26 (Operand.tmp 7) (Operand.tmp 25), type := 0, pos := "law.go:137", after := #[{ on := 7, ground := Ground.data }, { on := 3, ground := Ground.data }, { on := 6, ground := Ground.chain }, { on := 0, ground := Ground.phase }, { on := 1, ground := Ground.phase }, { on := 2, ground := Ground.phase }, { on := 3, ground := Ground.phase }, { on := 4, ground := Ground.textOnly Departure.lateStores }, { on := 5, ground := Ground.textOnly Departure.lateStoresUnsure }, { on := 6, ground := Ground.phase }, { on := 7, ground := Ground.phase }, { on := 8, ground := Ground.phase }], guard := none }) rfl (fun K hK => ?_) ?_
                  · rw [if_pos (by rfl)]
                    ((refine wp_store_dig' _ _ rfl g7 tA HLA.out rfl rfl HR7.out HB0.out hge7 ?_; intro w' hrow hb hoth; have HR8 := Lib.hid (hoth _ _ _ (fun h => hne h.symm) HR8.out); have HR7 := Lib.hid hrow; have HB0 := Lib.hid hb; clear hrow hb hoth))
                    refine hK.out _ _ HB0.out (fun _ => ?_)
                    clear hK K
                    try simp only [Act.put]
                    refine wpAnyH_ready (rs := [10]) (by kernel_rfl) (by simp) ?_
                    refine AllReadyH.cons (o := { dst := none, op := Op.store 26 (Operand.tmp 8) (Operand.tmp 28), type := 0, pos := "law.go:137", after := #[{ on := 8, ground := Ground.data }, { on := 6, ground := Ground.data }, { on := 9, ground := Ground.chain }, { on := 0, ground := Ground.phase }, { on := 1, ground := Ground.phase }, { on := 2, ground := Ground.phase }, { on := 3, ground := Ground.phase }, { on := 4, ground := Ground.phase }, { on := 5, ground := Ground.phase }, { on := 6, ground := Ground.phase }, { on := 7, ground := Ground.phase }, { on := 8, ground := Ground.phase }, { on := 9, ground := Ground.phase }], guard := none }) rfl (fun K hK => ?_) ?_
                    · rw [if_pos (by rfl)]
                      ((refine wp_store_dig' _ _ rfl g8 tB HLB.out rfl rfl HR8.out HB0.out hge8 ?_; intro w' hrow hb hoth; have HR7 := Lib.hid (hoth _ _ _ hne HR7.out); have HR8 := Lib.hid hrow; have HB0 := Lib.hid hb; clear hrow hb hoth))
                      refine hK.out _ _ HB0.out (fun _ => ?_)
                      clear hK K
                      try simp only [Act.put]
                      refine wpAnyH_done (by kernel_rfl) ?_ _
                      ((exact K g7 g8 g _ ⟨HR7.out, HR8.out, HB0.out⟩))
                    exact AllReadyH.nil
                  exact AllReadyH.nil
                exact AllReadyH.nil
              refine AllReadyH.cons (o := { dst := some 8, op := Op.alloc 26, type := 0, pos := "law.go:137", after := #[], guard := none }) rfl (fun K hK => ?_) ?_
              · rw [if_pos (by rfl)]
                ((refine wp_alloc_dig 8 rfl rfl ?_; intro g8 w6 hg hrow hb; have hge8 : wr.heap.size ≤ g8 := (by have := HB0.out.size; omega); (try have hne : g7 ≠ g8 := (by have := HR7.out.lt; omega)); have HR8 := Lib.hid hrow; (try have HR7 := Lib.hid (HR7.out.keep hb)); (try have HG := Lib.hid (HG.out.keep hb)); have HB0 := Lib.hid (below_next HB0.out hb); clear hg hrow hb))
                refine hK.out _ _ HB0.out (fun _ => ?_)
                clear hK K
                try simp only [Act.put, List.setIfInBounds_toArray, List.set_cons_zero, List.set_cons_succ]
                refine wpAnyH_ready (rs := [7]) (by kernel_rfl) (by simp) ?_
                refine AllReadyH.cons (o := { dst := some 7, op := Op.alloc 26, type := 0, pos := "law.go:137", after := #[], guard := none }) rfl (fun K hK => ?_) ?_
                · rw [if_pos (by rfl)]
                  ((refine wp_alloc_dig 7 rfl rfl ?_; intro g7 w5 hg hrow hb; have hge7 : wr.heap.size ≤ g7 := (by have := HB0.out.size; omega); (try have hne : g7 ≠ g8 := (by have := HR8.out.lt; omega)); have HR7 := Lib.hid hrow; (try have HR8 := Lib.hid (HR8.out.keep hb)); (try have HG := Lib.hid (HG.out.keep hb)); have HB0 := Lib.hid (below_next HB0.out hb); clear hg hrow hb))
                  refine hK.out _ _ HB0.out (fun _ => ?_)
                  clear hK K
                  try simp only [Act.put, List.setIfInBounds_toArray, List.set_cons_zero, List.set_cons_succ]
                  refine wpAnyH_ready (rs := [9]) (by kernel_rfl) (by simp) ?_
                  refine AllReadyH.cons (o := { dst := none, op := Op.store 26 (Operand.tmp 7) (Operand.tmp 25), type := 0, pos := "law.go:137", after := #[{ on := 7, ground := Ground.data }, { on := 3, ground := Ground.data }, { on := 6, ground := Ground.chain }, { on := 0, ground := Ground.phase }, { on := 1, ground := Ground.phase }, { on := 2, ground := Ground.phase }, { on := 3, ground := Ground.phase }, { on := 4, ground := Ground.textOnly Departure.lateStores }, { on := 5, ground := Ground.textOnly Departure.lateStoresUnsure }, { on := 6, ground := Ground.phase }, { on := 7, ground := Ground.phase }, { on := 8, ground := Ground.phase }], guard := none }) rfl (fun K hK => ?_) ?_
                  · rw [if_pos (by rfl)]
                    ((refine wp_store_dig' _ _ rfl g7 tA HLA.out rfl rfl HR7.out HB0.out hge7 ?_; intro w' hrow hb hoth; have HR8 := Lib.hid (hoth _ _ _ (fun h => hne h.symm) HR8.out); have HR7 := Lib.hid hrow; have HB0 := Lib.hid hb; clear hrow hb hoth))
                    refine hK.out _ _ HB0.out (fun _ => ?_)
                    clear hK K
                    try simp only [Act.put]
                    refine wpAnyH_ready (rs := [10]) (by kernel_rfl) (by simp) ?_
                    refine AllReadyH.cons (o := { dst := none, op := Op.store 26 (Operand.tmp 8) (Operand.tmp 28), type := 0, pos := "law.go:137", after := #[{ on := 8, ground := Ground.data }, { on := 6, ground := Ground.data }, { on := 9, ground := Ground.chain }, { on := 0, ground := Ground.phase }, { on := 1, ground := Ground.phase }, { on := 2, ground := Ground.phase }, { on := 3, ground := Ground.phase }, { on := 4, ground := Ground.phase }, { on := 5, ground := Ground.phase }, { on := 6, ground := Ground.phase }, { on := 7, ground := Ground.phase }, { on := 8, ground := Ground.phase }, { on := 9, ground := Ground.phase }], guard := none }) rfl (fun K hK => ?_) ?_
                    · rw [if_pos (by rfl)]
                      ((refine wp_store_dig' _ _ rfl g8 tB HLB.out rfl rfl HR8.out HB0.out hge8 ?_; intro w' hrow hb hoth; have HR7 := Lib.hid (hoth _ _ _ hne HR7.out); have HR8 := Lib.hid hrow; have HB0 := Lib.hid hb; clear hrow hb hoth))
                      refine hK.out _ _ HB0.out (fun _ => ?_)
                      clear hK K
                      try simp only [Act.put]
                      refine wpAnyH_done (by kernel_rfl) ?_ _
                      ((exact K g7 g8 g _ ⟨HR7.out, HR8.out, HB0.out⟩))
                    exact AllReadyH.nil
                  exact AllReadyH.nil
                exact AllReadyH.nil
              exact AllReadyH.nil
            refine AllReadyH.cons (o := { dst := some 7, op := Op.alloc 26, type := 0, pos := "law.go:137", after := #[], guard := none }) rfl (fun K hK => ?_) ?_
            · rw [if_pos (by rfl)]
              ((refine wp_alloc_dig 7 rfl rfl ?_; intro g7 w5 hg hrow hb; have hge7 : wr.heap.size ≤ g7 := (by have := HB0.out.size; omega); (try have hne : g7 ≠ g8 := (by have := HR8.out.lt; omega)); have HR7 := Lib.hid hrow; (try have HR8 := Lib.hid (HR8.out.keep hb)); (try have HG := Lib.hid (HG.out.keep hb)); have HB0 := Lib.hid (below_next HB0.out hb); clear hg hrow hb))
              refine hK.out _ _ HB0.out (fun _ => ?_)
              clear hK K
              try simp only [Act.put, List.setIfInBounds_toArray, List.set_cons_zero, List.set_cons_succ]
              refine wpAnyH_ready (rs := [6, 8]) (by kernel_rfl) (by simp) ?_
              refine AllReadyH.cons (o := { dst := some 28, op := Op.call { callee := Callee.value (Operand.func 17), args := #[Operand.tmp 27], argTypes := #[30] }, type := 26, pos := "law.go:137", after := #[{ on := 5, ground := Ground.data }, { on := 3, ground := Ground.chain }], guard := none }) rfl (fun K hK => ?_) ?_
              · rw [if_pos (by rfl)]
                go_simp
                go_wp2_with ((go_at_call 17; (refine (HLd.out _ _ HB0.out (drest_one' HG.out HDL.out)).mono ?_); rintro e w4 ⟨rfl, hb⟩; have HB0 := Lib.hid (below_next HB0.out hb); (try have HR7 := Lib.hid (HR7.out.keep hb)); (try have HR8 := Lib.hid (HR8.out.keep hb)); clear hb))
                refine hK.out _ _ HB0.out (fun _ => ?_)
                clear hK K
                try simp only [Act.put, List.setIfInBounds_toArray, List.set_cons_zero, List.set_cons_succ]
                refine wpAnyH_ready (rs := [8]) (by kernel_rfl) (by simp) ?_
                refine AllReadyH.cons (o := { dst := some 8, op := Op.alloc 26, type := 0, pos := "law.go:137", after := #[], guard := none }) rfl (fun K hK => ?_) ?_
                · rw [if_pos (by rfl)]
                  ((refine wp_alloc_dig 8 rfl rfl ?_; intro g8 w6 hg hrow hb; have hge8 : wr.heap.size ≤ g8 := (by have := HB0.out.size; omega); (try have hne : g7 ≠ g8 := (by have := HR7.out.lt; omega)); have HR8 := Lib.hid hrow; (try have HR7 := Lib.hid (HR7.out.keep hb)); (try have HG := Lib.hid (HG.out.keep hb)); have HB0 := Lib.hid (below_next HB0.out hb); clear hg hrow hb))
                  refine hK.out _ _ HB0.out (fun _ => ?_)
                  clear hK K
                  try simp only [Act.put, List.setIfInBounds_toArray, List.set_cons_zero, List.set_cons_succ]
                  refine wpAnyH_ready (rs := [9]) (by kernel_rfl) (by simp) ?_
                  refine AllReadyH.cons (o := { dst := none, op := Op.store 26 (Operand.tmp 7) (Operand.tmp 25), type := 0, pos := "law.go:137", after := #[{ on := 7, ground := Ground.data }, { on := 3, ground := Ground.data }, { on := 6, ground := Ground.chain }, { on := 0, ground := Ground.phase }, { on := 1, ground := Ground.phase }, { on := 2, ground := Ground.phase }, { on := 3, ground := Ground.phase }, { on := 4, ground := Ground.textOnly Departure.lateStores }, { on := 5, ground := Ground.textOnly Departure.lateStoresUnsure }, { on := 6, ground := Ground.phase }, { on := 7, ground := Ground.phase }, { on := 8, ground := Ground.phase }], guard := none }) rfl (fun K hK => ?_) ?_
                  · rw [if_pos (by rfl)]
                    ((refine wp_store_dig' _ _ rfl g7 tA HLA.out rfl rfl HR7.out HB0.out hge7 ?_; intro w' hrow hb hoth; have HR8 := Lib.hid (hoth _ _ _ (fun h => hne h.symm) HR8.out); have HR7 := Lib.hid hrow; have HB0 := Lib.hid hb; clear hrow hb hoth))
                    refine hK.out _ _ HB0.out (fun _ => ?_)
                    clear hK K
                    try simp only [Act.put]
                    refine wpAnyH_ready (rs := [10]) (by kernel_rfl) (by simp) ?_
                    refine AllReadyH.cons (o := { dst := none, op := Op.store 26 (Operand.tmp 8) (Operand.tmp 28), type := 0, pos := "law.go:137", after := #[{ on := 8, ground := Ground.data }, { on := 6, ground := Ground.data }, { on := 9, ground := Ground.chain }, { on := 0, ground := Ground.phase }, { on := 1, ground := Ground.phase }, { on := 2, ground := Ground.phase }, { on := 3, ground := Ground.phase }, { on := 4, ground := Ground.phase }, { on := 5, ground := Ground.phase }, { on := 6, ground := Ground.phase }, { on := 7, ground := Ground.phase }, { on := 8, ground := Ground.phase }, { on := 9, ground := Ground.phase }], guard := none }) rfl (fun K hK => ?_) ?_
                    · rw [if_pos (by rfl)]
                      ((refine wp_store_dig' _ _ rfl g8 tB HLB.out rfl rfl HR8.out HB0.out hge8 ?_; intro w' hrow hb hoth; have HR7 := Lib.hid (hoth _ _ _ hne HR7.out); have HR8 := Lib.hid hrow; have HB0 := Lib.hid hb; clear hrow hb hoth))
                      refine hK.out _ _ HB0.out (fun _ => ?_)
                      clear hK K
                      try simp only [Act.put]
                      refine wpAnyH_done (by kernel_rfl) ?_ _
                      ((exact K g7 g8 g _ ⟨HR7.out, HR8.out, HB0.out⟩))
                    exact AllReadyH.nil
                  exact AllReadyH.nil
                exact AllReadyH.nil
              refine AllReadyH.cons (o := { dst := some 8, op := Op.alloc 26, type := 0, pos := "law.go:137", after := #[], guard := none }) rfl (fun K hK => ?_) ?_
              · rw [if_pos (by rfl)]
                ((refine wp_alloc_dig 8 rfl rfl ?_; intro g8 w6 hg hrow hb; have hge8 : wr.heap.size ≤ g8 := (by have := HB0.out.size; omega); (try have hne : g7 ≠ g8 := (by have := HR7.out.lt; omega)); have HR8 := Lib.hid hrow; (try have HR7 := Lib.hid (HR7.out.keep hb)); (try have HG := Lib.hid (HG.out.keep hb)); have HB0 := Lib.hid (below_next HB0.out hb); clear hg hrow hb))
                refine hK.out _ _ HB0.out (fun _ => ?_)
                clear hK K
                try simp only [Act.put, List.setIfInBounds_toArray, List.set_cons_zero, List.set_cons_succ]
                refine wpAnyH_ready (rs := [6]) (by kernel_rfl) (by simp) ?_
                refine AllReadyH.cons (o := { dst := some 28, op := Op.call { callee := Callee.value (Operand.func 17), args := #[Operand.tmp 27], argTypes := #[30] }, type := 26, pos := "law.go:137", after := #[{ on := 5, ground := Ground.data }, { on := 3, ground := Ground.chain }], guard := none }) rfl (fun K hK => ?_) ?_
                · rw [if_pos (by rfl)]
                  go_simp
                  go_wp2_with ((go_at_call 17; (refine (HLd.out _ _ HB0.out (drest_one' HG.out HDL.out)).mono ?_); rintro e w4 ⟨rfl, hb⟩; have HB0 := Lib.hid (below_next HB0.out hb); (try have HR7 := Lib.hid (HR7.out.keep hb)); (try have HR8 := Lib.hid (HR8.out.keep hb)); clear hb))
                  refine hK.out _ _ HB0.out (fun _ => ?_)
                  clear hK K
                  try simp only [Act.put, List.setIfInBounds_toArray, List.set_cons_zero, List.set_cons_succ]
                  refine wpAnyH_ready (rs := [9]) (by kernel_rfl) (by simp) ?_
                  refine AllReadyH.cons (o := { dst := none, op := Op.store 26 (Operand.tmp 7) (Operand.tmp 25), type := 0, pos := "law.go:137", after := #[{ on := 7, ground := Ground.data }, { on := 3, ground := Ground.data }, { on := 6, ground := Ground.chain }, { on := 0, ground := Ground.phase }, { on := 1, ground := Ground.phase }, { on := 2, ground := Ground.phase }, { on := 3, ground := Ground.phase }, { on := 4, ground := Ground.textOnly Departure.lateStores }, { on := 5, ground := Ground.textOnly Departure.lateStoresUnsure }, { on := 6, ground := Ground.phase }, { on := 7, ground := Ground.phase }, { on := 8, ground := Ground.phase }], guard := none }) rfl (fun K hK => ?_) ?_
                  · rw [if_pos (by rfl)]
                    ((refine wp_store_dig' _ _ rfl g7 tA HLA.out rfl rfl HR7.out HB0.out hge7 ?_; intro w' hrow hb hoth; have HR8 := Lib.hid (hoth _ _ _ (fun h => hne h.symm) HR8.out); have HR7 := Lib.hid hrow; have HB0 := Lib.hid hb; clear hrow hb hoth))
                    refine hK.out _ _ HB0.out (fun _ => ?_)
                    clear hK K
                    try simp only [Act.put]
                    refine wpAnyH_ready (rs := [10]) (by kernel_rfl) (by simp) ?_
                    refine AllReadyH.cons (o := { dst := none, op := Op.store 26 (Operand.tmp 8) (Operand.tmp 28), type := 0, pos := "law.go:137", after := #[{ on := 8, ground := Ground.data }, { on := 6, ground := Ground.data }, { on := 9, ground := Ground.chain }, { on := 0, ground := Ground.phase }, { on := 1, ground := Ground.phase }, { on := 2, ground := Ground.phase }, { on := 3, ground := Ground.phase }, { on := 4, ground := Ground.phase }, { on := 5, ground := Ground.phase }, { on := 6, ground := Ground.phase }, { on := 7, ground := Ground.phase }, { on := 8, ground := Ground.phase }, { on := 9, ground := Ground.phase }], guard := none }) rfl (fun K hK => ?_) ?_
                    · rw [if_pos (by rfl)]
                      ((refine wp_store_dig' _ _ rfl g8 tB HLB.out rfl rfl HR8.out HB0.out hge8 ?_; intro w' hrow hb hoth; have HR7 := Lib.hid (hoth _ _ _ hne HR7.out); have HR8 := Lib.hid hrow; have HB0 := Lib.hid hb; clear hrow hb hoth))
                      refine hK.out _ _ HB0.out (fun _ => ?_)
                      clear hK K
                      try simp only [Act.put]
                      refine wpAnyH_done (by kernel_rfl) ?_ _
                      ((exact K g7 g8 g _ ⟨HR7.out, HR8.out, HB0.out⟩))
                    exact AllReadyH.nil
                  exact AllReadyH.nil
                exact AllReadyH.nil
              exact AllReadyH.nil
            refine AllReadyH.cons (o := { dst := some 8, op := Op.alloc 26, type := 0, pos := "law.go:137", after := #[], guard := none }) rfl (fun K hK => ?_) ?_
            · rw [if_pos (by rfl)]
              ((refine wp_alloc_dig 8 rfl rfl ?_; intro g8 w6 hg hrow hb; have hge8 : wr.heap.size ≤ g8 := (by have := HB0.out.size; omega); (try have hne : g7 ≠ g8 := (by have := HR7.out.lt; omega)); have HR8 := Lib.hid hrow; (try have HR7 := Lib.hid (HR7.out.keep hb)); (try have HG := Lib.hid (HG.out.keep hb)); have HB0 := Lib.hid (below_next HB0.out hb); clear hg hrow hb))
              refine hK.out _ _ HB0.out (fun _ => ?_)
              clear hK K
              try simp only [Act.put, List.setIfInBounds_toArray, List.set_cons_zero, List.set_cons_succ]
              refine wpAnyH_ready (rs := [6, 7]) (by kernel_rfl) (by simp) ?_
              refine AllReadyH.cons (o := { dst := some 28, op := Op.call { callee := Callee.value (Operand.func 17), args := #[Operand.tmp 27], argTypes := #[30] }, type := 26, pos := "law.go:137", after := #[{ on := 5, ground := Ground.data }, { on := 3, ground := Ground.chain }], guard := none }) rfl (fun K hK => ?_) ?_
              · rw [if_pos (by rfl)]
                go_simp
                go_wp2_with ((go_at_call 17; (refine (HLd.out _ _ HB0.out (drest_one' HG.out HDL.out)).mono ?_); rintro e w4 ⟨rfl, hb⟩; have HB0 := Lib.hid (below_next HB0.out hb); (try have HR7 := Lib.hid (HR7.out.keep hb)); (try have HR8 := Lib.hid (HR8.out.keep hb)); clear hb))
                refine hK.out _ _ HB0.out (fun _ => ?_)
                clear hK K
                try simp only [Act.put, List.setIfInBounds_toArray, List.set_cons_zero, List.set_cons_succ]
                refine wpAnyH_ready (rs := [7]) (by kernel_rfl) (by simp) ?_
                refine AllReadyH.cons (o := { dst := some 7, op := Op.alloc 26, type := 0, pos := "law.go:137", after := #[], guard := none }) rfl (fun K hK => ?_) ?_
                · rw [if_pos (by rfl)]
                  ((refine wp_alloc_dig 7 rfl rfl ?_; intro g7 w5 hg hrow hb; have hge7 : wr.heap.size ≤ g7 := (by have := HB0.out.size; omega); (try have hne : g7 ≠ g8 := (by have := HR8.out.lt; omega)); have HR7 := Lib.hid hrow; (try have HR8 := Lib.hid (HR8.out.keep hb)); (try have HG := Lib.hid (HG.out.keep hb)); have HB0 := Lib.hid (below_next HB0.out hb); clear hg hrow hb))
                  refine hK.out _ _ HB0.out (fun _ => ?_)
                  clear hK K
                  try simp only [Act.put, List.setIfInBounds_toArray, List.set_cons_zero, List.set_cons_succ]
                  refine wpAnyH_ready (rs := [9]) (by kernel_rfl) (by simp) ?_
                  refine AllReadyH.cons (o := { dst := none, op := Op.store 26 (Operand.tmp 7) (Operand.tmp 25), type := 0, pos := "law.go:137", after := #[{ on := 7, ground := Ground.data }, { on := 3, ground := Ground.data }, { on := 6, ground := Ground.chain }, { on := 0, ground := Ground.phase }, { on := 1, ground := Ground.phase }, { on := 2, ground := Ground.phase }, { on := 3, ground := Ground.phase }, { on := 4, ground := Ground.textOnly Departure.lateStores }, { on := 5, ground := Ground.textOnly Departure.lateStoresUnsure }, { on := 6, ground := Ground.phase }, { on := 7, ground := Ground.phase }, { on := 8, ground := Ground.phase }], guard := none }) rfl (fun K hK => ?_) ?_
                  · rw [if_pos (by rfl)]
                    ((refine wp_store_dig' _ _ rfl g7 tA HLA.out rfl rfl HR7.out HB0.out hge7 ?_; intro w' hrow hb hoth; have HR8 := Lib.hid (hoth _ _ _ (fun h => hne h.symm) HR8.out); have HR7 := Lib.hid hrow; have HB0 := Lib.hid hb; clear hrow hb hoth))
                    refine hK.out _ _ HB0.out (fun _ => ?_)
                    clear hK K
                    try simp only [Act.put]
                    refine wpAnyH_ready (rs := [10]) (by kernel_rfl) (by simp) ?_
                    refine AllReadyH.cons (o := { dst := none, op := Op.store 26 (Operand.tmp 8) (Operand.tmp 28), type := 0, pos := "law.go:137", after := #[{ on := 8, ground := Ground.data }, { on := 6, ground := Ground.data }, { on := 9, ground := Ground.chain }, { on := 0, ground := Ground.phase }, { on := 1, ground := Ground.phase }, { on := 2, ground := Ground.phase }, { on := 3, ground := Ground.phase }, { on := 4, ground := Ground.phase }, { on := 5, ground := Ground.phase }, { on := 6, ground := Ground.phase }, { on := 7, ground := Ground.phase }, { on := 8, ground := Ground.phase }, { on := 9, ground := Ground.phase }], guard := none }) rfl (fun K hK => ?_) ?_
                    · rw [if_pos (by rfl)]
                      ((refine wp_store_dig' _ _ rfl g8 tB HLB.out rfl rfl HR8.out HB0.out hge8 ?_; intro w' hrow hb hoth; have HR7 := Lib.hid (hoth _ _ _ hne HR7.out); have HR8 := Lib.hid hrow; have HB0 := Lib.hid hb; clear hrow hb hoth))
                      refine hK.out _ _ HB0.out (fun _ => ?_)
                      clear hK K
                      try simp only [Act.put]
                      refine wpAnyH_done (by kernel_rfl) ?_ _
                      ((exact K g7 g8 g _ ⟨HR7.out, HR8.out, HB0.out⟩))
                    exact AllReadyH.nil
                  exact AllReadyH.nil
                exact AllReadyH.nil
              refine AllReadyH.cons (o := { dst := some 7, op := Op.alloc 26, type := 0, pos := "law.go:137", after := #[], guard := none }) rfl (fun K hK => ?_) ?_
              · rw [if_pos (by rfl)]
                ((refine wp_alloc_dig 7 rfl rfl ?_; intro g7 w5 hg hrow hb; have hge7 : wr.heap.size ≤ g7 := (by have := HB0.out.size; omega); (try have hne : g7 ≠ g8 := (by have := HR8.out.lt; omega)); have HR7 := Lib.hid hrow; (try have HR8 := Lib.hid (HR8.out.keep hb)); (try have HG := Lib.hid (HG.out.keep hb)); have HB0 := Lib.hid (below_next HB0.out hb); clear hg hrow hb))
                refine hK.out _ _ HB0.out (fun _ => ?_)
                clear hK K
                try simp only [Act.put, List.setIfInBounds_toArray, List.set_cons_zero, List.set_cons_succ]
                refine wpAnyH_ready (rs := [6]) (by kernel_rfl) (by simp) ?_
                refine AllReadyH.cons (o := { dst := some 28, op := Op.call { callee := Callee.value (Operand.func 17), args := #[Operand.tmp 27], argTypes := #[30] }, type := 26, pos := "law.go:137", after := #[{ on := 5, ground := Ground.data }, { on := 3, ground := Ground.chain }], guard := none }) rfl (fun K hK => ?_) ?_
                · rw [if_pos (by rfl)]
                  go_simp
                  go_wp2_with ((go_at_call 17; (refine (HLd.out _ _ HB0.out (drest_one' HG.out HDL.out)).mono ?_); rintro e w4 ⟨rfl, hb⟩; have HB0 := Lib.hid (below_next HB0.out hb); (try have HR7 := Lib.hid (HR7.out.keep hb)); (try have HR8 := Lib.hid (HR8.out.keep hb)); clear hb))
                  refine hK.out _ _ HB0.out (fun _ => ?_)
                  clear hK K
                  try simp only [Act.put, List.setIfInBounds_toArray, List.set_cons_zero, List.set_cons_succ]
                  refine wpAnyH_ready (rs := [9]) (by kernel_rfl) (by simp) ?_
                  refine AllReadyH.cons (o := { dst := none, op := Op.store 26 (Operand.tmp 7) (Operand.tmp 25), type := 0, pos := "law.go:137", after := #[{ on := 7, ground := Ground.data }, { on := 3, ground := Ground.data }, { on := 6, ground := Ground.chain }, { on := 0, ground := Ground.phase }, { on := 1, ground := Ground.phase }, { on := 2, ground := Ground.phase }, { on := 3, ground := Ground.phase }, { on := 4, ground := Ground.textOnly Departure.lateStores }, { on := 5, ground := Ground.textOnly Departure.lateStoresUnsure }, { on := 6, ground := Ground.phase }, { on := 7, ground := Ground.phase }, { on := 8, ground := Ground.phase }], guard := none }) rfl (fun K hK => ?_) ?_
                  · rw [if_pos (by rfl)]
                    ((refine wp_store_dig' _ _ rfl g7 tA HLA.out rfl rfl HR7.out HB0.out hge7 ?_; intro w' hrow hb hoth; have HR8 := Lib.hid (hoth _ _ _ (fun h => hne h.symm) HR8.out); have HR7 := Lib.hid hrow; have HB0 := Lib.hid hb; clear hrow hb hoth))
                    refine hK.out _ _ HB0.out (fun _ => ?_)
                    clear hK K
                    try simp only [Act.put]
                    refine wpAnyH_ready (rs := [10]) (by kernel_rfl) (by simp) ?_
                    refine AllReadyH.cons (o := { dst := none, op := Op.store 26 (Operand.tmp 8) (Operand.tmp 28), type := 0, pos := "law.go:137", after := #[{ on := 8, ground := Ground.data }, { on := 6, ground := Ground.data }, { on := 9, ground := Ground.chain }, { on := 0, ground := Ground.phase }, { on := 1, ground := Ground.phase }, { on := 2, ground := Ground.phase }, { on := 3, ground := Ground.phase }, { on := 4, ground := Ground.phase }, { on := 5, ground := Ground.phase }, { on := 6, ground := Ground.phase }, { on := 7, ground := Ground.phase }, { on := 8, ground := Ground.phase }, { on := 9, ground := Ground.phase }], guard := none }) rfl (fun K hK => ?_) ?_
                    · rw [if_pos (by rfl)]
                      ((refine wp_store_dig' _ _ rfl g8 tB HLB.out rfl rfl HR8.out HB0.out hge8 ?_; intro w' hrow hb hoth; have HR7 := Lib.hid (hoth _ _ _ hne HR7.out); have HR8 := Lib.hid hrow; have HB0 := Lib.hid hb; clear hrow hb hoth))
                      refine hK.out _ _ HB0.out (fun _ => ?_)
                      clear hK K
                      try simp only [Act.put]
                      refine wpAnyH_done (by kernel_rfl) ?_ _
                      ((exact K g7 g8 g _ ⟨HR7.out, HR8.out, HB0.out⟩))
                    exact AllReadyH.nil
                  exact AllReadyH.nil
                exact AllReadyH.nil
              exact AllReadyH.nil
            exact AllReadyH.nil
          refine AllReadyH.cons (o := { dst := some 7, op := Op.alloc 26, type := 0, pos := "law.go:137", after := #[], guard := none }) rfl (fun K hK => ?_) ?_
          · rw [if_pos (by rfl)]
            ((refine wp_alloc_dig 7 rfl rfl ?_; intro g7 w5 hg hrow hb; have hge7 : wr.heap.size ≤ g7 := (by have := HB0.out.size; omega); (try have hne : g7 ≠ g8 := (by have := HR8.out.lt; omega)); have HR7 := Lib.hid hrow; (try have HR8 := Lib.hid (HR8.out.keep hb)); (try have HG := Lib.hid (HG.out.keep hb)); have HB0 := Lib.hid (below_next HB0.out hb); clear hg hrow hb))
            refine hK.out _ _ HB0.out (fun _ => ?_)
            clear hK K
            try simp only [Act.put, List.setIfInBounds_toArray, List.set_cons_zero, List.set_cons_succ]
            refine wpAnyH_ready (rs := [3, 8]) (by kernel_rfl) (by simp) ?_
            refine AllReadyH.cons (o := { dst := some 25, op := Op.call { callee := Callee.value (Operand.func 17), args := #[Operand.tmp 24], argTypes := #[30] }, type := 26, pos := "law.go:137", after := #[{ on := 2, ground := Ground.data }], guard := none }) rfl (fun K hK => ?_) ?_
            · rw [if_pos (by rfl)]
              go_simp
              go_wp2_with ((go_at_call 17; (with_reducible refine (HL.out _ HB0.out).mono ?_); rintro e w3 ⟨rfl, hb⟩; have HB0 := Lib.hid (below_next HB0.out hb); (try have HR7 := Lib.hid (HR7.out.keep hb)); (try have HR8 := Lib.hid (HR8.out.keep hb)); (try have HG := Lib.hid (HG.out.keep hb)); clear hb))
              refine hK.out _ _ HB0.out (fun _ => ?_)
              clear hK K
              try simp only [Act.put, List.setIfInBounds_toArray, List.set_cons_zero, List.set_cons_succ]
              refine wpAnyH_ready (rs := [6, 8]) (by kernel_rfl) (by simp) ?_
              refine AllReadyH.cons (o := { dst := some 28, op := Op.call { callee := Callee.value (Operand.func 17), args := #[Operand.tmp 27], argTypes := #[30] }, type := 26, pos := "law.go:137", after := #[{ on := 5, ground := Ground.data }, { on := 3, ground := Ground.chain }], guard := none }) rfl (fun K hK => ?_) ?_
              · rw [if_pos (by rfl)]
                go_simp
                go_wp2_with ((go_at_call 17; (refine (HLd.out _ _ HB0.out (drest_one' HG.out HDL.out)).mono ?_); rintro e w4 ⟨rfl, hb⟩; have HB0 := Lib.hid (below_next HB0.out hb); (try have HR7 := Lib.hid (HR7.out.keep hb)); (try have HR8 := Lib.hid (HR8.out.keep hb)); clear hb))
                refine hK.out _ _ HB0.out (fun _ => ?_)
                clear hK K
                try simp only [Act.put, List.setIfInBounds_toArray, List.set_cons_zero, List.set_cons_succ]
                refine wpAnyH_ready (rs := [8]) (by kernel_rfl) (by simp) ?_
                refine AllReadyH.cons (o := { dst := some 8, op := Op.alloc 26, type := 0, pos := "law.go:137", after := #[], guard := none }) rfl (fun K hK => ?_) ?_
                · rw [if_pos (by rfl)]
                  ((refine wp_alloc_dig 8 rfl rfl ?_; intro g8 w6 hg hrow hb; have hge8 : wr.heap.size ≤ g8 := (by have := HB0.out.size; omega); (try have hne : g7 ≠ g8 := (by have := HR7.out.lt; omega)); have HR8 := Lib.hid hrow; (try have HR7 := Lib.hid (HR7.out.keep hb)); (try have HG := Lib.hid (HG.out.keep hb)); have HB0 := Lib.hid (below_next HB0.out hb); clear hg hrow hb))
                  refine hK.out _ _ HB0.out (fun _ => ?_)
                  clear hK K
                  try simp only [Act.put, List.setIfInBounds_toArray, List.set_cons_zero, List.set_cons_succ]
                  refine wpAnyH_ready (rs := [9]) (by kernel_rfl) (by simp) ?_
                  refine AllReadyH.cons (o := { dst := none, op := Op.store 26 (Operand.tmp 7) (Operand.tmp 25), type := 0, pos := "law.go:137", after := #[{ on := 7, ground := Ground.data }, { on := 3, ground := Ground.data }, { on := 6, ground := Ground.chain }, { on := 0, ground := Ground.phase }, { on := 1, ground := Ground.phase }, { on := 2, ground := Ground.phase }, { on := 3, ground := Ground.phase }, { on := 4, ground := Ground.textOnly Departure.lateStores }, { on := 5, ground := Ground.textOnly Departure.lateStoresUnsure }, { on := 6, ground := Ground.phase }, { on := 7, ground := Ground.phase }, { on := 8, ground := Ground.phase }], guard := none }) rfl (fun K hK => ?_) ?_
                  · rw [if_pos (by rfl)]
                    ((refine wp_store_dig' _ _ rfl g7 tA HLA.out rfl rfl HR7.out HB0.out hge7 ?_; intro w' hrow hb hoth; have HR8 := Lib.hid (hoth _ _ _ (fun h => hne h.symm) HR8.out); have HR7 := Lib.hid hrow; have HB0 := Lib.hid hb; clear hrow hb hoth))
                    refine hK.out _ _ HB0.out (fun _ => ?_)
                    clear hK K
                    try simp only [Act.put]
                    refine wpAnyH_ready (rs := [10]) (by kernel_rfl) (by simp) ?_
                    refine AllReadyH.cons (o := { dst := none, op := Op.store 26 (Operand.tmp 8) (Operand.tmp 28), type := 0, pos := "law.go:137", after := #[{ on := 8, ground := Ground.data }, { on := 6, ground := Ground.data }, { on := 9, ground := Ground.chain }, { on := 0, ground := Ground.phase }, { on := 1, ground := Ground.phase }, { on := 2, ground := Ground.phase }, { on := 3, ground := Ground.phase }, { on := 4, ground := Ground.phase }, { on := 5, ground := Ground.phase }, { on := 6, ground := Ground.phase }, { on := 7, ground := Ground.phase }, { on := 8, ground := Ground.phase }, { on := 9, ground := Ground.phase }], guard := none }) rfl (fun K hK => ?_) ?_
                    · rw [if_pos (by rfl)]
                      ((refine wp_store_dig' _ _ rfl g8 tB HLB.out rfl rfl HR8.out HB0.out hge8 ?_; intro w' hrow hb hoth; have HR7 := Lib.hid (hoth _ _ _ hne HR7.out); have HR8 := Lib.hid hrow; have HB0 := Lib.hid hb; clear hrow hb hoth))
                      refine hK.out _ _ HB0.out (fun _ => ?_)
                      clear hK K
                      try simp only [Act.put]
                      refine wpAnyH_done (by kernel_rfl) ?_ _
                      ((exact K g7 g8 g _ ⟨HR7.out, HR8.out, HB0.out⟩))
                    exact AllReadyH.nil
                  exact AllReadyH.nil
                exact AllReadyH.nil
              refine AllReadyH.cons (o := { dst := some 8, op := Op.alloc 26, type := 0, pos := "law.go:137", after := #[], guard := none }) rfl (fun K hK => ?_) ?_
              · rw [if_pos (by rfl)]
                ((refine wp_alloc_dig 8 rfl rfl ?_; intro g8 w6 hg hrow hb; have hge8 : wr.heap.size ≤ g8 := (by have := HB0.out.size; omega); (try have hne : g7 ≠ g8 := (by have := HR7.out.lt; omega)); have HR8 := Lib.hid hrow; (try have HR7 := Lib.hid (HR7.out.keep hb)); (try have HG := Lib.hid (HG.out.keep hb)); have HB0 := Lib.hid (below_next HB0.out hb); clear hg hrow hb))
                refine hK.out _ _ HB0.out (fun _ => ?_)
                clear hK K
                try simp only [Act.put, List.setIfInBounds_toArray, List.set_cons_zero, List.set_cons_succ]
                refine wpAnyH_ready (rs := [6]) (by kernel_rfl) (by simp) ?_
                refine AllReadyH.cons (o := { dst := some 28, op := Op.call { callee := Callee.value (Operand.func 17), args := #[Operand.tmp 27], argTypes := #[30] }, type := 26, pos := "law.go:137", after := #[{ on := 5, ground := Ground.data }, { on := 3, ground := Ground.chain }], guard := none }) rfl (fun K hK => ?_) ?_
                · rw [if_pos (by rfl)]
                  go_simp
                  go_wp2_with ((go_at_call 17; (refine (HLd.out _ _ HB0.out (drest_one' HG.out HDL.out)).mono ?_); rintro e w4 ⟨rfl, hb⟩; have HB0 := Lib.hid (below_next HB0.out hb); (try have HR7 := Lib.hid (HR7.out.keep hb)); (try have HR8 := Lib.hid (HR8.out.keep hb)); clear hb))
                  refine hK.out _ _ HB0.out (fun _ => ?_)
                  clear hK K
                  try simp only [Act.put, List.setIfInBounds_toArray, List.set_cons_zero, List.set_cons_succ]
                  refine wpAnyH_ready (rs := [9]) (by kernel_rfl) (by simp) ?_
                  refine AllReadyH.cons (o := { dst := none, op := Op.store 26 (Operand.tmp 7) (Operand.tmp 25), type := 0, pos := "law.go:137", after := #[{ on := 7, ground := Ground.data }, { on := 3, ground := Ground.data }, { on := 6, ground := Ground.chain }, { on := 0, ground := Ground.phase }, { on := 1, ground := Ground.phase }, { on := 2, ground := Ground.phase }, { on := 3, ground := Ground.phase }, { on := 4, ground := Ground.textOnly Departure.lateStores }, { on := 5, ground := Ground.textOnly Departure.lateStoresUnsure }, { on := 6, ground := Ground.phase }, { on := 7, ground := Ground.phase }, { on := 8, ground := Ground.phase }], guard := none }) rfl (fun K hK => ?_) ?_
                  · rw [if_pos (by rfl)]
                    ((refine wp_store_dig' _ _ rfl g7 tA HLA.out rfl rfl HR7.out HB0.out hge7 ?_; intro w' hrow hb hoth; have HR8 := Lib.hid (hoth _ _ _ (fun h => hne h.symm) HR8.out); have HR7 := Lib.hid hrow; have HB0 := Lib.hid hb; clear hrow hb hoth))
                    refine hK.out _ _ HB0.out (fun _ => ?_)
                    clear hK K
                    try simp only [Act.put]
                    refine wpAnyH_ready (rs := [10]) (by kernel_rfl) (by simp) ?_
                    refine AllReadyH.cons (o := { dst := none, op := Op.store 26 (Operand.tmp 8) (Operand.tmp 28), type := 0, pos := "law.go:137", after := #[{ on := 8, ground := Ground.data }, { on := 6, ground := Ground.data }, { on := 9, ground := Ground.chain }, { on := 0, ground := Ground.phase }, { on := 1, ground := Ground.phase }, { on := 2, ground := Ground.phase }, { on := 3, ground := Ground.phase }, { on := 4, ground := Ground.phase }, { on := 5, ground := Ground.phase }, { on := 6, ground := Ground.phase }, { on := 7, ground := Ground.phase }, { on := 8, ground := Ground.phase }, { on := 9, ground := Ground.phase }], guard := none }) rfl (fun K hK => ?_) ?_
                    · rw [if_pos (by rfl)]
                      ((refine wp_store_dig' _ _ rfl g8 tB HLB.out rfl rfl HR8.out HB0.out hge8 ?_; intro w' hrow hb hoth; have HR7 := Lib.hid (hoth _ _ _ hne HR7.out); have HR8 := Lib.hid hrow; have HB0 := Lib.hid hb; clear hrow hb hoth))
                      refine hK.out _ _ HB0.out (fun _ => ?_)
                      clear hK K
                      try simp only [Act.put]
                      refine wpAnyH_done (by kernel_rfl) ?_ _
                      ((exact K g7 g8 g _ ⟨HR7.out, HR8.out, HB0.out⟩))
                    exact AllReadyH.nil
                  exact AllReadyH.nil
                exact AllReadyH.nil
              exact AllReadyH.nil
            refine AllReadyH.cons (o := { dst := some 8, op := Op.alloc 26, type := 0, pos := "law.go:137", after := #[], guard := none }) rfl (fun K hK => ?_) ?_
            · rw [if_pos (by rfl)]
              ((refine wp_alloc_dig 8 rfl rfl ?_; intro g8 w6 hg hrow hb; have hge8 : wr.heap.size ≤ g8 := (by have := HB0.out.size; omega); (try have hne : g7 ≠ g8 := (by have := HR7.out.lt; omega)); have HR8 := Lib.hid hrow; (try have HR7 := Lib.hid (HR7.out.keep hb)); (try have HG := Lib.hid (HG.out.keep hb)); have HB0 := Lib.hid (below_next HB0.out hb); clear hg hrow hb))
              refine hK.out _ _ HB0.out (fun _ => ?_)
              clear hK K
              try simp only [Act.put, List.setIfInBounds_toArray, List.set_cons_zero, List.set_cons_succ]
              refine wpAnyH_ready (rs := [3]) (by kernel_rfl) (by simp) ?_
              refine AllReadyH.cons (o := { dst := some 25, op := Op.call { callee := Callee.value (Operand.func 17), args := #[Operand.tmp 24], argTypes := #[30] }, type := 26, pos := "law.go:137", after := #[{ on := 2, ground := Ground.data }], guard := none }) rfl (fun K hK => ?_) ?_
              · rw [if_pos (by rfl)]
                go_simp
                go_wp2_with ((go_at_call 17; (with_reducible refine (HL.out _ HB0.out).mono ?_); rintro e w3 ⟨rfl, hb⟩; have HB0 := Lib.hid (below_next HB0.out hb); (try have HR7 := Lib.hid (HR7.out.keep hb)); (try have HR8 := Lib.hid (HR8.out.keep hb)); (try have HG := Lib.hid (HG.out.keep hb)); clear hb))
                refine hK.out _ _ HB0.out (fun _ => ?_)
                clear hK K
                try simp only [Act.put, List.setIfInBounds_toArray, List.set_cons_zero, List.set_cons_succ]
                refine wpAnyH_ready (rs := [6]) (by kernel_rfl) (by simp) ?_
                refine AllReadyH.cons (o := { dst := some 28, op := Op.call { callee := Callee.value (Operand.func 17), args := #[Operand.tmp 27], argTypes := #[30] }, type := 26, pos := "law.go:137", after := #[{ on := 5, ground := Ground.data }, { on := 3, ground := Ground.chain }], guard := none }) rfl (fun K hK => ?_) ?_
                · rw [if_pos (by rfl)]
                  go_simp
                  go_wp2_with ((go_at_call 17; (refine (HLd.out _ _ HB0.out (drest_one' HG.out HDL.out)).mono ?_); rintro e w4 ⟨rfl, hb⟩; have HB0 := Lib.hid (below_next HB0.out hb); (try have HR7 := Lib.hid (HR7.out.keep hb)); (try have HR8 := Lib.hid (HR8.out.keep hb)); clear hb))
                  refine hK.out _ _ HB0.out (fun _ => ?_)
                  clear hK K
                  try simp only [Act.put, List.setIfInBounds_toArray, List.set_cons_zero, List.set_cons_succ]
                  refine wpAnyH_ready (rs := [9]) (by kernel_rfl) (by simp) ?_
                  refine AllReadyH.cons (o := { dst := none, op := Op.store 26 (Operand.tmp 7) (Operand.tmp 25), type := 0, pos := "law.go:137", after := #[{ on := 7, ground := Ground.data }, { on := 3, ground := Ground.data }, { on := 6, ground := Ground.chain }, { on := 0, ground := Ground.phase }, { on := 1, ground := Ground.phase }, { on := 2, ground := Ground.phase }, { on := 3, ground := Ground.phase }, { on := 4, ground := Ground.textOnly Departure.lateStores }, { on := 5, ground := Ground.textOnly Departure.lateStoresUnsure }, { on := 6, ground := Ground.phase }, { on := 7, ground := Ground.phase }, { on := 8, ground := Ground.phase }], guard := none }) rfl (fun K hK => ?_) ?_
                  · rw [if_pos (by rfl)]
                    ((refine wp_store_dig' _ _ rfl g7 tA HLA.out rfl rfl HR7.out HB0.out hge7 ?_; intro w' hrow hb hoth; have HR8 := Lib.hid (hoth _ _ _ (fun h => hne h.symm) HR8.out); have HR7 := Lib.hid hrow; have HB0 := Lib.hid hb; clear hrow hb hoth))
                    refine hK.out _ _ HB0.out (fun _ => ?_)
                    clear hK K
                    try simp only [Act.put]
                    refine wpAnyH_ready (rs := [10]) (by kernel_rfl) (by simp) ?_
                    refine AllReadyH.cons (o := { dst := none, op := Op.store 26 (Operand.tmp 8) (Operand.tmp 28), type := 0, pos := "law.go:137", after := #[{ on := 8, ground := Ground.data }, { on := 6, ground := Ground.data }, { on := 9, ground := Ground.chain }, { on := 0, ground := Ground.phase }, { on := 1, ground := Ground.phase }, { on := 2, ground := Ground.phase }, { on := 3, ground := Ground.phase }, { on := 4, ground := Ground.phase }, { on := 5, ground := Ground.phase }, { on := 6, ground := Ground.phase }, { on := 7, ground := Ground.phase }, { on := 8, ground := Ground.phase }, { on := 9, ground := Ground.phase }], guard := none }) rfl (fun K hK => ?_) ?_
                    · rw [if_pos (by rfl)]
                      ((refine wp_store_dig' _ _ rfl g8 tB HLB.out rfl rfl HR8.out HB0.out hge8 ?_; intro w' hrow hb hoth; have HR7 := Lib.hid (hoth _ _ _ hne HR7.out); have HR8 := Lib.hid hrow; have HB0 := Lib.hid hb; clear hrow hb hoth))
                      refine hK.out _ _ HB0.out (fun _ => ?_)
                      clear hK K
                      try simp only [Act.put]
                      refine wpAnyH_done (by kernel_rfl) ?_ _
                      ((exact K g7 g8 g _ ⟨HR7.out, HR8.out, HB0.out⟩))
                    exact AllReadyH.nil
                  exact AllReadyH.nil
                exact AllReadyH.nil
              exact AllReadyH.nil
            exact AllReadyH.nil
          refine AllReadyH.cons (o := { dst := some 8, op := Op.alloc 26, type := 0, pos := "law.go:137", after := #[], guard := none }) rfl (fun K hK => ?_) ?_
          · rw [if_pos (by rfl)]
            ((refine wp_alloc_dig 8 rfl rfl ?_; intro g8 w6 hg hrow hb; have hge8 : wr.heap.size ≤ g8 := (by have := HB0.out.size; omega); (try have hne : g7 ≠ g8 := (by have := HR7.out.lt; omega)); have HR8 := Lib.hid hrow; (try have HR7 := Lib.hid (HR7.out.keep hb)); (try have HG := Lib.hid (HG.out.keep hb)); have HB0 := Lib.hid (below_next HB0.out hb); clear hg hrow hb))
            refine hK.out _ _ HB0.out (fun _ => ?_)
            clear hK K
            try simp only [Act.put, List.setIfInBounds_toArray, List.set_cons_zero, List.set_cons_succ]
            refine wpAnyH_ready (rs := [3, 7]) (by kernel_rfl) (by simp) ?_
            refine AllReadyH.cons (o := { dst := some 25, op := Op.call { callee := Callee.value (Operand.func 17), args := #[Operand.tmp 24], argTypes := #[30] }, type := 26, pos := "law.go:137", after := #[{ on := 2, ground := Ground.data }], guard := none }) rfl (fun K hK => ?_) ?_
            · rw [if_pos (by rfl)]
              go_simp
              go_wp2_with ((go_at_call 17; (with_reducible refine (HL.out _ HB0.out).mono ?_); rintro e w3 ⟨rfl, hb⟩; have HB0 := Lib.hid (below_next HB0.out hb); (try have HR7 := Lib.hid (HR7.out.keep hb)); (try have HR8 := Lib.hid (HR8.out.keep hb)); (try have HG := Lib.hid (HG.out.keep hb)); clear hb))
              refine hK.out _ _ HB0.out (fun _ => ?_)
              clear hK K
              try simp only [Act.put, List.setIfInBounds_toArray, List.set_cons_zero, List.set_cons_succ]
              refine wpAnyH_ready (rs := [6, 7]) (by kernel_rfl) (by simp) ?_
              refine AllReadyH.cons (o := { dst := some 28, op := Op.call { callee := Callee.value (Operand.func 17), args := #[Operand.tmp 27], argTypes := #[30] }, type := 26, pos := "law.go:137", after := #[{ on := 5, ground := Ground.data }, { on := 3, ground := Ground.chain }], guard := none }) rfl (fun K hK => ?_) ?_
              · rw [if_pos (by rfl)]
                go_simp
                go_wp2_with ((go_at_call 17; (refine (HLd.out _ _ HB0.out (drest_one' HG.out HDL.out)).mono ?_); rintro e w4 ⟨rfl, hb⟩; have HB0 := Lib.hid (below_next HB0.out hb); (try have HR7 := Lib.hid (HR7.out.keep hb)); (try have HR8 := Lib.hid (HR8.out.keep hb)); clear hb))
                refine hK.out _ _ HB0.out (fun _ => ?_)
                clear hK K
                try simp only [Act.put, List.setIfInBounds_toArray, List.set_cons_zero, List.set_cons_succ]
                refine wpAnyH_ready (rs := [7]) (by kernel_rfl) (by simp) ?_
                refine AllReadyH.cons (o := { dst := some 7, op := Op.alloc 26, type := 0, pos := "law.go:137", after := #[], guard := none }) rfl (fun K hK => ?_) ?_
                · rw [if_pos (by rfl)]
                  ((refine wp_alloc_dig 7 rfl rfl ?_; intro g7 w5 hg hrow hb; have hge7 : wr.heap.size ≤ g7 := (by have := HB0.out.size; omega); (try have hne : g7 ≠ g8 := (by have := HR8.out.lt; omega)); have HR7 := Lib.hid hrow; (try have HR8 := Lib.hid (HR8.out.keep hb)); (try have HG := Lib.hid (HG.out.keep hb)); have HB0 := Lib.hid (below_next HB0.out hb); clear hg hrow hb))
                  refine hK.out _ _ HB0.out (fun _ => ?_)
                  clear hK K
                  try simp only [Act.put, List.setIfInBounds_toArray, List.set_cons_zero, List.set_cons_succ]
                  refine wpAnyH_ready (rs := [9]) (by kernel_rfl) (by simp) ?_
                  refine AllReadyH.cons (o := { dst := none, op := Op.store 26 (Operand.tmp 7) (Operand.tmp 25), type := 0, pos := "law.go:137", after := #[{ on := 7, ground := Ground.data }, { on := 3, ground := Ground.data }, { on := 6, ground := Ground.chain }, { on := 0, ground := Ground.phase }, { on := 1, ground := Ground.phase }, { on := 2, ground := Ground.phase }, { on := 3, ground := Ground.phase }, { on := 4, ground := Ground.textOnly Departure.lateStores }, { on := 5, ground := Ground.textOnly Departure.lateStoresUnsure }, { on := 6, ground := Ground.phase }, { on := 7, ground := Ground.phase }, { on := 8, ground := Ground.phase }], guard := none }) rfl (fun K hK => ?_) ?_
                  · rw [if_pos (by rfl)]
                    ((refine wp_store_dig' _ _ rfl g7 tA HLA.out rfl rfl HR7.out HB0.out hge7 ?_; intro w' hrow hb hoth; have HR8 := Lib.hid (hoth _ _ _ (fun h => hne h.symm) HR8.out); have HR7 := Lib.hid hrow; have HB0 := Lib.hid hb; clear hrow hb hoth))
                    refine hK.out _ _ HB0.out (fun _ => ?_)
                    clear hK K
                    try simp only [Act.put]
                    refine wpAnyH_ready (rs := [10]) (by kernel_rfl) (by simp) ?_
                    refine AllReadyH.cons (o := { dst := none, op := Op.store 26 (Operand.tmp 8) (Operand.tmp 28), type := 0, pos := "law.go:137", after := #[{ on := 8, ground := Ground.data }, { on := 6, ground := Ground.data }, { on := 9, ground := Ground.chain }, { on := 0, ground := Ground.phase }, { on := 1, ground := Ground.phase }, { on := 2, ground := Ground.phase }, { on := 3, ground := Ground.phase }, { on := 4, ground := Ground.phase }, { on := 5, ground := Ground.phase }, { on := 6, ground := Ground.phase }, { on := 7, ground := Ground.phase }, { on := 8, ground := Ground.phase }, { on := 9, ground := Ground.phase }], guard := none }) rfl (fun K hK => ?_) ?_
                    · rw [if_pos (by rfl)]
                      ((refine wp_store_dig' _ _ rfl g8 tB HLB.out rfl rfl HR8.out HB0.out hge8 ?_; intro w' hrow hb hoth; have HR7 := Lib.hid (hoth _ _ _ hne HR7.out); have HR8 := Lib.hid hrow; have HB0 := Lib.hid hb; clear hrow hb hoth))
                      refine hK.out _ _ HB0.out (fun _ => ?_)
                      clear hK K
                      try simp only [Act.put]
                      refine wpAnyH_done (by kernel_rfl) ?_ _
                      ((exact K g7 g8 g _ ⟨HR7.out, HR8.out, HB0.out⟩))
                    exact AllReadyH.nil
                  exact AllReadyH.nil
                exact AllReadyH.nil
              refine AllReadyH.cons (o := { dst := some 7, op := Op.alloc 26, type := 0, pos := "law.go:137", after := #[], guard := none }) rfl (fun K hK => ?_) ?_
              · rw [if_pos (by rfl)]
                ((refine wp_alloc_dig 7 rfl rfl ?_; intro g7 w5 hg hrow hb; have hge7 : wr.heap.size ≤ g7 := (by have := HB0.out.size; omega); (try have hne : g7 ≠ g8 := (by have := HR8.out.lt; omega)); have HR7 := Lib.hid hrow; (try have HR8 := Lib.hid (HR8.out.keep hb)); (try have HG := Lib.hid (HG.out.keep hb)); have HB0 := Lib.hid (below_next HB0.out hb); clear hg hrow hb))
                refine hK.out _ _ HB0.out (fun _ => ?_)
                clear hK K
                try simp only [Act.put, List.setIfInBounds_toArray, List.set_cons_zero, List.set_cons_succ]
                refine wpAnyH_ready (rs := [6]) (by kernel_rfl) (by simp) ?_
                refine AllReadyH.cons (o := { dst := some 28, op := Op.call { callee := Callee.value (Operand.func 17), args := #[Operand.tmp 27], argTypes := #[30] }, type := 26, pos := "law.go:137", after := #[{ on := 5, ground := Ground.data }, { on := 3, ground := Ground.chain }], guard := none }) rfl (fun K hK => ?_) ?_
                · rw [if_pos (by rfl)]
                  go_simp
                  go_wp2_with ((go_at_call 17; (refine (HLd.out _ _ HB0.out (drest_one' HG.out HDL.out)).mono ?_); rintro e w4 ⟨rfl, hb⟩; have HB0 := Lib.hid (below_next HB0.out hb); (try have HR7 := Lib.hid (HR7.out.keep hb)); (try have HR8 := Lib.hid (HR8.out.keep hb)); clear hb))
                  refine hK.out _ _ HB0.out (fun _ => ?_)
                  clear hK K
                  try simp only [Act.put, List.setIfInBounds_toArray, List.set_cons_zero, List.set_cons_succ]
                  refine wpAnyH_ready (rs := [9]) (by kernel_rfl) (by simp) ?_
                  refine AllReadyH.cons (o := { dst := none, op := Op.store 26 (Operand.tmp 7) (Operand.tmp 25), type := 0, pos := "law.go:137", after := #[{ on := 7, ground := Ground.data }, { on := 3, ground := Ground.data }, { on := 6, ground := Ground.chain }, { on := 0, ground := Ground.phase }, { on := 1, ground := Ground.phase }, { on := 2, ground := Ground.phase }, { on := 3, ground := Ground.phase }, { on := 4, ground := Ground.textOnly Departure.lateStores }, { on := 5, ground := Ground.textOnly Departure.lateStoresUnsure }, { on := 6, ground := Ground.phase }, { on := 7, ground := Ground.phase }, { on := 8, ground := Ground.phase }], guard := none }) rfl (fun K hK => ?_) ?_
                  · rw [if_pos (by rfl)]
                    ((refine wp_store_dig' _ _ rfl g7 tA HLA.out rfl rfl HR7.out HB0.out hge7 ?_; intro w' hrow hb hoth; have HR8 := Lib.hid (hoth _ _ _ (fun h => hne h.symm) HR8.out); have HR7 := Lib.hid hrow; have HB0 := Lib.hid hb; clear hrow hb hoth))
                    refine hK.out _ _ HB0.out (fun _ => ?_)
                    clear hK K
                    try simp only [Act.put]
                    refine wpAnyH_ready (rs := [10]) (by kernel_rfl) (by simp) ?_
                    refine AllReadyH.cons (o := { dst := none, op := Op.store 26 (Operand.tmp 8) (Operand.tmp 28), type := 0, pos := "law.go:137", after := #[{ on := 8, ground := Ground.data }, { on := 6, ground := Ground.data }, { on := 9, ground := Ground.chain }, { on := 0, ground := Ground.phase }, { on := 1, ground := Ground.phase }, { on := 2, ground := Ground.phase }, { on := 3, ground := Ground.phase }, { on := 4, ground := Ground.phase }, { on := 5, ground := Ground.phase }, { on := 6, ground := Ground.phase }, { on := 7, ground := Ground.phase }, { on := 8, ground := Ground.phase }, { on := 9, ground := Ground.phase }], guard := none }) rfl (fun K hK => ?_) ?_
                    · rw [if_pos (by rfl)]
                      ((refine wp_store_dig' _ _ rfl g8 tB HLB.out rfl rfl HR8.out HB0.out hge8 ?_; intro w' hrow hb hoth; have HR7 := Lib.hid (hoth _ _ _ hne HR7.out); have HR8 := Lib.hid hrow; have HB0 := Lib.hid hb; clear hrow hb hoth))
                      refine hK.out _ _ HB0.out (fun _ => ?_)
                      clear hK K
                      try simp only [Act.put]
                      refine wpAnyH_done (by kernel_rfl) ?_ _
                      ((exact K g7 g8 g _ ⟨HR7.out, HR8.out, HB0.out⟩))
                    exact AllReadyH.nil
                  exact AllReadyH.nil
                exact AllReadyH.nil
              exact AllReadyH.nil
            refine AllReadyH.cons (o := { dst := some 7, op := Op.alloc 26, type := 0, pos := "law.go:137", after := #[], guard := none }) rfl (fun K hK => ?_) ?_
            · rw [if_pos (by rfl)]
              ((refine wp_alloc_dig 7 rfl rfl ?_; intro g7 w5 hg hrow hb; have hge7 : wr.heap.size ≤ g7 := (by have := HB0.out.size; omega); (try have hne : g7 ≠ g8 := (by have := HR8.out.lt; omega)); have HR7 := Lib.hid hrow; (try have HR8 := Lib.hid (HR8.out.keep hb)); (try have HG := Lib.hid (HG.out.keep hb)); have HB0 := Lib.hid (below_next HB0.out hb); clear hg hrow hb))
              refine hK.out _ _ HB0.out (fun _ => ?_)
              clear hK K
              try simp only [Act.put, List.setIfInBounds_toArray, List.set_cons_zero, List.set_cons_succ]
              refine wpAnyH_ready (rs := [3]) (by kernel_rfl) (by simp) ?_
              refine AllReadyH.cons (o := { dst := some 25, op := Op.call { callee := Callee.value (Operand.func 17), args := #[Operand.tmp 24], argTypes := #[30] }, type := 26, pos := "law.go:137", after := #[{ on := 2, ground := Ground.data }], guard := none }) rfl (fun K hK => ?_) ?_
              · rw [if_pos (by rfl)]
                go_simp
                go_wp2_with ((go_at_call 17; (with_reducible refine (HL.out _ HB0.out).mono ?_); rintro e w3 ⟨rfl, hb⟩; have HB0 := Lib.hid (below_next HB0.out hb); (try have HR7 := Lib.hid (HR7.out.keep hb)); (try have HR8 := Lib.hid (HR8.out.keep hb)); (try have HG := Lib.hid (HG.out.keep hb)); clear hb))
                refine hK.out _ _ HB0.out (fun _ => ?_)
                clear hK K
                try simp only [Act.put, List.setIfInBounds_toArray, List.set_cons_zero, List.set_cons_succ]
                refine wpAnyH_ready (rs := [6]) (by kernel_rfl) (by simp) ?_
                refine AllReadyH.cons (o := { dst := some 28, op := Op.call { callee := Callee.value (Operand.func 17), args := #[Operand.tmp 27], argTypes := #[30] }, type := 26, pos := "law.go:137", after := #[{ on := 5, ground := Ground.data }, { on := 3, ground := Ground.chain }], guard := none }) rfl (fun K hK => ?_) ?_
                · rw [if_pos (by rfl)]
                  go_simp
                  go_wp2_with ((go_at_call 17; (refine (HLd.out _ _ HB0.out (drest_one' HG.out HDL.out)).mono ?_); rintro e w4 ⟨rfl, hb⟩; have HB0 := Lib.hid (below_next HB0.out hb); (try have HR7 := Lib.hid (HR7.out.keep hb)); (try have HR8 := Lib.hid (HR8.out.keep hb)); clear hb))
                  refine hK.out _ _ HB0.out (fun _ => ?_)
                  clear hK K
                  try simp only [Act.put, List.setIfInBounds_toArray, List.set_cons_zero, List.set_cons_succ]
                  refine wpAnyH_ready (rs := [9]) (by kernel_rfl) (by simp) ?_
                  refine AllReadyH.cons (o := { dst := none, op := Op.store 26 (Operand.tmp 7) (Operand.tmp 25), type := 0, pos := "law.go:137", after := #[{ on := 7, ground := Ground.data }, { on := 3, ground := Ground.data }, { on := 6, ground := Ground.chain }, { on := 0, ground := Ground.phase }, { on := 1, ground := Ground.phase }, { on := 2, ground := Ground.phase }, { on := 3, ground := Ground.phase }, { on := 4, ground := Ground.textOnly Departure.lateStores }, { on := 5, ground := Ground.textOnly Departure.lateStoresUnsure }, { on := 6, ground := Ground.phase }, { on := 7, ground := Ground.phase }, { on := 8, ground := Ground.phase }], guard := none }) rfl (fun K hK => ?_) ?_
                  · rw [if_pos (by rfl)]
                    ((refine wp_store_dig' _ _ rfl g7 tA HLA.out rfl rfl HR7.out HB0.out hge7 ?_; intro w' hrow hb hoth; have HR8 := Lib.hid (hoth _ _ _ (fun h => hne h.symm) HR8.out); have HR7 := Lib.hid hrow; have HB0 := Lib.hid hb; clear hrow hb hoth))
                    refine hK.out _ _ HB0.out (fun _ => ?_)
                    clear hK K
                    try simp only [Act.put]
                    refine wpAnyH_ready (rs := [10]) (by kernel_rfl) (by simp) ?_
                    refine AllReadyH.cons (o := { dst := none, op := Op.store 26 (Operand.tmp 8) (Operand.tmp 28), type := 0, pos := "law.go:137", after := #[{ on := 8, ground := Ground.data }, { on := 6, ground := Ground.data }, { on := 9, ground := Ground.chain }, { on := 0, ground := Ground.phase }, { on := 1, ground := Ground.phase }, { on := 2, ground := Ground.phase }, { on := 3, ground := Ground.phase }, { on := 4, ground := Ground.phase }, { on := 5, ground := Ground.phase }, { on := 6, ground := Ground.phase }, { on := 7, ground := Ground.phase }, { on := 8, ground := Ground.phase }, { on := 9, ground := Ground.phase }], guard := none }) rfl (fun K hK => ?_) ?_
                    · rw [if_pos (by rfl)]
                      ((refine wp_store_dig' _ _ rfl g8 tB HLB.out rfl rfl HR8.out HB0.out hge8 ?_; intro w' hrow hb hoth; have HR7 := Lib.hid (hoth _ _ _ hne HR7.out); have HR8 := Lib.hid hrow; have HB0 := Lib.hid hb; clear hrow hb hoth))
                      refine hK.out _ _ HB0.out (fun _ => ?_)
                      clear hK K
                      try simp only [Act.put]
                      refine wpAnyH_done (by kernel_rfl) ?_ _
                      ((exact K g7 g8 g _ ⟨HR7.out, HR8.out, HB0.out⟩))
                    exact AllReadyH.nil
                  exact AllReadyH.nil
                exact AllReadyH.nil
              exact AllReadyH.nil
            exact AllReadyH.nil
          exact AllReadyH.nil
        refine AllReadyH.cons (o := { dst := some 7, op := Op.alloc 26, type := 0, pos := "law.go:137", after := #[], guard := none }) rfl (fun K hK => ?_) ?_
        · rw [if_pos (by rfl)]
          ((refine wp_alloc_dig 7 rfl rfl ?_; intro g7 w5 hg hrow hb; have hge7 : wr.heap.size ≤ g7 := (by have := HB0.out.size; omega); (try have hne : g7 ≠ g8 := (by have := HR8.out.lt; omega)); have HR7 := Lib.hid hrow; (try have HR8 := Lib.hid (HR8.out.keep hb)); (try have HG := Lib.hid (HG.out.keep hb)); have HB0 := Lib.hid (below_next HB0.out hb); clear hg hrow hb))
          refine hK.out _ _ HB0.out (fun _ => ?_)
          clear hK K
          try simp only [Act.put, List.setIfInBounds_toArray, List.set_cons_zero, List.set_cons_succ]
          refine wpAnyH_ready (rs := [3, 5, 8]) (by kernel_rfl) (by simp) ?_
          refine AllReadyH.cons (o := { dst := some 25, op := Op.call { callee := Callee.value (Operand.func 17), args := #[Operand.tmp 24], argTypes := #[30] }, type := 26, pos := "law.go:137", after := #[{ on := 2, ground := Ground.data }], guard := none }) rfl (fun K hK => ?_) ?_
          · rw [if_pos (by rfl)]
            go_simp
            go_wp2_with ((go_at_call 17; (with_reducible refine (HL.out _ HB0.out).mono ?_); rintro e w3 ⟨rfl, hb⟩; have HB0 := Lib.hid (below_next HB0.out hb); (try have HR7 := Lib.hid (HR7.out.keep hb)); (try have HR8 := Lib.hid (HR8.out.keep hb)); (try have HG := Lib.hid (HG.out.keep hb)); clear hb))
            refine hK.out _ _ HB0.out (fun _ => ?_)
            clear hK K
            try simp only [Act.put, List.setIfInBounds_toArray, List.set_cons_zero, List.set_cons_succ]
            refine wpAnyH_ready (rs := [5, 8]) (by kernel_rfl) (by simp) ?_
            refine AllReadyH.cons (o := { dst := some 27, op := Op.buildSlice 30 1 #[(0, Operand.tmp 26)], type := 30, pos := "law.go:137", after := #[{ on := 4, ground := Ground.data }], guard := none }) rfl (fun K hK => ?_) ?_
            · rw [if_pos (by rfl)]
              ((refine wp_one' _ rfl d HDL.out rfl ?_; intro g w12 hrow hg hb; (try have HR7 := Lib.hid (HR7.out.keep hb)); (try have HR8 := Lib.hid (HR8.out.keep hb)); have HG := Lib.hid hrow; have HB0 := Lib.hid (below_next HB0.out hb); clear hrow hg hb))
              refine hK.out _ _ HB0.out (fun _ => ?_)
              clear hK K
              try simp only [Act.put, List.setIfInBounds_toArray, List.set_cons_zero, List.set_cons_succ]
              refine wpAnyH_ready (rs := [6, 8]) (by kernel_rfl) (by simp) ?_
              refine AllReadyH.cons (o := { dst := some 28, op := Op.call { callee := Callee.value (Operand.func 17), args := #[Operand.tmp 27], argTypes := #[30] }, type := 26, pos := "law.go:137", after := #[{ on := 5, ground := Ground.data }, { on := 3, ground := Ground.chain }], guard := none }) rfl (fun K hK => ?_) ?_
              · rw [if_pos (by rfl)]
                go_simp
                go_wp2_with ((go_at_call 17; (refine (HLd.out _ _ HB0.out (drest_one' HG.out HDL.out)).mono ?_); rintro e w4 ⟨rfl, hb⟩; have HB0 := Lib.hid (below_next HB0.out hb); (try have HR7 := Lib.hid (HR7.out.keep hb)); (try have HR8 := Lib.hid (HR8.out.keep hb)); clear hb))
                refine hK.out _ _ HB0.out (fun _ => ?_)
                clear hK K
                try simp only [Act.put, List.setIfInBounds_toArray, List.set_cons_zero, List.set_cons_succ]
                refine wpAnyH_ready (rs := [8]) (by kernel_rfl) (by simp) ?_
                refine AllReadyH.cons (o := { dst := some 8, op := Op.alloc 26, type := 0, pos := "law.go:137", after := #[], guard := none }) rfl (fun K hK => ?_) ?_
                · rw [if_pos (by rfl)]
                  ((refine wp_alloc_dig 8 rfl rfl ?_; intro g8 w6 hg hrow hb; have hge8 : wr.heap.size ≤ g8 := (by have := HB0.out.size; omega); (try have hne : g7 ≠ g8 := (by have := HR7.out.lt; omega)); have HR8 := Lib.hid hrow; (try have HR7 := Lib.hid (HR7.out.keep hb)); (try have HG := Lib.hid (HG.out.keep hb)); have HB0 := Lib.hid (below_next HB0.out hb); clear hg hrow hb))
                  refine hK.out _ _ HB0.out (fun _ => ?_)
                  clear hK K
                  try simp only [Act.put, List.setIfInBounds_toArray, List.set_cons_zero, List.set_cons_succ]
                  refine wpAnyH_ready (rs := [9]) (by kernel_rfl) (by simp) ?_
                  refine AllReadyH.cons (o := { dst := none, op := Op.store 26 (Operand.tmp 7) (Operand.tmp 25), type := 0, pos := "law.go:137", after := #[{ on := 7, ground := Ground.data }, { on := 3, ground := Ground.data }, { on := 6, ground := Ground.chain }, { on := 0, ground := Ground.phase }, { on := 1, ground := Ground.phase }, { on := 2, ground := Ground.phase }, { on := 3, ground := Ground.phase }, { on := 4, ground := Ground.textOnly Departure.lateStores }, { on := 5, ground := Ground.textOnly Departure.lateStoresUnsure }, { on := 6, ground := Ground.phase }, { on := 7, ground := Ground.phase }, { on := 8, ground := Ground.phase }], guard := none }) rfl (fun K hK => ?_) ?_
                  · rw [if_pos (by rfl)]
                    ((refine wp_store_dig' _ _ rfl g7 tA HLA.out rfl rfl HR7.out HB0.out hge7 ?_; intro w' hrow hb hoth; have HR8 := Lib.hid (hoth _ _ _ (fun h => hne h.symm) HR8.out); have HR7 := Lib.hid hrow; have HB0 := Lib.hid hb; clear hrow hb hoth))
                    refine hK.out _ _ HB0.out (fun _ => ?_)
                    clear hK K
                    try simp only [Act.put]
                    refine wpAnyH_ready (rs := [10]) (by kernel_rfl) (by simp) ?_
                    refine AllReadyH.cons (o := { dst := none, op := Op.store 26 (Operand.tmp 8) (Operand.tmp 28), type := 0, pos := "law.go:137", after := #[{ on := 8, ground := Ground.data }, { on := 6, ground := Ground.data }, { on := 9, ground := Ground.chain }, { on := 0, ground := Ground.phase }, { on := 1, ground := Ground.phase }, { on := 2, ground := Ground.phase }, { on := 3, ground := Ground.phase }, { on := 4, ground := Ground.phase }, { on := 5, ground := Ground.phase }, { on := 6, ground := Ground.phase }, { on := 7, ground := Ground.phase }, { on := 8, ground := Ground.phase }, { on := 9, ground := Ground.phase }], guard := none }) rfl (fun K hK => ?_) ?_
                    · rw [if_pos (by rfl)]
                      ((refine wp_store_dig' _ _ rfl g8 tB HLB.out rfl rfl HR8.out HB0.out hge8 ?_; intro w' hrow hb hoth; have HR7 := Lib.hid (hoth _ _ _ hne HR7.out); have HR8 := Lib.hid hrow; have HB0 := Lib.hid hb; clear hrow hb hoth))
                      refine hK.out _ _ HB0.out (fun _ => ?_)
                      clear hK K
                      try simp only [Act.put]
                      refine wpAnyH_done (by kernel_rfl) ?_ _
                      ((exact K g7 g8 g _ ⟨HR7.out, HR8.out, HB0.out⟩))
                    exact AllReadyH.nil
                  exact AllReadyH.nil
                exact AllReadyH.nil
              refine AllReadyH.cons (o := { dst := some 8, op := Op.alloc 26, type := 0, pos := "law.go:137", after := #[], guard := none }) rfl (fun K hK => ?_) ?_
              · rw [if_pos (by rfl)]
                ((refine wp_alloc_dig 8 rfl rfl ?_; intro g8 w6 hg hrow hb; have hge8 : wr.heap.size ≤ g8 := (by have := HB0.out.size; omega); (try have hne : g7 ≠ g8 := (by have := HR7.out.lt; omega)); have HR8 := Lib.hid hrow; (try have HR7 := Lib.hid (HR7.out.keep hb)); (try have HG := Lib.hid (HG.out.keep hb)); have HB0 := Lib.hid (below_next HB0.out hb); clear hg hrow hb))
                refine hK.out _ _ HB0.out (fun _ => ?_)
                clear hK K
                try simp only [Act.put, List.setIfInBounds_toArray, List.set_cons_zero, List.set_cons_succ]
                refine wpAnyH_ready (rs := [6]) (by kernel_rfl) (by simp) ?_
                refine AllReadyH.cons (o := { dst := some 28, op := Op.call { callee := Callee.value (Operand.func 17), args := #[Operand.tmp 27], argTypes := #[30] }, type := 26, pos := "law.go:137", after := #[{ on := 5, ground := Ground.data }, { on := 3, ground := Ground.chain }], guard := none }) rfl (fun K hK => ?_) ?_
                · rw [if_pos (by rfl)]
                  go_simp
                  go_wp2_with ((go_at_call 17; (refine (HLd.out _ _ HB0.out (drest_one' HG.out HDL.out)).mono ?_); rintro e w4 ⟨rfl, hb⟩; have HB0 := Lib.hid (below_next HB0.out hb); (try have HR7 := Lib.hid (HR7.out.keep hb)); (try have HR8 := Lib.hid (HR8.out.keep hb)); clear hb))
                  refine hK.out _ _ HB0.out (fun _ => ?_)
                  clear hK K
                  try simp only [Act.put, List.setIfInBounds_toArray, List.set_cons_zero, List.set_cons_succ]
                  refine wpAnyH_ready (rs := [9]) (by kernel_rfl) (by simp) ?_
                  refine AllReadyH.cons (o := { dst := none, op := Op.store 26 (Operand.tmp 7) (Operand.tmp 25), type := 0, pos := "law.go:137", after := #[{ on := 7, ground := Ground.data }, { on := 3, ground := Ground.data }, { on := 6, ground := Ground.chain }, { on := 0, ground := Ground.phase }, { on := 1, ground := Ground.phase }, { on := 2, ground := Ground.phase }, { on := 3, ground := Ground.phase }, { on := 4, ground := Ground.textOnly Departure.lateStores }, { on := 5, ground := Ground.textOnly Departure.lateStoresUnsure }, { on := 6, ground := Ground.phase }, { on := 7, ground := Ground.phase }, { on := 8, ground := Ground.phase }], guard := none }) rfl (fun K hK => ?_) ?_
                  · rw [if_pos (by rfl)]
                    ((refine wp_store_dig' _ _ rfl g7 tA HLA.out rfl rfl HR7.out HB0.out hge7 ?_; intro w' hrow hb hoth; have HR8 := Lib.hid (hoth _ _ _ (fun h => hne h.symm) HR8.out); have HR7 := Lib.hid hrow; have HB0 := Lib.hid hb; clear hrow hb hoth))
                    refine hK.out _ _ HB0.out (fun _ => ?_)
                    clear hK K
                    try simp only [Act.put]
                    refine wpAnyH_ready (rs := [10]) (by kernel_rfl) (by simp) ?_
                    refine AllReadyH.cons (o := { dst := none, op := Op.store 26 (Operand.tmp 8) (Operand.tmp 28), type := 0, pos := "law.go:137", after := #[{ on := 8, ground := Ground.data }, { on := 6, ground := Ground.data }, { on := 9, ground := Ground.chain }, { on := 0, ground := Ground.phase }, { on := 1, ground := Ground.phase }, { on := 2, ground := Ground.phase }, { on := 3, ground := Ground.phase }, { on := 4, ground := Ground.phase }, { on := 5, ground := Ground.phase }, { on := 6, ground := Ground.phase }, { on := 7, ground := Ground.phase }, { on := 8, ground := Ground.phase }, { on := 9, ground := Ground.phase }], guard := none }) rfl (fun K hK => ?_) ?_
                    · rw [if_pos (by rfl)]
                      ((refine wp_store_dig' _ _ rfl g8 tB HLB.out rfl rfl HR8.out HB0.out hge8 ?_; intro w' hrow hb hoth; have HR7 := Lib.hid (hoth _ _ _ hne HR7.out); have HR8 := Lib.hid hrow; have HB0 := Lib.hid hb; clear hrow hb hoth))
                      refine hK.out _ _ HB0.out (fun _ => ?_)
                      clear hK K
                      try simp only [Act.put]
                      refine wpAnyH_done (by kernel_rfl) ?_ _
                      ((exact K g7 g8 g _ ⟨HR7.out, HR8.out, HB0.out⟩))
                    exact AllReadyH.nil
                  exact AllReadyH.nil
                exact AllReadyH.nil
              exact AllReadyH.nil
            refine AllReadyH.cons (o := { dst := some 8, op := Op.alloc 26, type := 0, pos := "law.go:137", after := #[], guard := none }) rfl (fun K hK => ?_) ?_
            · rw [if_pos (by rfl)]
              ((refine wp_alloc_dig 8 rfl rfl ?_; intro g8 w6 hg hrow hb; have hge8 : wr.heap.size ≤ g8 := (by have := HB0.out.size; omega); (try have hne : g7 ≠ g8 := (by have := HR7.out.lt; omega)); have HR8 := Lib.hid hrow; (try have HR7 := Lib.hid (HR7.out.keep hb)); (try have HG := Lib.hid (HG.out.keep hb)); have HB0 := Lib.hid (below_next HB0.out hb); clear hg hrow hb))
              refine hK.out _ _ HB0.out (fun _ => ?_)
              clear hK K
              try simp only [Act.put, List.setIfInBounds_toArray, List.set_cons_zero, List.set_cons_succ]
              refine wpAnyH_ready (rs := [5]) (by kernel_rfl) (by simp) ?_
              refine AllReadyH.cons (o := { dst := some 27, op := Op.buildSlice 30 1 #[(0, Operand.tmp 26)], type := 30, pos := "law.go:137", after := #[{ on := 4, ground := Ground.data }], guard := none }) rfl (fun K hK => ?_) ?_
              · rw [if_pos (by rfl)]
                ((refine wp_one' _ rfl d HDL.out rfl ?_; intro g w12 hrow hg hb; (try have HR7 := Lib.hid (HR7.out.keep hb)); (try have HR8 := Lib.hid (HR8.out.keep hb)); have HG := Lib.hid hrow; have HB0 := Lib.hid (below_next HB0.out hb); clear hrow hg hb))
                refine hK.out _ _ HB0.out (fun _ => ?_)
                clear hK K
                try simp only [Act.put, List.setIfInBounds_toArray, List.set_cons_zero, List.set_cons_succ]
                refine wpAnyH_ready (rs := [6]) (by kernel_rfl) (by simp) ?_
                refine AllReadyH.cons (o := { dst := some 28, op := Op.call { callee := Callee.value (Operand.func 17), args := #[Operand.tmp 27], argTypes := #[30] }, type := 26, pos := "law.go:137", after := #[{ on := 5, ground := Ground.data }, { on := 3, ground := Ground.chain }], guard := none }) rfl (fun K hK => ?_) ?_
                · rw [if_pos (by rfl)]
                  go_simp
                  go_wp2_with ((go_at_call 17; (refine (HLd.out _ _ HB0.out (drest_one' HG.out HDL.out)).mono ?_); rintro e w4 ⟨rfl, hb⟩; have HB0 := Lib.hid (below_next HB0.out hb); (try have HR7 := Lib.hid (HR7.out.keep hb)); (try have HR8 := Lib.hid (HR8.out.keep hb)); clear hb))
                  refine hK.out _ _ HB0.out (fun _ => ?_)
                  clear hK K
                  try simp only [Act.put, List.setIfInBounds_toArray, List.set_cons_zero, List.set_cons_succ]
                  refine wpAnyH_ready (rs := [9]) (by kernel_rfl) (by simp) ?_
                  refine AllReadyH.cons (o := { dst := none, op := Op.store 26 (Operand.tmp 7) (Operand.tmp 25), type := 0, pos := "law.go:137", after := #[{ on := 7, ground := Ground.data }, { on := 3, ground := Ground.data }, { on := 6, ground := Ground.chain }, { on := 0, ground := Ground.phase }, { on := 1, ground := Ground.phase }, { on := 2, ground := Ground.phase }, { on := 3, ground := Ground.phase }, { on := 4, ground := Ground.textOnly Departure.lateStores }, { on := 5, ground := Ground.textOnly Departure.lateStoresUnsure }, { on := 6, ground := Ground.phase }, { on := 7, ground := Ground.phase }, { on := 8, ground := Ground.phase }], guard := none }) rfl (fun K hK => ?_) ?_
                  · rw [if_pos (by rfl)]
                    ((refine wp_store_dig' _ _ rfl g7 tA HLA.out rfl rfl HR7.out HB0.out hge7 ?_; intro w' hrow hb hoth; have HR8 := Lib.hid (hoth _ _ _ (fun h => hne h.symm) HR8.out); have HR7 := Lib.hid hrow; have HB0 := Lib.hid hb; clear hrow hb hoth))
                    refine hK.out _ _ HB0.out (fun _ => ?_)
                    clear hK K
                    try simp only [Act.put]
                    refine wpAnyH_ready (rs := [10]) (by kernel_rfl) (by simp) ?_
                    refine AllReadyH.cons (o := { dst := none, op := Op.store 26 (Operand.tmp 8) (Operand.tmp 28), type := 0, pos := "law.go:137", after := #[{ on := 8, ground := Ground.data }, { on := 6, ground := Ground.data }, { on := 9, ground := Ground.chain }, { on := 0, ground := Ground.phase }, { on := 1, ground := Ground.phase }, { on := 2, ground := Ground.phase }, { on := 3, ground := Ground.phase }, { on := 4, ground := Ground.phase }, { on := 5, ground := Ground.phase }, { on := 6, ground := Ground.phase }, { on := 7, ground := Ground.phase }, { on := 8, ground := Ground.phase }, { on := 9, ground := Ground.phase }], guard := none }) rfl (fun K hK => ?_) ?_
                    · rw [if_pos (by rfl)]
                      ((refine wp_store_dig' _ _ rfl g8 tB HLB.out rfl rfl HR8.out HB0.out hge8 ?_; intro w' hrow hb hoth; have HR7 := Lib.hid (hoth _ _ _ hne HR7.out); have HR8 := Lib.hid hrow; have HB0 := Lib.hid hb; clear hrow hb hoth))
                      refine hK.out _ _ HB0.out (fun _ => ?_)
                      clear hK K
                      try simp only [Act.put]
                      refine wpAnyH_done (by kernel_rfl) ?_ _
                      ((exact K g7 g8 g _ ⟨HR7.out, HR8.out, HB0.out⟩))
                    exact AllReadyH.nil
                  exact AllReadyH.nil
                exact AllReadyH.nil
              exact AllReadyH.nil
            exact AllReadyH.nil
          refine AllReadyH.cons (o := { dst := some 27, op := Op.buildSlice 30 1 #[(0, Operand.tmp 26)], type := 30, pos := "law.go:137", after := #[{ on := 4, ground := Ground.data }], guard := none }) rfl (fun K hK => ?_) ?_
          · rw [if_pos (by rfl)]
            ((refine wp_one' _ rfl d HDL.out rfl ?_; intro g w12 hrow hg hb; (try have HR7 := Lib.hid (HR7.out.keep hb)); (try have HR8 := Lib.hid (HR8.out.keep hb)); have HG := Lib.hid hrow; have HB0 := Lib.hid (below_next HB0.out hb); clear hrow hg hb))
            refine hK.out _ _ HB0.out (fun _ => ?_)
            clear hK K
            try simp only [Act.put, List.setIfInBounds_toArray, List.set_cons_zero, List.set_cons_succ]
            refine wpAnyH_ready (rs := [3, 8]) (by kernel_rfl) (by simp) ?_
            refine AllReadyH.cons (o := { dst := some 25, op := Op.call { callee := Callee.value (Operand.func 17), args := #[Operand.tmp 24], argTypes := #[30] }, type := 26, pos := "law.go:137", after := #[{ on := 2, ground := Ground.data }], guard := none }) rfl (fun K hK => ?_) ?_
            · rw [if_pos (by rfl)]
              go_simp
              go_wp2_with ((go_at_call 17; (with_reducible refine (HL.out _ HB0.out).mono ?_); rintro e w3 ⟨rfl, hb⟩; have HB0 := Lib.hid (below_next HB0.out hb); (try have HR7 := Lib.hid (HR7.out.keep hb)); (try have HR8 := Lib.hid (HR8.out.keep hb)); (try have HG := Lib.hid (HG.out.keep hb)); clear hb))
              refine hK.out _ _ HB0.out (fun _ => ?_)
              clear hK K
              try simp only [Act.put, List.setIfInBounds_toArray, List.set_cons_zero, List.set_cons_succ]
              refine wpAnyH_ready (rs := [6, 8]) (by kernel_rfl) (by simp) ?_
              refine AllReadyH.cons (o := { dst := some 28, op := Op.call { callee := Callee.value (Operand.func 17), args := #[Operand.tmp 27], argTypes := #[30] }, type := 26, pos := "law.go:137", after := #[{ on := 5, ground := Ground.data }, { on := 3, ground := Ground.chain }], guard := none }) rfl (fun K hK => ?_) ?_
              · rw [if_pos (by rfl)]
                go_simp
                go_wp2_with ((go_at_call 17; (refine (HLd.out _ _ HB0.out (drest_one' HG.out HDL.out)).mono ?_); rintro e w4 ⟨rfl, hb⟩; have HB0 := Lib.hid (below_next HB0.out hb); (try have HR7 := Lib.hid (HR7.out.keep hb)); (try have HR8 := Lib.hid (HR8.out.keep hb)); clear hb))
                refine hK.out _ _ HB0.out (fun _ => ?_)
                clear hK K
                try simp only [Act.put, List.setIfInBounds_toArray, List.set_cons_zero, List.set_cons_succ]
                refine wpAnyH_ready (rs := [8]) (by kernel_rfl) (by simp) ?_
                refine AllReadyH.cons (o := { dst := some 8, op := Op.alloc 26, type := 0, pos := "law.go:137", after := #[], guard := none }) rfl (fun K hK => ?_) ?_
                · rw [if_pos (by rfl)]
                  ((refine wp_alloc_dig 8 rfl rfl ?_; intro g8 w6 hg hrow hb; have hge8 : wr.heap.size ≤ g8 := (by have := HB0.out.size; omega); (try have hne : g7 ≠ g8 := (by have := HR7.out.lt; omega)); have HR8 := Lib.hid hrow; (try have HR7 := Lib.hid (HR7.out.keep hb)); (try have HG := Lib.hid (HG.out.keep hb)); have HB0 := Lib.hid (below_next HB0.out hb); clear hg hrow hb))
                  refine hK.out _ _ HB0.out (fun _ => ?_)
                  clear hK K
                  try simp only [Act.put, List.setIfInBounds_toArray, List.set_cons_zero, List.set_cons_succ]
                  refine wpAnyH_ready (rs := [9]) (by kernel_rfl) (by simp) ?_
                  refine AllReadyH.cons (o := { dst := none, op := Op.store 26 (Operand.tmp 7) (Operand.tmp 25), type := 0, pos := "law.go:137", after := #[{ on := 7, ground := Ground.data }, { on := 3, ground := Ground.data }, { on := 6, ground := Ground.chain }, { on := 0, ground := Ground.phase }, { on := 1, ground := Ground.phase }, { on := 2, ground := Ground.phase }, { on := 3, ground := Ground.phase }, { on := 4, ground := Ground.textOnly Departure.lateStores }, { on := 5, ground := Ground.textOnly Departure.lateStoresUnsure }, { on := 6, ground := Ground.phase }, { on := 7, ground := Ground.phase }, { on := 8, ground := Ground.phase }], guard := none }) rfl (fun K hK => ?_) ?_
                  · rw [if_pos (by rfl)]
                    ((refine wp_store_dig' _ _ rfl g7 tA HLA.out rfl rfl HR7.out HB0.out hge7 ?_; intro w' hrow hb hoth; have HR8 := Lib.hid (hoth _ _ _ (fun h => hne h.symm) HR8.out); have HR7 := Lib.hid hrow; have HB0 := Lib.hid hb; clear hrow hb hoth))
                    refine hK.out _ _ HB0.out (fun _ => ?_)
                    clear hK K
                    try simp only [Act.put]
                    refine wpAnyH_ready (rs := [10]) (by kernel_rfl) (by simp) ?_
                    refine AllReadyH.cons (o := { dst := none, op := Op.store 26 (Operand.tmp 8) (Operand.tmp 28), type := 0, pos := "law.go:137", after := #[{ on := 8, ground := Ground.data }, { on := 6, ground := Ground.data }, { on := 9, ground := Ground.chain }, { on := 0, ground := Ground.phase }, { on := 1, ground := Ground.phase }, { on := 2, ground := Ground.phase }, { on := 3, ground := Ground.phase }, { on := 4, ground := Ground.phase }, { on := 5, ground := Ground.phase }, { on := 6, ground := Ground.phase }, { on := 7, ground := Ground.phase }, { on := 8, ground := Ground.phase }, { on := 9, ground := Ground.phase }], guard := none }) rfl (fun K hK => ?_) ?_
                    · rw [if_pos (by rfl)]
                      ((refine wp_store_dig' _ _ rfl g8 tB HLB.out rfl rfl HR8.out HB0.out hge8 ?_; intro w' hrow hb hoth; have HR7 := Lib.hid (hoth _ _ _ hne HR7.out); have HR8 := Lib.hid hrow; have HB0 := Lib.hid hb; clear hrow hb hoth))
                      refine hK.out _ _ HB0.out (fun _ => ?_)
                      clear hK K
                      try simp only [Act.put]
                      refine wpAnyH_done (by kernel_rfl) ?_ _
                      ((exact K g7 g8 g _ ⟨HR7.out, HR8.out, HB0.out⟩))
                    exact AllReadyH.nil
                  exact AllReadyH.nil
                exact AllReadyH.nil
              refine AllReadyH.cons (o := { dst := some 8, op := Op.alloc 26, type := 0, pos := "law.go:137", after := #[], guard := none }) rfl (fun K hK => ?_) ?_
              · rw [if_pos (by rfl)]
                ((refine wp_alloc_dig 8 rfl rfl ?_; intro g8 w6 hg hrow hb; have hge8 : wr.heap.size ≤ g8 := (by have := HB0.out.size; omega); (try have hne : g7 ≠ g8 := (by have := HR7.out.lt; omega)); have HR8 := Lib.hid hrow; (try have HR7 := Lib.hid (HR7.out.keep hb)); (try have HG := Lib.hid (HG.out.keep hb)); have HB0 := Lib.hid (below_next HB0.out hb); clear hg hrow hb))
                refine hK.out _ _ HB0.out (fun _ => ?_)
                clear hK K
                try simp only [Act.put, List.setIfInBounds_toArray, List.set_cons_zero, List.set_cons_succ]
                refine wpAnyH_ready (rs := [6]) (by kernel_rfl) (by simp) ?_
                refine AllReadyH.cons (o := { dst := some 28, op := Op.call { callee := Callee.value (Operand.func 17), args := #[Operand.tmp 27], argTypes := #[30] }, type := 26, pos := "law.go:137", after := #[{ on := 5, ground := Ground.data }, { on := 3, ground := Ground.chain }], guard := none }) rfl (fun K hK => ?_) ?_
                · rw [if_pos (by rfl)]
                  go_simp
                  go_wp2_with ((go_at_call 17; (refine (HLd.out _ _ HB0.out (drest_one' HG.out HDL.out)).mono ?_); rintro e w4 ⟨rfl, hb⟩; have HB0 := Lib.hid (below_next HB0.out hb); (try have HR7 := Lib.hid (HR7.out.keep hb)); (try have HR8 := Lib.hid (HR8.out.keep hb)); clear hb))
                  refine hK.out _ _ HB0.out (fun _ => ?_)
                  clear hK K
                  try simp only [Act.put, List.setIfInBounds_toArray, List.set_cons_zero, List.set_cons_succ]
                  refine wpAnyH_ready (rs := [9]) (by kernel_rfl) (by simp) ?_
                  refine AllReadyH.cons (o := { dst := none, op := Op.store 26 (Operand.tmp 7) (Operand.tmp 25), type := 0, pos := "law.go:137", after := #[{ on := 7, ground := Ground.data }, { on := 3, ground := Ground.data }, { on := 6, ground := Ground.chain }, { on := 0, ground := Ground.phase }, { on := 1, ground := Ground.phase }, { on := 2, ground := Ground.phase }, { on := 3, ground := Ground.phase }, { on := 4, ground := Ground.textOnly Departure.lateStores }, { on := 5, ground := Ground.textOnly Departure.lateStoresUnsure }, { on := 6, ground := Ground.phase }, { on := 7, ground := Ground.phase }, { on := 8, ground := Ground.phase }], guard := none }) rfl (fun K hK => ?_) ?_
                  · rw [if_pos (by rfl)]
                    ((refine wp_store_dig' _ _ rfl g7 tA HLA.out rfl rfl HR7.out HB0.out hge7 ?_; intro w' hrow hb hoth; have HR8 := Lib.hid (hoth _ _ _ (fun h => hne h.symm) HR8.out); have HR7 := Lib.hid hrow; have HB0 := Lib.hid hb; clear hrow hb hoth))
                    refine hK.out _ _ HB0.out (fun _ => ?_)
                    clear hK K
                    try simp only [Act.put]
                    refine wpAnyH_ready (rs := [10]) (by kernel_rfl) (by simp) ?_
                    refine AllReadyH.cons (o := { dst := none, op := Op.store 26 (Operand.tmp 8) (Operand.tmp 28), type := 0, pos := "law.go:137", after := #[{ on := 8, ground := Ground.data }, { on := 6, ground := Ground.data }, { on := 9, ground := Ground.chain }, { on := 0, ground := Ground.phase }, { on := 1, ground := Ground.phase }, { on := 2, ground := Ground.phase }, { on := 3, ground := Ground.phase }, { on := 4, ground := Ground.phase }, { on := 5, ground := Ground.phase }, { on := 6, ground := Ground.phase }, { on := 7, ground := Ground.phase }, { on := 8, ground := Ground.phase }, { on := 9, ground := Ground.phase }], guard := none }) rfl (fun K hK => ?_) ?_
                    · rw [if_pos (by rfl)]
                      ((refine wp_store_dig' _ _ rfl g8 tB HLB.out rfl rfl HR8.out HB0.out hge8 ?_; intro w' hrow hb hoth; have HR7 := Lib.hid (hoth _ _ _ hne HR7.out); have HR8 := Lib.hid hrow; have HB0 := Lib.hid hb; clear hrow hb hoth))
                      refine hK.out _ _ HB0.out (fun _ => ?_)
                      clear hK K
                      try simp only [Act.put]
                      refine wpAnyH_done (by kernel_rfl) ?_ _
                      ((exact K g7 g8 g _ ⟨HR7.out, HR8.out, HB0.out⟩))
                    exact AllReadyH.nil
                  exact AllReadyH.nil
                exact AllReadyH.nil
              exact AllReadyH.nil
            refine AllReadyH.cons (o := { dst := some 8, op := Op.alloc 26, type := 0, pos := "law.go:137", after := #[], guard := none }) rfl (fun K hK => ?_) ?_
            · rw [if_pos (by rfl)]
              ((refine wp_alloc_dig 8 rfl rfl ?_; intro g8 w6 hg hrow hb; have hge8 : wr.heap.size ≤ g8 := (by have := HB0.out.size; omega); (try have hne : g7 ≠ g8 := (by have := HR7.out.lt; omega)); have HR8 := Lib.hid hrow; (try have HR7 := Lib.hid (HR7.out.keep hb)); (try have HG := Lib.hid (HG.out.keep hb)); have HB0 := Lib.hid (below_next HB0.out hb); clear hg hrow hb))
              refine hK.out _ _ HB0.out (fun _ => ?_)
              clear hK K
              try simp only [Act.put, List.setIfInBounds_toArray, List.set_cons_zero, List.set_cons_succ]
              refine wpAnyH_ready (rs := [3]) (by kernel_rfl) (by simp) ?_
              refine AllReadyH.cons (o := { dst := some 25, op := Op.call { callee := Callee.value (Operand.func 17), args := #[Operand.tmp 24], argTypes := #[30] }, type := 26, pos := "law.go:137", after := #[{ on := 2, ground := Ground.data }], guard := none }) rfl (fun K hK => ?_) ?_
              · rw [if_pos (by rfl)]
                go_simp
                go_wp2_with ((go_at_call 17; (with_reducible refine (HL.out _ HB0.out).mono ?_); rintro e w3 ⟨rfl, hb⟩; have HB0 := Lib.hid (below_next HB0.out hb); (try have HR7 := Lib.hid (HR7.out.keep hb)); (try have HR8 := Lib.hid (HR8.out.keep hb)); (try have HG := Lib.hid (HG.out.keep hb)); clear hb))
                refine hK.out _ _ HB0.out (fun _ => ?_)
                clear hK K
                try simp only [Act.put, List.setIfInBounds_toArray, List.set_cons_zero, List.set_cons_succ]
                refine wpAnyH_ready (rs := [6]) (by kernel_rfl) (by simp) ?_
                refine AllReadyH.cons (o := { dst := some 28, op := Op.call { callee := Callee.value (Operand.func 17), args := #[Operand.tmp 27], argTypes := #[30] }, type := 26, pos := "law.go:137", after := #[{ on := 5, ground := Ground.data }, { on := 3, ground := Ground.chain }], guard := none }) rfl (fun K hK => ?_) ?_
                · rw [if_pos (by rfl)]
                  go_simp
                  go_wp2_with ((go_at_call 17; (refine (HLd.out _ _ HB0.out (drest_one' HG.out HDL.out)).mono ?_); rintro e w4 ⟨rfl, hb⟩; have HB0 := Lib.hid (below_next HB0.out hb); (try have HR7 := Lib.hid (HR7.out.keep hb)); (try have HR8 := Lib.hid (HR8.out.keep hb)); clear hb))
                  refine hK.out _ _ HB0.out (fun _ => ?_)
                  clear hK K
                  try simp only [Act.put, List.setIfInBounds_toArray, List.set_cons_zero, List.set_cons_succ]
                  refine wpAnyH_ready (rs := [9]) (by kernel_rfl) (by simp) ?_
                  refine AllReadyH.cons (o := { dst := none, op := Op.store 26 (Operand.tmp 7) (Operand.tmp 25), type := 0, pos := "law.go:137", after := #[{ on := 7, ground := Ground.data }, { on := 3, ground := Ground.data }, { on := 6, ground := Ground.chain }, { on := 0, ground := Ground.phase }, { on := 1, ground := Ground.phase }, { on := 2, ground := Ground.phase }, { on := 3, ground := Ground.phase }, { on := 4, ground := Ground.textOnly Departure.lateStores }, { on := 5, ground := Ground.textOnly Departure.lateStoresUnsure }, { on := 6, ground := Ground.phase }, { on := 7, ground := Ground.phase }, { on := 8, ground := Ground.phase }], guard := none }) rfl (fun K hK => ?_) ?_
                  · rw [if_pos (by rfl)]
                    ((refine wp_store_dig' _ _ rfl g7 tA HLA.out rfl rfl HR7.out HB0.out hge7 ?_; intro w' hrow hb hoth; have HR8 := Lib.hid (hoth _ _ _ (fun h => hne h.symm) HR8.out); have HR7 := Lib.hid hrow; have HB0 := Lib.hid hb; clear hrow hb hoth))
                    refine hK.out _ _ HB0.out (fun _ => ?_)
                    clear hK K
                    try simp only [Act.put]
                    refine wpAnyH_ready (rs := [10]) (by kernel_rfl) (by simp) ?_
                    refine AllReadyH.cons (o := { dst := none, op := Op.store 26 (Operand.tmp 8) (Operand.tmp 28), type := 0, pos := "law.go:137", after := #[{ on := 8, ground := Ground.data }, { on := 6, ground := Ground.data }, { on := 9, ground := Ground.chain }, { on := 0, ground := Ground.phase }, { on := 1, ground := Ground.phase }, { on := 2, ground := Ground.phase }, { on := 3, ground := Ground.phase }, { on := 4, ground := Ground.phase }, { on := 5, ground := Ground.phase }, { on := 6, ground := Ground.phase }, { on := 7, ground := Ground.phase }, { on := 8, ground := Ground.phase }, { on := 9, ground := Ground.phase }], guard := none }) rfl (fun K hK => ?_) ?_
                    · rw [if_pos (by rfl)]
                      ((refine wp_store_dig' _ _ rfl g8 tB HLB.out rfl rfl HR8.out HB0.out hge8 ?_; intro w' hrow hb hoth; have HR7 := Lib.hid (hoth _ _ _ hne HR7.out); have HR8 := Lib.hid hrow; have HB0 := Lib.hid hb; clear hrow hb hoth))
                      refine hK.out _ _ HB0.out (fun _ => ?_)
                      clear hK K
                      try simp only [Act.put]
                      refine wpAnyH_done (by kernel_rfl) ?_ _
                      ((exact K g7 g8 g _ ⟨HR7.out, HR8.out, HB0.out⟩))
                    exact AllReadyH.nil
                  exact AllReadyH.nil
                exact AllReadyH.nil
              exact AllReadyH.nil
            exact AllReadyH.nil
          refine AllReadyH.cons (o := { dst := some 8, op := Op.alloc 26, type := 0, pos := "law.go:137", after := #[], guard := none }) rfl (fun K hK => ?_) ?_
          · rw [if_pos (by rfl)]
            ((refine wp_alloc_dig 8 rfl rfl ?_; intro g8 w6 hg hrow hb; have hge8 : wr.heap.size ≤ g8 := (by have := HB0.out.size; omega); (try have hne : g7 ≠ g8 := (by have := HR7.out.lt; omega)); have HR8 := Lib.hid hrow; (try have HR7 := Lib.hid (HR7.out.keep hb)); (try have HG := Lib.hid (HG.out.keep hb)); have HB0 := Lib.hid (below_next HB0.out hb); clear hg hrow hb))
            refine hK.out _ _ HB0.out (fun _ => ?_)
            clear hK K
            try simp only [Act.put, List.setIfInBounds_toArray, List.set_cons_zero, List.set_cons_succ]
            refine wpAnyH_ready (rs := [3, 5]) (by kernel_rfl) (by simp) ?_
            refine AllReadyH.cons (o := { dst := some 25, op := Op.call { callee := Callee.value (Operand.func 17), args := #[Operand.tmp 24], argTypes := #[30] }, type := 26, pos := "law.go:137", after := #[{ on := 2, ground := Ground.data }], guard := none }) rfl (fun K hK => ?_) ?_
            · rw [if_pos (by rfl)]
              go_simp
              go_wp2_with ((go_at_call 17; (with_reducible refine (HL.out _ HB0.out).mono ?_); rintro e w3 ⟨rfl, hb⟩; have HB0 := Lib.hid (below_next HB0.out hb); (try have HR7 := Lib.hid (HR7.out.keep hb)); (try have HR8 := Lib.hid (HR8.out.keep hb)); (try have HG := Lib.hid (HG.out.keep hb)); clear hb))
              refine hK.out _ _ HB0.out (fun _ => ?_)
              clear hK K
              try simp only [Act.put, List.setIfInBounds_toArray, List.set_cons_zero, List.set_cons_succ]
              refine wpAnyH_ready (rs := [5]) (by kernel_rfl) (by simp) ?_
              refine AllReadyH.cons (o := { dst := some 27, op := Op.buildSlice 30 1 #[(0, Operand.tmp 26)], type := 30, pos := "law.go:137", after := #[{ on := 4, ground := Ground.data }], guard := none }) rfl (fun K hK => ?_) ?_
              · rw [if_pos (by rfl)]
                ((refine wp_one' _ rfl d HDL.out rfl ?_; intro g w12 hrow hg hb; (try have HR7 := Lib.hid (HR7.out.keep hb)); (try have HR8 := Lib.hid (HR8.out.keep hb)); have HG := Lib.hid hrow; have HB0 := Lib.hid (below_next HB0.out hb); clear hrow hg hb))
                refine hK.out _ _ HB0.out (fun _ => ?_)
                clear hK K
                try simp only [Act.put, List.setIfInBounds_toArray, List.set_cons_zero, List.set_cons_succ]
                refine wpAnyH_ready (rs := [6]) (by kernel_rfl) (by simp) ?_
                refine AllReadyH.cons (o := { dst := some 28, op := Op.call { callee := Callee.value (Operand.func 17), args := #[Operand.tmp 27], argTypes := #[30] }, type := 26, pos := "law.go:137", after := #[{ on := 5, ground := Ground.data }, { on := 3, ground := Ground.chain }], guard := none }) rfl (fun K hK => ?_) ?_
                · rw [if_pos (by rfl)]
                  go_simp
                  go_wp2_with ((go_at_call 17; (refine (HLd.out _ _ HB0.out (drest_one' HG.out HDL.out)).mono ?_); rintro e w4 ⟨rfl, hb⟩; have HB0 := Lib.hid (below_next HB0.out hb); (try have HR7 := Lib.hid (HR7.out.keep hb)); (try have HR8 := Lib.hid (HR8.out.keep hb)); clear hb))
                  refine hK.out _ _ HB0.out (fun _ => ?_)
                  clear hK K
                  try simp only [Act.put, List.setIfInBounds_toArray, List.set_cons_zero, List.set_cons_succ]
                  refine wpAnyH_ready (rs := [9]) (by kernel_rfl) (by simp) ?_
                  refine AllReadyH.cons (o := { dst := none, op := Op.store 26 (Operand.tmp 7) (Operand.tmp 25), type := 0, pos := "law.go:137", after := #[{ on := 7, ground := Ground.data }, { on := 3, ground := Ground.data }, { on := 6, ground := Ground.chain }, { on := 0, ground := Ground.phase }, { on := 1, ground := Ground.phase }, { on := 2, ground := Ground.phase }, { on := 3, ground := Ground.phase }, { on := 4, ground := Ground.textOnly Departure.lateStores }, { on := 5, ground := Ground.textOnly Departure.lateStoresUnsure }, { on := 6, ground := Ground.phase }, { on := 7, ground := Ground.phase }, { on := 8, ground := Ground.phase }], guard := none }) rfl (fun K hK => ?_) ?_
                  · rw [if_pos (by rfl)]
                    ((refine wp_store_dig' _ _ rfl g7 tA HLA.out rfl rfl HR7.out HB0.out hge7 ?_; intro w' hrow hb hoth; have HR8 := Lib.hid (hoth _ _ _ (fun h => hne h.symm) HR8.out); have HR7 := Lib.hid hrow; have HB0 := Lib.hid hb; clear hrow hb hoth))
                    refine hK.out _ _ HB0.out (fun _ => ?_)
                    clear hK K
                    try simp only [Act.put]
                    refine wpAnyH_ready (rs := [10]) (by kernel_rfl) (by simp) ?_
                    refine AllReadyH.cons (o := { dst := none, op := Op.store 26 (Operand.tmp 8) (Operand.tmp 28), type := 0, pos := "law.go:137", after := #[{ on := 8, ground := Ground.data }, { on := 6, ground := Ground.data }, { on := 9, ground := Ground.chain }, { on := 0, ground := Ground.phase }, { on := 1, ground := Ground.phase }, { on := 2, ground := Ground.phase }, { on := 3, ground := Ground.phase }, { on := 4, ground := Ground.phase }, { on := 5, ground := Ground.phase }, { on := 6, ground := Ground.phase }, { on := 7, ground := Ground.phase }, { on := 8, ground := Ground.phase }, { on := 9, ground := Ground.phase }], guard := none }) rfl (fun K hK => ?_) ?_
                    · rw [if_pos (by rfl)]
                      ((refine wp_store_dig' _ _ rfl g8 tB HLB.out rfl rfl HR8.out HB0.out hge8 ?_; intro w' hrow hb hoth; have HR7 := Lib.hid (hoth _ _ _ hne HR7.out); have HR8 := Lib.hid hrow; have HB0 := Lib.hid hb; clear hrow hb hoth))
                      refine hK.out _ _ HB0.out (fun _ => ?_)
                      clear hK K
                      try simp only [Act.put]
                      refine wpAnyH_done (by kernel_rfl) ?_ _
                      ((exact K g7 g8 g _ ⟨HR7.out, HR8.out, HB0.out⟩))
                    exact AllReadyH.nil
                  exact AllReadyH.nil
                exact AllReadyH.nil
              exact AllReadyH.nil
            refine AllReadyH.cons (o := { dst := some 27, op := Op.buildSlice 30 1 #[(0, Operand.tmp 26)], type := 30, pos := "law.go:137", after := #[{ on := 4, ground := Ground.data }], guard := none }) rfl (fun K hK => ?_) ?_
            · rw [if_pos (by rfl)]
              ((refine wp_one' _ rfl d HDL.out rfl ?_; intro g w12 hrow hg hb; (try have HR7 := Lib.hid (HR7.out.keep hb)); (try have HR8 := Lib.hid (HR8.out.keep hb)); have HG := Lib.hid hrow; have HB0 := Lib.hid (below_next HB0.out hb); clear hrow hg hb))
              refine hK.out _ _ HB0.out (fun _ => ?_)
              clear hK K
              try simp only [Act.put, List.setIfInBounds_toArray, List.set_cons_zero, List.set_cons_succ]
              refine wpAnyH_ready (rs := [3]) (by kernel_rfl) (by simp) ?_
              refine AllReadyH.cons (o := { dst := some 25, op := Op.call { callee := Callee.value (Operand.func 17), args := #[Operand.tmp 24], argTypes := #[30] }, type := 26, pos := "law.go:137", after := #[{ on := 2, ground := Ground.data }], guard := none }) rfl (fun K hK => ?_) ?_
              · rw [if_pos (by rfl)]
                go_simp
                go_wp2_with ((go_at_call 17; (with_reducible refine (HL.out _ HB0.out).mono ?_); rintro e w3 ⟨rfl, hb⟩; have HB0 := Lib.hid (below_next HB0.out hb); (try have HR7 := Lib.hid (HR7.out.keep hb)); (try have HR8 := Lib.hid (HR8.out.keep hb)); (try have HG := Lib.hid (HG.out.keep hb)); clear hb))
                refine hK.out _ _ HB0.out (fun _ => ?_)
                clear hK K
                try simp only [Act.put, List.setIfInBounds_toArray, List.set_cons_zero, List.set_cons_succ]
                refine wpAnyH_ready (rs := [6]) (by kernel_rfl) (by simp) ?_
                refine AllReadyH.cons (o := { dst := some 28, op := Op.call { callee := Callee.value (Operand.func 17), args := #[Operand.tmp 27], argTypes := #[30] }, type := 26, pos := "law.go:137", after := #[{ on := 5, ground := Ground.data }, { on := 3, ground := Ground.chain }], guard := none }) rfl (fun K hK => ?_) ?_
                · rw [if_pos (by rfl)]
                  go_simp
                  go_wp2_with ((go_at_call 17; (refine (HLd.out _ _ HB0.out (drest_one' HG.out HDL.out)).mono ?_); rintro e w4 ⟨rfl, hb⟩; have HB0 := Lib.hid (below_next HB0.out hb); (try have HR7 := Lib.hid (HR7.out.keep hb)); (try have HR8 := Lib.hid (HR8.out.keep hb)); clear hb))
                  refine hK.out _ _ HB0.out (fun _ => ?_)
                  clear hK K
                  try simp only [Act.put, List.setIfInBounds_toArray, List.set_cons_zero, List.set_cons_succ]
                  refine wpAnyH_ready (rs := [9]) (by kernel_rfl) (by simp) ?_
                  refine AllReadyH.cons (o := { dst := none, op := Op.store 26 (Operand.tmp 7) (Operand.tmp 25), type := 0, pos := "law.go:137", after := #[{ on := 7, ground := Ground.data }, { on := 3, ground := Ground.data }, { on := 6, ground := Ground.chain }, { on := 0, ground := Ground.phase }, { on := 1, ground := Ground.phase }, { on := 2, ground := Ground.phase }, { on := 3, ground := Ground.phase }, { on := 4, ground := Ground.textOnly Departure.lateStores }, { on := 5, ground := Ground.textOnly Departure.lateStoresUnsure }, { on := 6, ground := Ground.phase }, { on := 7, ground := Ground.phase }, { on := 8, ground := Ground.phase }], guard := none }) rfl (fun K hK => ?_) ?_
                  · rw [if_pos (by rfl)]
                    ((refine wp_store_dig' _ _ rfl g7 tA HLA.out rfl rfl HR7.out HB0.out hge7 ?_; intro w' hrow hb hoth; have HR8 := Lib.hid (hoth _ _ _ (fun h => hne h.symm) HR8.out); have HR7 := Lib.hid hrow; have HB0 := Lib.hid hb; clear hrow hb hoth))
                    refine hK.out _ _ HB0.out (fun _ => ?_)
                    clear hK K
                    try simp only [Act.put]
                    refine wpAnyH_ready (rs := [10]) (by kernel_rfl) (by simp) ?_
                    refine AllReadyH.cons (o := { dst := none, op := Op.store 26 (Operand.tmp 8) (Operand.tmp 28), type := 0, pos := "law.go:137", after := #[{ on := 8, ground := Ground.data }, { on := 6, ground := Ground.data }, { on := 9, ground := Ground.chain }, { on := 0, ground := Ground.phase }, { on := 1, ground := Ground.phase }, { on := 2, ground := Ground.phase }, { on := 3, ground := Ground.phase }, { on := 4, ground := Ground.phase }, { on := 5, ground := Ground.phase }, { on := 6, ground := Ground.phase }, { on := 7, ground := Ground.phase }, { on := 8, ground := Ground.phase }, { on := 9, ground := Ground.phase }], guard := none }) rfl (fun K hK => ?_) ?_
                    · rw [if_pos (by rfl)]
                      ((refine wp_store_dig' _ _ rfl g8 tB HLB.out rfl rfl HR8.out HB0.out hge8 ?_; intro w' hrow hb hoth; have HR7 := Lib.hid (hoth _ _ _ hne HR7.out); have HR8 := Lib.hid hrow; have HB0 := Lib.hid hb; clear hrow hb hoth))
                      refine hK.out _ _ HB0.out (fun _ => ?_)
                      clear hK K
                      try simp only [Act.put]
                      refine wpAnyH_done (by kernel_rfl) ?_ _
                      ((exact K g7 g8 g _ ⟨HR7.out, HR8.out, HB0.out⟩))
                    exact AllReadyH.nil
                  exact AllReadyH.nil
                exact AllReadyH.nil
              exact AllReadyH.nil
            exact AllReadyH.nil
          exact AllReadyH.nil
        refine AllReadyH.cons (o := { dst := some 8, op := Op.alloc 26, type := 0, pos := "law.go:137", after := #[], guard := none }) rfl (fun K hK => ?_) ?_
        · rw [if_pos (by rfl)]
          ((refine wp_alloc_dig 8 rfl rfl ?_; intro g8 w6 hg hrow hb; have hge8 : wr.heap.size ≤ g8 := (by have := HB0.out.size; omega); (try have hne : g7 ≠ g8 := (by have := HR7.out.lt; omega)); have HR8 := Lib.hid hrow; (try have HR7 := Lib.hid (HR7.out.keep hb)); (try have HG := Lib.hid (HG.out.keep hb)); have HB0 := Lib.hid (below_next HB0.out hb); clear hg hrow hb))
          refine hK.out _ _ HB0.out (fun _ => ?_)
          clear hK K
          try simp only [Act.put, List.setIfInBounds_toArray, List.set_cons_zero, List.set_cons_succ]
          refine wpAnyH_ready (rs := [3, 5, 7]) (by kernel_rfl) (by simp) ?_
          refine AllReadyH.cons (o := { dst := some 25, op := Op.call { callee := Callee.value (Operand.func 17), args := #[Operand.tmp 24], argTypes := #[30] }, type := 26, pos := "law.go:137", after := #[{ on := 2, ground := Ground.data }], guard := none }) rfl (fun K hK => ?_) ?_
          · rw [if_pos (by rfl)]
            go_simp
            go_wp2_with ((go_at_call 17; (with_reducible refine (HL.out _ HB0.out).mono ?_); rintro e w3 ⟨rfl, hb⟩; have HB0 := Lib.hid (below_next HB0.out hb); (try have HR7 := Lib.hid (HR7.out.keep hb)); (try have HR8 := Lib.hid (HR8.out.keep hb)); (try have HG := Lib.hid (HG.out.keep hb)); clear hb))
            refine hK.out _ _ HB0.out (fun _ => ?_)
            clear hK K
            try simp only [Act.put, List.setIfInBounds_toArray, List.set_cons_zero, List.set_cons_succ]
            refine wpAnyH_ready (rs := [5, 7]) (by kernel_rfl) (by simp) ?_
            refine AllReadyH.cons (o := { dst := some 27, op := Op.buildSlice 30 1 #[(0, Operand.tmp 26)], type := 30, pos := "law.go:137", after := #[{ on := 4, ground := Ground.data }], guard := none }) rfl (fun K hK => ?_) ?_
            · rw [if_pos (by rfl)]
              ((refine wp_one' _ rfl d HDL.out rfl ?_; intro g w12 hrow hg hb; (try have HR7 := Lib.hid (HR7.out.keep hb)); (try have HR8 := Lib.hid (HR8.out.keep hb)); have HG := Lib.hid hrow; have HB0 := Lib.hid (below_next HB0.out hb); clear hrow hg hb))
              refine hK.out _ _ HB0.out (fun _ => ?_)
              clear hK K
              try simp only [Act.put, List.setIfInBounds_toArray, List.set_cons_zero, List.set_cons_succ]
              refine wpAnyH_ready (rs := [6, 7]) (by kernel_rfl) (by simp) ?_
              refine AllReadyH.cons (o := { dst := some 28, op := Op.call { callee := Callee.value (Operand.func 17), args := #[Operand.tmp 27], argTypes := #[30] }, type := 26, pos := "law.go:137", after := #[{ on := 5, ground := Ground.data }, { on := 3, ground := Ground.chain }], guard := none }) rfl (fun K hK => ?_) ?_
              · rw [if_pos (by rfl)]
                go_simp
                go_wp2_with ((go_at_call 17; (refine (HLd.out _ _ HB0.out (drest_one' HG.out HDL.out)).mono ?_); rintro e w4 ⟨rfl, hb⟩; have HB0 := Lib.hid (below_next HB0.out hb); (try have HR7 := Lib.hid (HR7.out.keep hb)); (try have HR8 := Lib.hid (HR8.out.keep hb)); clear hb))
                refine hK.out _ _ HB0.out (fun _ => ?_)
                clear hK K
                try simp only [Act.put, List.setIfInBounds_toArray, List.set_cons_zero, List.set_cons_succ]
                refine wpAnyH_ready (rs := [7]) (by kernel_rfl) (by simp) ?_
                refine AllReadyH.cons (o := { dst := some 7, op := Op.alloc 26, type := 0, pos := "law.go:137", after := #[], guard := none }) rfl (fun K hK => ?_) ?_
                · rw [if_pos (by rfl)]
                  ((refine wp_alloc_dig 7 rfl rfl ?_; intro g7 w5 hg hrow hb; have hge7 : wr.heap.size ≤ g7 := (by have := HB0.out.size; omega); (try have hne : g7 ≠ g8 := (by have := HR8.out.lt; omega)); have HR7 := Lib.hid hrow; (try have HR8 := Lib.hid (HR8.out.keep hb)); (try have HG := Lib.hid (HG.out.keep hb)); have HB0 := Lib.hid (below_next HB0.out hb); clear hg hrow hb))
                  refine hK.out _ _ HB0.out (fun _ => ?_)
                  clear hK K
                  try simp only [Act.put, List.setIfInBounds_toArray, List.set_cons_zero, List.set_cons_succ]
                  refine wpAnyH_ready (rs := [9]) (by kernel_rfl) (by simp) ?_
                  refine AllReadyH.cons (o := { dst := none, op := Op.store 26 (Operand.tmp 7) (Operand.tmp 25), type := 0, pos := "law.go:137", after := #[{ on := 7, ground := Ground.data }, { on := 3, ground := Ground.data }, { on := 6, ground := Ground.chain }, { on := 0, ground := Ground.phase }, { on := 1, ground := Ground.phase }, { on := 2, ground := Ground.phase }, { on := 3, ground := Ground.phase }, { on := 4, ground := Ground.textOnly Departure.lateStores }, { on := 5, ground := Ground.textOnly Departure.lateStoresUnsure }, { on := 6, ground := Ground.phase }, { on := 7, ground := Ground.phase }, { on := 8, ground := Ground.phase }], guard := none }) rfl (fun K hK => ?_) ?_
                  · rw [if_pos (by rfl)]
                    ((refine wp_store_dig' _ _ rfl g7 tA HLA.out rfl rfl HR7.out HB0.out hge7 ?_; intro w' hrow hb hoth; have HR8 := Lib.hid (hoth _ _ _ (fun h => hne h.symm) HR8.out); have HR7 := Lib.hid hrow; have HB0 := Lib.hid hb; clear hrow hb hoth))
                    refine hK.out _ _ HB0.out (fun _ => ?_)
                    clear hK K
                    try simp only [Act.put]
                    refine wpAnyH_ready (rs := [10]) (by kernel_rfl) (by simp) ?_
                    refine AllReadyH.cons (o := { dst := none, op := Op.store 26 (Operand.tmp 8) (Operand.tmp 28), type := 0, pos := "law.go:137", after := #[{ on := 8, ground := Ground.data }, { on := 6, ground := Ground.data }, { on := 9, ground := Ground.chain }, { on := 0, ground := Ground.phase }, { on := 1, ground := Ground.phase }, { on := 2, ground := Ground.phase }, { on := 3, ground := Ground.phase }, { on := 4, ground := Ground.phase }, { on := 5, ground := Ground.phase }, { on := 6, ground := Ground.phase }, { on := 7, ground := Ground.phase }, { on := 8, ground := Ground.phase }, { on := 9, ground := Ground.phase }], guard := none }) rfl (fun K hK => ?_) ?_
                    · rw [if_pos (by rfl)]
                      ((refine wp_store_dig' _ _ rfl g8 tB HLB.out rfl rfl HR8.out HB0.out hge8 ?_; intro w' hrow hb hoth; have HR7 := Lib.hid (hoth _ _ _ hne HR7.out); have HR8 := Lib.hid hrow; have HB0 := Lib.hid hb; clear hrow hb hoth))
                      refine hK.out _ _ HB0.out (fun _ => ?_)
                      clear hK K
                      try simp only [Act.put]
                      refine wpAnyH_done (by kernel_rfl) ?_ _
                      ((exact K g7 g8 g _ ⟨HR7.out, HR8.out, HB0.out⟩))
                    exact AllReadyH.nil
                  exact AllReadyH.nil
                exact AllReadyH.nil
              refine AllReadyH.cons (o := { dst := some 7, op := Op.alloc 26, type := 0, pos := "law.go:137", after := #[], guard := none }) rfl (fun K hK => ?_) ?_
              · rw [if_pos (by rfl)]
                ((refine wp_alloc_dig 7 rfl rfl ?_; intro g7 w5 hg hrow hb; have hge7 : wr.heap.size ≤ g7 := (by have := HB0.out.size; omega); (try have hne : g7 ≠ g8 := (by have := HR8.out.lt; omega)); have HR7 := Lib.hid hrow; (try have HR8 := Lib.hid (HR8.out.keep hb)); (try have HG := Lib.hid (HG.out.keep hb)); have HB0 := Lib.hid (below_next HB0.out hb); clear hg hrow hb))
                refine hK.out _ _ HB0.out (fun _ => ?_)
                clear hK K
                try simp only [Act.put, List.setIfInBounds_toArray, List.set_cons_zero, List.set_cons_succ]
                refine wpAnyH_ready (rs := [6]) (by kernel_rfl) (by simp) ?_
                refine AllReadyH.cons (o := { dst := some 28, op := Op.call { callee := Callee.value (Operand.func 17), args := #[Operand.tmp 27], argTypes := #[30] }, type := 26, pos := "law.go:137", after := #[{ on := 5, ground := Ground.data }, { on := 3, ground := Ground.chain }], guard := none }) rfl (fun K hK => ?_) ?_
                · rw [if_pos (by rfl)]
                  go_simp
                  go_wp2_with ((go_at_call 17; (refine (HLd.out _ _ HB0.out (drest_one' HG.out HDL.out)).mono ?_); rintro e w4 ⟨rfl, hb⟩; have HB0 := Lib.hid (below_next HB0.out hb); (try have HR7 := Lib.hid (HR7.out.keep hb)); (try have HR8 := Lib.hid (HR8.out.keep hb)); clear hb))
                  refine hK.out _ _ HB0.out (fun _ => ?_)
                  clear hK K
                  try simp only [Act.put, List.setIfInBounds_toArray, List.set_cons_zero, List.set_cons_succ]
                  refine wpAnyH_ready (rs := [9]) (by kernel_rfl) (by simp) ?_
                  refine AllReadyH.cons (o := { dst := none, op := Op.store 26 (Operand.tmp 7) (Operand.tmp 25), type := 0, pos := "law.go:137", after := #[{ on := 7, ground := Ground.data }, { on := 3, ground := Ground.data }, { on := 6, ground := Ground.chain }, { on := 0, ground := Ground.phase }, { on := 1, ground := Ground.phase }, { on := 2, ground := Ground.phase }, { on := 3, ground := Ground.phase }, { on := 4, ground := Ground.textOnly Departure.lateStores }, { on := 5, ground := Ground.textOnly Departure.lateStoresUnsure }, { on := 6, ground := Ground.phase }, { on := 7, ground := Ground.phase }, { on := 8, ground := Ground.phase }], guard := none }) rfl (fun K hK => ?_) ?_
                  · rw [if_pos (by rfl)]
                    ((refine wp_store_dig' _ _ rfl g7 tA HLA.out rfl rfl HR7.out HB0.out hge7 ?_; intro w' hrow hb hoth; have HR8 := Lib.hid (hoth _ _ _ (fun h => hne h.symm) HR8.out); have HR7 := Lib.hid hrow; have HB0 := Lib.hid hb; clear hrow hb hoth))
                    refine hK.out _ _ HB0.out (fun _ => ?_)
                    clear hK K
                    try simp only [Act.put]
                    refine wpAnyH_ready (rs := [10]) (by kernel_rfl) (by simp) ?_
                    refine AllReadyH.cons (o := { dst := none, op := Op.store 26 (Operand.tmp 8) (Operand.tmp 28), type := 0, pos := "law.go:137", after := #[{ on := 8, ground := Ground.data }, { on := 6, ground := Ground.data }, { on := 9, ground := Ground.chain }, { on := 0, ground := Ground.phase }, { on := 1, ground := Ground.phase }, { on := 2, ground := Ground.phase }, { on := 3, ground := Ground.phase }, { on := 4, ground := Ground.phase }, { on := 5, ground := Ground.phase }, { on := 6, ground := Ground.phase }, { on := 7, ground := Ground.phase }, { on := 8, ground := Ground.phase }, { on := 9, ground := Ground.phase }], guard := none }) rfl (fun K hK => ?_) ?_
                    · rw [if_pos (by rfl)]
                      ((refine wp_store_dig' _ _ rfl g8 tB HLB.out rfl rfl HR8.out HB0.out hge8 ?_; intro w' hrow hb hoth; have HR7 := Lib.hid (hoth _ _ _ hne HR7.out); have HR8 := Lib.hid hrow; have HB0 := Lib.hid hb; clear hrow hb hoth))
                      refine hK.out _ _ HB0.out (fun _ => ?_)
                      clear hK K
                      try simp only [Act.put]
                      refine wpAnyH_done (by kernel_rfl) ?_ _
                      ((exact K g7 g8 g _ ⟨HR7.out, HR8.out, HB0.out⟩))
                    exact AllReadyH.nil
                  exact AllReadyH.nil
                exact AllReadyH.nil
              exact AllReadyH.nil
            refine AllReadyH.cons (o := { dst := some 7, op := Op.alloc 26, type := 0, pos := "law.go:137", after := #[], guard := none }) rfl (fun K hK => ?_) ?_
            · rw [if_pos (by rfl)]
              ((refine wp_alloc_dig 7 rfl rfl ?_; intro g7 w5 hg hrow hb; have hge7 : wr.heap.size ≤ g7 := (by have := HB0.out.size; omega); (try have hne : g7 ≠ g8 := (by have := HR8.out.lt; omega)); have HR7 := Lib.hid hrow; (try have HR8 := Lib.hid (HR8.out.keep hb)); (try have HG := Lib.hid (HG.out.keep hb)); have HB0 := Lib.hid (below_next HB0.out hb); clear hg hrow hb))
              refine hK.out _ _ HB0.out (fun _ => ?_)
              clear hK K
              try simp only [Act.put, List.setIfInBounds_toArray, List.set_cons_zero, List.set_cons_succ]
              refine wpAnyH_ready (rs := [5]) (by kernel_rfl) (by simp) ?_
              refine AllReadyH.cons (o := { dst := some 27, op := Op.buildSlice 30 1 #[(0, Operand.tmp 26)], type := 30, pos := "law.go:137", after := #[{ on := 4, ground := Ground.data }], guard := none }) rfl (fun K hK => ?_) ?_
              · rw [if_pos (by rfl)]
                ((refine wp_one' _ rfl d HDL.out rfl ?_; intro g w12 hrow hg hb; (try have HR7 := Lib.hid (HR7.out.keep hb)); (try have HR8 := Lib.hid (HR8.out.keep hb)); have HG := Lib.hid hrow; have HB0 := Lib.hid (below_next HB0.out hb); clear hrow hg hb))
                refine hK.out _ _ HB0.out (fun _ => ?_)
                clear hK K
                try simp only [Act.put, List.setIfInBounds_toArray, List.set_cons_zero, List.set_cons_succ]
                refine wpAnyH_ready (rs := [6]) (by kernel_rfl) (by simp) ?_
                refine AllReadyH.cons (o := { dst := some 28, op := Op.call { callee := Callee.value (Operand.func 17), args := #[Operand.tmp 27], argTypes := #[30] }, type := 26, pos := "law.go:137", after := #[{ on := 5, ground := Ground.data }, { on := 3, ground := Ground.chain }], guard := none }) rfl (fun K hK => ?_) ?_
                · rw [if_pos (by rfl)]
                  go_simp
                  go_wp2_with ((go_at_call 17; (refine (HLd.out _ _ HB0.out (drest_one' HG.out HDL.out)).mono ?_); rintro e w4 ⟨rfl, hb⟩; have HB0 := Lib.hid (below_next HB0.out hb); (try have HR7 := Lib.hid (HR7.out.keep hb)); (try have HR8 := Lib.hid (HR8.out.keep hb)); clear hb))
                  refine hK.out _ _ HB0.out (fun _ => ?_)
                  clear hK K
                  try simp only [Act.put, List.setIfInBounds_toArray, List.set_cons_zero, List.set_cons_succ]
                  refine wpAnyH_ready (rs := [9]) (by kernel_rfl) (by simp) ?_
                  refine AllReadyH.cons (o := { dst := none, op := Op.store 26 (Operand.tmp 7) (Operand.tmp 25), type := 0, pos := "law.go:137", after := #[{ on := 7, ground := Ground.data }, { on := 3, ground := Ground.data }, { on := 6, ground := Ground.chain }, { on := 0, ground := Ground.phase }, { on := 1, ground := Ground.phase }, { on := 2, ground := Ground.phase }, { on := 3, ground := Ground.phase }, { on := 4, ground := Ground.textOnly Departure.lateStores }, { on := 5, ground := Ground.textOnly Departure.lateStoresUnsure }, { on := 6, ground := Ground.phase }, { on := 7, ground := Ground.phase }, { on := 8, ground := Ground.phase }], guard := none }) rfl (fun K hK => ?_) ?_
                  · rw [if_pos (by rfl)]
                    ((refine wp_store_dig' _ _ rfl g7 tA HLA.out rfl rfl HR7.out HB0.out hge7 ?_; intro w' hrow hb hoth; have HR8 := Lib.hid (hoth _ _ _ (fun h => hne h.symm) HR8.out); have HR7 := Lib.hid hrow; have HB0 := Lib.hid hb; clear hrow hb hoth))
                    refine hK.out _ _ HB0.out (fun _ => ?_)
                    clear hK K
                    try simp only [Act.put]
                    refine wpAnyH_ready (rs := [10]) (by kernel_rfl) (by simp) ?_
                    refine AllReadyH.cons (o := { dst := none, op := Op.store 26 (Operand.tmp 8) (Operand.tmp 28), type := 0, pos := "law.go:137", after := #[{ on := 8, ground := Ground.data }, { on := 6, ground := Ground.data }, { on := 9, ground := Ground.chain }, { on := 0, ground := Ground.phase }, { on := 1, ground := Ground.phase }, { on := 2, ground := Ground.phase }, { on := 3, ground := Ground.phase }, { on := 4, ground := Ground.phase }, { on := 5, ground := Ground.phase }, { on := 6, ground := Ground.phase }, { on := 7, ground := Ground.phase }, { on := 8, ground := Ground.phase }, { on := 9, ground := Ground.phase }], guard := none }) rfl (fun K hK => ?_) ?_
                    · rw [if_pos (by rfl)]
                      ((refine wp_store_dig' _ _ rfl g8 tB HLB.out rfl rfl HR8.out HB0.out hge8 ?_; intro w' hrow hb hoth; have HR7 := Lib.hid (hoth _ _ _ hne HR7.out); have HR8 := Lib.hid hrow; have HB0 := Lib.hid hb; clear hrow hb hoth))
                      refine hK.out _ _ HB0.out (fun _ => ?_)
                      clear hK K
                      try simp only [Act.put]
                      refine wpAnyH_done (by kernel_rfl) ?_ _
                      ((exact K g7 g8 g _ ⟨HR7.out, HR8.out, HB0.out⟩))
                    exact AllReadyH.nil
                  exact AllReadyH.nil
                exact AllReadyH.nil
              exact AllReadyH.nil
            exact AllReadyH.nil
          refine AllReadyH.cons (o := { dst := some 27, op := Op.buildSlice 30 1 #[(0, Operand.tmp 26)], type := 30, pos := "law.go:137", after := #[{ on := 4, ground := Ground.data }], guard := none }) rfl (fun K hK => ?_) ?_
          · rw [if_pos (by rfl)]
            ((refine wp_one' _ rfl d HDL.out rfl ?_; intro g w12 hrow hg hb; (try have HR7 := Lib.hid (HR7.out.keep hb)); (try have HR8 := Lib.hid (HR8.out.keep hb)); have HG := Lib.hid hrow; have HB0 := Lib.hid (below_next HB0.out hb); clear hrow hg hb))
            refine hK.out _ _ HB0.out (fun _ => ?_)
            clear hK K
            try simp only [Act.put, List.setIfInBounds_toArray, List.set_cons_zero, List.set_cons_succ]
            refine wpAnyH_ready (rs := [3, 7]) (by kernel_rfl) (by simp) ?_
            refine AllReadyH.cons (o := { dst := some 25, op := Op.call { callee := Callee.value (Operand.func 17), args := #[Operand.tmp 24], argTypes := #[30] }, type := 26, pos := "law.go:137", after := #[{ on := 2, ground := Ground.data }], guard := none }) rfl (fun K hK => ?_) ?_
            · rw [if_pos (by rfl)]
              go_simp
              go_wp2_with ((go_at_call 17; (with_reducible refine (HL.out _ HB0.out).mono ?_); rintro e w3 ⟨rfl, hb⟩; have HB0 := Lib.hid (below_next HB0.out hb); (try have HR7 := Lib.hid (HR7.out.keep hb)); (try have HR8 := Lib.hid (HR8.out.keep hb)); (try have HG := Lib.hid (HG.out.keep hb)); clear hb))
              refine hK.out _ _ HB0.out (fun _ => ?_)
              clear hK K
              try simp only [Act.put, List.setIfInBounds_toArray, List.set_cons_zero, List.set_cons_succ]
              refine wpAnyH_ready (rs := [6, 7]) (by kernel_rfl) (by simp) ?_
              refine AllReadyH.cons (o := { dst := some 28, op := Op.call { callee := Callee.value (Operand.func 17), args := #[Operand.tmp 27], argTypes := #[30] }, type := 26, pos := "law.go:137", after := #[{ on := 5, ground := Ground.data }, { on := 3, ground := Ground.chain }], guard := none }) rfl (fun K hK => ?_) ?_
              · rw [if_pos (by rfl)]
                go_simp
                go_wp2_with ((go_at_call 17; (refine (HLd.out _ _ HB0.out (drest_one' HG.out HDL.out)).mono ?_); rintro e w4 ⟨rfl, hb⟩; have HB0 := Lib.hid (below_next HB0.out hb); (try have HR7 := Lib.hid (HR7.out.keep hb)); (try have HR8 := Lib.hid (HR8.out.keep hb)); clear hb))
                refine hK.out _ _ HB0.out (fun _ => ?_)
                clear hK K
                try simp only [Act.put, List.setIfInBounds_toArray, List.set_cons_zero, List.set_cons_succ]
                refine wpAnyH_ready (rs := [7]) (by kernel_rfl) (by simp) ?_
                refine AllReadyH.cons (o := { dst := some 7, op := Op.alloc 26, type := 0, pos := "law.go:137", after := #[], guard := none }) rfl (fun K hK => ?_) ?_
                · rw [if_pos (by rfl)]
                  ((refine wp_alloc_dig 7 rfl rfl ?_; intro g7 w5 hg hrow hb; have hge7 : wr.heap.size ≤ g7 := (by have := HB0.out.size; omega); (try have hne : g7 ≠ g8 := (by have := HR8.out.lt; omega)); have HR7 := Lib.hid hrow; (try have HR8 := Lib.hid (HR8.out.keep hb)); (try have HG := Lib.hid (HG.out.keep hb)); have HB0 := Lib.hid (below_next HB0.out hb); clear hg hrow hb))
                  refine hK.out _ _ HB0.out (fun _ => ?_)
                  clear hK K
                  try simp only [Act.put, List.setIfInBounds_toArray, List.set_cons_zero, List.set_cons_succ]
                  refine wpAnyH_ready (rs := [9]) (by kernel_rfl) (by simp) ?_
                  refine AllReadyH.cons (o := { dst := none, op := Op.store 26 (Operand.tmp 7) (Operand.tmp 25), type := 0, pos := "law.go:137", after := #[{ on := 7, ground := Ground.data }, { on := 3, ground := Ground.data }, { on := 6, ground := Ground.chain }, { on := 0, ground := Ground.phase }, { on := 1, ground := Ground.phase }, { on := 2, ground := Ground.phase }, { on := 3, ground := Ground.phase }, { on := 4, ground := Ground.textOnly Departure.lateStores }, { on := 5, ground := Ground.textOnly Departure.lateStoresUnsure }, { on := 6, ground := Ground.phase }, { on := 7, ground := Ground.phase }, { on := 8, ground := Ground.phase }], guard := none }) rfl (fun K hK => ?_) ?_
                  · rw [if_pos (by rfl)]
                    ((refine wp_store_dig' _ _ rfl g7 tA HLA.out rfl rfl HR7.out HB0.out hge7 ?_; intro w' hrow hb hoth; have HR8 := Lib.hid (hoth _ _ _ (fun h => hne h.symm) HR8.out); have HR7 := Lib.hid hrow; have HB0 := Lib.hid hb; clear hrow hb hoth))
                    refine hK.out _ _ HB0.out (fun _ => ?_)
                    clear hK K
                    try simp only [Act.put]
                    refine wpAnyH_ready (rs := [10]) (by kernel_rfl) (by simp) ?_
                    refine AllReadyH.cons (o := { dst := none, op := Op.store 26 (Operand.tmp 8) (Operand.tmp 28), type := 0, pos := "law.go:137", after := #[{ on := 8, ground := Ground.data }, { on := 6, ground := Ground.data }, { on := 9, ground := Ground.chain }, { on := 0, ground := Ground.phase }, { on := 1, ground := Ground.phase }, { on := 2, ground := Ground.phase }, { on := 3, ground := Ground.phase }, { on := 4, ground := Ground.phase }, { on := 5, ground := Ground.phase }, { on := 6, ground := Ground.phase }, { on := 7, ground := Ground.phase }, { on := 8, ground := Ground.phase }, { on := 9, ground := Ground.phase }], guard := none }) rfl (fun K hK => ?_) ?_
                    · rw [if_pos (by rfl)]
                      ((refine wp_store_dig' _ _ rfl g8 tB HLB.out rfl rfl HR8.out HB0.out hge8 ?_; intro w' hrow hb hoth; have HR7 := Lib.hid (hoth _ _ _ hne HR7.out); have HR8 := Lib.hid hrow; have HB0 := Lib.hid hb; clear hrow hb hoth))
                      refine hK.out _ _ HB0.out (fun _ => ?_)
                      clear hK K
                      try simp only [Act.put]
                      refine wpAnyH_done (by kernel_rfl) ?_ _
                      ((exact K g7 g8 g _ ⟨HR7.out, HR8.out, HB0.out⟩))
                    exact AllReadyH.nil
                  exact AllReadyH.nil
                exact AllReadyH.nil
              refine AllReadyH.cons (o := { dst := some 7, op := Op.alloc 26, type := 0, pos := "law.go:137", after := #[], guard := none }) rfl (fun K hK => ?_) ?_
              · rw [if_pos (by rfl)]
                ((refine wp_alloc_dig 7 rfl rfl ?_; intro g7 w5 hg hrow hb; have hge7 : wr.heap.size ≤ g7 := (by have := HB0.out.size; omega); (try have hne : g7 ≠ g8 := (by have := HR8.out.lt; omega)); have HR7 := Lib.hid hrow; (try have HR8 := Lib.hid (HR8.out.keep hb)); (try have HG := Lib.hid (HG.out.keep hb)); have HB0 := Lib.hid (below_next HB0.out hb); clear hg hrow hb))
                refine hK.out _ _ HB0.out (fun _ => ?_)
                clear hK K
                try simp only [Act.put, List.setIfInBounds_toArray, List.set_cons_zero, List.set_cons_succ]
                refine wpAnyH_ready (rs := [6]) (by kernel_rfl) (by simp) ?_
                refine AllReadyH.cons (o := { dst := some 28, op := Op.call { callee := Callee.value (Operand.func 17), args := #[Operand.tmp 27], argTypes := #[30] }, type := 26, pos := "law.go:137", after := #[{ on := 5, ground := Ground.data }, { on := 3, ground := Ground.chain }], guard := none }) rfl (fun K hK => ?_) ?_
                · rw [if_pos (by rfl)]
                  go_simp
                  go_wp2_with ((go_at_call 17; (refine (HLd.out _ _ HB0.out (drest_one' HG.out HDL.out)).mono ?_); rintro e w4 ⟨rfl, hb⟩; have HB0 := Lib.hid (below_next HB0.out hb); (try have HR7 := Lib.hid (HR7.out.keep hb)); (try have HR8 := Lib.hid (HR8.out.keep hb)); clear hb))
                  refine hK.out _ _ HB0.out (fun _ => ?_)
                  clear hK K
                  try simp only [Act.put, List.setIfInBounds_toArray, List.set_cons_zero, List.set_cons_succ]
                  refine wpAnyH_ready (rs := [9]) (by kernel_rfl) (by simp) ?_
                  refine AllReadyH.cons (o := { dst := none, op := Op.store 26 (Operand.tmp 7) (Operand.tmp 25), type := 0, pos := "law.go:137", after := #[{ on := 7, ground := Ground.data }, { on := 3, ground := Ground.data }, { on := 6, ground := Ground.chain }, { on := 0, ground := Ground.phase }, { on := 1, ground := Ground.phase }, { on := 2, ground := Ground.phase }, { on := 3, ground := Ground.phase }, { on := 4, ground := Ground.textOnly Departure.lateStores }, { on := 5, ground := Ground.textOnly Departure.lateStoresUnsure }, { on := 6, ground := Ground.phase }, { on := 7, ground := Ground.phase }, { on := 8, ground := Ground.phase }], guard := none }) rfl (fun K hK => ?_) ?_
                  · rw [if_pos (by rfl)]
                    ((refine wp_store_dig' _ _ rfl g7 tA HLA.out rfl rfl HR7.out HB0.out hge7 ?_; intro w' hrow hb hoth; have HR8 := Lib.hid (hoth _ _ _ (fun h => hne h.symm) HR8.out); have HR7 := Lib.hid hrow; have HB0 := Lib.hid hb; clear hrow hb hoth))
                    refine hK.out _ _ HB0.out (fun _ => ?_)
                    clear hK K
                    try simp only [Act.put]
                    refine wpAnyH_ready (rs := [10]) (by kernel_rfl) (by simp) ?_
                    refine AllReadyH.cons (o := { dst := none, op := Op.store 26 (Operand.tmp 8) (Operand.tmp 28), type := 0, pos := "law.go:137", after := #[{ on := 8, ground := Ground.data }, { on := 6, ground := Ground.data }, { on := 9, ground := Ground.chain }, { on := 0, ground := Ground.phase }, { on := 1, ground := Ground.phase }, { on := 2, ground := Ground.phase }, { on := 3, ground := Ground.phase }, { on := 4, ground := Ground.phase }, { on := 5, ground := Ground.phase }, { on := 6, ground := Ground.phase }, { on := 7, ground := Ground.phase }, { on := 8, ground := Ground.phase }, { on := 9, ground := Ground.phase }], guard := none }) rfl (fun K hK => ?_) ?_
                    · rw [if_pos (by rfl)]
                      ((refine wp_store_dig' _ _ rfl g8 tB HLB.out rfl rfl HR8.out HB0.out hge8 ?_; intro w' hrow hb hoth; have HR7 := Lib.hid (hoth _ _ _ hne HR7.out); have HR8 := Lib.hid hrow; have HB0 := Lib.hid hb; clear hrow hb hoth))
                      refine hK.out _ _ HB0.out (fun _ => ?_)
                      clear hK K
                      try simp only [Act.put]
                      refine wpAnyH_done (by kernel_rfl) ?_ _
                      ((exact K g7 g8 g _ ⟨HR7.out, HR8.out, HB0.out⟩))
                    exact AllReadyH.nil
                  exact AllReadyH.nil
                exact AllReadyH.nil
              exact AllReadyH.nil
            refine AllReadyH.cons (o := { dst := some 7, op := Op.alloc 26, type := 0, pos := "law.go:137", after := #[], guard := none }) rfl (fun K hK => ?_) ?_
            · rw [if_pos (by rfl)]
              ((refine wp_alloc_dig 7 rfl rfl ?_; intro g7 w5 hg hrow hb; have hge7 : wr.heap.size ≤ g7 := (by have := HB0.out.size; omega); (try have hne : g7 ≠ g8 := (by have := HR8.out.lt; omega)); have HR7 := Lib.hid hrow; (try have HR8 := Lib.hid (HR8.out.keep hb)); (try have HG := Lib.hid (HG.out.keep hb)); have HB0 := Lib.hid (below_next HB0.out hb); clear hg hrow hb))
              refine hK.out _ _ HB0.out (fun _ => ?_)
              clear hK K
              try simp only [Act.put, List.setIfInBounds_toArray, List.set_cons_zero, List.set_cons_succ]
              refine wpAnyH_ready (rs := [3]) (by kernel_rfl) (by simp) ?_
              refine AllReadyH.cons (o := { dst := some 25, op := Op.call { callee := Callee.value (Operand.func 17), args := #[Operand.tmp 24], argTypes := #[30] }, type := 26, pos := "law.go:137", after := #[{ on := 2, ground := Ground.data }], guard := none }) rfl (fun K hK => ?_) ?_
              · rw [if_pos (by rfl)]
                go_simp
                go_wp2_with ((go_at_call 17; (with_reducible refine (HL.out _ HB0.out).mono ?_); rintro e w3 ⟨rfl, hb⟩; have HB0 := Lib.hid (below_next HB0.out hb); (try have HR7 := Lib.hid (HR7.out.keep hb)); (try have HR8 := Lib.hid (HR8.out.keep hb)); (try have HG := Lib.hid (HG.out.keep hb)); clear hb))
                refine hK.out _ _ HB0.out (fun _ => ?_)
                clear hK K
                try simp only [Act.put, List.setIfInBounds_toArray, List.set_cons_zero, List.set_cons_succ]
                refine wpAnyH_ready (rs := [6]) (by kernel_rfl) (by simp) ?_
                refine AllReadyH.cons (o := { dst := some 28, op := Op.call { callee := Callee.value (Operand.func 17), args := #[Operand.tmp 27], argTypes := #[30] }, type := 26, pos := "law.go:137", after := #[{ on := 5, ground := Ground.data }, { on := 3, ground := Ground.chain }], guard := none }) rfl (fun K hK => ?_) ?_
                · rw [if_pos (by rfl)]
                  go_simp
                  go_wp2_with ((go_at_call 17; (refine (HLd.out _ _ HB0.out (drest_one' HG.out HDL.out)).mono ?_); rintro e w4 ⟨rfl, hb⟩; have HB0 := Lib.hid (below_next HB0.out hb); (try have HR7 := Lib.hid (HR7.out.keep hb)); (try have HR8 := Lib.hid (HR8.out.keep hb)); clear hb))
                  refine hK.out _ _ HB0.out (fun _ => ?_)
                  clear hK K
                  try simp only [Act.put, List.setIfInBounds_toArray, List.set_cons_zero, List.set_cons_succ]
                  refine wpAnyH_ready (rs := [9]) (by kernel_rfl) (by simp) ?_
                  refine AllReadyH.cons (o := { dst := none, op := Op.store 26 (Operand.tmp 7) (Operand.tmp 25), type := 0, pos := "law.go:137", after := #[{ on := 7, ground := Ground.data }, { on := 3, ground := Ground.data }, { on := 6, ground := Ground.chain }, { on := 0, ground := Ground.phase }, { on := 1, ground := Ground.phase }, { on := 2, ground := Ground.phase }, { on := 3, ground := Ground.phase }, { on := 4, ground := Ground.textOnly Departure.lateStores }, { on := 5, ground := Ground.textOnly Departure.lateStoresUnsure }, { on := 6, ground := Ground.phase }, { on := 7, ground := Ground.phase }, { on := 8, ground := Ground.phase }], guard := none }) rfl (fun K hK => ?_) ?_
                  · rw [if_pos (by rfl)]
                    ((refine wp_store_dig' _ _ rfl g7 tA HLA.out rfl rfl HR7.out HB0.out hge7 ?_; intro w' hrow hb hoth; have HR8 := Lib.hid (hoth _ _ _ (fun h => hne h.symm) HR8.out); have HR7 := Lib.hid hrow; have HB0 := Lib.hid hb; clear hrow hb hoth))
                    refine hK.out _ _ HB0.out (fun _ => ?_)
                    clear hK K
                    try simp only [Act.put]
                    refine wpAnyH_ready (rs := [10]) (by kernel_rfl) (by simp) ?_
                    refine AllReadyH.cons (o := { dst := none, op := Op.store 26 (Operand.tmp 8) (Operand.tmp 28), type := 0, pos := "law.go:137", after := #[{ on := 8, ground := Ground.data }, { on := 6, ground := Ground.data }, { on := 9, ground := Ground.chain }, { on := 0, ground := Ground.phase }, { on := 1, ground := Ground.phase }, { on := 2, ground := Ground.phase }, { on := 3, ground := Ground.phase }, { on := 4, ground := Ground.phase }, { on := 5, ground := Ground.phase }, { on := 6, ground := Ground.phase }, { on := 7, ground := Ground.phase }, { on := 8, ground := Ground.phase }, { on := 9, ground := Ground.phase }], guard := none }) rfl (fun K hK => ?_) ?_
                    · rw [if_pos (by rfl)]
                      ((refine wp_store_dig' _ _ rfl g8 tB HLB.out rfl rfl HR8.out HB0.out hge8 ?_; intro w' hrow hb hoth; have HR7 := Lib.hid (hoth _ _ _ hne HR7.out); have HR8 := Lib.hid hrow; have HB0 := Lib.hid hb; clear hrow hb hoth))
                      refine hK.out _ _ HB0.out (fun _ => ?_)
                      clear hK K
                      try simp only [Act.put]
                      refine wpAnyH_done (by kernel_rfl) ?_ _
                      ((exact K g7 g8 g _ ⟨HR7.out, HR8.out, HB0.out⟩))
                    exact AllReadyH.nil
                  exact AllReadyH.nil
                exact AllReadyH.nil
              exact AllReadyH.nil
            exact AllReadyH.nil
          refine AllReadyH.cons (o := { dst := some 7, op := Op.alloc 26, type := 0, pos := "law.go:137", after := #[], guard := none }) rfl (fun K hK => ?_) ?_
          · rw [if_pos (by rfl)]
            ((refine wp_alloc_dig 7 rfl rfl ?_; intro g7 w5 hg hrow hb; have hge7 : wr.heap.size ≤ g7 := (by have := HB0.out.size; omega); (try have hne : g7 ≠ g8 := (by have := HR8.out.lt; omega)); have HR7 := Lib.hid hrow; (try have HR8 := Lib.hid (HR8.out.keep hb)); (try have HG := Lib.hid (HG.out.keep hb)); have HB0 := Lib.hid (below_next HB0.out hb); clear hg hrow hb))
            refine hK.out _ _ HB0.out (fun _ => ?_)
            clear hK K
            try simp only [Act.put, List.setIfInBounds_toArray, List.set_cons_zero, List.set_cons_succ]
            refine wpAnyH_ready (rs := [3, 5]) (by kernel_rfl) (by simp) ?_
            refine AllReadyH.cons (o := { dst := some 25, op := Op.call { callee := Callee.value (Operand.func 17), args := #[Operand.tmp 24], argTypes := #[30] }, type := 26, pos := "law.go:137", after := #[{ on := 2, ground := Ground.data }], guard := none }) rfl (fun K hK => ?_) ?_
            · rw [if_pos (by rfl)]
              go_simp
              go_wp2_with ((go_at_call 17; (with_reducible refine (HL.out _ HB0.out).mono ?_); rintro e w3 ⟨rfl, hb⟩; have HB0 := Lib.hid (below_next HB0.out hb); (try have HR7 := Lib.hid (HR7.out.keep hb)); (try have HR8 := Lib.hid (HR8.out.keep hb)); (try have HG := Lib.hid (HG.out.keep hb)); clear hb))
              refine hK.out _ _ HB0.out (fun _ => ?_)
              clear hK K
              try simp only [Act.put, List.setIfInBounds_toArray, List.set_cons_zero, List.set_cons_succ]
              refine wpAnyH_ready (rs := [5]) (by kernel_rfl) (by simp) ?_
              refine AllReadyH.cons (o := { dst := some 27, op := Op.buildSlice 30 1 #[(0, Operand.tmp 26)], type := 30, pos := "law.go:137", after := #[{ on := 4, ground := Ground.data }], guard := none }) rfl (fun K hK => ?_) ?_
              · rw [if_pos (by rfl)]
                ((refine wp_one' _ rfl d HDL.out rfl ?_; intro g w12 hrow hg hb; (try have HR7 := Lib.hid (HR7.out.keep hb)); (try have HR8 := Lib.hid (HR8.out.keep hb)); have HG := Lib.hid hrow; have HB0 := Lib.hid (below_next HB0.out hb); clear hrow hg hb))
                refine hK.out _ _ HB0.out (fun _ => ?_)
                clear hK K
                try simp only [Act.put, List.setIfInBounds_toArray, List.set_cons_zero, List.set_cons_succ]
                refine wpAnyH_ready (rs := [6]) (by kernel_rfl) (by simp) ?_
                refine AllReadyH.cons (o := { dst := some 28, op := Op.call { callee := Callee.value (Operand.func 17), args := #[Operand.tmp 27], argTypes := #[30] }, type := 26, pos := "law.go:137", after := #[{ on := 5, ground := Ground.data }, { on := 3, ground := Ground.chain }], guard := none }) rfl (fun K hK => ?_) ?_
                · rw [if_pos (by rfl)]
                  go_simp
                  go_wp2_with ((go_at_call 17; (refine (HLd.out _ _ HB0.out (drest_one' HG.out HDL.out)).mono ?_); rintro e w4 ⟨rfl, hb⟩; have HB0 := Lib.hid (below_next HB0.out hb); (try have HR7 := Lib.hid (HR7.out.keep hb)); (try have HR8 := Lib.hid (HR8.out.keep hb)); clear hb))
                  refine hK.out _ _ HB0.out (fun _ => ?_)
                  clear hK K
                  try simp only [Act.put, List.setIfInBounds_toArray, List.set_cons_zero, List.set_cons_succ]
                  refine wpAnyH_ready (rs := [9]) (by kernel_rfl) (by simp) ?_
                  refine AllReadyH.cons (o := { dst := none, op := Op.store 26 (Operand.tmp 7) (Operand.tmp 25), type := 0, pos := "law.go:137", after := #[{ on := 7, ground := Ground.data }, { on := 3, ground := Ground.data }, { on := 6, ground := Ground.chain }, { on := 0, ground := Ground.phase }, { on := 1, ground := Ground.phase }, { on := 2, ground := Ground.phase }, { on := 3, ground := Ground.phase }, { on := 4, ground := Ground.textOnly Departure.lateStores }, { on := 5, ground := Ground.textOnly Departure.lateStoresUnsure }, { on := 6, ground := Ground.phase }, { on := 7, ground := Ground.phase }, { on := 8, ground := Ground.phase }], guard := none }) rfl (fun K hK => ?_) ?_
                  · rw [if_pos (by rfl)]
                    ((refine wp_store_dig' _ _ rfl g7 tA HLA.out rfl rfl HR7.out HB0.out hge7 ?_; intro w' hrow hb hoth; have HR8 := Lib.hid (hoth _ _ _ (fun h => hne h.symm) HR8.out); have HR7 := Lib.hid hrow; have HB0 := Lib.hid hb; clear hrow hb hoth))
                    refine hK.out _ _ HB0.out (fun _ => ?_)
                    clear hK K
                    try simp only [Act.put]
                    refine wpAnyH_ready (rs := [10]) (by kernel_rfl) (by simp) ?_
                    refine AllReadyH.cons (o := { dst := none, op := Op.store 26 (Operand.tmp 8) (Operand.tmp 28), type := 0, pos := "law.go:137", after := #[{ on := 8, ground := Ground.data }, { on := 6, ground := Ground.data }, { on := 9, ground := Ground.chain }, { on := 0, ground := Ground.phase }, { on := 1, ground := Ground.phase }, { on := 2, ground := Ground.phase }, { on := 3, ground := Ground.phase }, { on := 4, ground := Ground.phase }, { on := 5, ground := Ground.phase }, { on := 6, ground := Ground.phase }, { on := 7, ground := Ground.phase }, { on := 8, ground := Ground.phase }, { on := 9, ground := Ground.phase }], guard := none }) rfl (fun K hK => ?_) ?_
                    · rw [if_pos (by rfl)]
                      ((refine wp_store_dig' _ _ rfl g8 tB HLB.out rfl rfl HR8.out HB0.out hge8 ?_; intro w' hrow hb hoth; have HR7 := Lib.hid (hoth _ _ _ hne HR7.out); have HR8 := Lib.hid hrow; have HB0 := Lib.hid hb; clear hrow hb hoth))
                      refine hK.out _ _ HB0.out (fun _ => ?_)
                      clear hK K
                      try simp only [Act.put]
                      refine wpAnyH_done (by kernel_rfl) ?_ _
                      ((exact K g7 g8 g _ ⟨HR7.out, HR8.out, HB0.out⟩))
                    exact AllReadyH.nil
                  exact AllReadyH.nil
                exact AllReadyH.nil
              exact AllReadyH.nil
            refine AllReadyH.cons (o := { dst := some 27, op := Op.buildSlice 30 1 #[(0, Operand.tmp 26)], type := 30, pos := "law.go:137", after := #[{ on := 4, ground := Ground.data }], guard := none }) rfl (fun K hK => ?_) ?_
            · rw [if_pos (by rfl)]
              ((refine wp_one' _ rfl d HDL.out rfl ?_; intro g w12 hrow hg hb; (try have HR7 := Lib.hid (HR7.out.keep hb)); (try have HR8 := Lib.hid (HR8.out.keep hb)); have HG := Lib.hid hrow; have HB0 := Lib.hid (below_next HB0.out hb); clear hrow hg hb))
              refine hK.out _ _ HB0.out (fun _ => ?_)
              clear hK K
              try simp only [Act.put, List.setIfInBounds_toArray, List.set_cons_zero, List.set_cons_succ]
              refine wpAnyH_ready (rs := [3]) (by kernel_rfl) (by simp) ?_
              refine AllReadyH.cons (o := { dst := some 25, op := Op.call { callee := Callee.value (Operand.func 17), args := #[Operand.tmp 24], argTypes := #[30] }, type := 26, pos := "law.go:137", after := #[{ on := 2, ground := Ground.data }], guard := none }) rfl (fun K hK => ?_) ?_
              · rw [if_pos (by rfl)]
                go_simp
                go_wp2_with ((go_at_call 17; (with_reducible refine (HL.out _ HB0.out).mono ?_); rintro e w3 ⟨rfl, hb⟩; have HB0 := Lib.hid (below_next HB0.out hb); (try have HR7 := Lib.hid (HR7.out.keep hb)); (try have HR8 := Lib.hid (HR8.out.keep hb)); (try have HG := Lib.hid (HG.out.keep hb)); clear hb))
                refine hK.out _ _ HB0.out (fun _ => ?_)
                clear hK K
                try simp only [Act.put, List.setIfInBounds_toArray, List.set_cons_zero, List.set_cons_succ]
                refine wpAnyH_ready (rs := [6]) (by kernel_rfl) (by simp) ?_
                refine AllReadyH.cons (o := { dst := some 28, op := Op.call { callee := Callee.value (Operand.func 17), args := #[Operand.tmp 27], argTypes := #[30] }, type := 26, pos := "law.go:137", after := #[{ on := 5, ground := Ground.data }, { on := 3, ground := Ground.chain }], guard := none }) rfl (fun K hK => ?_) ?_
                · rw [if_pos (by rfl)]
                  go_simp
                  go_wp2_with ((go_at_call 17; (refine (HLd.out _ _ HB0.out (drest_one' HG.out HDL.out)).mono ?_); rintro e w4 ⟨rfl, hb⟩; have HB0 := Lib.hid (below_next HB0.out hb); (try have HR7 := Lib.hid (HR7.out.keep hb)); (try have HR8 := Lib.hid (HR8.out.keep hb)); clear hb))
                  refine hK.out _ _ HB0.out (fun _ => ?_)
                  clear hK K
                  try simp only [Act.put, List.setIfInBounds_toArray, List.set_cons_zero, List.set_cons_succ]
                  refine wpAnyH_ready (rs := [9]) (by kernel_rfl) (by simp) ?_
                  refine AllReadyH.cons (o := { dst := none, op := Op.store 26 (Operand.tmp 7) (Operand.tmp 25), type := 0, pos := "law.go:137", after := #[{ on := 7, ground := Ground.data }, { on := 3, ground := Ground.data }, { on := 6, ground := Ground.chain }, { on := 0, ground := Ground.phase }, { on := 1, ground := Ground.phase }, { on := 2, ground := Ground.phase }, { on := 3, ground := Ground.phase }, { on := 4, ground := Ground.textOnly Departure.lateStores }, { on := 5, ground := Ground.textOnly Departure.lateStoresUnsure }, { on := 6, ground := Ground.phase }, { on := 7, ground := Ground.phase }, { on := 8, ground := Ground.phase }], guard := none }) rfl (fun K hK => ?_) ?_
                  · rw [if_pos (by rfl)]
                    ((refine wp_store_dig' _ _ rfl g7 tA HLA.out rfl rfl HR7.out HB0.out hge7 ?_; intro w' hrow hb hoth; have HR8 := Lib.hid (hoth _ _ _ (fun h => hne h.symm) HR8.out); have HR7 := Lib.hid hrow; have HB0 := Lib.hid hb; clear hrow hb hoth))
                    refine hK.out _ _ HB0.out (fun _ => ?_)
                    clear hK K
                    try simp only [Act.put]
                    refine wpAnyH_ready (rs := [10]) (by kernel_rfl) (by simp) ?_
                    refine AllReadyH.cons (o := { dst := none, op := Op.store 26 (Operand.tmp 8) (Operand.tmp 28), type := 0, pos := "law.go:137", after := #[{ on := 8, ground := Ground.data }, { on := 6, ground := Ground.data }, { on := 9, ground := Ground.chain }, { on := 0, ground := Ground.phase }, { on := 1, ground := Ground.phase }, { on := 2, ground := Ground.phase }, { on := 3, ground := Ground.phase }, { on := 4, ground := Ground.phase }, { on := 5, ground := Ground.phase }, { on := 6, ground := Ground.phase }, { on := 7, ground := Ground.phase }, { on := 8, ground := Ground.phase }, { on := 9, ground := Ground.phase }], guard := none }) rfl (fun K hK => ?_) ?_
                    · rw [if_pos (by rfl)]
                      ((refine wp_store_dig' _ _ rfl g8 tB HLB.out rfl rfl HR8.out HB0.out hge8 ?_; intro w' hrow hb hoth; have HR7 := Lib.hid (hoth _ _ _ hne HR7.out); have HR8 := Lib.hid hrow; have HB0 := Lib.hid hb; clear hrow hb hoth))
                      refine hK.out _ _ HB0.out (fun _ => ?_)
                      clear hK K
                      try simp only [Act.put]
                      refine wpAnyH_done (by kernel_rfl) ?_ _
                      ((exact K g7 g8 g _ ⟨HR7.out, HR8.out, HB0.out⟩))
                    exact AllReadyH.nil
                  exact AllReadyH.nil
                exact AllReadyH.nil
              exact AllReadyH.nil
            exact AllReadyH.nil
          exact AllReadyH.nil
        exact AllReadyH.nil
      case kk =>
        rintro g7 g8 g w5 ⟨hr7, hr8, hb5⟩
        have HBX := Lib.hid (below_next HBR.out hb5)
        have HDA5 : Hid (DigAt (fun w' => Below w5.heap.size w5 w') g3 d) := ⟨HDL.out, fun W' h => range_row (HG3W.out.keep (below_next HBX.out h))⟩
        have HPS : Hid (∀ W' : World, Below w5.heap.size w5 W' → DRest W'.heap.size W' (ds.take n) (.slice (some ⟨b, off, none⟩) n c3)) := fun W' h => by
          have hp := drest_part (HDW.out.keep (below_next HBX.out h)) 0 n c3 (by rw [← HM.out]; omega) (by omega) (Nat.le_refl _)
          rwa [List.drop_zero, Nat.zero_mul, Nat.add_zero] at hp
        obtain ⟨dn, hdn⟩ : ∃ dn, dn = ds.take n := ⟨_, rfl⟩
        have hdnl : dn.length = n := by rw [hdn, List.length_take, ← HM.out]; omega
        rw [← hdn] at HPS
        have hnx := next_tree ds d n j HN2.out hn1 (by rw [← HM.out]; exact hge)
        rw [← HTA.out, ← HTB.out, ← hdn] at hnx
        have HTL : Hid (tree (dn ++ [d]) = tagged (⟨#[110, 111, 100, 101]⟩ : ByteArray).data.toList (tA ++ tB)) := hnx.1
        have HPT : Hid (path (dn ++ [d]) n = [tA]) := hnx.2
        have HDN := Lib.hid hdnl
        have HL1 : Hid (([] : List (List UInt8)).length + dn.length ≤ 1099511627776) := by show ([] : List (List UInt8)).length + dn.length ≤ 1099511627776; rw [List.length_nil]; omega
        have HL2 : Hid (dn.length + [d].length ≤ 1099511627776) := by show dn.length + [d].length ≤ 1099511627776; rw [List.length_singleton]; omega
        have HR75 := Lib.hid hr7
        have HR85 := Lib.hid hr8
        clear hdn hdnl hnx hr7 hr8 hb5
        go_wp2_with fail
        refine' cut5 (R0 := fun (_ _ v2 : Value) (_ : Nat) (w' : World) => DNew w5 w' v2 (dn ++ [d])) _ ?rest ?kk
        case rest =>
          intro K
          (refine wp_region_held_drew (S := fun w' => Below w5.heap.size w5 w') (by kernel_rfl) ((Below.refl _ w5).drew) (fun hHeld => ?_))
          (obtain ⟨w0, hw0⟩ : ∃ x, x = w5.drew := ⟨_, rfl⟩; rw [← hw0] at hHeld ⊢; have HB0 := Lib.hid hHeld; clear hHeld hw0)
          refine wpAnyH_take (i := 1) (oi := { dst := some 30, op := Op.move (Operand.tmp 5), type := 30, pos := "law.go:138", after := #[], guard := none }) (v := ?_) rfl (by kernel_rfl) (by kernel_rfl) (by kernel_rfl) (fun _ _ _ h => h) (Or.inl ⟨by rfl, ?_⟩) HB0.out ?_
          rotate_left
          · (intro w _; go_simp; with_reducible rfl)
          try simp only [Act.put, List.setIfInBounds_toArray, List.set_cons_zero, List.set_cons_succ]
          refine wpAnyH_take (i := 2) (oi := { dst := some 31, op := Op.move (Operand.tmp 6), type := 3, pos := "law.go:138", after := #[], guard := none }) (v := ?_) rfl (by kernel_rfl) (by kernel_rfl) (by kernel_rfl) (fun _ _ _ h => h) (Or.inl ⟨by rfl, ?_⟩) HB0.out ?_
          rotate_left
          · (intro w _; go_simp; with_reducible rfl)
          try simp only [Act.put, List.setIfInBounds_toArray, List.set_cons_zero, List.set_cons_succ]
          refine wpAnyH_take (i := 3) (oi := { dst := some 32, op := Op.slice 30 (Operand.tmp 30) none (some (Operand.tmp 31)) none, type := 30, pos := "law.go:138", after := #[{ on := 1, ground := Ground.data }, { on := 2, ground := Ground.data }], guard := none }) (v := ?_) rfl (by kernel_rfl) (by kernel_rfl) (by kernel_rfl) (fun _ _ _ h => h) (Or.inl ⟨by rfl, ?_⟩) HB0.out ?_
          rotate_left
          · (intro w _; go_simp; with_reducible rfl)
          try simp only [Act.put, List.setIfInBounds_toArray, List.set_cons_zero, List.set_cons_succ]
          refine take_dig (i := 5) (oi := { dst := some 34, op := Op.load 26 (Operand.tmp 3), type := 26, pos := "law.go:138", after := #[], guard := none }) (HDA5.out) rfl (by kernel_rfl) (by kernel_rfl) (by kernel_rfl) (fun _ _ _ h => h) HB0.out rfl rfl (by rfl) ?_
          try simp only [Act.put, List.setIfInBounds_toArray, List.set_cons_zero, List.set_cons_succ]
          refine wpAnyH_ready (rs := [0, 6]) (by kernel_rfl) (by simp) ?_
          refine AllReadyH.cons (o := { dst := some 29, op := Op.buildSlice 30 0 #[], type := 30, pos := "law.go:138", after := #[], guard := none }) rfl (fun K hK => ?_) ?_
          · rw [if_pos (by rfl)]
            ((refine wp_dnone' rfl HB0.out ?_; intro v0 w11 hn hown hb; (try have hdG := own_ne HG.out hown); (try have HG := Lib.hid (HG.out.keep hb)); have HN := Lib.hid hn; have HB0 := Lib.hid hn.2.1; clear hn hown hb))
            refine hK.out _ _ HB0.out (fun _ => ?_)
            clear hK K
            try simp only [Act.put, List.setIfInBounds_toArray, List.set_cons_zero, List.set_cons_succ]
            refine wpAnyH_ready (rs := [4, 6]) (by kernel_rfl) (by simp) ?_
            refine AllReadyH.cons (o := { dst := some 33, op := Op.call { callee := Callee.builtin Builtin.append, args := #[Operand.tmp 29, Operand.tmp 32], argTypes := #[30, 30] }, type := 30, pos := "law.go:138", after := #[{ on := 0, ground := Ground.data }, { on := 3, ground := Ground.data }], guard := none }) rfl (fun K hK => ?_) ?_
            · rw [if_pos (by rfl)]
              ((refine wp_dapp' rfl _ _ rfl v0 [] rfl HN.out _ _ dn rfl (HPS.out _ HB0.out) HL1.out ?_; intro v1 w13 hn hk; (try have hx := hk _ _ _ HG.out hdG; have hdG := hx.2; have HG := Lib.hid hx.1; clear hx); have HN : Hid (DNew w5 w13 v1 dn) := hn; have HB0 := Lib.hid hn.2.1; clear hn hk))
              refine hK.out _ _ HB0.out (fun _ => ?_)
              clear hK K
              try simp only [Act.put, List.setIfInBounds_toArray, List.set_cons_zero, List.set_cons_succ]
              refine wpAnyH_ready (rs := [6]) (by kernel_rfl) (by simp) ?_
              refine AllReadyH.cons (o := { dst := some 35, op := Op.buildSlice 30 1 #[(0, Operand.tmp 34)], type := 30, pos := "law.go:138", after := #[{ on := 5, ground := Ground.data }], guard := none }) rfl (fun K hK => ?_) ?_
              · rw [if_pos (by rfl)]
                ((refine wp_one' _ rfl d HDL.out rfl ?_; intro g0 w12 hrow hg hb; (try have hdG := dnew_ne HN.out hg); (try have HN := Lib.hid (HN.out.keep hb)); have HG := Lib.hid hrow; have HB0 := Lib.hid (below_next HB0.out hb); clear hrow hg hb))
                refine hK.out _ _ HB0.out (fun _ => ?_)
                clear hK K
                try simp only [Act.put, List.setIfInBounds_toArray, List.set_cons_zero, List.set_cons_succ]
                refine wpAnyH_ready (rs := [7]) (by kernel_rfl) (by simp) ?_
                refine AllReadyH.cons (o := { dst := some 36, op := Op.call { callee := Callee.builtin Builtin.append, args := #[Operand.tmp 33, Operand.tmp 35], argTypes := #[30, 30] }, type := 30, pos := "law.go:138", after := #[{ on := 4, ground := Ground.data }, { on := 6, ground := Ground.data }, { on := 4, ground := Ground.chain }], guard := none }) rfl (fun K hK => ?_) ?_
                · rw [if_pos (by rfl)]
                  ((refine wp_dapp' rfl _ _ rfl v1 dn rfl HN.out _ _ [d] rfl (drest_one' HG.out HDL.out) HL2.out ?_; intro v2 w14 hn hk; have HN := Lib.hid hn; have HB0 := Lib.hid hn.2.1; clear hn hk))
                  refine hK.out _ _ HB0.out (fun _ => ?_)
                  clear hK K
                  try simp only [Act.put, List.setIfInBounds_toArray, List.set_cons_zero, List.set_cons_succ]
                  refine wpAnyH_take (i := 8) (oi := { dst := some 9, op := Op.assign (Operand.tmp 36), type := 30, pos := "law.go:138", after := #[{ on := 7, ground := Ground.data }, { on := 7, ground := Ground.chain }, { on := 0, ground := Ground.phase }, { on := 1, ground := Ground.phase }, { on := 2, ground := Ground.phase }, { on := 3, ground := Ground.phase }, { on := 4, ground := Ground.phase }, { on := 5, ground := Ground.phase }, { on := 6, ground := Ground.phase }, { on := 7, ground := Ground.phase }], guard := none }) (v := ?_) rfl (by kernel_rfl) (by kernel_rfl) (by kernel_rfl) (fun _ _ _ h => h) (Or.inl ⟨by rfl, ?_⟩) HB0.out ?_
                  rotate_left
                  · (intro w _; go_simp; with_reducible rfl)
                  try simp only [Act.put, List.setIfInBounds_toArray, List.set_cons_zero, List.set_cons_succ]
                  refine wpAnyH_done (by kernel_rfl) ?_ _
                  ((exact K v0 v1 v2 g0 _ HN.out))
                exact AllReadyH.nil
              exact AllReadyH.nil
            refine AllReadyH.cons (o := { dst := some 35, op := Op.buildSlice 30 1 #[(0, Operand.tmp 34)], type := 30, pos := "law.go:138", after := #[{ on := 5, ground := Ground.data }], guard := none }) rfl (fun K hK => ?_) ?_
            · rw [if_pos (by rfl)]
              ((refine wp_one' _ rfl d HDL.out rfl ?_; intro g0 w12 hrow hg hb; (try have hdG := dnew_ne HN.out hg); (try have HN := Lib.hid (HN.out.keep hb)); have HG := Lib.hid hrow; have HB0 := Lib.hid (below_next HB0.out hb); clear hrow hg hb))
              refine hK.out _ _ HB0.out (fun _ => ?_)
              clear hK K
              try simp only [Act.put, List.setIfInBounds_toArray, List.set_cons_zero, List.set_cons_succ]
              refine wpAnyH_ready (rs := [4]) (by kernel_rfl) (by simp) ?_
              refine AllReadyH.cons (o := { dst := some 33, op := Op.call { callee := Callee.builtin Builtin.append, args := #[Operand.tmp 29, Operand.tmp 32], argTypes := #[30, 30] }, type := 30, pos := "law.go:138", after := #[{ on := 0, ground := Ground.data }, { on := 3, ground := Ground.data }], guard := none }) rfl (fun K hK => ?_) ?_
              · rw [if_pos (by rfl)]
                ((refine wp_dapp' rfl _ _ rfl v0 [] rfl HN.out _ _ dn rfl (HPS.out _ HB0.out) HL1.out ?_; intro v1 w13 hn hk; (try have hx := hk _ _ _ HG.out hdG; have hdG := hx.2; have HG := Lib.hid hx.1; clear hx); have HN : Hid (DNew w5 w13 v1 dn) := hn; have HB0 := Lib.hid hn.2.1; clear hn hk))
                refine hK.out _ _ HB0.out (fun _ => ?_)
                clear hK K
                try simp only [Act.put, List.setIfInBounds_toArray, List.set_cons_zero, List.set_cons_succ]
                refine wpAnyH_ready (rs := [7]) (by kernel_rfl) (by simp) ?_
                refine AllReadyH.cons (o := { dst := some 36, op := Op.call { callee := Callee.builtin Builtin.append, args := #[Operand.tmp 33, Operand.tmp 35], argTypes := #[30, 30] }, type := 30, pos := "law.go:138", after := #[{ on := 4, ground := Ground.data }, { on := 6, ground := Ground.data }, { on := 4, ground := Ground.chain }], guard := none }) rfl (fun K hK => ?_) ?_
                · rw [if_pos (by rfl)]
                  ((refine wp_dapp' rfl _ _ rfl v1 dn rfl HN.out _ _ [d] rfl (drest_one' HG.out HDL.out) HL2.out ?_; intro v2 w14 hn hk; have HN := Lib.hid hn; have HB0 := Lib.hid hn.2.1; clear hn hk))
                  refine hK.out _ _ HB0.out (fun _ => ?_)
                  clear hK K
                  try simp only [Act.put, List.setIfInBounds_toArray, List.set_cons_zero, List.set_cons_succ]
                  refine wpAnyH_take (i := 8) (oi := { dst := some 9, op := Op.assign (Operand.tmp 36), type := 30, pos := "law.go:138", after := #[{ on := 7, ground := Ground.data }, { on := 7, ground := Ground.chain }, { on := 0, ground := Ground.phase }, { on := 1, ground := Ground.phase }, { on := 2, ground := Ground.phase }, { on := 3, ground := Ground.phase }, { on := 4, ground := Ground.phase }, { on := 5, ground := Ground.phase }, { on := 6, ground := Ground.phase }, { on := 7, ground := Ground.phase }], guard := none }) (v := ?_) rfl (by kernel_rfl) (by kernel_rfl) (by kernel_rfl) (fun _ _ _ h => h) (Or.inl ⟨by rfl, ?_⟩) HB0.out ?_
                  rotate_left
                  · (intro w _; go_simp; with_reducible rfl)
                  try simp only [Act.put, List.setIfInBounds_toArray, List.set_cons_zero, List.set_cons_succ]
                  refine wpAnyH_done (by kernel_rfl) ?_ _
                  ((exact K v0 v1 v2 g0 _ HN.out))
                exact AllReadyH.nil
              exact AllReadyH.nil
            exact AllReadyH.nil
          refine AllReadyH.cons (o := { dst := some 35, op := Op.buildSlice 30 1 #[(0, Operand.tmp 34)], type := 30, pos := "law.go:138", after := #[{ on := 5, ground := Ground.data }], guard := none }) rfl (fun K hK => ?_) ?_
          · rw [if_pos (by rfl)]
            ((refine wp_one' _ rfl d HDL.out rfl ?_; intro g0 w12 hrow hg hb; (try have hdG := dnew_ne HN.out hg); (try have HN := Lib.hid (HN.out.keep hb)); have HG := Lib.hid hrow; have HB0 := Lib.hid (below_next HB0.out hb); clear hrow hg hb))
            refine hK.out _ _ HB0.out (fun _ => ?_)
            clear hK K
            try simp only [Act.put, List.setIfInBounds_toArray, List.set_cons_zero, List.set_cons_succ]
            refine wpAnyH_ready (rs := [0]) (by kernel_rfl) (by simp) ?_
            refine AllReadyH.cons (o := { dst := some 29, op := Op.buildSlice 30 0 #[], type := 30, pos := "law.go:138", after := #[], guard := none }) rfl (fun K hK => ?_) ?_
            · rw [if_pos (by rfl)]
              ((refine wp_dnone' rfl HB0.out ?_; intro v0 w11 hn hown hb; (try have hdG := own_ne HG.out hown); (try have HG := Lib.hid (HG.out.keep hb)); have HN := Lib.hid hn; have HB0 := Lib.hid hn.2.1; clear hn hown hb))
              refine hK.out _ _ HB0.out (fun _ => ?_)
              clear hK K
              try simp only [Act.put, List.setIfInBounds_toArray, List.set_cons_zero, List.set_cons_succ]
              refine wpAnyH_ready (rs := [4]) (by kernel_rfl) (by simp) ?_
              refine AllReadyH.cons (o := { dst := some 33, op := Op.call { callee := Callee.builtin Builtin.append, args := #[Operand.tmp 29, Operand.tmp 32], argTypes := #[30, 30] }, type := 30, pos := "law.go:138", after := #[{ on := 0, ground := Ground.data }, { on := 3, ground := Ground.data }], guard := none }) rfl (fun K hK => ?_) ?_
              · rw [if_pos (by rfl)]
                ((refine wp_dapp' rfl _ _ rfl v0 [] rfl HN.out _ _ dn rfl (HPS.out _ HB0.out) HL1.out ?_; intro v1 w13 hn hk; (try have hx := hk _ _ _ HG.out hdG; have hdG := hx.2; have HG := Lib.hid hx.1; clear hx); have HN : Hid (DNew w5 w13 v1 dn) := hn; have HB0 := Lib.hid hn.2.1; clear hn hk))
                refine hK.out _ _ HB0.out (fun _ => ?_)
                clear hK K
                try simp only [Act.put, List.setIfInBounds_toArray, List.set_cons_zero, List.set_cons_succ]
                refine wpAnyH_ready (rs := [7]) (by kernel_rfl) (by simp) ?_
                refine AllReadyH.cons (o := { dst := some 36, op := Op.call { callee := Callee.builtin Builtin.append, args := #[Operand.tmp 33, Operand.tmp 35], argTypes := #[30, 30] }, type := 30, pos := "law.go:138", after := #[{ on := 4, ground := Ground.data }, { on := 6, ground := Ground.data }, { on := 4, ground := Ground.chain }], guard := none }) rfl (fun K hK => ?_) ?_
                · rw [if_pos (by rfl)]
                  ((refine wp_dapp' rfl _ _ rfl v1 dn rfl HN.out _ _ [d] rfl (drest_one' HG.out HDL.out) HL2.out ?_; intro v2 w14 hn hk; have HN := Lib.hid hn; have HB0 := Lib.hid hn.2.1; clear hn hk))
                  refine hK.out _ _ HB0.out (fun _ => ?_)
                  clear hK K
                  try simp only [Act.put, List.setIfInBounds_toArray, List.set_cons_zero, List.set_cons_succ]
                  refine wpAnyH_take (i := 8) (oi := { dst := some 9, op := Op.assign (Operand.tmp 36), type := 30, pos := "law.go:138", after := #[{ on := 7, ground := Ground.data }, { on := 7, ground := Ground.chain }, { on := 0, ground := Ground.phase }, { on := 1, ground := Ground.phase }, { on := 2, ground := Ground.phase }, { on := 3, ground := Ground.phase }, { on := 4, ground := Ground.phase }, { on := 5, ground := Ground.phase }, { on := 6, ground := Ground.phase }, { on := 7, ground := Ground.phase }], guard := none }) (v := ?_) rfl (by kernel_rfl) (by kernel_rfl) (by kernel_rfl) (fun _ _ _ h => h) (Or.inl ⟨by rfl, ?_⟩) HB0.out ?_
                  rotate_left
                  · (intro w _; go_simp; with_reducible rfl)
                  try simp only [Act.put, List.setIfInBounds_toArray, List.set_cons_zero, List.set_cons_succ]
                  refine wpAnyH_done (by kernel_rfl) ?_ _
                  ((exact K v0 v1 v2 g0 _ HN.out))
                exact AllReadyH.nil
              exact AllReadyH.nil
            exact AllReadyH.nil
          exact AllReadyH.nil
        case kk =>
          intro v0 v1 v2 g0 w6 hnew
          have HB6 := Lib.hid (below_next HBX.out hnew.2.1)
          have HR76 := Lib.hid (HR75.out.keep hnew.2.1)
          have HR86 := Lib.hid (HR85.out.keep hnew.2.1)
          have HV6 := Lib.hid (dbuf_rest hnew.1)
          have hll : (dn ++ [d]).length = n + 1 := by rw [List.length_append, HDN.out]; rfl
          have HP := Lib.hid (Path_ok (dn ++ [d]) n (by omega) (by omega) v2 w6 HV6.out (HTW.out.keep HB6.out))
          rw [HPT.out] at HP
          clear hnew
          go_wp2_with fail
          refine HP.out.mono ?_
          rintro e w7 ⟨u, rfl, hnew⟩
          have HB7 := Lib.hid (below_next HB6.out hnew.2.1)
          have HR77 := Lib.hid (HR76.out.keep hnew.2.1)
          have HR87 := Lib.hid (HR86.out.keep hnew.2.1)
          have HV7 := Lib.hid (HV6.out.keep hnew.2.1)
          have hu := dbuf_rest hnew.1
          obtain ⟨b5, off5, c5, rfl, hc5, hc5', hbl5, hcd5⟩ := hu.some (by simp)
          have HCU : Hid (∀ W' : World, Below w7.heap.size w7 W' → ∀ k, k < 32 → W'.cell? ⟨b5, off5 + k, none⟩ = some (.int .u8 ((tA.getD k 0).toNat : Int))) := fun W' h k hk => by
            have := hcd5 0 (by simp) k hk
            rw [Nat.zero_mul, Nat.add_zero] at this
            exact (h.cell (p := ⟨b5, off5 + k, none⟩) hbl5).trans this
          have HT7 := Lib.hid (HTW.out.keep HB7.out)
          obtain ⟨tC, htC⟩ : ∃ tC, tC = tree (dn ++ [d]) := ⟨_, rfl⟩
          have HLC : Hid (tC.length = 32) := by rw [htC]; exact tree_len _
          have HT3 : Hid (∀ W' : World, Below w7.heap.size w7 W' → Calls Tryd.prog 17 #[v2] W' (RetD W' tC)) := fun W' h => by
            rw [htC]
            exact tree_call _ (by omega) _ W' (HV7.out.keep h) (HT7.out.keep h)
          have HE : Hid (tagged (⟨#[110, 111, 100, 101]⟩ : ByteArray).data.toList (tA ++ tB) = tC) := by show _ = tC; rw [htC]; exact HTL.out.symm
          have HTG3 : Hid (∀ (W' : World) (tag : ByteArray) (l : List UInt8) (u : Value), tag.size ≤ 600 → l.length ≤ 600 → Rest W'.heap.size W' l u → Below w7.heap.size w7 W' → tagged tag.data.toList l = tC → Calls Tryd.prog 14 #[.string tag, u] W' (RetD W' tC)) := fun W' tag l u h1 h2 h3 h4 h5 => by
            rw [← h5]
            exact tagged_call tag l u W' (by omega) (by omega) h3 (HT7.out.keep h4)
          have HL600 : Hid ((tA ++ tB).length ≤ 600) := by show (tA ++ tB).length ≤ 600; rw [List.length_append, HLA.out, HLB.out]; omega
          have HRA : Hid (∀ W' : World, Below w7.heap.size w7 W' → Rest W'.heap.size W' tA (.slice (some ⟨g7, 0, none⟩) 32 32)) := fun W' h => row_rest32 (HR77.out.keep h) HLA.out
          have HRB : Hid (∀ W' : World, Below w7.heap.size w7 W' → Rest W'.heap.size W' tB (.slice (some ⟨g8, 0, none⟩) 32 32)) := fun W' h => row_rest32 (HR87.out.keep h) HLB.out
          have HCA : Hid (∀ W' : World, Below w7.heap.size w7 W' → ∀ k, k < 32 → W'.cell? ⟨g7, 0 + k, none⟩ = some (.int .u8 ((tA.getD k 0).toNat : Int))) := fun W' h => row_cells (HR77.out.keep h) HLA.out
          have HK1 := Lib.hid (show ([] : List UInt8).length + tA.length ≤ 70368744177664 by have := HLA.out; simp; omega)
          have HK2 := Lib.hid (show tA.length + tB.length ≤ 70368744177664 by have := HLA.out; have := HLB.out; omega)
          have h1c : 1 ≤ c5 := by simpa using hc5
          clear hnew hu hcd5 htC HP hll hc5
          go_wp2_with fail
          refine wp_region_any (by kernel_rfl) ?_
          try (change wpAny _ _ _ _ _ _ _ (World.drew _))
          (obtain ⟨w0, hw0⟩ : ∃ x, x = w7.drew := ⟨_, rfl⟩; rw [← hw0]; have HB0 : Hid (Below w7.heap.size w7 w0) := (by rw [hw0]; exact (Below.refl _ w7).drew); clear hw0)
          refine wpAny_take (i := 0) (oi := { dst := some 43, op := Op.move (Operand.tmp 9), type := 30, pos := "law.go:140", after := #[], guard := none }) (v := ?_) rfl (by kernel_rfl) (by kernel_rfl) (by kernel_rfl) (fun _ _ _ h => h) (Or.inl ⟨by rfl, ?_⟩) ?_
          rotate_left
          · (intro w; go_simp; with_reducible rfl)
          try simp only [Act.put, List.setIfInBounds_toArray, List.set_cons_zero, List.set_cons_succ]
          refine wpAny_take (i := 3) (oi := { dst := some 46, op := Op.slice 26 (Operand.tmp 7) none none none, type := 22, pos := "law.go:140", after := #[], guard := none }) (v := ?_) rfl (by kernel_rfl) (by kernel_rfl) (by kernel_rfl) (fun _ _ _ h => h) (Or.inl ⟨by rfl, ?_⟩) ?_
          rotate_left
          · (intro w; go_simp; with_reducible rfl)
          try simp only [Act.put, List.setIfInBounds_toArray, List.set_cons_zero, List.set_cons_succ]
          refine wpAny_take (i := 5) (oi := { dst := some 48, op := Op.slice 26 (Operand.tmp 8) none none none, type := 22, pos := "law.go:140", after := #[], guard := none }) (v := ?_) rfl (by kernel_rfl) (by kernel_rfl) (by kernel_rfl) (fun _ _ _ h => h) (Or.inl ⟨by rfl, ?_⟩) ?_
          rotate_left
          · (intro w; go_simp; with_reducible rfl)
          try simp only [Act.put, List.setIfInBounds_toArray, List.set_cons_zero, List.set_cons_succ]
          refine wpAny_ready (rs := [1, 2]) (by kernel_rfl) (by simp) ?_
          refine Go.BigFrame.allReady_want (o := { dst := some 44, op := Op.call { callee := Callee.value (Operand.func 17), args := #[Operand.tmp 43], argTypes := #[30] }, type := 26, pos := "law.go:140", after := #[{ on := 0, ground := Ground.data }], guard := none }) rfl (by rfl) (fun K hK => ?_) ?_
          · skip
            go_simp
            go_wp2_with ((go_at_call 17; (with_reducible refine (HT3.out _ HB0.out).mono ?_); rintro e w11 ⟨rfl, hb⟩; (try have HN := Lib.hid (HN.out.keep hb)); have HB0 := Lib.hid (below_next HB0.out hb); clear hb))
            refine wpAny_ready (rs := [2]) (by kernel_rfl) (by simp) ?_
            refine Go.BigFrame.allReady_want (o := { dst := some 45, op := Op.buildSlice 22 0 #[], type := 22, pos := "law.go:140", after := #[], guard := none }) rfl (by rfl) (fun K hK => ?_) ?_
            · skip
              ((refine wp_none' rfl HB0.out ?_; intro x0 w8 hn; have HN := Lib.hid hn; have HB0 := Lib.hid hn.2.1; clear hn))
              refine hK _ _ ?_
              clear hK K
              try simp only [Act.put, List.setIfInBounds_toArray, List.set_cons_zero, List.set_cons_succ]
              refine wpAny_ready (rs := [4]) (by kernel_rfl) (by simp) ?_
              refine Go.BigFrame.allReady_want (o := { dst := some 47, op := Op.call { callee := Callee.builtin Builtin.append, args := #[Operand.tmp 45, Operand.tmp 46], argTypes := #[22, 22] }, type := 22, pos := "law.go:140", after := #[{ on := 2, ground := Ground.data }, { on := 3, ground := Ground.data }, { on := 1, ground := Ground.chain }], guard := none }) rfl (by rfl) (fun K hK => ?_) ?_
              · skip
                ((refine wp_buf' rfl _ _ rfl _ [] rfl HN.out _ _ tA rfl (HRA.out _ HB0.out) HK1.out ?_; intro x1 w9 hn; have HN : Hid (New w7 w9 x1 tA) := hn; have HB0 := Lib.hid hn.2.1; clear hn))
                refine hK _ _ ?_
                clear hK K
                try simp only [Act.put, List.setIfInBounds_toArray, List.set_cons_zero, List.set_cons_succ]
                refine wpAny_ready (rs := [6]) (by kernel_rfl) (by simp) ?_
                refine Go.BigFrame.allReady_want (o := { dst := some 49, op := Op.call { callee := Callee.builtin Builtin.append, args := #[Operand.tmp 47, Operand.tmp 48], argTypes := #[22, 22] }, type := 22, pos := "law.go:140", after := #[{ on := 4, ground := Ground.data }, { on := 5, ground := Ground.data }, { on := 4, ground := Ground.chain }], guard := none }) rfl (by rfl) (fun K hK => ?_) ?_
                · skip
                  ((refine wp_buf' rfl _ _ rfl _ tA rfl HN.out _ _ tB rfl (HRB.out _ HB0.out) HK2.out ?_; intro x2 w10 hn; have HN := Lib.hid hn; have HB0 := Lib.hid hn.2.1; have HR2 := Lib.hid (buf_rest' hn.1); clear hn))
                  refine hK _ _ ?_
                  clear hK K
                  try simp only [Act.put, List.setIfInBounds_toArray, List.set_cons_zero, List.set_cons_succ]
                  refine wpAny_ready (rs := [7]) (by kernel_rfl) (by simp) ?_
                  refine Go.BigFrame.allReady_want (o := { dst := some 50, op := Op.call { callee := Callee.value (Operand.func 14), args := #[Operand.const (Value.string { data := #[110, 111, 100, 101] }), Operand.tmp 49], argTypes := #[9, 22] }, type := 26, pos := "law.go:140", after := #[{ on := 6, ground := Ground.data }, { on := 6, ground := Ground.chain }], guard := none }) rfl (by rfl) (fun K hK => ?_) ?_
                  · skip
                    go_simp
                    go_wp2_with ((go_at_call 14; (with_reducible refine (HTG3.out _ _ _ _ (by decide) HL600.out HR2.out HB0.out HE.out).mono ?_); rintro e w12 ⟨rfl, hb⟩; have HB0 := Lib.hid (below_next HB0.out hb); clear hb))
                    refine wpAny_ready (rs := [8]) (by kernel_rfl) (by simp) ?_
                    refine Go.BigFrame.allReady_want (o := { dst := some 51, op := Op.binOp BinOp.neq 26 (Operand.tmp 44) (Operand.tmp 50) 26, type := 4, pos := "law.go:140", after := #[{ on := 1, ground := Ground.data }, { on := 7, ground := Ground.data }], guard := none }) rfl (by rfl) (fun K hK => ?_) ?_
                    · skip
                      ((refine wp_neq_dig _ _ rfl tC tC HLC.out HLC.out rfl rfl ?_; rw [beq_self_eq_true, Bool.not_true]))
                      refine hK _ _ ?_
                      clear hK K
                      try simp only [Act.put, List.setIfInBounds_toArray, List.set_cons_zero, List.set_cons_succ]
                      refine wpAny_take (i := 9) (oi := { dst := some 52, op := Op.move (Operand.tmp 51), type := 4, pos := "law.go:140", after := #[{ on := 8, ground := Ground.data }, { on := 7, ground := Ground.chain }], guard := none }) (v := ?_) rfl (by kernel_rfl) (by kernel_rfl) (by kernel_rfl) (fun _ _ _ h => h) (Or.inl ⟨by rfl, ?_⟩) ?_
                      rotate_left
                      · (intro w; go_simp; with_reducible rfl)
                      try simp only [Act.put, List.setIfInBounds_toArray, List.set_cons_zero, List.set_cons_succ]
                      refine wpAny_take (i := 10) (oi := { dst := some 53, op := Op.move (Operand.tmp 11), type := 34, pos := "law.go:140", after := #[{ on := 9, ground := Ground.guard }], guard := some (9, false) }) (v := ?_) rfl (by kernel_rfl) (by kernel_rfl) (by kernel_rfl) (fun _ _ _ h => h) (Or.inl ⟨by rfl, ?_⟩) ?_
                      rotate_left
                      · (intro w; go_simp; with_reducible rfl)
                      try simp only [Act.put, List.setIfInBounds_toArray, List.set_cons_zero, List.set_cons_succ]
                      refine wpAny_take (i := 11) (oi := { dst := some 54, op := Op.binOp BinOp.neq 34 (Operand.tmp 53) (Operand.const (Value.int IntKind.i64 0)) 34, type := 4, pos := "law.go:140", after := #[{ on := 10, ground := Ground.data }, { on := 9, ground := Ground.guard }], guard := some (9, false) }) (v := ?_) rfl (by kernel_rfl) (by kernel_rfl) (by kernel_rfl) (fun _ _ _ h => h) (Or.inl ⟨by rfl, ?_⟩) ?_
                      rotate_left
                      · (intro w; go_simp; with_reducible rfl)
                      try simp only [Act.put, List.setIfInBounds_toArray, List.set_cons_zero, List.set_cons_succ]
                      refine wpAny_take (i := 12) (oi := { dst := some 55, op := Op.pick (Operand.tmp 52) (Operand.const (Value.bool true)) (Operand.tmp 54), type := 4, pos := "law.go:140", after := #[{ on := 9, ground := Ground.data }, { on := 11, ground := Ground.data }], guard := none }) (v := ?_) rfl (by kernel_rfl) (by kernel_rfl) (by kernel_rfl) (fun _ _ _ h => h) (Or.inl ⟨by rfl, ?_⟩) ?_
                      rotate_left
                      · (intro w; go_simp; with_reducible rfl)
                      try simp only [Act.put, List.setIfInBounds_toArray, List.set_cons_zero, List.set_cons_succ]
                      refine wpAny_take (i := 13) (oi := { dst := some 56, op := Op.move (Operand.tmp 55), type := 4, pos := "law.go:140", after := #[{ on := 12, ground := Ground.data }, { on := 9, ground := Ground.chain }], guard := none }) (v := ?_) rfl (by kernel_rfl) (by kernel_rfl) (by kernel_rfl) (fun _ _ _ h => h) (Or.inl ⟨by rfl, ?_⟩) ?_
                      rotate_left
                      · (intro w; go_simp; with_reducible rfl)
                      try simp only [Act.put, List.setIfInBounds_toArray, List.set_cons_zero, List.set_cons_succ]
                      refine wpAny_take (i := 14) (oi := { dst := some 57, op := Op.move (Operand.tmp 10), type := 30, pos := "law.go:140", after := #[{ on := 13, ground := Ground.guard }], guard := some (13, false) }) (v := ?_) rfl (by kernel_rfl) (by kernel_rfl) (by kernel_rfl) (fun _ _ _ h => h) (Or.inl ⟨by rfl, ?_⟩) ?_
                      rotate_left
                      · (intro w; go_simp; with_reducible rfl)
                      try simp only [Act.put, List.setIfInBounds_toArray, List.set_cons_zero, List.set_cons_succ]
                      refine wpAny_take (i := 15) (oi := { dst := some 58, op := Op.call { callee := Callee.builtin Builtin.len, args := #[Operand.tmp 57], argTypes := #[30] }, type := 3, pos := "law.go:140", after := #[{ on := 14, ground := Ground.data }, { on := 13, ground := Ground.guard }], guard := some (13, false) }) (v := ?_) rfl (by kernel_rfl) (by kernel_rfl) (by kernel_rfl) (fun _ _ _ h => h) (Or.inl ⟨by rfl, ?_⟩) ?_
                      rotate_left
                      · (intro w; go_simp; with_reducible rfl)
                      try simp only [Act.put, List.setIfInBounds_toArray, List.set_cons_zero, List.set_cons_succ]
                      refine wpAny_take (i := 16) (oi := { dst := some 59, op := Op.binOp BinOp.neq 3 (Operand.tmp 58) (Operand.const (Value.int IntKind.i64 1)) 3, type := 4, pos := "law.go:140", after := #[{ on := 15, ground := Ground.data }, { on := 13, ground := Ground.guard }], guard := some (13, false) }) (v := ?_) rfl (by kernel_rfl) (by kernel_rfl) (by kernel_rfl) (fun _ _ _ h => h) (Or.inl ⟨by rfl, ?_⟩) ?_
                      rotate_left
                      · (intro w; go_simp; with_reducible rfl)
                      try simp only [Act.put, List.setIfInBounds_toArray, List.set_cons_zero, List.set_cons_succ]
                      refine wpAny_take (i := 17) (oi := { dst := some 60, op := Op.pick (Operand.tmp 56) (Operand.const (Value.bool true)) (Operand.tmp 59), type := 4, pos := "law.go:140", after := #[{ on := 13, ground := Ground.data }, { on := 16, ground := Ground.data }], guard := none }) (v := ?_) rfl (by kernel_rfl) (by kernel_rfl) (by kernel_rfl) (fun _ _ _ h => h) (Or.inl ⟨by rfl, ?_⟩) ?_
                      rotate_left
                      · (intro w; go_simp; with_reducible rfl)
                      try simp only [Act.put, List.setIfInBounds_toArray, List.set_cons_zero, List.set_cons_succ]
                      refine wpAny_take (i := 18) (oi := { dst := some 61, op := Op.move (Operand.tmp 60), type := 4, pos := "law.go:140", after := #[{ on := 17, ground := Ground.data }, { on := 13, ground := Ground.chain }], guard := none }) (v := ?_) rfl (by kernel_rfl) (by kernel_rfl) (by kernel_rfl) (fun _ _ _ h => h) (Or.inl ⟨by rfl, ?_⟩) ?_
                      rotate_left
                      · (intro w; go_simp; with_reducible rfl)
                      try simp only [Act.put, List.setIfInBounds_toArray, List.set_cons_zero, List.set_cons_succ]
                      refine wpAny_take (i := 19) (oi := { dst := some 62, op := Op.move (Operand.tmp 10), type := 30, pos := "law.go:140", after := #[{ on := 18, ground := Ground.guard }], guard := some (18, false) }) (v := ?_) rfl (by kernel_rfl) (by kernel_rfl) (by kernel_rfl) (fun _ _ _ h => h) (Or.inl ⟨by rfl, ?_⟩) ?_
                      rotate_left
                      · (intro w; go_simp; with_reducible rfl)
                      try simp only [Act.put, List.setIfInBounds_toArray, List.set_cons_zero, List.set_cons_succ]
                      refine wpAny_take (i := 20) (oi := { dst := some 63, op := Op.indexAddr 30 (Operand.tmp 62) (Operand.const (Value.int IntKind.i64 0)), type := 0, pos := "law.go:140", after := #[{ on := 19, ground := Ground.data }, { on := 18, ground := Ground.guard }], guard := some (18, false) }) (v := ?_) rfl (by kernel_rfl) (by kernel_rfl) (by kernel_rfl) (fun _ _ _ h => h) (Or.inl ⟨by rfl, ?_⟩) ?_
                      rotate_left
                      · (intro w; go_simp; with_reducible rfl)
                      try simp only [Act.put, List.setIfInBounds_toArray, List.set_cons_zero, List.set_cons_succ]
                      refine wpAny_ready (rs := [21, 22]) (by kernel_rfl) (by simp) ?_
                      refine Go.BigFrame.allReady_want (o := { dst := some 64, op := Op.load 26 (Operand.tmp 63), type := 26, pos := "law.go:140", after := #[{ on := 20, ground := Ground.data }, { on := 18, ground := Ground.guard }], guard := some (18, false) }) rfl (by rfl) (fun K hK => ?_) ?_
                      · skip
                        ((refine wp_load_dig _ rfl b5 off5 rfl tA HLA.out (HCU.out _ HB0.out) ?_))
                        refine hK _ _ ?_
                        clear hK K
                        try simp only [Act.put, List.setIfInBounds_toArray, List.set_cons_zero, List.set_cons_succ]
                        refine wpAny_ready (rs := [22]) (by kernel_rfl) (by simp) ?_
                        refine Go.BigFrame.allReady_want (o := { dst := some 65, op := Op.load 26 (Operand.tmp 7), type := 26, pos := "law.go:140", after := #[{ on := 18, ground := Ground.guard }], guard := some (18, false) }) rfl (by rfl) (fun K hK => ?_) ?_
                        · skip
                          ((refine wp_load_dig _ rfl g7 0 rfl tA HLA.out (HCA.out _ HB0.out) ?_))
                          refine hK _ _ ?_
                          clear hK K
                          try simp only [Act.put, List.setIfInBounds_toArray, List.set_cons_zero, List.set_cons_succ]
                          refine wpAny_ready (rs := [23]) (by kernel_rfl) (by simp) ?_
                          refine Go.BigFrame.allReady_want (o := { dst := some 66, op := Op.binOp BinOp.neq 26 (Operand.tmp 64) (Operand.tmp 65) 26, type := 4, pos := "law.go:140", after := #[{ on := 21, ground := Ground.data }, { on := 22, ground := Ground.data }, { on := 18, ground := Ground.guard }], guard := some (18, false) }) rfl (by rfl) (fun K hK => ?_) ?_
                          · skip
                            ((refine wp_neq_dig _ _ rfl tA tA HLA.out HLA.out rfl rfl ?_; rw [beq_self_eq_true, Bool.not_true]))
                            refine hK _ _ ?_
                            clear hK K
                            try simp only [Act.put, List.setIfInBounds_toArray, List.set_cons_zero, List.set_cons_succ]
                            refine wpAny_take (i := 24) (oi := { dst := some 67, op := Op.pick (Operand.tmp 61) (Operand.const (Value.bool true)) (Operand.tmp 66), type := 4, pos := "law.go:140", after := #[{ on := 18, ground := Ground.data }, { on := 23, ground := Ground.data }], guard := none }) (v := ?_) rfl (by kernel_rfl) (by kernel_rfl) (by kernel_rfl) (fun _ _ _ h => h) (Or.inl ⟨by rfl, ?_⟩) ?_
                            rotate_left
                            · (intro w; go_simp; with_reducible rfl)
                            try simp only [Act.put, List.setIfInBounds_toArray, List.set_cons_zero, List.set_cons_succ]
                            refine wpAny_done (by kernel_rfl) ?_ _
                            ((go_wp2_with fail; exact ⟨⟨n * 2, j + 1, (by rw [HN2.out, Nat.pow_succ]), (by omega), (by omega), (by go_num), below_next HB7.out HB0.out⟩, (by simp [intOf]; omega)⟩))
                          exact AllReady.nil
                        exact AllReady.nil
                      refine Go.BigFrame.allReady_want (o := { dst := some 65, op := Op.load 26 (Operand.tmp 7), type := 26, pos := "law.go:140", after := #[{ on := 18, ground := Ground.guard }], guard := some (18, false) }) rfl (by rfl) (fun K hK => ?_) ?_
                      · skip
                        ((refine wp_load_dig _ rfl g7 0 rfl tA HLA.out (HCA.out _ HB0.out) ?_))
                        refine hK _ _ ?_
                        clear hK K
                        try simp only [Act.put, List.setIfInBounds_toArray, List.set_cons_zero, List.set_cons_succ]
                        refine wpAny_ready (rs := [21]) (by kernel_rfl) (by simp) ?_
                        refine Go.BigFrame.allReady_want (o := { dst := some 64, op := Op.load 26 (Operand.tmp 63), type := 26, pos := "law.go:140", after := #[{ on := 20, ground := Ground.data }, { on := 18, ground := Ground.guard }], guard := some (18, false) }) rfl (by rfl) (fun K hK => ?_) ?_
                        · skip
                          ((refine wp_load_dig _ rfl b5 off5 rfl tA HLA.out (HCU.out _ HB0.out) ?_))
                          refine hK _ _ ?_
                          clear hK K
                          try simp only [Act.put, List.setIfInBounds_toArray, List.set_cons_zero, List.set_cons_succ]
                          refine wpAny_ready (rs := [23]) (by kernel_rfl) (by simp) ?_
                          refine Go.BigFrame.allReady_want (o := { dst := some 66, op := Op.binOp BinOp.neq 26 (Operand.tmp 64) (Operand.tmp 65) 26, type := 4, pos := "law.go:140", after := #[{ on := 21, ground := Ground.data }, { on := 22, ground := Ground.data }, { on := 18, ground := Ground.guard }], guard := some (18, false) }) rfl (by rfl) (fun K hK => ?_) ?_
                          · skip
                            ((refine wp_neq_dig _ _ rfl tA tA HLA.out HLA.out rfl rfl ?_; rw [beq_self_eq_true, Bool.not_true]))
                            refine hK _ _ ?_
                            clear hK K
                            try simp only [Act.put, List.setIfInBounds_toArray, List.set_cons_zero, List.set_cons_succ]
                            refine wpAny_take (i := 24) (oi := { dst := some 67, op := Op.pick (Operand.tmp 61) (Operand.const (Value.bool true)) (Operand.tmp 66), type := 4, pos := "law.go:140", after := #[{ on := 18, ground := Ground.data }, { on := 23, ground := Ground.data }], guard := none }) (v := ?_) rfl (by kernel_rfl) (by kernel_rfl) (by kernel_rfl) (fun _ _ _ h => h) (Or.inl ⟨by rfl, ?_⟩) ?_
                            rotate_left
                            · (intro w; go_simp; with_reducible rfl)
                            try simp only [Act.put, List.setIfInBounds_toArray, List.set_cons_zero, List.set_cons_succ]
                            refine wpAny_done (by kernel_rfl) ?_ _
                            ((go_wp2_with fail; exact ⟨⟨n * 2, j + 1, (by rw [HN2.out, Nat.pow_succ]), (by omega), (by omega), (by go_num), below_next HB7.out HB0.out⟩, (by simp [intOf]; omega)⟩))
                          exact AllReady.nil
                        exact AllReady.nil
                      exact AllReady.nil
                    exact AllReady.nil
                  exact AllReady.nil
                exact AllReady.nil
              exact AllReady.nil
            exact AllReady.nil
          refine Go.BigFrame.allReady_want (o := { dst := some 45, op := Op.buildSlice 22 0 #[], type := 22, pos := "law.go:140", after := #[], guard := none }) rfl (by rfl) (fun K hK => ?_) ?_
          · skip
            ((refine wp_none' rfl HB0.out ?_; intro x0 w8 hn; have HN := Lib.hid hn; have HB0 := Lib.hid hn.2.1; clear hn))
            refine hK _ _ ?_
            clear hK K
            try simp only [Act.put, List.setIfInBounds_toArray, List.set_cons_zero, List.set_cons_succ]
            refine wpAny_ready (rs := [1]) (by kernel_rfl) (by simp) ?_
            refine Go.BigFrame.allReady_want (o := { dst := some 44, op := Op.call { callee := Callee.value (Operand.func 17), args := #[Operand.tmp 43], argTypes := #[30] }, type := 26, pos := "law.go:140", after := #[{ on := 0, ground := Ground.data }], guard := none }) rfl (by rfl) (fun K hK => ?_) ?_
            · skip
              go_simp
              go_wp2_with ((go_at_call 17; (with_reducible refine (HT3.out _ HB0.out).mono ?_); rintro e w11 ⟨rfl, hb⟩; (try have HN := Lib.hid (HN.out.keep hb)); have HB0 := Lib.hid (below_next HB0.out hb); clear hb))
              refine wpAny_ready (rs := [4]) (by kernel_rfl) (by simp) ?_
              refine Go.BigFrame.allReady_want (o := { dst := some 47, op := Op.call { callee := Callee.builtin Builtin.append, args := #[Operand.tmp 45, Operand.tmp 46], argTypes := #[22, 22] }, type := 22, pos := "law.go:140", after := #[{ on := 2, ground := Ground.data }, { on := 3, ground := Ground.data }, { on := 1, ground := Ground.chain }], guard := none }) rfl (by rfl) (fun K hK => ?_) ?_
              · skip
                ((refine wp_buf' rfl _ _ rfl _ [] rfl HN.out _ _ tA rfl (HRA.out _ HB0.out) HK1.out ?_; intro x1 w9 hn; have HN : Hid (New w7 w9 x1 tA) := hn; have HB0 := Lib.hid hn.2.1; clear hn))
                refine hK _ _ ?_
                clear hK K
                try simp only [Act.put, List.setIfInBounds_toArray, List.set_cons_zero, List.set_cons_succ]
                refine wpAny_ready (rs := [6]) (by kernel_rfl) (by simp) ?_
                refine Go.BigFrame.allReady_want (o := { dst := some 49, op := Op.call { callee := Callee.builtin Builtin.append, args := #[Operand.tmp 47, Operand.tmp 48], argTypes := #[22, 22] }, type := 22, pos := "law.go:140", after := #[{ on := 4, ground := Ground.data }, { on := 5, ground := Ground.data }, { on := 4, ground := Ground.chain }], guard := none }) rfl (by rfl) (fun K hK => ?_) ?_
                · skip
                  ((refine wp_buf' rfl _ _ rfl _ tA rfl HN.out _ _ tB rfl (HRB.out _ HB0.out) HK2.out ?_; intro x2 w10 hn; have HN := Lib.hid hn; have HB0 := Lib.hid hn.2.1; have HR2 := Lib.hid (buf_rest' hn.1); clear hn))
                  refine hK _ _ ?_
                  clear hK K
                  try simp only [Act.put, List.setIfInBounds_toArray, List.set_cons_zero, List.set_cons_succ]
                  refine wpAny_ready (rs := [7]) (by kernel_rfl) (by simp) ?_
                  refine Go.BigFrame.allReady_want (o := { dst := some 50, op := Op.call { callee := Callee.value (Operand.func 14), args := #[Operand.const (Value.string { data := #[110, 111, 100, 101] }), Operand.tmp 49], argTypes := #[9, 22] }, type := 26, pos := "law.go:140", after := #[{ on := 6, ground := Ground.data }, { on := 6, ground := Ground.chain }], guard := none }) rfl (by rfl) (fun K hK => ?_) ?_
                  · skip
                    go_simp
                    go_wp2_with ((go_at_call 14; (with_reducible refine (HTG3.out _ _ _ _ (by decide) HL600.out HR2.out HB0.out HE.out).mono ?_); rintro e w12 ⟨rfl, hb⟩; have HB0 := Lib.hid (below_next HB0.out hb); clear hb))
                    refine wpAny_ready (rs := [8]) (by kernel_rfl) (by simp) ?_
                    refine Go.BigFrame.allReady_want (o := { dst := some 51, op := Op.binOp BinOp.neq 26 (Operand.tmp 44) (Operand.tmp 50) 26, type := 4, pos := "law.go:140", after := #[{ on := 1, ground := Ground.data }, { on := 7, ground := Ground.data }], guard := none }) rfl (by rfl) (fun K hK => ?_) ?_
                    · skip
                      ((refine wp_neq_dig _ _ rfl tC tC HLC.out HLC.out rfl rfl ?_; rw [beq_self_eq_true, Bool.not_true]))
                      refine hK _ _ ?_
                      clear hK K
                      try simp only [Act.put, List.setIfInBounds_toArray, List.set_cons_zero, List.set_cons_succ]
                      refine wpAny_take (i := 9) (oi := { dst := some 52, op := Op.move (Operand.tmp 51), type := 4, pos := "law.go:140", after := #[{ on := 8, ground := Ground.data }, { on := 7, ground := Ground.chain }], guard := none }) (v := ?_) rfl (by kernel_rfl) (by kernel_rfl) (by kernel_rfl) (fun _ _ _ h => h) (Or.inl ⟨by rfl, ?_⟩) ?_
                      rotate_left
                      · (intro w; go_simp; with_reducible rfl)
                      try simp only [Act.put, List.setIfInBounds_toArray, List.set_cons_zero, List.set_cons_succ]
                      refine wpAny_take (i := 10) (oi := { dst := some 53, op := Op.move (Operand.tmp 11), type := 34, pos := "law.go:140", after := #[{ on := 9, ground := Ground.guard }], guard := some (9, false) }) (v := ?_) rfl (by kernel_rfl) (by kernel_rfl) (by kernel_rfl) (fun _ _ _ h => h) (Or.inl ⟨by rfl, ?_⟩) ?_
                      rotate_left
                      · (intro w; go_simp; with_reducible rfl)
                      try simp only [Act.put, List.setIfInBounds_toArray, List.set_cons_zero, List.set_cons_succ]
                      refine wpAny_take (i := 11) (oi := { dst := some 54, op := Op.binOp BinOp.neq 34 (Operand.tmp 53) (Operand.const (Value.int IntKind.i64 0)) 34, type := 4, pos := "law.go:140", after := #[{ on := 10, ground := Ground.data }, { on := 9, ground := Ground.guard }], guard := some (9, false) }) (v := ?_) rfl (by kernel_rfl) (by kernel_rfl) (by kernel_rfl) (fun _ _ _ h => h) (Or.inl ⟨by rfl, ?_⟩) ?_
                      rotate_left
                      · (intro w; go_simp; with_reducible rfl)
                      try simp only [Act.put, List.setIfInBounds_toArray, List.set_cons_zero, List.set_cons_succ]
                      refine wpAny_take (i := 12) (oi := { dst := some 55, op := Op.pick (Operand.tmp 52) (Operand.const (Value.bool true)) (Operand.tmp 54), type := 4, pos := "law.go:140", after := #[{ on := 9, ground := Ground.data }, { on := 11, ground := Ground.data }], guard := none }) (v := ?_) rfl (by kernel_rfl) (by kernel_rfl) (by kernel_rfl) (fun _ _ _ h => h) (Or.inl ⟨by rfl, ?_⟩) ?_
                      rotate_left
                      · (intro w; go_simp; with_reducible rfl)
                      try simp only [Act.put, List.setIfInBounds_toArray, List.set_cons_zero, List.set_cons_succ]
                      refine wpAny_take (i := 13) (oi := { dst := some 56, op := Op.move (Operand.tmp 55), type := 4, pos := "law.go:140", after := #[{ on := 12, ground := Ground.data }, { on := 9, ground := Ground.chain }], guard := none }) (v := ?_) rfl (by kernel_rfl) (by kernel_rfl) (by kernel_rfl) (fun _ _ _ h => h) (Or.inl ⟨by rfl, ?_⟩) ?_
                      rotate_left
                      · (intro w; go_simp; with_reducible rfl)
                      try simp only [Act.put, List.setIfInBounds_toArray, List.set_cons_zero, List.set_cons_succ]
                      refine wpAny_take (i := 14) (oi := { dst := some 57, op := Op.move (Operand.tmp 10), type := 30, pos := "law.go:140", after := #[{ on := 13, ground := Ground.guard }], guard := some (13, false) }) (v := ?_) rfl (by kernel_rfl) (by kernel_rfl) (by kernel_rfl) (fun _ _ _ h => h) (Or.inl ⟨by rfl, ?_⟩) ?_
                      rotate_left
                      · (intro w; go_simp; with_reducible rfl)
                      try simp only [Act.put, List.setIfInBounds_toArray, List.set_cons_zero, List.set_cons_succ]
                      refine wpAny_take (i := 15) (oi := { dst := some 58, op := Op.call { callee := Callee.builtin Builtin.len, args := #[Operand.tmp 57], argTypes := #[30] }, type := 3, pos := "law.go:140", after := #[{ on := 14, ground := Ground.data }, { on := 13, ground := Ground.guard }], guard := some (13, false) }) (v := ?_) rfl (by kernel_rfl) (by kernel_rfl) (by kernel_rfl) (fun _ _ _ h => h) (Or.inl ⟨by rfl, ?_⟩) ?_
                      rotate_left
                      · (intro w; go_simp; with_reducible rfl)
                      try simp only [Act.put, List.setIfInBounds_toArray, List.set_cons_zero, List.set_cons_succ]
                      refine wpAny_take (i := 16) (oi := { dst := some 59, op := Op.binOp BinOp.neq 3 (Operand.tmp 58) (Operand.const (Value.int IntKind.i64 1)) 3, type := 4, pos := "law.go:140", after := #[{ on := 15, ground := Ground.data }, { on := 13, ground := Ground.guard }], guard := some (13, false) }) (v := ?_) rfl (by kernel_rfl) (by kernel_rfl) (by kernel_rfl) (fun _ _ _ h => h) (Or.inl ⟨by rfl, ?_⟩) ?_
                      rotate_left
                      · (intro w; go_simp; with_reducible rfl)
                      try simp only [Act.put, List.setIfInBounds_toArray, List.set_cons_zero, List.set_cons_succ]
                      refine wpAny_take (i := 17) (oi := { dst := some 60, op := Op.pick (Operand.tmp 56) (Operand.const (Value.bool true)) (Operand.tmp 59), type := 4, pos := "law.go:140", after := #[{ on := 13, ground := Ground.data }, { on := 16, ground := Ground.data }], guard := none }) (v := ?_) rfl (by kernel_rfl) (by kernel_rfl) (by kernel_rfl) (fun _ _ _ h => h) (Or.inl ⟨by rfl, ?_⟩) ?_
                      rotate_left
                      · (intro w; go_simp; with_reducible rfl)
                      try simp only [Act.put, List.setIfInBounds_toArray, List.set_cons_zero, List.set_cons_succ]
                      refine wpAny_take (i := 18) (oi := { dst := some 61, op := Op.move (Operand.tmp 60), type := 4, pos := "law.go:140", after := #[{ on := 17, ground := Ground.data }, { on := 13, ground := Ground.chain }], guard := none }) (v := ?_) rfl (by kernel_rfl) (by kernel_rfl) (by kernel_rfl) (fun _ _ _ h => h) (Or.inl ⟨by rfl, ?_⟩) ?_
                      rotate_left
                      · (intro w; go_simp; with_reducible rfl)
                      try simp only [Act.put, List.setIfInBounds_toArray, List.set_cons_zero, List.set_cons_succ]
                      refine wpAny_take (i := 19) (oi := { dst := some 62, op := Op.move (Operand.tmp 10), type := 30, pos := "law.go:140", after := #[{ on := 18, ground := Ground.guard }], guard := some (18, false) }) (v := ?_) rfl (by kernel_rfl) (by kernel_rfl) (by kernel_rfl) (fun _ _ _ h => h) (Or.inl ⟨by rfl, ?_⟩) ?_
                      rotate_left
                      · (intro w; go_simp; with_reducible rfl)
                      try simp only [Act.put, List.setIfInBounds_toArray, List.set_cons_zero, List.set_cons_succ]
                      refine wpAny_take (i := 20) (oi := { dst := some 63, op := Op.indexAddr 30 (Operand.tmp 62) (Operand.const (Value.int IntKind.i64 0)), type := 0, pos := "law.go:140", after := #[{ on := 19, ground := Ground.data }, { on := 18, ground := Ground.guard }], guard := some (18, false) }) (v := ?_) rfl (by kernel_rfl) (by kernel_rfl) (by kernel_rfl) (fun _ _ _ h => h) (Or.inl ⟨by rfl, ?_⟩) ?_
                      rotate_left
                      · (intro w; go_simp; with_reducible rfl)
                      try simp only [Act.put, List.setIfInBounds_toArray, List.set_cons_zero, List.set_cons_succ]
                      refine wpAny_ready (rs := [21, 22]) (by kernel_rfl) (by simp) ?_
                      refine Go.BigFrame.allReady_want (o := { dst := some 64, op := Op.load 26 (Operand.tmp 63), type := 26, pos := "law.go:140", after := #[{ on := 20, ground := Ground.data }, { on := 18, ground := Ground.guard }], guard := some (18, false) }) rfl (by rfl) (fun K hK => ?_) ?_
                      · skip
                        ((refine wp_load_dig _ rfl b5 off5 rfl tA HLA.out (HCU.out _ HB0.out) ?_))
                        refine hK _ _ ?_
                        clear hK K
                        try simp only [Act.put, List.setIfInBounds_toArray, List.set_cons_zero, List.set_cons_succ]
                        refine wpAny_ready (rs := [22]) (by kernel_rfl) (by simp) ?_
                        refine Go.BigFrame.allReady_want (o := { dst := some 65, op := Op.load 26 (Operand.tmp 7), type := 26, pos := "law.go:140", after := #[{ on := 18, ground := Ground.guard }], guard := some (18, false) }) rfl (by rfl) (fun K hK => ?_) ?_
                        · skip
                          ((refine wp_load_dig _ rfl g7 0 rfl tA HLA.out (HCA.out _ HB0.out) ?_))
                          refine hK _ _ ?_
                          clear hK K
                          try simp only [Act.put, List.setIfInBounds_toArray, List.set_cons_zero, List.set_cons_succ]
                          refine wpAny_ready (rs := [23]) (by kernel_rfl) (by simp) ?_
                          refine Go.BigFrame.allReady_want (o := { dst := some 66, op := Op.binOp BinOp.neq 26 (Operand.tmp 64) (Operand.tmp 65) 26, type := 4, pos := "law.go:140", after := #[{ on := 21, ground := Ground.data }, { on := 22, ground := Ground.data }, { on := 18, ground := Ground.guard }], guard := some (18, false) }) rfl (by rfl) (fun K hK => ?_) ?_
                          · skip
                            ((refine wp_neq_dig _ _ rfl tA tA HLA.out HLA.out rfl rfl ?_; rw [beq_self_eq_true, Bool.not_true]))
                            refine hK _ _ ?_
                            clear hK K
                            try simp only [Act.put, List.setIfInBounds_toArray, List.set_cons_zero, List.set_cons_succ]
                            refine wpAny_take (i := 24) (oi := { dst := some 67, op := Op.pick (Operand.tmp 61) (Operand.const (Value.bool true)) (Operand.tmp 66), type := 4, pos := "law.go:140", after := #[{ on := 18, ground := Ground.data }, { on := 23, ground := Ground.data }], guard := none }) (v := ?_) rfl (by kernel_rfl) (by kernel_rfl) (by kernel_rfl) (fun _ _ _ h => h) (Or.inl ⟨by rfl, ?_⟩) ?_
                            rotate_left
                            · (intro w; go_simp; with_reducible rfl)
                            try simp only [Act.put, List.setIfInBounds_toArray, List.set_cons_zero, List.set_cons_succ]
                            refine wpAny_done (by kernel_rfl) ?_ _
                            ((go_wp2_with fail; exact ⟨⟨n * 2, j + 1, (by rw [HN2.out, Nat.pow_succ]), (by omega), (by omega), (by go_num), below_next HB7.out HB0.out⟩, (by simp [intOf]; omega)⟩))
                          exact AllReady.nil
                        exact AllReady.nil
                      refine Go.BigFrame.allReady_want (o := { dst := some 65, op := Op.load 26 (Operand.tmp 7), type := 26, pos := "law.go:140", after := #[{ on := 18, ground := Ground.guard }], guard := some (18, false) }) rfl (by rfl) (fun K hK => ?_) ?_
                      · skip
                        ((refine wp_load_dig _ rfl g7 0 rfl tA HLA.out (HCA.out _ HB0.out) ?_))
                        refine hK _ _ ?_
                        clear hK K
                        try simp only [Act.put, List.setIfInBounds_toArray, List.set_cons_zero, List.set_cons_succ]
                        refine wpAny_ready (rs := [21]) (by kernel_rfl) (by simp) ?_
                        refine Go.BigFrame.allReady_want (o := { dst := some 64, op := Op.load 26 (Operand.tmp 63), type := 26, pos := "law.go:140", after := #[{ on := 20, ground := Ground.data }, { on := 18, ground := Ground.guard }], guard := some (18, false) }) rfl (by rfl) (fun K hK => ?_) ?_
                        · skip
                          ((refine wp_load_dig _ rfl b5 off5 rfl tA HLA.out (HCU.out _ HB0.out) ?_))
                          refine hK _ _ ?_
                          clear hK K
                          try simp only [Act.put, List.setIfInBounds_toArray, List.set_cons_zero, List.set_cons_succ]
                          refine wpAny_ready (rs := [23]) (by kernel_rfl) (by simp) ?_
                          refine Go.BigFrame.allReady_want (o := { dst := some 66, op := Op.binOp BinOp.neq 26 (Operand.tmp 64) (Operand.tmp 65) 26, type := 4, pos := "law.go:140", after := #[{ on := 21, ground := Ground.data }, { on := 22, ground := Ground.data }, { on := 18, ground := Ground.guard }], guard := some (18, false) }) rfl (by rfl) (fun K hK => ?_) ?_
                          · skip
                            ((refine wp_neq_dig _ _ rfl tA tA HLA.out HLA.out rfl rfl ?_; rw [beq_self_eq_true, Bool.not_true]))
                            refine hK _ _ ?_
                            clear hK K
                            try simp only [Act.put, List.setIfInBounds_toArray, List.set_cons_zero, List.set_cons_succ]
                            refine wpAny_take (i := 24) (oi := { dst := some 67, op := Op.pick (Operand.tmp 61) (Operand.const (Value.bool true)) (Operand.tmp 66), type := 4, pos := "law.go:140", after := #[{ on := 18, ground := Ground.data }, { on := 23, ground := Ground.data }], guard := none }) (v := ?_) rfl (by kernel_rfl) (by kernel_rfl) (by kernel_rfl) (fun _ _ _ h => h) (Or.inl ⟨by rfl, ?_⟩) ?_
                            rotate_left
                            · (intro w; go_simp; with_reducible rfl)
                            try simp only [Act.put, List.setIfInBounds_toArray, List.set_cons_zero, List.set_cons_succ]
                            refine wpAny_done (by kernel_rfl) ?_ _
                            ((go_wp2_with fail; exact ⟨⟨n * 2, j + 1, (by rw [HN2.out, Nat.pow_succ]), (by omega), (by omega), (by go_num), below_next HB7.out HB0.out⟩, (by simp [intOf]; omega)⟩))
                          exact AllReady.nil
                        exact AllReady.nil
                      exact AllReady.nil
                    exact AllReady.nil
                  exact AllReady.nil
                exact AllReady.nil
              exact AllReady.nil
            exact AllReady.nil
          exact AllReady.nil
end Go.Proofs.YtjibhelahagliaaDoor
