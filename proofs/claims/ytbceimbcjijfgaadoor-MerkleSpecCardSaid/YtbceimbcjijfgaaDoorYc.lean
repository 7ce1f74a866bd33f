/- The specification: the next row. -/
import Derived.Test.YtbceimbcjijfgaaDoorYb
import Derived.Deep.RegionLaw
import Derived.Deep.RegionHeld
import Derived.BigRegion
namespace Go.Proofs.YtbceimbcjijfgaaDoor.Dig
open Go.RowKit

theorem nxD_take2 (ds : List (List UInt8)) (k : Nat) (h : 2 * k + 1 < ds.length) : nxD (ds.take (2 * (k + 1))) = nxD (ds.take (2 * k)) ++ [sha (nodeX Ndd (ds.getD (2 * k) []) (ds.getD (2 * k + 1) []))] := by
  have h1 : ds.take (2 * (k + 1)) = ds.take (2 * k) ++ [ds.getD (2 * k) [], ds.getD (2 * k + 1) []] := by
    rw [show 2 * (k + 1) = 2 * k + 1 + 1 by omega, List.take_succ_eq_append_getElem h, List.take_succ_eq_append_getElem (show 2 * k < ds.length by omega), List.append_assoc]
    simp [show 2 * k < ds.length by omega, h]
  rw [h1]
  unfold nxD
  rw [nx_append sha Ndd _ _ (by rw [List.length_take]; omega), nx_two, nx_nil]
theorem nxD_take1 (ds : List (List UInt8)) (k : Nat) (h : 2 * k + 1 = ds.length) : nxD (ds.take (2 * (k + 1))) = nxD (ds.take (2 * k)) ++ [ds.getD (2 * k) []] := by
  have h1 : ds.take (2 * (k + 1)) = ds.take (2 * k) ++ [ds.getD (2 * k) []] := by
    rw [List.take_of_length_le (by omega)]
    have h2 := List.take_append_drop (2 * k) ds
    have h3 : ds.drop (2 * k) = [ds.getD (2 * k) []] := by
      rw [List.drop_eq_getElem_cons (by omega), List.drop_of_length_le (by omega)]
      simp [show 2 * k < ds.length by omega]
    rw [h3] at h2
    exact h2.symm
  rw [h1]
  unfold nxD
  rw [nx_append sha Ndd _ _ (by rw [List.length_take]; omega), nx_one]
theorem nxD_take_len (ds : List (List UInt8)) (k : Nat) (h : 2 * k ≤ ds.length + 1) : (nxD (ds.take (2 * k))).length = k := by
  unfold nxD
  rw [nx_len, List.length_take]
  omega
def NxHead (ds : List (List UInt8)) (w : World) (s3 s4 : Value) (wr : World) : Prop := ∃ (k j c : Nat) (a : Option Addr), Hid (j = 2 * k) ∧ j ≤ ds.length + 1 ∧ s4 = .int .i64 (j : Int) ∧ s3 = .slice a k c ∧ DNew w wr (.slice a k c) (nxD (ds.take (2 * k)))
set_option maxHeartbeats 8000000 in
set_option maxRecDepth 100000 in
theorem refnext_call (ds : List (List UInt8)) (v : Value) (w : World) (h2 : ds.length ≤ 65536) (hr : DRest w.heap.size w ds v) :
    Calls Tryd.prog 29 #[v] w fun e w' => ∃ v', e = .returned v' ∧ DNew w w' v' (nxD ds) := by
  have HR := Lib.hid hr
  obtain ⟨a0, cap, rfl⟩ := drest_shape hr
  obtain ⟨n, hn⟩ : ∃ n, n = ds.length := ⟨_, rfl⟩
  rw [← hn] at HR h2 ⊢
  have HN := Lib.hid hn
  have hnm : (n : Int) ≤ 65536 := by omega
  have HB0 := Lib.hid (Below.refl w.heap.size w)
  clear hr hn
  go_enter Tryd.func29, Tryd.ntmps29
  go_wp2_with (first
    | (refine wpList_dnone rfl rfl HB0.out ?_; intro v1 w1 hn; have HD := Lib.hid hn; obtain ⟨a1, c1, rfl⟩ := hn.shape; clear hn)
    | fail)
  go_loopw [3, 4] (fun s3 s4 wr => NxHead ds w s3 s4 wr) (fun _ s4 _ => n + 2 - (intOf s4).toNat)
  case atStart => exact ⟨0, 0, c1, a1, Lib.hid rfl, Nat.zero_le _, rfl, rfl, by rw [show nxD (ds.take (2 * 0)) = [] by simp [nxD, nx_nil]]; exact HD.out⟩
  case round =>
    obtain ⟨k, j, c, a, HJ, hj, rfl, rfl, hd⟩ := hrel
    have HD := Lib.hid hd
    rw [← HN.out] at hj
    have hji : (j : Int) ≤ 65537 := by omega
    clear hd
    rcases Nat.lt_or_ge j n with hlt | hge
    · have hr := HR.out
      rw [HN.out] at hr
      obtain ⟨b, off, cap', he, hcc, hcc2, hbl, hcd⟩ := hr.some (by rw [← HN.out]; omega)
      injection he with h1 _ h3
      subst h1 h3
      have HCD : Hid (∀ W, Below w.heap.size w W → ∀ i, i < n → ∀ r, r < 32 → W.cell? ⟨b, off + i * 32 + r, none⟩ = some (.int .u8 (((ds.getD i []).getD r 0).toNat : Int))) := Lib.hid (fun W h i hi r hr => by
        rw [h.cell (p := ⟨b, off + i * 32 + r, none⟩) hbl]; exact hcd i (by rw [← HN.out]; exact hi) r hr)
      have HDL : Hid (∀ i, i < n → (ds.getD i []).length = 32) := Lib.hid (fun i hi => hr.1.get (by rw [← HN.out]; exact hi))
      have HLK : Hid ((nxD (ds.take (2 * k))).length = k) := Lib.hid (nxD_take_len ds k (by rw [← HN.out, ← HJ.out]; exact hj))
      have hki : (j : Int) < (n : Int) := by omega
      clear hr hcd hcc hcc2
      by_cases hp : j + 1 < n
      · have hpi : (j : Int) + 1 < (n : Int) := by omega
        obtain ⟨j1, hj1⟩ : ∃ j1, j1 = j + 1 := ⟨_, rfl⟩
        have hw1 : wrap64 ((j : Int) + 1) = (j1 : Int) := by unfold wrap64; omega
        have hw2 : IntKind.i64.wrap ((j : Int) + 1) = (j1 : Int) := by rw [IntKind.wrap_i64]; omega
        have hj1n : (j1 : Int) < (n : Int) := by omega
        have HST := Lib.hid (nxD_take2 ds k (by rw [← HN.out]; have := HJ.out; omega))
        rw [← HJ.out] at HST
        obtain ⟨x, hx⟩ : ∃ x, x = ds.getD j [] := ⟨_, rfl⟩
        obtain ⟨y, hy⟩ : ∃ y, y = ds.getD (j + 1) [] := ⟨_, rfl⟩
        have HXL : Hid (x.length = 32) := Lib.hid (by rw [hx]; exact HDL.out j (by omega))
        have HYL : Hid (y.length = 32) := Lib.hid (by rw [hy]; exact HDL.out (j + 1) (by omega))
        have HXC : Hid (∀ W, Below w.heap.size w W → ∀ r, r < 32 → W.cell? ⟨b, off + j * 32 + r, none⟩ = some (.int .u8 ((x.getD r 0).toNat : Int))) := Lib.hid (fun W h r hr => by rw [hx]; exact HCD.out W h j (by omega) r hr)
        have HYC : Hid (∀ W, Below w.heap.size w W → ∀ r, r < 32 → W.cell? ⟨b, off + j1 * 32 + r, none⟩ = some (.int .u8 ((y.getD r 0).toNat : Int))) := Lib.hid (fun W h r hr => by rw [hy, hj1]; exact HCD.out W h (j + 1) (by omega) r hr)
        rw [← hx, ← hy] at HST
        have HTW : Hid (∀ W, Calls Tryd.prog 45 #[dg x, dg y] W fun e w' => ∃ v', e = .returned v' ∧ New W w' v' (nodeX Ndd x y)) := Lib.hid (fun W => reftwo_call x y W HXL.out HYL.out)
        have HSU : Hid (∀ (W : World) (u : Value), Rest W.heap.size W (nodeX Ndd x y) u → Calls Tryd.prog 43 #[u] W (RetD W (sha (nodeX Ndd x y)))) := Lib.hid (fun W u h => refsum_call _ (by unfold nodeX; rw [List.length_append, List.length_append, HXL.out, HYL.out]; have := sha_len nodeS.data.toList; unfold Ndd; omega) u W h)
        have HLD : Hid ((sha (nodeX Ndd x y)).length = 32) := Lib.hid (sha_len _)
        obtain ⟨d, hdd⟩ : ∃ d, d = sha (nodeX Ndd x y) := ⟨_, rfl⟩
        rw [← hdd] at HST HSU HLD
        obtain ⟨L, hLL⟩ : ∃ L, L = nxD (ds.take (2 * k)) := ⟨_, rfl⟩
        rw [← HJ.out] at hLL
        have hLL2 := hLL
        rw [HJ.out] at hLL2
        rw [← hLL2] at HD HLK
        rw [← hLL] at HST
        clear hx hy hdd hLL hLL2 hj1
        go_wp2_with fail
        refine wp_region_any (by kernel_rfl) ?_
        try (change wpAny _ _ _ _ _ _ _ (World.drew _))
        (obtain ⟨w0, hw0⟩ : ∃ x, x = wr.drew := ⟨_, rfl⟩; rw [← hw0]; have HB0 : Hid (Below wr.heap.size wr w0) := (by rw [hw0]; exact (Below.refl _ wr).drew); clear hw0)
        refine wpAny_take (i := 0) (oi := { dst := some 17, op := Op.move (Operand.tmp 3), type := 25, pos := "ref.go:25", after := #[], guard := none }) (v := ?_) rfl (by kernel_rfl) (by kernel_rfl) (by kernel_rfl) (fun _ _ _ h => h) (Or.inl ⟨by rfl, ?_⟩) ?_
        rotate_left
        · (intro w; go_simp; with_reducible rfl)
        try simp only [Act.put, List.setIfInBounds_toArray, List.set_cons_zero, List.set_cons_succ]
        refine wpAny_take (i := 1) (oi := { dst := some 18, op := Op.move (Operand.tmp 0), type := 25, pos := "ref.go:25", after := #[], guard := none }) (v := ?_) rfl (by kernel_rfl) (by kernel_rfl) (by kernel_rfl) (fun _ _ _ h => h) (Or.inl ⟨by rfl, ?_⟩) ?_
        rotate_left
        · (intro w; go_simp; with_reducible rfl)
        try simp only [Act.put, List.setIfInBounds_toArray, List.set_cons_zero, List.set_cons_succ]
        refine wpAny_take (i := 2) (oi := { dst := some 19, op := Op.move (Operand.tmp 4), type := 3, pos := "ref.go:25", after := #[], guard := none }) (v := ?_) rfl (by kernel_rfl) (by kernel_rfl) (by kernel_rfl) (fun _ _ _ h => h) (Or.inl ⟨by rfl, ?_⟩) ?_
        rotate_left
        · (intro w; go_simp; with_reducible rfl)
        try simp only [Act.put, List.setIfInBounds_toArray, List.set_cons_zero, List.set_cons_succ]
        refine wpAny_take (i := 3) (oi := { dst := some 20, op := Op.indexAddr 25 (Operand.tmp 18) (Operand.tmp 19), type := 0, pos := "ref.go:25", after := #[{ on := 1, ground := Ground.data }, { on := 2, ground := Ground.data }], guard := none }) (v := ?_) rfl (by kernel_rfl) (by kernel_rfl) (by kernel_rfl) (fun _ _ _ h => h) (Or.inl ⟨by rfl, ?_⟩) ?_
        rotate_left
        · (intro w; go_simp; with_reducible rfl)
        try simp only [Act.put, List.setIfInBounds_toArray, List.set_cons_zero, List.set_cons_succ]
        refine wpAny_take (i := 5) (oi := { dst := some 22, op := Op.move (Operand.tmp 0), type := 25, pos := "ref.go:25", after := #[], guard := none }) (v := ?_) rfl (by kernel_rfl) (by kernel_rfl) (by kernel_rfl) (fun _ _ _ h => h) (Or.inl ⟨by rfl, ?_⟩) ?_
        rotate_left
        · (intro w; go_simp; with_reducible rfl)
        try simp only [Act.put, List.setIfInBounds_toArray, List.set_cons_zero, List.set_cons_succ]
        refine wpAny_take (i := 6) (oi := { dst := some 23, op := Op.move (Operand.tmp 4), type := 3, pos := "ref.go:25", after := #[], guard := none }) (v := ?_) rfl (by kernel_rfl) (by kernel_rfl) (by kernel_rfl) (fun _ _ _ h => h) (Or.inl ⟨by rfl, ?_⟩) ?_
        rotate_left
        · (intro w; go_simp; with_reducible rfl)
        try simp only [Act.put, List.setIfInBounds_toArray, List.set_cons_zero, List.set_cons_succ]
        refine wpAny_take (i := 7) (oi := { dst := some 24, op := Op.binOp BinOp.add 3 (Operand.tmp 23) (Operand.const (Value.int IntKind.i64 1)) 3, type := 3, pos := "ref.go:25", after := #[{ on := 6, ground := Ground.data }], guard := none }) (v := ?_) rfl (by kernel_rfl) (by kernel_rfl) (by kernel_rfl) (fun _ _ _ h => h) (Or.inl ⟨by rfl, ?_⟩) ?_
        rotate_left
        · (intro w; go_simp; with_reducible rfl)
        try simp only [Act.put, List.setIfInBounds_toArray, List.set_cons_zero, List.set_cons_succ]
        refine wpAny_take (i := 8) (oi := { dst := some 25, op := Op.indexAddr 25 (Operand.tmp 22) (Operand.tmp 24), type := 0, pos := "ref.go:25", after := #[{ on := 5, ground := Ground.data }, { on := 7, ground := Ground.data }], guard := none }) (v := ?_) rfl (by kernel_rfl) (by kernel_rfl) (by kernel_rfl) (fun _ _ _ h => h) (Or.inl ⟨by rfl, ?_⟩) ?_
        rotate_left
        · (intro w; go_simp; with_reducible rfl)
        try simp only [Act.put, List.setIfInBounds_toArray, List.set_cons_zero, List.set_cons_succ]
        refine wpAny_ready (rs := [4, 9]) (by kernel_rfl) (by simp) ?_
        refine Go.BigFrame.allReady_want (o := { dst := some 21, op := Op.load 30 (Operand.tmp 20), type := 30, pos := "ref.go:25", after := #[{ on := 3, ground := Ground.data }], guard := none }) rfl (by rfl) (fun K hK => ?_) ?_
        · skip
          ((refine wp_load_dig (.tmp 20) rfl b (off + j * 32) rfl x HXL.out (HXC.out _ (below_next HD.out.2.1 HB0.out)) ?_))
          refine hK _ _ ?_
          clear hK K
          try simp only [Act.put, List.setIfInBounds_toArray, List.set_cons_zero, List.set_cons_succ]
          refine wpAny_ready (rs := [9]) (by kernel_rfl) (by simp) ?_
          refine Go.BigFrame.allReady_want (o := { dst := some 26, op := Op.load 30 (Operand.tmp 25), type := 30, pos := "ref.go:25", after := #[{ on := 8, ground := Ground.data }], guard := none }) rfl (by rfl) (fun K hK => ?_) ?_
          · skip
            ((refine wp_load_dig (.tmp 25) rfl b (off + j1 * 32) rfl y HYL.out (HYC.out _ (below_next HD.out.2.1 HB0.out)) ?_))
            refine hK _ _ ?_
            clear hK K
            try simp only [Act.put, List.setIfInBounds_toArray, List.set_cons_zero, List.set_cons_succ]
            refine wpAny_ready (rs := [10]) (by kernel_rfl) (by simp) ?_
            refine Go.BigFrame.allReady_want (o := { dst := some 27, op := Op.call { callee := Callee.value (Operand.func 45), args := #[Operand.tmp 21, Operand.tmp 26], argTypes := #[30, 30] }, type := 34, pos := "ref.go:25", after := #[{ on := 4, ground := Ground.data }, { on := 9, ground := Ground.data }], guard := none }) rfl (by rfl) (fun K hK => ?_) ?_
            · skip
              go_simp
              go_wp2_with ((go_at_call 45; (with_reducible refine (HTW.out _).mono ?_); rintro e w2 ⟨v2, rfl, hn⟩; have HT2 := Lib.hid (buf_rest' hn.1); have HB0 := Lib.hid (below_next HB0.out hn.2.1); clear hn))
              refine wpAny_ready (rs := [11]) (by kernel_rfl) (by simp) ?_
              refine Go.BigFrame.allReady_want (o := { dst := some 28, op := Op.call { callee := Callee.value (Operand.func 43), args := #[Operand.tmp 27], argTypes := #[34] }, type := 30, pos := "ref.go:25", after := #[{ on := 10, ground := Ground.data }, { on := 10, ground := Ground.chain }], guard := none }) rfl (by rfl) (fun K hK => ?_) ?_
              · skip
                go_simp
                go_wp2_with ((go_at_call 43; (with_reducible refine (HSU.out _ _ HT2.out).mono ?_); rintro e w3 ⟨rfl, hb⟩; have HB0 := Lib.hid (below_next HB0.out hb); clear hb))
                refine wpAny_ready (rs := [12]) (by kernel_rfl) (by simp) ?_
                refine Go.BigFrame.allReady_want (o := { dst := some 29, op := Op.buildSlice 25 1 #[(0, Operand.tmp 28)], type := 25, pos := "ref.go:25", after := #[{ on := 11, ground := Ground.data }], guard := none }) rfl (by rfl) (fun K hK => ?_) ?_
                · skip
                  ((refine wp_one' (.tmp 28) rfl d HLD.out rfl ?_; intro g w4 hrow hg hb; have HB0 := Lib.hid (below_next HB0.out hb); have HR4 := Lib.hid (drest_one hrow HLD.out); clear hrow hg hb))
                  refine hK _ _ ?_
                  clear hK K
                  try simp only [Act.put, List.setIfInBounds_toArray, List.set_cons_zero, List.set_cons_succ]
                  refine wpAny_ready (rs := [13]) (by kernel_rfl) (by simp) ?_
                  refine Go.BigFrame.allReady_want (o := { dst := some 30, op := Op.call { callee := Callee.builtin Builtin.append, args := #[Operand.tmp 17, Operand.tmp 29], argTypes := #[25, 25] }, type := 25, pos := "ref.go:25", after := #[{ on := 0, ground := Ground.data }, { on := 12, ground := Ground.data }, { on := 11, ground := Ground.chain }], guard := none }) rfl (by rfl) (fun K hK => ?_) ?_
                  · skip
                    ((refine wp_dapp' rfl (.tmp 17) (.tmp 29) rfl _ L rfl (HD.out.keep HB0.out) _ _ [d] rfl HR4.out (by rw [HLK.out]; have := HJ.out; simp; omega) ?_; intro v5 w5 hn hrows; have HD5 := Lib.hid hn; obtain ⟨a5, c5, hv5⟩ := hn.shape; rw [List.length_append, HLK.out] at hv5; subst hv5; clear hn hrows))
                    refine hK _ _ ?_
                    clear hK K
                    try simp only [Act.put, List.setIfInBounds_toArray, List.set_cons_zero, List.set_cons_succ]
                    refine wpAny_take (i := 14) (oi := { dst := some 3, op := Op.assign (Operand.tmp 30), type := 25, pos := "ref.go:25", after := #[{ on := 13, ground := Ground.data }, { on := 13, ground := Ground.chain }, { on := 0, ground := Ground.phase }, { on := 1, ground := Ground.phase }, { on := 2, ground := Ground.phase }, { on := 3, ground := Ground.phase }, { on := 4, ground := Ground.phase }, { on := 5, ground := Ground.phase }, { on := 6, ground := Ground.phase }, { on := 7, ground := Ground.phase }, { on := 8, ground := Ground.phase }, { on := 9, ground := Ground.phase }, { on := 10, ground := Ground.phase }, { on := 11, ground := Ground.phase }, { on := 12, ground := Ground.phase }, { on := 13, ground := Ground.phase }], guard := none }) (v := ?_) rfl (by kernel_rfl) (by kernel_rfl) (by kernel_rfl) (fun _ _ _ h => h) (Or.inl ⟨by rfl, ?_⟩) ?_
                    rotate_left
                    · (intro w; go_simp; with_reducible rfl)
                    try simp only [Act.put, List.setIfInBounds_toArray, List.set_cons_zero, List.set_cons_succ]
                    refine wpAny_done (by kernel_rfl) ?_ _
                    ((go_wp2_with fail; exact ⟨⟨k + 1, j + 2, c5, a5, Lib.hid (by have := HJ.out; omega), by rw [← HN.out]; omega, by go_num, rfl, by have h9 := HST.out; rw [h9]; exact HD5.out⟩, by simp [intOf]; omega⟩))
                  exact AllReady.nil
                exact AllReady.nil
              exact AllReady.nil
            exact AllReady.nil
          exact AllReady.nil
        refine Go.BigFrame.allReady_want (o := { dst := some 26, op := Op.load 30 (Operand.tmp 25), type := 30, pos := "ref.go:25", after := #[{ on := 8, ground := Ground.data }], guard := none }) rfl (by rfl) (fun K hK => ?_) ?_
        · skip
          ((refine wp_load_dig (.tmp 25) rfl b (off + j1 * 32) rfl y HYL.out (HYC.out _ (below_next HD.out.2.1 HB0.out)) ?_))
          refine hK _ _ ?_
          clear hK K
          try simp only [Act.put, List.setIfInBounds_toArray, List.set_cons_zero, List.set_cons_succ]
          refine wpAny_ready (rs := [4]) (by kernel_rfl) (by simp) ?_
          refine Go.BigFrame.allReady_want (o := { dst := some 21, op := Op.load 30 (Operand.tmp 20), type := 30, pos := "ref.go:25", after := #[{ on := 3, ground := Ground.data }], guard := none }) rfl (by rfl) (fun K hK => ?_) ?_
          · skip
            ((refine wp_load_dig (.tmp 20) rfl b (off + j * 32) rfl x HXL.out (HXC.out _ (below_next HD.out.2.1 HB0.out)) ?_))
            refine hK _ _ ?_
            clear hK K
            try simp only [Act.put, List.setIfInBounds_toArray, List.set_cons_zero, List.set_cons_succ]
            refine wpAny_ready (rs := [10]) (by kernel_rfl) (by simp) ?_
            refine Go.BigFrame.allReady_want (o := { dst := some 27, op := Op.call { callee := Callee.value (Operand.func 45), args := #[Operand.tmp 21, Operand.tmp 26], argTypes := #[30, 30] }, type := 34, pos := "ref.go:25", after := #[{ on := 4, ground := Ground.data }, { on := 9, ground := Ground.data }], guard := none }) rfl (by rfl) (fun K hK => ?_) ?_
            · skip
              go_simp
              go_wp2_with ((go_at_call 45; (with_reducible refine (HTW.out _).mono ?_); rintro e w2 ⟨v2, rfl, hn⟩; have HT2 := Lib.hid (buf_rest' hn.1); have HB0 := Lib.hid (below_next HB0.out hn.2.1); clear hn))
              refine wpAny_ready (rs := [11]) (by kernel_rfl) (by simp) ?_
              refine Go.BigFrame.allReady_want (o := { dst := some 28, op := Op.call { callee := Callee.value (Operand.func 43), args := #[Operand.tmp 27], argTypes := #[34] }, type := 30, pos := "ref.go:25", after := #[{ on := 10, ground := Ground.data }, { on := 10, ground := Ground.chain }], guard := none }) rfl (by rfl) (fun K hK => ?_) ?_
              · skip
                go_simp
                go_wp2_with ((go_at_call 43; (with_reducible refine (HSU.out _ _ HT2.out).mono ?_); rintro e w3 ⟨rfl, hb⟩; have HB0 := Lib.hid (below_next HB0.out hb); clear hb))
                refine wpAny_ready (rs := [12]) (by kernel_rfl) (by simp) ?_
                refine Go.BigFrame.allReady_want (o := { dst := some 29, op := Op.buildSlice 25 1 #[(0, Operand.tmp 28)], type := 25, pos := "ref.go:25", after := #[{ on := 11, ground := Ground.data }], guard := none }) rfl (by rfl) (fun K hK => ?_) ?_
                · skip
                  ((refine wp_one' (.tmp 28) rfl d HLD.out rfl ?_; intro g w4 hrow hg hb; have HB0 := Lib.hid (below_next HB0.out hb); have HR4 := Lib.hid (drest_one hrow HLD.out); clear hrow hg hb))
                  refine hK _ _ ?_
                  clear hK K
                  try simp only [Act.put, List.setIfInBounds_toArray, List.set_cons_zero, List.set_cons_succ]
                  refine wpAny_ready (rs := [13]) (by kernel_rfl) (by simp) ?_
                  refine Go.BigFrame.allReady_want (o := { dst := some 30, op := Op.call { callee := Callee.builtin Builtin.append, args := #[Operand.tmp 17, Operand.tmp 29], argTypes := #[25, 25] }, type := 25, pos := "ref.go:25", after := #[{ on := 0, ground := Ground.data }, { on := 12, ground := Ground.data }, { on := 11, ground := Ground.chain }], guard := none }) rfl (by rfl) (fun K hK => ?_) ?_
                  · skip
                    ((refine wp_dapp' rfl (.tmp 17) (.tmp 29) rfl _ L rfl (HD.out.keep HB0.out) _ _ [d] rfl HR4.out (by rw [HLK.out]; have := HJ.out; simp; omega) ?_; intro v5 w5 hn hrows; have HD5 := Lib.hid hn; obtain ⟨a5, c5, hv5⟩ := hn.shape; rw [List.length_append, HLK.out] at hv5; subst hv5; clear hn hrows))
                    refine hK _ _ ?_
                    clear hK K
                    try simp only [Act.put, List.setIfInBounds_toArray, List.set_cons_zero, List.set_cons_succ]
                    refine wpAny_take (i := 14) (oi := { dst := some 3, op := Op.assign (Operand.tmp 30), type := 25, pos := "ref.go:25", after := #[{ on := 13, ground := Ground.data }, { on := 13, ground := Ground.chain }, { on := 0, ground := Ground.phase }, { on := 1, ground := Ground.phase }, { on := 2, ground := Ground.phase }, { on := 3, ground := Ground.phase }, { on := 4, ground := Ground.phase }, { on := 5, ground := Ground.phase }, { on := 6, ground := Ground.phase }, { on := 7, ground := Ground.phase }, { on := 8, ground := Ground.phase }, { on := 9, ground := Ground.phase }, { on := 10, ground := Ground.phase }, { on := 11, ground := Ground.phase }, { on := 12, ground := Ground.phase }, { on := 13, ground := Ground.phase }], guard := none }) (v := ?_) rfl (by kernel_rfl) (by kernel_rfl) (by kernel_rfl) (fun _ _ _ h => h) (Or.inl ⟨by rfl, ?_⟩) ?_
                    rotate_left
                    · (intro w; go_simp; with_reducible rfl)
                    try simp only [Act.put, List.setIfInBounds_toArray, List.set_cons_zero, List.set_cons_succ]
                    refine wpAny_done (by kernel_rfl) ?_ _
                    ((go_wp2_with fail; exact ⟨⟨k + 1, j + 2, c5, a5, Lib.hid (by have := HJ.out; omega), by rw [← HN.out]; omega, by go_num, rfl, by have h9 := HST.out; rw [h9]; exact HD5.out⟩, by simp [intOf]; omega⟩))
                  exact AllReady.nil
                exact AllReady.nil
              exact AllReady.nil
            exact AllReady.nil
          exact AllReady.nil
        exact AllReady.nil
      · have hpi : ¬ (j : Int) + 1 < (n : Int) := by omega
        have hw1 : wrap64 ((j : Int) + 1) = (j : Int) + 1 := by unfold wrap64; omega
        have HST := Lib.hid (nxD_take1 ds k (by rw [← HN.out]; have := HJ.out; omega))
        rw [← HJ.out] at HST
        obtain ⟨x, hx⟩ : ∃ x, x = ds.getD j [] := ⟨_, rfl⟩
        have HXL : Hid (x.length = 32) := Lib.hid (by rw [hx]; exact HDL.out j (by omega))
        have HXC : Hid (∀ W, Below w.heap.size w W → ∀ r, r < 32 → W.cell? ⟨b, off + j * 32 + r, none⟩ = some (.int .u8 ((x.getD r 0).toNat : Int))) := Lib.hid (fun W h r hr => by rw [hx]; exact HCD.out W h j (by omega) r hr)
        rw [← hx] at HST
        obtain ⟨L, hLL⟩ : ∃ L, L = nxD (ds.take (2 * k)) := ⟨_, rfl⟩
        rw [← HJ.out] at hLL
        have hLL2 := hLL
        rw [HJ.out] at hLL2
        rw [← hLL2] at HD HLK
        rw [← hLL] at HST
        clear hx hLL hLL2
        go_wp2_with (first
          | (refine wpList_load_dig rfl (.tmp 34) rfl b (off + j * 32) rfl x HXL.out (HXC.out _ HD.out.2.1) ?_)
          | (refine wpList_one rfl (.tmp 35) rfl x HXL.out rfl ?_; intro g w4 hrow hg hb; have HR4 := Lib.hid (drest_one hrow HXL.out); have HD4 := Lib.hid (HD.out.keep hb); clear hrow hg hb)
          | (refine wpList_dapp rfl (.tmp 31) (.tmp 36) rfl _ L rfl HD4.out _ _ [x] rfl HR4.out (by rw [HLK.out]; have := HJ.out; simp; omega) ?_; intro v5 w5 hn; have HD5 := Lib.hid hn; obtain ⟨a5, c5, hv5⟩ := hn.shape; rw [List.length_append, HLK.out] at hv5; subst hv5; clear hn)
          | fail)
        exact ⟨⟨k + 1, j + 2, c5, a5, Lib.hid (by have := HJ.out; omega), by rw [← HN.out]; omega, by go_num, rfl, by have h9 := HST.out; rw [h9]; exact HD5.out⟩, by simp [intOf]; omega⟩
    · have hki : ¬ (j : Int) < (n : Int) := by omega
      have HE : Hid (nxD (ds.take (2 * k)) = nxD ds) := Lib.hid (by rw [List.take_of_length_le (by rw [← HN.out]; have := HJ.out; omega)])
      go_wp2_with fail
      go_ret
      exact ⟨_, rfl, by rw [← HE.out]; exact HD.out⟩
end Go.Proofs.YtbceimbcjijfgaaDoor.Dig
