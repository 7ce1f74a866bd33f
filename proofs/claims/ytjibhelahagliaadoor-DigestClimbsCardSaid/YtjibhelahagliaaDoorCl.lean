/- DigestClimbs: the law's walk. -/
import Derived.Test.YtjibhelahagliaaDoorCb
import Derived.Test.YtjibhelahagliaaDoorPl
import Derived.Deep.RegionLaw
import Derived.Deep.RegionHeld
import Derived.BigRegion
namespace Go.Proofs.YtjibhelahagliaaDoor
open Go.RowKit

theorem cut6 {A B C D E F : Type} {R0 : A → B → C → D → E → F → Prop} (G : A → B → C → D → E → F → Prop) {R : Prop} (rest : (∀ a b c d e f, R0 a b c d e f → G a b c d e f) → R) (kk : ∀ a b c d e f, R0 a b c d e f → G a b c d e f) : R := rest kk
def ClHead (m : Nat) (W : World) (s21 : Value) (wr : World) : Prop := ∃ i : Nat, i ≤ m ∧ s21 = .int .i64 (i : Int) ∧ Below W.heap.size W wr
theorem dnew_shape' {w0 w : World} {v : Value} {xs : List (List UInt8)} (h : DNew w0 w v xs) : ∃ a c, v = .slice a xs.length c := h.shape
theorem Climb_more (d : List UInt8) (hd : d.length = 32) (i n : Nat) (ps : List (List UInt8)) (hn : ps.length ≠ steps i n) (v : Value) (B : Nat) (w w1 : World) (hr : DRest B w1 ps v) :
    Calls Tryd.prog 22 #[dg d, .int .i64 (i : Int), .int .i64 (n : Int), v] w fun e w' => e = .returned (.tuple #[dg zd, .int .i64 1]) ∧ Below w.heap.size w w' := by
  obtain ⟨_, a, cap, rfl, _⟩ := hr
  exact Climb_no' d hd i n ps.length a cap w (.inr (.inr (.inr (.inr (by rw [Int.toNat_natCast, Int.toNat_natCast]; exact hn)))))

set_option maxHeartbeats 8000000 in
set_option maxRecDepth 100000 in
theorem climbs_walk (hs : Sane) (bs : List UInt8) (v : Value) (w : World) (hr : Rest w.heap.size w bs v) (hT : Tab w) :
    Calls Tryd.prog 6 #[v] w fun e w' => e = .returned (.bool true) ∧ Below w.heap.size w w' := by
  have HT := Lib.hid hT
  have HR := Lib.hid hr
  obtain ⟨a, cap, rfl⟩ : ∃ a cap, v = .slice a bs.length cap := by obtain ⟨a, cap, h, _⟩ := hr; exact ⟨a, cap, h⟩
  have HS := Lib.hid (hs w hT)
  clear hs hT hr
  go_enter Tryd.func6, Tryd.ntmps6
  go_wp2_with fail
  refine HS.out.mono ?_
  rintro e w1 ⟨rfl, hb1⟩
  have HB1 := Lib.hid hb1
  have HD := Lib.hid (digestsOf_call bs _ w1 (rest_keep HR.out hb1))
  clear HS hb1
  go_wp2_with fail
  refine HD.out.mono ?_
  rintro e w2 ⟨v3, rfl, hnew⟩
  clear HD
  obtain ⟨ds, hds⟩ : ∃ ds, ds = dgs bs := ⟨_, rfl⟩
  rw [← hds] at hnew
  have hlen : ds.length ≤ 24 := by rw [hds, dgs_len]; omega
  have HB2 := Lib.hid (below_next HB1.out hnew.2.1)
  have HDR := Lib.hid (dbuf_rest hnew.1)
  have HT2 := Lib.hid (HT.out.keep HB2.out)
  obtain ⟨a3, c3, rfl⟩ := hnew.shape
  clear hds hnew HB1 HR HT
  obtain ⟨m, hm⟩ : ∃ m, m = ds.length := ⟨_, rfl⟩
  have HTr : Hid (Calls Tryd.prog 17 #[.slice a3 m c3] w2 (RetD w2 (tree ds))) := by
    rw [hm]
    exact tree_call ds (by omega) _ w2 HDR.out HT2.out
  obtain ⟨tC, htC⟩ : ∃ tC, tC = tree ds := ⟨_, rfl⟩
  have HLC : Hid (tC.length = 32) := by rw [htC]; exact tree_len _
  rw [← htC] at HTr
  rw [← hm] at hlen ⊢
  have HM := Lib.hid hm
  have HTREE := Lib.hid htC
  clear hm htC
  go_wp2_with fail
  refine HTr.out.mono ?_
  rintro e w3 ⟨rfl, hb3⟩
  clear HTr
  obtain ⟨W, hW⟩ : ∃ W, W = (w3.alloc (.cells z32 26)).setRow w3.heap.size (cellsOf tC).toArray := ⟨_, rfl⟩
  have hb6 : Below w3.heap.size w3 W := by rw [hW]; exact below_setRow (Joins.below_alloc1 w3 _) _ _ (Nat.le_refl _)
  have HBW2 := Lib.hid (below_next hb3 hb6)
  have HBW := Lib.hid (below_next HB2.out HBW2.out)
  have HR4 : Hid (Row W w3.heap.size 26 (cellsOf tC)) := by rw [hW]; exact (row_new w3 26 zb).setRow _
  have HW := Lib.hid hW
  have HR6 : Hid (Row (w3.alloc (.cells z32 26)) w3.heap.size 26 zb) := row_new w3 26 zb
  obtain ⟨g4, hg4⟩ : ∃ g4, g4 = w3.heap.size := ⟨_, rfl⟩
  have HG4 := Lib.hid hg4
  clear hW hb6 hb3 hg4
  unfold dg
  go_wp2_with (refine wpList_store_row rfl 26 (.tmp 4) (.tmp 18) rfl w3.heap.size (cellsOf tC).toArray rfl rfl 26 zb.toArray HR6.out (size32' HLC.out) (by rw [size32 HLC.out]; rfl) (cellsOf_one _) ?_; rw [← HW.out])
  rw [← HG4.out] at HR4 ⊢
  have HDW := Lib.hid (HDR.out.keep HBW2.out)
  have HTW := Lib.hid (HT2.out.keep HBW2.out)
  clear HR6 HW HDR HT2 HG4 HBW2 HB2
  go_loopw [21] (fun s21 wr => ClHead m W s21 wr) (fun s21 _ => m - (intOf s21).toNat)
  case atStart => exact ⟨0, by omega, by go_num, Below.refl _ _⟩
  case round =>
    obtain ⟨i, hi, rfl, hbr⟩ := hrel
    have HBR := Lib.hid hbr
    clear hbr
    rcases Nat.lt_or_ge i m with hlt | hge
    · have HDr := Lib.hid (HDW.out.keep HBR.out)
      have HTr := Lib.hid (HTW.out.keep HBR.out)
      obtain ⟨d, hd⟩ : ∃ d, d = ds.getD i [] := ⟨_, rfl⟩
      have hdl : d.length = 32 := by rw [hd]; exact HDr.out.1.get (by rw [← HM.out]; exact hlt)
      obtain ⟨b, off, c3', he, hcc, hcc2, hbl, hcd⟩ := HDr.out.some (by rw [← HM.out]; omega)
      injection he with h1 h2 h3
      subst h1 h3
      have HCL : Hid (∀ j, j < 32 → wr.cell? ⟨b, off + i * 32 + j, none⟩ = some (.int .u8 ((d.getD j 0).toNat : Int))) := fun j hj => by rw [hd]; exact hcd i (by rw [← HM.out]; exact hlt) j hj
      have HDL := Lib.hid hdl
      have HD := Lib.hid hd
      have hi0 : (0 : Int) ≤ (i : Int) := by omega
      have him : (i : Int) < (m : Int) := by omega
      clear hd hdl hcc hcc2 hcd h2
      go_wp2_with (first
        | (refine wpList_load_dig rfl (.tmp 24) rfl b (off + i * 32) rfl d HDL.out HCL.out ?_)
        | (refine wpList_alloc_dig rfl 6 rfl rfl ?_; intro g6 w5 hg hrow hb; have HG6 := Lib.hid hrow; have HB5 := Lib.hid (below_next HBR.out hb); have HS6 : Hid (W.heap.size ≤ g6) := (by have := HBR.out.size; show W.heap.size ≤ g6; omega); clear hb hg hrow)
        | (refine wpList_store_dig rfl (.tmp 6) (.tmp 25) rfl g6 d HDL.out rfl rfl HG6.out HB5.out HS6.out ?_; intro w6 hrow hb hoth; have HG6 := Lib.hid hrow; have HB6 := Lib.hid hb; clear hrow hb hoth)
        | fail)
      have HDD6 := Lib.hid (HDW.out.keep HB6.out)
      have HT6 := Lib.hid (HTW.out.keep HB6.out)
      have HP := Lib.hid (Path_ok ds i (by rw [← HM.out]; exact hlt) (by rw [← HM.out]; omega) _ w6 HDD6.out HT6.out)
      rw [← HM.out] at HP
      refine HP.out.mono ?_
      rintro e w7 ⟨u, rfl, hnew⟩
      clear HP HCL HDr HTr
      obtain ⟨ps, hps⟩ : ∃ ps, ps = path ds i := ⟨_, rfl⟩
      rw [← hps] at hnew
      have hpl : ps.length = steps i m := by rw [hps, HM.out]; exact path_len _ ds i rfl
      have hs5 : ps.length ≤ 5 := by rw [hpl]; exact steps_le 5 i m (by omega)
      have HB7 := Lib.hid (below_next HB6.out hnew.2.1)
      have HPR := Lib.hid (dbuf_rest hnew.1)
      have HG67 := Lib.hid (HG6.out.keep hnew.2.1)
      obtain ⟨a4, c4, rfl⟩ := hnew.shape
      have HCC : Hid (climb d i m ps = tC) := by rw [HD.out, HM.out, hps, HTREE.out]; exact climb_path _ ds i rfl (by rw [← HM.out]; exact hlt)
      obtain ⟨t, ht⟩ : ∃ t, t = ps.length := ⟨_, rfl⟩
      have HC1 : Hid (Calls Tryd.prog 22 #[dg d, .int .i64 (i : Int), .int .i64 (m : Int), .slice a4 t c4] w7 fun e w' => e = .returned (.tuple #[dg tC, .int .i64 0]) ∧ Below w7.heap.size w7 w') := by
        rw [← HCC.out, ht]
        exact Climb_ok d HDL.out i m hlt (by omega) ps hpl _ w7 HPR.out (HTW.out.keep HB7.out)
      have hpn : t ≤ 5 := by omega
      have HPL : Hid (t = steps i m) := by rw [ht]; exact hpl
      have HPT := Lib.hid ht
      rw [← ht] at HPR ⊢
      clear hnew hps hpl ht hs5 HDD6
      go_wp2_with (first
        | (refine wpList_row_dig rfl (.tmp 6) rfl g6 d HDL.out rfl HG67.out ?_)
        | fail)
      refine HC1.out.mono ?_
      rintro e w8 ⟨rfl, hb⟩
      have HB8 := Lib.hid hb
      clear hb HC1
      go_wp2_with (first
        | (refine wpList_alloc_dig rfl 9 rfl rfl ?_; intro g9 w9 hg hrow hb; have HG9 := Lib.hid hrow; have HB9 := Lib.hid (below_next HB8.out hb); have HS9 : Hid (w7.heap.size ≤ g9) := (by have := HB8.out.size; show w7.heap.size ≤ g9; omega); clear hb hg hrow)
        | (refine wpList_store_dig rfl (.tmp 9) (.tmp 39) rfl g9 tC HLC.out rfl rfl HG9.out HB9.out HS9.out ?_; intro w10 hrow hb hoth; have HG910 := Lib.hid hrow; have HB10 := Lib.hid hb; clear hrow hb hoth)
        | fail)
      have HBX := Lib.hid (below_next HB7.out HB10.out)
      have HG6X := Lib.hid (HG67.out.keep HB10.out)
      have HPX := Lib.hid (HPR.out.keep HB10.out)
      have HG4X := Lib.hid (HR4.out.keep HBX.out)
      have HTX := Lib.hid (HTW.out.keep HBX.out)
      have hlen1 : ps.length ≤ 5 := by rw [← HPT.out]; exact hpn
      have HC2 : Hid (∀ (W' : World) (u : Value), DRest W'.heap.size W' (ps ++ [d]) u → Calls Tryd.prog 22 #[dg d, .int .i64 (i : Int), .int .i64 (m : Int), u] W' fun e w' => e = .returned (.tuple #[dg zd, .int .i64 1]) ∧ Below W'.heap.size W' w') := fun W' u h =>
        Climb_more d HDL.out i m (ps ++ [d]) (by rw [List.length_append, ← HPL.out, HPT.out]; simp) u _ W' W' h
      have HDA : Hid (DigAt (fun w' => Below w10.heap.size w10 w') g6 d) := ⟨HDL.out, fun W' h => range_row (HG6X.out.keep h)⟩
      have HPS : Hid (∀ W' : World, Below w10.heap.size w10 W' → DRest W'.heap.size W' ps (.slice a4 t c4)) := fun W' h => HPX.out.keep h
      have HL1 : Hid (([] : List (List UInt8)).length + ps.length ≤ 1099511627776) := by show ([] : List (List UInt8)).length + ps.length ≤ 1099511627776; rw [List.length_nil]; omega
      have HL2 : Hid (ps.length + [d].length ≤ 1099511627776) := by show ps.length + [d].length ≤ 1099511627776; rw [List.length_singleton]; omega
      have HZD := Lib.hid zd_len
      clear hlen1 HB8 HB9 HB5 HB6 HG6 HG67 HPR HT6 HG9 HS9 HS6
      refine' cut6 (R0 := fun (_ _ _ : Value) (_ _ : Nat) (w' : World) => Below w10.heap.size w10 w') _ ?rest ?kk
      case rest =>
        intro K
        (refine wp_region_held_drew (S := fun w' => Below w10.heap.size w10 w') (by kernel_rfl) ((Below.refl _ w10).drew) (fun hHeld => ?_))
        (obtain ⟨w0, hw0⟩ : ∃ x, x = w10.drew := ⟨_, rfl⟩; rw [← hw0] at hHeld ⊢; have HB0 := Lib.hid hHeld; clear hHeld hw0)
        refine wpAnyH_take (i := 1) (oi := { dst := some 43, op := Op.move (Operand.tmp 5), type := 3, pos := "law.go:102", after := #[], guard := none }) (v := ?_) rfl (by kernel_rfl) (by kernel_rfl) (by kernel_rfl) (fun _ _ _ h => h) (Or.inl ⟨by rfl, ?_⟩) HB0.out ?_
        rotate_left
        · (intro w _; go_simp; with_reducible rfl)
        try simp only [Act.put, List.setIfInBounds_toArray, List.set_cons_zero, List.set_cons_succ]
        refine wpAnyH_take (i := 2) (oi := { dst := some 44, op := Op.move (Operand.tmp 3), type := 30, pos := "law.go:102", after := #[], guard := none }) (v := ?_) rfl (by kernel_rfl) (by kernel_rfl) (by kernel_rfl) (fun _ _ _ h => h) (Or.inl ⟨by rfl, ?_⟩) HB0.out ?_
        rotate_left
        · (intro w _; go_simp; with_reducible rfl)
        try simp only [Act.put, List.setIfInBounds_toArray, List.set_cons_zero, List.set_cons_succ]
        refine wpAnyH_take (i := 3) (oi := { dst := some 45, op := Op.call { callee := Callee.builtin Builtin.len, args := #[Operand.tmp 44], argTypes := #[30] }, type := 3, pos := "law.go:102", after := #[{ on := 2, ground := Ground.data }], guard := none }) (v := ?_) rfl (by kernel_rfl) (by kernel_rfl) (by kernel_rfl) (fun _ _ _ h => h) (Or.inl ⟨by rfl, ?_⟩) HB0.out ?_
        rotate_left
        · (intro w _; go_simp; with_reducible rfl)
        try simp only [Act.put, List.setIfInBounds_toArray, List.set_cons_zero, List.set_cons_succ]
        refine wpAnyH_take (i := 5) (oi := { dst := some 47, op := Op.move (Operand.tmp 7), type := 30, pos := "law.go:102", after := #[], guard := none }) (v := ?_) rfl (by kernel_rfl) (by kernel_rfl) (by kernel_rfl) (fun _ _ _ h => h) (Or.inl ⟨by rfl, ?_⟩) HB0.out ?_
        rotate_left
        · (intro w _; go_simp; with_reducible rfl)
        try simp only [Act.put, List.setIfInBounds_toArray, List.set_cons_zero, List.set_cons_succ]
        refine take_dig (i := 0) (oi := { dst := some 42, op := Op.load 26 (Operand.tmp 6), type := 26, pos := "law.go:102", after := #[], guard := none }) (HDA.out) rfl (by kernel_rfl) (by kernel_rfl) (by kernel_rfl) (fun _ _ _ h => h) HB0.out rfl rfl (by rfl) ?_
        try simp only [Act.put, List.setIfInBounds_toArray, List.set_cons_zero, List.set_cons_succ]
        refine take_dig (i := 7) (oi := { dst := some 49, op := Op.load 26 (Operand.tmp 6), type := 26, pos := "law.go:102", after := #[], guard := none }) (HDA.out) rfl (by kernel_rfl) (by kernel_rfl) (by kernel_rfl) (fun _ _ _ h => h) HB0.out rfl rfl (by rfl) ?_
        try simp only [Act.put, List.setIfInBounds_toArray, List.set_cons_zero, List.set_cons_succ]
        refine wpAnyH_ready (rs := [4, 8, 14]) (by kernel_rfl) (by simp) ?_
        refine AllReadyH.cons (o := { dst := some 46, op := Op.buildSlice 30 0 #[], type := 30, pos := "law.go:102", after := #[], guard := none }) rfl (fun K hK => ?_) ?_
        · rw [if_pos (by rfl)]
          ((refine wp_dnone' rfl HB0.out ?_; intro v0 w11 hn hown hb; (try have hdG := own_ne HG.out hown); (try have hdA := own_ne HA.out hown); (try have HG := Lib.hid (HG.out.keep hb)); (try have HA := Lib.hid (HA.out.keep hb)); have HN := Lib.hid hn; have HB0 := Lib.hid hn.2.1; clear hn hown hb))
          refine hK.out _ _ HB0.out (fun _ => ?_)
          clear hK K
          try simp only [Act.put, List.setIfInBounds_toArray, List.set_cons_zero, List.set_cons_succ]
          refine wpAnyH_ready (rs := [6, 8, 14]) (by kernel_rfl) (by simp) ?_
          refine AllReadyH.cons (o := { dst := some 48, op := Op.call { callee := Callee.builtin Builtin.append, args := #[Operand.tmp 46, Operand.tmp 47], argTypes := #[30, 30] }, type := 30, pos := "law.go:102", after := #[{ on := 4, ground := Ground.data }, { on := 5, ground := Ground.data }], guard := none }) rfl (fun K hK => ?_) ?_
          · rw [if_pos (by rfl)]
            ((refine wp_dapp' rfl _ _ rfl v0 [] rfl HN.out _ _ ps rfl (HPS.out _ HB0.out) HL1.out ?_; intro v1 w13 hn hk; (try have hx := hk _ _ _ HG.out hdG; have hdG := hx.2; have HG := Lib.hid hx.1; clear hx); (try have hx := hk _ _ _ HA.out hdA; have hdA := hx.2; have HA := Lib.hid hx.1; clear hx); have HN : Hid (DNew w10 w13 v1 ps) := hn; have HB0 := Lib.hid hn.2.1; clear hn hk))
            refine hK.out _ _ HB0.out (fun _ => ?_)
            clear hK K
            try simp only [Act.put, List.setIfInBounds_toArray, List.set_cons_zero, List.set_cons_succ]
            refine wpAnyH_ready (rs := [8, 14]) (by kernel_rfl) (by simp) ?_
            refine AllReadyH.cons (o := { dst := some 50, op := Op.buildSlice 30 1 #[(0, Operand.tmp 49)], type := 30, pos := "law.go:102", after := #[{ on := 7, ground := Ground.data }], guard := none }) rfl (fun K hK => ?_) ?_
            · rw [if_pos (by rfl)]
              ((refine wp_one' _ rfl d HDL.out rfl ?_; intro g w12 hrow hg hb; (try have hdG := dnew_ne HN.out hg); (try have HN := Lib.hid (HN.out.keep hb)); (try have HA := Lib.hid (HA.out.keep hb)); have HG := Lib.hid hrow; have HB0 := Lib.hid (below_next HB0.out hb); clear hrow hg hb))
              refine hK.out _ _ HB0.out (fun _ => ?_)
              clear hK K
              try simp only [Act.put, List.setIfInBounds_toArray, List.set_cons_zero, List.set_cons_succ]
              refine wpAnyH_ready (rs := [9, 14]) (by kernel_rfl) (by simp) ?_
              refine AllReadyH.cons (o := { dst := some 51, op := Op.call { callee := Callee.builtin Builtin.append, args := #[Operand.tmp 48, Operand.tmp 50], argTypes := #[30, 30] }, type := 30, pos := "law.go:102", after := #[{ on := 6, ground := Ground.data }, { on := 8, ground := Ground.data }, { on := 6, ground := Ground.chain }], guard := none }) rfl (fun K hK => ?_) ?_
              · rw [if_pos (by rfl)]
                ((refine wp_dapp' rfl _ _ rfl v1 ps rfl HN.out _ _ [d] rfl (drest_one' HG.out HDL.out) HL2.out ?_; intro v2 w14 hn hk; (try have hx := hk _ _ _ HA.out hdA; have hdA := hx.2; have HA := Lib.hid hx.1; clear hx); have HN := Lib.hid hn; have HB0 := Lib.hid hn.2.1; clear hn hk))
                refine hK.out _ _ HB0.out (fun _ => ?_)
                clear hK K
                try simp only [Act.put, List.setIfInBounds_toArray, List.set_cons_zero, List.set_cons_succ]
                refine wpAnyH_ready (rs := [10, 14]) (by kernel_rfl) (by simp) ?_
                refine AllReadyH.cons (o := { dst := some 52, op := Op.call { callee := Callee.value (Operand.func 22), args := #[Operand.tmp 42, Operand.tmp 43, Operand.tmp 45, Operand.tmp 51], argTypes := #[26, 3, 3, 30] }, type := 39, pos := "law.go:102", after := #[{ on := 0, ground := Ground.data }, { on := 1, ground := Ground.data }, { on := 3, ground := Ground.data }, { on := 9, ground := Ground.data }, { on := 9, ground := Ground.chain }], guard := none }) rfl (fun K hK => ?_) ?_
                · rw [if_pos (by rfl)]
                  go_simp
                  go_wp2_with ((go_at_call 22; (refine (HC2.out _ _ (dbuf_rest HN.out.1)).mono ?_); rintro e w17 ⟨rfl, hb⟩; (try have HA := Lib.hid (HA.out.keep hb)); have HB0 := Lib.hid (below_next HB0.out hb); clear hb))
                  refine hK.out _ _ HB0.out (fun _ => ?_)
                  clear hK K
                  try simp only [Act.put, List.setIfInBounds_toArray, List.set_cons_zero, List.set_cons_succ]
                  refine wpAnyH_take (i := 11) (oi := { dst := some 41, op := Op.move (Operand.tmp 52), type := 39, pos := "law.go:102", after := #[{ on := 10, ground := Ground.data }], guard := none }) (v := ?_) rfl (by kernel_rfl) (by kernel_rfl) (by kernel_rfl) (fun _ _ _ h => h) (Or.inl ⟨by rfl, ?_⟩) HB0.out ?_
                  rotate_left
                  · (intro w _; go_simp; with_reducible rfl)
                  try simp only [Act.put, List.setIfInBounds_toArray, List.set_cons_zero, List.set_cons_succ]
                  refine wpAnyH_take (i := 12) (oi := { dst := some 53, op := Op.extract (Operand.tmp 41) 0, type := 26, pos := "law.go:102", after := #[{ on := 11, ground := Ground.data }], guard := none }) (v := ?_) rfl (by kernel_rfl) (by kernel_rfl) (by kernel_rfl) (fun _ _ _ h => h) (Or.inl ⟨by rfl, ?_⟩) HB0.out ?_
                  rotate_left
                  · (intro w _; go_simp; with_reducible rfl)
                  try simp only [Act.put, List.setIfInBounds_toArray, List.set_cons_zero, List.set_cons_succ]
                  refine wpAnyH_take (i := 13) (oi := { dst := some 54, op := Op.extract (Operand.tmp 41) 1, type := 34, pos := "law.go:102", after := #[{ on := 11, ground := Ground.data }, { on := 15, ground := Ground.gcOnly Departure.lateStores }], guard := none }) (v := ?_) rfl (by kernel_rfl) (by kernel_rfl) (by kernel_rfl) (fun _ _ _ h => h) (Or.inl ⟨by rfl, ?_⟩) HB0.out ?_
                  rotate_left
                  · (intro w _; go_simp; with_reducible rfl)
                  try simp only [Act.put, List.setIfInBounds_toArray, List.set_cons_zero, List.set_cons_succ]
                  refine wpAnyH_ready (rs := [14]) (by kernel_rfl) (by simp) ?_
                  refine AllReadyH.cons (o := { dst := some 11, op := Op.alloc 26, type := 0, pos := "law.go:102", after := #[], guard := none }) rfl (fun K hK => ?_) ?_
                  · rw [if_pos (by rfl)]
                    ((refine wp_alloc_dig 11 rfl rfl ?_; intro gA w15 hg hrow hb; (try have hdA := dnew_ne HN.out (Nat.le_of_eq hg.symm)); (try have HN := Lib.hid (HN.out.keep hb)); (try have HG := Lib.hid (HG.out.keep hb)); have hgeA : w10.heap.size ≤ gA := (by have := HB0.out.size; omega); have HA := Lib.hid hrow; have HB0 := Lib.hid (below_next HB0.out hb); clear hg hrow hb))
                    refine hK.out _ _ HB0.out (fun _ => ?_)
                    clear hK K
                    try simp only [Act.put, List.setIfInBounds_toArray, List.set_cons_zero, List.set_cons_succ]
                    refine wpAnyH_ready (rs := [15]) (by kernel_rfl) (by simp) ?_
                    refine AllReadyH.cons (o := { dst := none, op := Op.store 26 (Operand.tmp 11) (Operand.tmp 53), type := 0, pos := "law.go:102", after := #[{ on := 14, ground := Ground.data }, { on := 12, ground := Ground.data }, { on := 10, ground := Ground.chain }, { on := 0, ground := Ground.phase }, { on := 1, ground := Ground.phase }, { on := 2, ground := Ground.phase }, { on := 3, ground := Ground.phase }, { on := 4, ground := Ground.phase }, { on := 5, ground := Ground.phase }, { on := 6, ground := Ground.phase }, { on := 7, ground := Ground.phase }, { on := 8, ground := Ground.phase }, { on := 9, ground := Ground.phase }, { on := 10, ground := Ground.phase }, { on := 11, ground := Ground.phase }, { on := 12, ground := Ground.phase }, { on := 13, ground := Ground.textOnly Departure.lateStores }, { on := 14, ground := Ground.phase }], guard := none }) rfl (fun K hK => ?_) ?_
                    · rw [if_pos (by rfl)]
                      ((refine wp_store_dig' _ _ rfl gA zd HZD.out rfl rfl HA.out HB0.out hgeA ?_; intro w16 hrow hb hoth; have HB0 := Lib.hid hb; clear hrow hb hoth))
                      refine hK.out _ _ HB0.out (fun _ => ?_)
                      clear hK K
                      try simp only [Act.put, List.setIfInBounds_toArray, List.set_cons_zero, List.set_cons_succ]
                      refine wpAnyH_take (i := 16) (oi := { dst := some 12, op := Op.assign (Operand.tmp 54), type := 34, pos := "law.go:102", after := #[{ on := 13, ground := Ground.data }, { on := 15, ground := Ground.chain }, { on := 0, ground := Ground.phase }, { on := 1, ground := Ground.phase }, { on := 2, ground := Ground.phase }, { on := 3, ground := Ground.phase }, { on := 4, ground := Ground.phase }, { on := 5, ground := Ground.phase }, { on := 6, ground := Ground.phase }, { on := 7, ground := Ground.phase }, { on := 8, ground := Ground.phase }, { on := 9, ground := Ground.phase }, { on := 10, ground := Ground.phase }, { on := 11, ground := Ground.phase }, { on := 12, ground := Ground.phase }, { on := 13, ground := Ground.phase }, { on := 14, ground := Ground.phase }, { on := 15, ground := Ground.phase }], guard := none }) (v := ?_) rfl (by kernel_rfl) (by kernel_rfl) (by kernel_rfl) (fun _ _ _ h => h) (Or.inl ⟨by rfl, ?_⟩) HB0.out ?_
                      rotate_left
                      · (intro w _; go_simp; with_reducible rfl)
                      try simp only [Act.put, List.setIfInBounds_toArray, List.set_cons_zero, List.set_cons_succ]
                      refine wpAnyH_done (by kernel_rfl) ?_ _
                      ((exact K v0 v1 v2 g gA _ HB0.out))
                    exact AllReadyH.nil
                  exact AllReadyH.nil
                refine AllReadyH.cons (o := { dst := some 11, op := Op.alloc 26, type := 0, pos := "law.go:102", after := #[], guard := none }) rfl (fun K hK => ?_) ?_
                · rw [if_pos (by rfl)]
                  ((refine wp_alloc_dig 11 rfl rfl ?_; intro gA w15 hg hrow hb; (try have hdA := dnew_ne HN.out (Nat.le_of_eq hg.symm)); (try have HN := Lib.hid (HN.out.keep hb)); (try have HG := Lib.hid (HG.out.keep hb)); have hgeA : w10.heap.size ≤ gA := (by have := HB0.out.size; omega); have HA := Lib.hid hrow; have HB0 := Lib.hid (below_next HB0.out hb); clear hg hrow hb))
                  refine hK.out _ _ HB0.out (fun _ => ?_)
                  clear hK K
                  try simp only [Act.put, List.setIfInBounds_toArray, List.set_cons_zero, List.set_cons_succ]
                  refine wpAnyH_ready (rs := [10]) (by kernel_rfl) (by simp) ?_
                  refine AllReadyH.cons (o := { dst := some 52, op := Op.call { callee := Callee.value (Operand.func 22), args := #[Operand.tmp 42, Operand.tmp 43, Operand.tmp 45, Operand.tmp 51], argTypes := #[26, 3, 3, 30] }, type := 39, pos := "law.go:102", after := #[{ on := 0, ground := Ground.data }, { on := 1, ground := Ground.data }, { on := 3, ground := Ground.data }, { on := 9, ground := Ground.data }, { on := 9, ground := Ground.chain }], guard := none }) rfl (fun K hK => ?_) ?_
                  · rw [if_pos (by rfl)]
                    go_simp
                    go_wp2_with ((go_at_call 22; (refine (HC2.out _ _ (dbuf_rest HN.out.1)).mono ?_); rintro e w17 ⟨rfl, hb⟩; (try have HA := Lib.hid (HA.out.keep hb)); have HB0 := Lib.hid (below_next HB0.out hb); clear hb))
                    refine hK.out _ _ HB0.out (fun _ => ?_)
                    clear hK K
                    try simp only [Act.put, List.setIfInBounds_toArray, List.set_cons_zero, List.set_cons_succ]
                    refine wpAnyH_take (i := 11) (oi := { dst := some 41, op := Op.move (Operand.tmp 52), type := 39, pos := "law.go:102", after := #[{ on := 10, ground := Ground.data }], guard := none }) (v := ?_) rfl (by kernel_rfl) (by kernel_rfl) (by kernel_rfl) (fun _ _ _ h => h) (Or.inl ⟨by rfl, ?_⟩) HB0.out ?_
                    rotate_left
                    · (intro w _; go_simp; with_reducible rfl)
                    try simp only [Act.put, List.setIfInBounds_toArray, List.set_cons_zero, List.set_cons_succ]
                    refine wpAnyH_take (i := 12) (oi := { dst := some 53, op := Op.extract (Operand.tmp 41) 0, type := 26, pos := "law.go:102", after := #[{ on := 11, ground := Ground.data }], guard := none }) (v := ?_) rfl (by kernel_rfl) (by kernel_rfl) (by kernel_rfl) (fun _ _ _ h => h) (Or.inl ⟨by rfl, ?_⟩) HB0.out ?_
                    rotate_left
                    · (intro w _; go_simp; with_reducible rfl)
                    try simp only [Act.put, List.setIfInBounds_toArray, List.set_cons_zero, List.set_cons_succ]
                    refine wpAnyH_take (i := 13) (oi := { dst := some 54, op := Op.extract (Operand.tmp 41) 1, type := 34, pos := "law.go:102", after := #[{ on := 11, ground := Ground.data }, { on := 15, ground := Ground.gcOnly Departure.lateStores }], guard := none }) (v := ?_) rfl (by kernel_rfl) (by kernel_rfl) (by kernel_rfl) (fun _ _ _ h => h) (Or.inl ⟨by rfl, ?_⟩) HB0.out ?_
                    rotate_left
                    · (intro w _; go_simp; with_reducible rfl)
                    try simp only [Act.put, List.setIfInBounds_toArray, List.set_cons_zero, List.set_cons_succ]
                    refine wpAnyH_ready (rs := [15]) (by kernel_rfl) (by simp) ?_
                    refine AllReadyH.cons (o := { dst := none, op := Op.store 26 (Operand.tmp 11) (Operand.tmp 53), type := 0, pos := "law.go:102", after := #[{ on := 14, ground := Ground.data }, { on := 12, ground := Ground.data }, { on := 10, ground := Ground.chain }, { on := 0, ground := Ground.phase }, { on := 1, ground := Ground.phase }, { on := 2, ground := Ground.phase }, { on := 3, ground := Ground.phase }, { on := 4, ground := Ground.phase }, { on := 5, ground := Ground.phase }, { on := 6, ground := Ground.phase }, { on := 7, ground := Ground.phase }, { on := 8, ground := Ground.phase }, { on := 9, ground := Ground.phase }, { on := 10, ground := Ground.phase }, { on := 11, ground := Ground.phase }, { on := 12, ground := Ground.phase }, { on := 13, ground := Ground.textOnly Departure.lateStores }, { on := 14, ground := Ground.phase }], guard := none }) rfl (fun K hK => ?_) ?_
                    · rw [if_pos (by rfl)]
                      ((refine wp_store_dig' _ _ rfl gA zd HZD.out rfl rfl HA.out HB0.out hgeA ?_; intro w16 hrow hb hoth; have HB0 := Lib.hid hb; clear hrow hb hoth))
                      refine hK.out _ _ HB0.out (fun _ => ?_)
                      clear hK K
                      try simp only [Act.put, List.setIfInBounds_toArray, List.set_cons_zero, List.set_cons_succ]
                      refine wpAnyH_take (i := 16) (oi := { dst := some 12, op := Op.assign (Operand.tmp 54), type := 34, pos := "law.go:102", after := #[{ on := 13, ground := Ground.data }, { on := 15, ground := Ground.chain }, { on := 0, ground := Ground.phase }, { on := 1, ground := Ground.phase }, { on := 2, ground := Ground.phase }, { on := 3, ground := Ground.phase }, { on := 4, ground := Ground.phase }, { on := 5, ground := Ground.phase }, { on := 6, ground := Ground.phase }, { on := 7, ground := Ground.phase }, { on := 8, ground := Ground.phase }, { on := 9, ground := Ground.phase }, { on := 10, ground := Ground.phase }, { on := 11, ground := Ground.phase }, { on := 12, ground := Ground.phase }, { on := 13, ground := Ground.phase }, { on := 14, ground := Ground.phase }, { on := 15, ground := Ground.phase }], guard := none }) (v := ?_) rfl (by kernel_rfl) (by kernel_rfl) (by kernel_rfl) (fun _ _ _ h => h) (Or.inl ⟨by rfl, ?_⟩) HB0.out ?_
                      rotate_left
                      · (intro w _; go_simp; with_reducible rfl)
                      try simp only [Act.put, List.setIfInBounds_toArray, List.set_cons_zero, List.set_cons_succ]
                      refine wpAnyH_done (by kernel_rfl) ?_ _
                      ((exact K v0 v1 v2 g gA _ HB0.out))
                    exact AllReadyH.nil
                  exact AllReadyH.nil
                exact AllReadyH.nil
              refine AllReadyH.cons (o := { dst := some 11, op := Op.alloc 26, type := 0, pos := "law.go:102", after := #[], guard := none }) rfl (fun K hK => ?_) ?_
              · rw [if_pos (by rfl)]
                ((refine wp_alloc_dig 11 rfl rfl ?_; intro gA w15 hg hrow hb; (try have hdA := dnew_ne HN.out (Nat.le_of_eq hg.symm)); (try have HN := Lib.hid (HN.out.keep hb)); (try have HG := Lib.hid (HG.out.keep hb)); have hgeA : w10.heap.size ≤ gA := (by have := HB0.out.size; omega); have HA := Lib.hid hrow; have HB0 := Lib.hid (below_next HB0.out hb); clear hg hrow hb))
                refine hK.out _ _ HB0.out (fun _ => ?_)
                clear hK K
                try simp only [Act.put, List.setIfInBounds_toArray, List.set_cons_zero, List.set_cons_succ]
                refine wpAnyH_ready (rs := [9]) (by kernel_rfl) (by simp) ?_
                refine AllReadyH.cons (o := { dst := some 51, op := Op.call { callee := Callee.builtin Builtin.append, args := #[Operand.tmp 48, Operand.tmp 50], argTypes := #[30, 30] }, type := 30, pos := "law.go:102", after := #[{ on := 6, ground := Ground.data }, { on := 8, ground := Ground.data }, { on := 6, ground := Ground.chain }], guard := none }) rfl (fun K hK => ?_) ?_
                · rw [if_pos (by rfl)]
                  ((refine wp_dapp' rfl _ _ rfl v1 ps rfl HN.out _ _ [d] rfl (drest_one' HG.out HDL.out) HL2.out ?_; intro v2 w14 hn hk; (try have hx := hk _ _ _ HA.out hdA; have hdA := hx.2; have HA := Lib.hid hx.1; clear hx); have HN := Lib.hid hn; have HB0 := Lib.hid hn.2.1; clear hn hk))
                  refine hK.out _ _ HB0.out (fun _ => ?_)
                  clear hK K
                  try simp only [Act.put, List.setIfInBounds_toArray, List.set_cons_zero, List.set_cons_succ]
                  refine wpAnyH_ready (rs := [10]) (by kernel_rfl) (by simp) ?_
                  refine AllReadyH.cons (o := { dst := some 52, op := Op.call { callee := Callee.value (Operand.func 22), args := #[Operand.tmp 42, Operand.tmp 43, Operand.tmp 45, Operand.tmp 51], argTypes := #[26, 3, 3, 30] }, type := 39, pos := "law.go:102", after := #[{ on := 0, ground := Ground.data }, { on := 1, ground := Ground.data }, { on := 3, ground := Ground.data }, { on := 9, ground := Ground.data }, { on := 9, ground := Ground.chain }], guard := none }) rfl (fun K hK => ?_) ?_
                  · rw [if_pos (by rfl)]
                    go_simp
                    go_wp2_with ((go_at_call 22; (refine (HC2.out _ _ (dbuf_rest HN.out.1)).mono ?_); rintro e w17 ⟨rfl, hb⟩; (try have HA := Lib.hid (HA.out.keep hb)); have HB0 := Lib.hid (below_next HB0.out hb); clear hb))
                    refine hK.out _ _ HB0.out (fun _ => ?_)
                    clear hK K
                    try simp only [Act.put, List.setIfInBounds_toArray, List.set_cons_zero, List.set_cons_succ]
                    refine wpAnyH_take (i := 11) (oi := { dst := some 41, op := Op.move (Operand.tmp 52), type := 39, pos := "law.go:102", after := #[{ on := 10, ground := Ground.data }], guard := none }) (v := ?_) rfl (by kernel_rfl) (by kernel_rfl) (by kernel_rfl) (fun _ _ _ h => h) (Or.inl ⟨by rfl, ?_⟩) HB0.out ?_
                    rotate_left
                    · (intro w _; go_simp; with_reducible rfl)
                    try simp only [Act.put, List.setIfInBounds_toArray, List.set_cons_zero, List.set_cons_succ]
                    refine wpAnyH_take (i := 12) (oi := { dst := some 53, op := Op.extract (Operand.tmp 41) 0, type := 26, pos := "law.go:102", after := #[{ on := 11, ground := Ground.data }], guard := none }) (v := ?_) rfl (by kernel_rfl) (by kernel_rfl) (by kernel_rfl) (fun _ _ _ h => h) (Or.inl ⟨by rfl, ?_⟩) HB0.out ?_
                    rotate_left
                    · (intro w _; go_simp; with_reducible rfl)
                    try simp only [Act.put, List.setIfInBounds_toArray, List.set_cons_zero, List.set_cons_succ]
                    refine wpAnyH_take (i := 13) (oi := { dst := some 54, op := Op.extract (Operand.tmp 41) 1, type := 34, pos := "law.go:102", after := #[{ on := 11, ground := Ground.data }, { on := 15, ground := Ground.gcOnly Departure.lateStores }], guard := none }) (v := ?_) rfl (by kernel_rfl) (by kernel_rfl) (by kernel_rfl) (fun _ _ _ h => h) (Or.inl ⟨by rfl, ?_⟩) HB0.out ?_
                    rotate_left
                    · (intro w _; go_simp; with_reducible rfl)
                    try simp only [Act.put, List.setIfInBounds_toArray, List.set_cons_zero, List.set_cons_succ]
                    refine wpAnyH_ready (rs := [15]) (by kernel_rfl) (by simp) ?_
                    refine AllReadyH.cons (o := { dst := none, op := Op.store 26 (Operand.tmp 11) (Operand.tmp 53), type := 0, pos := "law.go:102", after := #[{ on := 14, ground := Ground.data }, { on := 12, ground := Ground.data }, { on := 10, ground := Ground.chain }, { on := 0, ground := Ground.phase }, { on := 1, ground := Ground.phase }, { on := 2, ground := Ground.phase }, { on := 3, ground := Ground.phase }, { on := 4, ground := Ground.phase }, { on := 5, ground := Ground.phase }, { on := 6, ground := Ground.phase }, { on := 7, ground := Ground.phase }, { on := 8, ground := Ground.phase }, { on := 9, ground := Ground.phase }, { on := 10, ground := Ground.phase }, { on := 11, ground := Ground.phase }, { on := 12, ground := Ground.phase }, { on := 13, ground := Ground.textOnly Departure.lateStores }, { on := 14, ground := Ground.phase }], guard := none }) rfl (fun K hK => ?_) ?_
                    · rw [if_pos (by rfl)]
                      ((refine wp_store_dig' _ _ rfl gA zd HZD.out rfl rfl HA.out HB0.out hgeA ?_; intro w16 hrow hb hoth; have HB0 := Lib.hid hb; clear hrow hb hoth))
                      refine hK.out _ _ HB0.out (fun _ => ?_)
                      clear hK K
                      try simp only [Act.put, List.setIfInBounds_toArray, List.set_cons_zero, List.set_cons_succ]
                      refine wpAnyH_take (i := 16) (oi := { dst := some 12, op := Op.assign (Operand.tmp 54), type := 34, pos := "law.go:102", after := #[{ on := 13, ground := Ground.data }, { on := 15, ground := Ground.chain }, { on := 0, ground := Ground.phase }, { on := 1, ground := Ground.phase }, { on := 2, ground := Ground.phase }, { on := 3, ground := Ground.phase }, { on := 4, ground := Ground.phase }, { on := 5, ground := Ground.phase }, { on := 6, ground := Ground.phase }, { on := 7, ground := Ground.phase }, { on := 8, ground := Ground.phase }, { on := 9, ground := Ground.phase }, { on := 10, ground := Ground.phase }, { on := 11, ground := Ground.phase }, { on := 12, ground := Ground.phase }, { on := 13, ground := Ground.phase }, { on := 14, ground := Ground.phase }, { on := 15, ground := Ground.phase }], guard := none }) (v := ?_) rfl (by kernel_rfl) (by kernel_rfl) (by kernel_rfl) (fun _ _ _ h => h) (Or.inl ⟨by rfl, ?_⟩) HB0.out ?_
                      rotate_left
                      · (intro w _; go_simp; with_reducible rfl)
                      try simp only [Act.put, List.setIfInBounds_toArray, List.set_cons_zero, List.set_cons_succ]
                      refine wpAnyH_done (by kernel_rfl) ?_ _
                      ((exact K v0 v1 v2 g gA _ HB0.out))
                    exact AllReadyH.nil
                  exact AllReadyH.nil
                exact AllReadyH.nil
              exact AllReadyH.nil
            refine AllReadyH.cons (o := { dst := some 11, op := Op.alloc 26, type := 0, pos := "law.go:102", after := #[], guard := none }) rfl (fun K hK => ?_) ?_
            · rw [if_pos (by rfl)]
              ((refine wp_alloc_dig 11 rfl rfl ?_; intro gA w15 hg hrow hb; (try have hdA := dnew_ne HN.out (Nat.le_of_eq hg.symm)); (try have HN := Lib.hid (HN.out.keep hb)); (try have HG := Lib.hid (HG.out.keep hb)); have hgeA : w10.heap.size ≤ gA := (by have := HB0.out.size; omega); have HA := Lib.hid hrow; have HB0 := Lib.hid (below_next HB0.out hb); clear hg hrow hb))
              refine hK.out _ _ HB0.out (fun _ => ?_)
              clear hK K
              try simp only [Act.put, List.setIfInBounds_toArray, List.set_cons_zero, List.set_cons_succ]
              refine wpAnyH_ready (rs := [8]) (by kernel_rfl) (by simp) ?_
              refine AllReadyH.cons (o := { dst := some 50, op := Op.buildSlice 30 1 #[(0, Operand.tmp 49)], type := 30, pos := "law.go:102", after := #[{ on := 7, ground := Ground.data }], guard := none }) rfl (fun K hK => ?_) ?_
              · rw [if_pos (by rfl)]
                ((refine wp_one' _ rfl d HDL.out rfl ?_; intro g w12 hrow hg hb; (try have hdG := dnew_ne HN.out hg); (try have HN := Lib.hid (HN.out.keep hb)); (try have HA := Lib.hid (HA.out.keep hb)); have HG := Lib.hid hrow; have HB0 := Lib.hid (below_next HB0.out hb); clear hrow hg hb))
                refine hK.out _ _ HB0.out (fun _ => ?_)
                clear hK K
                try simp only [Act.put, List.setIfInBounds_toArray, List.set_cons_zero, List.set_cons_succ]
                refine wpAnyH_ready (rs := [9]) (by kernel_rfl) (by simp) ?_
                refine AllReadyH.cons (o := { dst := some 51, op := Op.call { callee := Callee.builtin Builtin.append, args := #[Operand.tmp 48, Operand.tmp 50], argTypes := #[30, 30] }, type := 30, pos := "law.go:102", after := #[{ on := 6, ground := Ground.data }, { on := 8, ground := Ground.data }, { on := 6, ground := Ground.chain }], guard := none }) rfl (fun K hK => ?_) ?_
                · rw [if_pos (by rfl)]
                  ((refine wp_dapp' rfl _ _ rfl v1 ps rfl HN.out _ _ [d] rfl (drest_one' HG.out HDL.out) HL2.out ?_; intro v2 w14 hn hk; (try have hx := hk _ _ _ HA.out hdA; have hdA := hx.2; have HA := Lib.hid hx.1; clear hx); have HN := Lib.hid hn; have HB0 := Lib.hid hn.2.1; clear hn hk))
                  refine hK.out _ _ HB0.out (fun _ => ?_)
                  clear hK K
                  try simp only [Act.put, List.setIfInBounds_toArray, List.set_cons_zero, List.set_cons_succ]
                  refine wpAnyH_ready (rs := [10]) (by kernel_rfl) (by simp) ?_
                  refine AllReadyH.cons (o := { dst := some 52, op := Op.call { callee := Callee.value (Operand.func 22), args := #[Operand.tmp 42, Operand.tmp 43, Operand.tmp 45, Operand.tmp 51], argTypes := #[26, 3, 3, 30] }, type := 39, pos := "law.go:102", after := #[{ on := 0, ground := Ground.data }, { on := 1, ground := Ground.data }, { on := 3, ground := Ground.data }, { on := 9, ground := Ground.data }, { on := 9, ground := Ground.chain }], guard := none }) rfl (fun K hK => ?_) ?_
                  · rw [if_pos (by rfl)]
                    go_simp
                    go_wp2_with ((go_at_call 22; (refine (HC2.out _ _ (dbuf_rest HN.out.1)).mono ?_); rintro e w17 ⟨rfl, hb⟩; (try have HA := Lib.hid (HA.out.keep hb)); have HB0 := Lib.hid (below_next HB0.out hb); clear hb))
                    refine hK.out _ _ HB0.out (fun _ => ?_)
                    clear hK K
                    try simp only [Act.put, List.setIfInBounds_toArray, List.set_cons_zero, List.set_cons_succ]
                    refine wpAnyH_take (i := 11) (oi := { dst := some 41, op := Op.move (Operand.tmp 52), type := 39, pos := "law.go:102", after := #[{ on := 10, ground := Ground.data }], guard := none }) (v := ?_) rfl (by kernel_rfl) (by kernel_rfl) (by kernel_rfl) (fun _ _ _ h => h) (Or.inl ⟨by rfl, ?_⟩) HB0.out ?_
                    rotate_left
                    · (intro w _; go_simp; with_reducible rfl)
                    try simp only [Act.put, List.setIfInBounds_toArray, List.set_cons_zero, List.set_cons_succ]
                    refine wpAnyH_take (i := 12) (oi := { dst := some 53, op := Op.extract (Operand.tmp 41) 0, type := 26, pos := "law.go:102", after := #[{ on := 11, ground := Ground.data }], guard := none }) (v := ?_) rfl (by kernel_rfl) (by kernel_rfl) (by kernel_rfl) (fun _ _ _ h => h) (Or.inl ⟨by rfl, ?_⟩) HB0.out ?_
                    rotate_left
                    · (intro w _; go_simp; with_reducible rfl)
                    try simp only [Act.put, List.setIfInBounds_toArray, List.set_cons_zero, List.set_cons_succ]
                    refine wpAnyH_take (i := 13) (oi := { dst := some 54, op := Op.extract (Operand.tmp 41) 1, type := 34, pos := "law.go:102", after := #[{ on := 11, ground := Ground.data }, { on := 15, ground := Ground.gcOnly Departure.lateStores }], guard := none }) (v := ?_) rfl (by kernel_rfl) (by kernel_rfl) (by kernel_rfl) (fun _ _ _ h => h) (Or.inl ⟨by rfl, ?_⟩) HB0.out ?_
                    rotate_left
                    · (intro w _; go_simp; with_reducible rfl)
                    try simp only [Act.put, List.setIfInBounds_toArray, List.set_cons_zero, List.set_cons_succ]
                    refine wpAnyH_ready (rs := [15]) (by kernel_rfl) (by simp) ?_
                    refine AllReadyH.cons (o := { dst := none, op := Op.store 26 (Operand.tmp 11) (Operand.tmp 53), type := 0, pos := "law.go:102", after := #[{ on := 14, ground := Ground.data }, { on := 12, ground := Ground.data }, { on := 10, ground := Ground.chain }, { on := 0, ground := Ground.phase }, { on := 1, ground := Ground.phase }, { on := 2, ground := Ground.phase }, { on := 3, ground := Ground.phase }, { on := 4, ground := Ground.phase }, { on := 5, ground := Ground.phase }, { on := 6, ground := Ground.phase }, { on := 7, ground := Ground.phase }, { on := 8, ground := Ground.phase }, { on := 9, ground := Ground.phase }, { on := 10, ground := Ground.phase }, { on := 11, ground := Ground.phase }, { on := 12, ground := Ground.phase }, { on := 13, ground := Ground.textOnly Departure.lateStores }, { on := 14, ground := Ground.phase }], guard := none }) rfl (fun K hK => ?_) ?_
                    · rw [if_pos (by rfl)]
                      ((refine wp_store_dig' _ _ rfl gA zd HZD.out rfl rfl HA.out HB0.out hgeA ?_; intro w16 hrow hb hoth; have HB0 := Lib.hid hb; clear hrow hb hoth))
                      refine hK.out _ _ HB0.out (fun _ => ?_)
                      clear hK K
                      try simp only [Act.put, List.setIfInBounds_toArray, List.set_cons_zero, List.set_cons_succ]
                      refine wpAnyH_take (i := 16) (oi := { dst := some 12, op := Op.assign (Operand.tmp 54), type := 34, pos := "law.go:102", after := #[{ on := 13, ground := Ground.data }, { on := 15, ground := Ground.chain }, { on := 0, ground := Ground.phase }, { on := 1, ground := Ground.phase }, { on := 2, ground := Ground.phase }, { on := 3, ground := Ground.phase }, { on := 4, ground := Ground.phase }, { on := 5, ground := Ground.phase }, { on := 6, ground := Ground.phase }, { on := 7, ground := Ground.phase }, { on := 8, ground := Ground.phase }, { on := 9, ground := Ground.phase }, { on := 10, ground := Ground.phase }, { on := 11, ground := Ground.phase }, { on := 12, ground := Ground.phase }, { on := 13, ground := Ground.phase }, { on := 14, ground := Ground.phase }, { on := 15, ground := Ground.phase }], guard := none }) (v := ?_) rfl (by kernel_rfl) (by kernel_rfl) (by kernel_rfl) (fun _ _ _ h => h) (Or.inl ⟨by rfl, ?_⟩) HB0.out ?_
                      rotate_left
                      · (intro w _; go_simp; with_reducible rfl)
                      try simp only [Act.put, List.setIfInBounds_toArray, List.set_cons_zero, List.set_cons_succ]
                      refine wpAnyH_done (by kernel_rfl) ?_ _
                      ((exact K v0 v1 v2 g gA _ HB0.out))
                    exact AllReadyH.nil
                  exact AllReadyH.nil
                exact AllReadyH.nil
              exact AllReadyH.nil
            exact AllReadyH.nil
          refine AllReadyH.cons (o := { dst := some 50, op := Op.buildSlice 30 1 #[(0, Operand.tmp 49)], type := 30, pos := "law.go:102", after := #[{ on := 7, ground := Ground.data }], guard := none }) rfl (fun K hK => ?_) ?_
          · rw [if_pos (by rfl)]
            ((refine wp_one' _ rfl d HDL.out rfl ?_; intro g w12 hrow hg hb; (try have hdG := dnew_ne HN.out hg); (try have HN := Lib.hid (HN.out.keep hb)); (try have HA := Lib.hid (HA.out.keep hb)); have HG := Lib.hid hrow; have HB0 := Lib.hid (below_next HB0.out hb); clear hrow hg hb))
            refine hK.out _ _ HB0.out (fun _ => ?_)
            clear hK K
            try simp only [Act.put, List.setIfInBounds_toArray, List.set_cons_zero, List.set_cons_succ]
            refine wpAnyH_ready (rs := [6, 14]) (by kernel_rfl) (by simp) ?_
            refine AllReadyH.cons (o := { dst := some 48, op := Op.call { callee := Callee.builtin Builtin.append, args := #[Operand.tmp 46, Operand.tmp 47], argTypes := #[30, 30] }, type := 30, pos := "law.go:102", after := #[{ on := 4, ground := Ground.data }, { on := 5, ground := Ground.data }], guard := none }) rfl (fun K hK => ?_) ?_
            · rw [if_pos (by rfl)]
              ((refine wp_dapp' rfl _ _ rfl v0 [] rfl HN.out _ _ ps rfl (HPS.out _ HB0.out) HL1.out ?_; intro v1 w13 hn hk; (try have hx := hk _ _ _ HG.out hdG; have hdG := hx.2; have HG := Lib.hid hx.1; clear hx); (try have hx := hk _ _ _ HA.out hdA; have hdA := hx.2; have HA := Lib.hid hx.1; clear hx); have HN : Hid (DNew w10 w13 v1 ps) := hn; have HB0 := Lib.hid hn.2.1; clear hn hk))
              refine hK.out _ _ HB0.out (fun _ => ?_)
              clear hK K
              try simp only [Act.put, List.setIfInBounds_toArray, List.set_cons_zero, List.set_cons_succ]
              refine wpAnyH_ready (rs := [9, 14]) (by kernel_rfl) (by simp) ?_
              refine AllReadyH.cons (o := { dst := some 51, op := Op.call { callee := Callee.builtin Builtin.append, args := #[Operand.tmp 48, Operand.tmp 50], argTypes := #[30, 30] }, type := 30, pos := "law.go:102", after := #[{ on := 6, ground := Ground.data }, { on := 8, ground := Ground.data }, { on := 6, ground := Ground.chain }], guard := none }) rfl (fun K hK => ?_) ?_
              · rw [if_pos (by rfl)]
                ((refine wp_dapp' rfl _ _ rfl v1 ps rfl HN.out _ _ [d] rfl (drest_one' HG.out HDL.out) HL2.out ?_; intro v2 w14 hn hk; (try have hx := hk _ _ _ HA.out hdA; have hdA := hx.2; have HA := Lib.hid hx.1; clear hx); have HN := Lib.hid hn; have HB0 := Lib.hid hn.2.1; clear hn hk))
                refine hK.out _ _ HB0.out (fun _ => ?_)
                clear hK K
                try simp only [Act.put, List.setIfInBounds_toArray, List.set_cons_zero, List.set_cons_succ]
                refine wpAnyH_ready (rs := [10, 14]) (by kernel_rfl) (by simp) ?_
                refine AllReadyH.cons (o := { dst := some 52, op := Op.call { callee := Callee.value (Operand.func 22), args := #[Operand.tmp 42, Operand.tmp 43, Operand.tmp 45, Operand.tmp 51], argTypes := #[26, 3, 3, 30] }, type := 39, pos := "law.go:102", after := #[{ on := 0, ground := Ground.data }, { on := 1, ground := Ground.data }, { on := 3, ground := Ground.data }, { on := 9, ground := Ground.data }, { on := 9, ground := Ground.chain }], guard := none }) rfl (fun K hK => ?_) ?_
                · rw [if_pos (by rfl)]
                  go_simp
                  go_wp2_with ((go_at_call 22; (refine (HC2.out _ _ (dbuf_rest HN.out.1)).mono ?_); rintro e w17 ⟨rfl, hb⟩; (try have HA := Lib.hid (HA.out.keep hb)); have HB0 := Lib.hid (below_next HB0.out hb); clear hb))
                  refine hK.out _ _ HB0.out (fun _ => ?_)
                  clear hK K
                  try simp only [Act.put, List.setIfInBounds_toArray, List.set_cons_zero, List.set_cons_succ]
                  refine wpAnyH_take (i := 11) (oi := { dst := some 41, op := Op.move (Operand.tmp 52), type := 39, pos := "law.go:102", after := #[{ on := 10, ground := Ground.data }], guard := none }) (v := ?_) rfl (by kernel_rfl) (by kernel_rfl) (by kernel_rfl) (fun _ _ _ h => h) (Or.inl ⟨by rfl, ?_⟩) HB0.out ?_
                  rotate_left
                  · (intro w _; go_simp; with_reducible rfl)
                  try simp only [Act.put, List.setIfInBounds_toArray, List.set_cons_zero, List.set_cons_succ]
                  refine wpAnyH_take (i := 12) (oi := { dst := some 53, op := Op.extract (Operand.tmp 41) 0, type := 26, pos := "law.go:102", after := #[{ on := 11, ground := Ground.data }], guard := none }) (v := ?_) rfl (by kernel_rfl) (by kernel_rfl) (by kernel_rfl) (fun _ _ _ h => h) (Or.inl ⟨by rfl, ?_⟩) HB0.out ?_
                  rotate_left
                  · (intro w _; go_simp; with_reducible rfl)
                  try simp only [Act.put, List.setIfInBounds_toArray, List.set_cons_zero, List.set_cons_succ]
                  refine wpAnyH_take (i := 13) (oi := { dst := some 54, op := Op.extract (Operand.tmp 41) 1, type := 34, pos := "law.go:102", after := #[{ on := 11, ground := Ground.data }, { on := 15, ground := Ground.gcOnly Departure.lateStores }], guard := none }) (v := ?_) rfl (by kernel_rfl) (by kernel_rfl) (by kernel_rfl) (fun _ _ _ h => h) (Or.inl ⟨by rfl, ?_⟩) HB0.out ?_
                  rotate_left
                  · (intro w _; go_simp; with_reducible rfl)
                  try simp only [Act.put, List.setIfInBounds_toArray, List.set_cons_zero, List.set_cons_succ]
                  refine wpAnyH_ready (rs := [14]) (by kernel_rfl) (by simp) ?_
                  refine AllReadyH.cons (o := { dst := some 11, op := Op.alloc 26, type := 0, pos := "law.go:102", after := #[], guard := none }) rfl (fun K hK => ?_) ?_
                  · rw [if_pos (by rfl)]
                    ((refine wp_alloc_dig 11 rfl rfl ?_; intro gA w15 hg hrow hb; (try have hdA := dnew_ne HN.out (Nat.le_of_eq hg.symm)); (try have HN := Lib.hid (HN.out.keep hb)); (try have HG := Lib.hid (HG.out.keep hb)); have hgeA : w10.heap.size ≤ gA := (by have := HB0.out.size; omega); have HA := Lib.hid hrow; have HB0 := Lib.hid (below_next HB0.out hb); clear hg hrow hb))
                    refine hK.out _ _ HB0.out (fun _ => ?_)
                    clear hK K
                    try simp only [Act.put, List.setIfInBounds_toArray, List.set_cons_zero, List.set_cons_succ]
                    refine wpAnyH_ready (rs := [15]) (by kernel_rfl) (by simp) ?_
                    refine AllReadyH.cons (o := { dst := none, op := Op.store 26 (Operand.tmp 11) (Operand.tmp 53), type := 0, pos := "law.go:102", after := #[{ on := 14, ground := Ground.data }, { on := 12, ground := Ground.data }, { on := 10, ground := Ground.chain }, { on := 0, ground := Ground.phase }, { on := 1, ground := Ground.phase }, { on := 2, ground := Ground.phase }, { on := 3, ground := Ground.phase }, { on := 4, ground := Ground.phase }, { on := 5, ground := Ground.phase }, { on := 6, ground := Ground.phase }, { on := 7, ground := Ground.phase }, { on := 8, ground := Ground.phase }, { on := 9, ground := Ground.phase }, { on := 10, ground := Ground.phase }, { on := 11, ground := Ground.phase }, { on := 12, ground := Ground.phase }, { on := 13, ground := Ground.textOnly Departure.lateStores }, { on := 14, ground := Ground.phase }], guard := none }) rfl (fun K hK => ?_) ?_
                    · rw [if_pos (by rfl)]
                      ((refine wp_store_dig' _ _ rfl gA zd HZD.out rfl rfl HA.out HB0.out hgeA ?_; intro w16 hrow hb hoth; have HB0 := Lib.hid hb; clear hrow hb hoth))
                      refine hK.out _ _ HB0.out (fun _ => ?_)
                      clear hK K
                      try simp only [Act.put, List.setIfInBounds_toArray, List.set_cons_zero, List.set_cons_succ]
                      refine wpAnyH_take (i := 16) (oi := { dst := some 12, op := Op.assign (Operand.tmp 54), type := 34, pos := "law.go:102", after := #[{ on := 13, ground := Ground.data }, { on := 15, ground := Ground.chain }, { on := 0, ground := Ground.phase }, { on := 1, ground := Ground.phase }, { on := 2, ground := Ground.phase }, { on := 3, ground := Ground.phase }, { on := 4, ground := Ground.phase }, { on := 5, ground := Ground.phase }, { on := 6, ground := Ground.phase }, { on := 7, ground := Ground.phase }, { on := 8, ground := Ground.phase }, { on := 9, ground := Ground.phase }, { on := 10, ground := Ground.phase }, { on := 11, ground := Ground.phase }, { on := 12, ground := Ground.phase }, { on := 13, ground := Ground.phase }, { on := 14, ground := Ground.phase }, { on := 15, ground := Ground.phase }], guard := none }) (v := ?_) rfl (by kernel_rfl) (by kernel_rfl) (by kernel_rfl) (fun _ _ _ h => h) (Or.inl ⟨by rfl, ?_⟩) HB0.out ?_
                      rotate_left
                      · (intro w _; go_simp; with_reducible rfl)
                      try simp only [Act.put, List.setIfInBounds_toArray, List.set_cons_zero, List.set_cons_succ]
                      refine wpAnyH_done (by kernel_rfl) ?_ _
                      ((exact K v0 v1 v2 g gA _ HB0.out))
                    exact AllReadyH.nil
                  exact AllReadyH.nil
                refine AllReadyH.cons (o := { dst := some 11, op := Op.alloc 26, type := 0, pos := "law.go:102", after := #[], guard := none }) rfl (fun K hK => ?_) ?_
                · rw [if_pos (by rfl)]
                  ((refine wp_alloc_dig 11 rfl rfl ?_; intro gA w15 hg hrow hb; (try have hdA := dnew_ne HN.out (Nat.le_of_eq hg.symm)); (try have HN := Lib.hid (HN.out.keep hb)); (try have HG := Lib.hid (HG.out.keep hb)); have hgeA : w10.heap.size ≤ gA := (by have := HB0.out.size; omega); have HA := Lib.hid hrow; have HB0 := Lib.hid (below_next HB0.out hb); clear hg hrow hb))
                  refine hK.out _ _ HB0.out (fun _ => ?_)
                  clear hK K
                  try simp only [Act.put, List.setIfInBounds_toArray, List.set_cons_zero, List.set_cons_succ]
                  refine wpAnyH_ready (rs := [10]) (by kernel_rfl) (by simp) ?_
                  refine AllReadyH.cons (o := { dst := some 52, op := Op.call { callee := Callee.value (Operand.func 22), args := #[Operand.tmp 42, Operand.tmp 43, Operand.tmp 45, Operand.tmp 51], argTypes := #[26, 3, 3, 30] }, type := 39, pos := "law.go:102", after := #[{ on := 0, ground := Ground.data }, { on := 1, ground := Ground.data }, { on := 3, ground := Ground.data }, { on := 9, ground := Ground.data }, { on := 9, ground := Ground.chain }], guard := none }) rfl (fun K hK => ?_) ?_
                  · rw [if_pos (by rfl)]
                    go_simp
                    go_wp2_with ((go_at_call 22; (refine (HC2.out _ _ (dbuf_rest HN.out.1)).mono ?_); rintro e w17 ⟨rfl, hb⟩; (try have HA := Lib.hid (HA.out.keep hb)); have HB0 := Lib.hid (below_next HB0.out hb); clear hb))
                    refine hK.out _ _ HB0.out (fun _ => ?_)
                    clear hK K
                    try simp only [Act.put, List.setIfInBounds_toArray, List.set_cons_zero, List.set_cons_succ]
                    refine wpAnyH_take (i := 11) (oi := { dst := some 41, op := Op.move (Operand.tmp 52), type := 39, pos := "law.go:102", after := #[{ on := 10, ground := Ground.data }], guard := none }) (v := ?_) rfl (by kernel_rfl) (by kernel_rfl) (by kernel_rfl) (fun _ _ _ h => h) (Or.inl ⟨by rfl, ?_⟩) HB0.out ?_
                    rotate_left
                    · (intro w _; go_simp; with_reducible rfl)
                    try simp only [Act.put, List.setIfInBounds_toArray, List.set_cons_zero, List.set_cons_succ]
                    refine wpAnyH_take (i := 12) (oi := { dst := some 53, op := Op.extract (Operand.tmp 41) 0, type := 26, pos := "law.go:102", after := #[{ on := 11, ground := Ground.data }], guard := none }) (v := ?_) rfl (by kernel_rfl) (by kernel_rfl) (by kernel_rfl) (fun _ _ _ h => h) (Or.inl ⟨by rfl, ?_⟩) HB0.out ?_
                    rotate_left
                    · (intro w _; go_simp; with_reducible rfl)
                    try simp only [Act.put, List.setIfInBounds_toArray, List.set_cons_zero, List.set_cons_succ]
                    refine wpAnyH_take (i := 13) (oi := { dst := some 54, op := Op.extract (Operand.tmp 41) 1, type := 34, pos := "law.go:102", after := #[{ on := 11, ground := Ground.data }, { on := 15, ground := Ground.gcOnly Departure.lateStores }], guard := none }) (v := ?_) rfl (by kernel_rfl) (by kernel_rfl) (by kernel_rfl) (fun _ _ _ h => h) (Or.inl ⟨by rfl, ?_⟩) HB0.out ?_
                    rotate_left
                    · (intro w _; go_simp; with_reducible rfl)
                    try simp only [Act.put, List.setIfInBounds_toArray, List.set_cons_zero, List.set_cons_succ]
                    refine wpAnyH_ready (rs := [15]) (by kernel_rfl) (by simp) ?_
                    refine AllReadyH.cons (o := { dst := none, op := Op.store 26 (Operand.tmp 11) (Operand.tmp 53), type := 0, pos := "law.go:102", after := #[{ on := 14, ground := Ground.data }, { on := 12, ground := Ground.data }, { on := 10, ground := Ground.chain }, { on := 0, ground := Ground.phase }, { on := 1, ground := Ground.phase }, { on := 2, ground := Ground.phase }, { on := 3, ground := Ground.phase }, { on := 4, ground := Ground.phase }, { on := 5, ground := Ground.phase }, { on := 6, ground := Ground.phase }, { on := 7, ground := Ground.phase }, { on := 8, ground := Ground.phase }, { on := 9, ground := Ground.phase }, { on := 10, ground := Ground.phase }, { on := 11, ground := Ground.phase }, { on := 12, ground := Ground.phase }, { on := 13, ground := Ground.textOnly Departure.lateStores }, { on := 14, ground := Ground.phase }], guard := none }) rfl (fun K hK => ?_) ?_
                    · rw [if_pos (by rfl)]
                      ((refine wp_store_dig' _ _ rfl gA zd HZD.out rfl rfl HA.out HB0.out hgeA ?_; intro w16 hrow hb hoth; have HB0 := Lib.hid hb; clear hrow hb hoth))
                      refine hK.out _ _ HB0.out (fun _ => ?_)
                      clear hK K
                      try simp only [Act.put, List.setIfInBounds_toArray, List.set_cons_zero, List.set_cons_succ]
                      refine wpAnyH_take (i := 16) (oi := { dst := some 12, op := Op.assign (Operand.tmp 54), type := 34, pos := "law.go:102", after := #[{ on := 13, ground := Ground.data }, { on := 15, ground := Ground.chain }, { on := 0, ground := Ground.phase }, { on := 1, ground := Ground.phase }, { on := 2, ground := Ground.phase }, { on := 3, ground := Ground.phase }, { on := 4, ground := Ground.phase }, { on := 5, ground := Ground.phase }, { on := 6, ground := Ground.phase }, { on := 7, ground := Ground.phase }, { on := 8, ground := Ground.phase }, { on := 9, ground := Ground.phase }, { on := 10, ground := Ground.phase }, { on := 11, ground := Ground.phase }, { on := 12, ground := Ground.phase }, { on := 13, ground := Ground.phase }, { on := 14, ground := Ground.phase }, { on := 15, ground := Ground.phase }], guard := none }) (v := ?_) rfl (by kernel_rfl) (by kernel_rfl) (by kernel_rfl) (fun _ _ _ h => h) (Or.inl ⟨by rfl, ?_⟩) HB0.out ?_
                      rotate_left
                      · (intro w _; go_simp; with_reducible rfl)
                      try simp only [Act.put, List.setIfInBounds_toArray, List.set_cons_zero, List.set_cons_succ]
                      refine wpAnyH_done (by kernel_rfl) ?_ _
                      ((exact K v0 v1 v2 g gA _ HB0.out))
                    exact AllReadyH.nil
                  exact AllReadyH.nil
                exact AllReadyH.nil
              refine AllReadyH.cons (o := { dst := some 11, op := Op.alloc 26, type := 0, pos := "law.go:102", after := #[], guard := none }) rfl (fun K hK => ?_) ?_
              · rw [if_pos (by rfl)]
                ((refine wp_alloc_dig 11 rfl rfl ?_; intro gA w15 hg hrow hb; (try have hdA := dnew_ne HN.out (Nat.le_of_eq hg.symm)); (try have HN := Lib.hid (HN.out.keep hb)); (try have HG := Lib.hid (HG.out.keep hb)); have hgeA : w10.heap.size ≤ gA := (by have := HB0.out.size; omega); have HA := Lib.hid hrow; have HB0 := Lib.hid (below_next HB0.out hb); clear hg hrow hb))
                refine hK.out _ _ HB0.out (fun _ => ?_)
                clear hK K
                try simp only [Act.put, List.setIfInBounds_toArray, List.set_cons_zero, List.set_cons_succ]
                refine wpAnyH_ready (rs := [9]) (by kernel_rfl) (by simp) ?_
                refine AllReadyH.cons (o := { dst := some 51, op := Op.call { callee := Callee.builtin Builtin.append, args := #[Operand.tmp 48, Operand.tmp 50], argTypes := #[30, 30] }, type := 30, pos := "law.go:102", after := #[{ on := 6, ground := Ground.data }, { on := 8, ground := Ground.data }, { on := 6, ground := Ground.chain }], guard := none }) rfl (fun K hK => ?_) ?_
                · rw [if_pos (by rfl)]
                  ((refine wp_dapp' rfl _ _ rfl v1 ps rfl HN.out _ _ [d] rfl (drest_one' HG.out HDL.out) HL2.out ?_; intro v2 w14 hn hk; (try have hx := hk _ _ _ HA.out hdA; have hdA := hx.2; have HA := Lib.hid hx.1; clear hx); have HN := Lib.hid hn; have HB0 := Lib.hid hn.2.1; clear hn hk))
                  refine hK.out _ _ HB0.out (fun _ => ?_)
                  clear hK K
                  try simp only [Act.put, List.setIfInBounds_toArray, List.set_cons_zero, List.set_cons_succ]
                  refine wpAnyH_ready (rs := [10]) (by kernel_rfl) (by simp) ?_
                  refine AllReadyH.cons (o := { dst := some 52, op := Op.call { callee := Callee.value (Operand.func 22), args := #[Operand.tmp 42, Operand.tmp 43, Operand.tmp 45, Operand.tmp 51], argTypes := #[26, 3, 3, 30] }, type := 39, pos := "law.go:102", after := #[{ on := 0, ground := Ground.data }, { on := 1, ground := Ground.data }, { on := 3, ground := Ground.data }, { on := 9, ground := Ground.data }, { on := 9, ground := Ground.chain }], guard := none }) rfl (fun K hK => ?_) ?_
                  · rw [if_pos (by rfl)]
                    go_simp
                    go_wp2_with ((go_at_call 22; (refine (HC2.out _ _ (dbuf_rest HN.out.1)).mono ?_); rintro e w17 ⟨rfl, hb⟩; (try have HA := Lib.hid (HA.out.keep hb)); have HB0 := Lib.hid (below_next HB0.out hb); clear hb))
                    refine hK.out _ _ HB0.out (fun _ => ?_)
                    clear hK K
                    try simp only [Act.put, List.setIfInBounds_toArray, List.set_cons_zero, List.set_cons_succ]
                    refine wpAnyH_take (i := 11) (oi := { dst := some 41, op := Op.move (Operand.tmp 52), type := 39, pos := "law.go:102", after := #[{ on := 10, ground := Ground.data }], guard := none }) (v := ?_) rfl (by kernel_rfl) (by kernel_rfl) (by kernel_rfl) (fun _ _ _ h => h) (Or.inl ⟨by rfl, ?_⟩) HB0.out ?_
                    rotate_left
                    · (intro w _; go_simp; with_reducible rfl)
                    try simp only [Act.put, List.setIfInBounds_toArray, List.set_cons_zero, List.set_cons_succ]
                    refine wpAnyH_take (i := 12) (oi := { dst := some 53, op := Op.extract (Operand.tmp 41) 0, type := 26, pos := "law.go:102", after := #[{ on := 11, ground := Ground.data }], guard := none }) (v := ?_) rfl (by kernel_rfl) (by kernel_rfl) (by kernel_rfl) (fun _ _ _ h => h) (Or.inl ⟨by rfl, ?_⟩) HB0.out ?_
                    rotate_left
                    · (intro w _; go_simp; with_reducible rfl)
                    try simp only [Act.put, List.setIfInBounds_toArray, List.set_cons_zero, List.set_cons_succ]
                    refine wpAnyH_take (i := 13) (oi := { dst := some 54, op := Op.extract (Operand.tmp 41) 1, type := 34, pos := "law.go:102", after := #[{ on := 11, ground := Ground.data }, { on := 15, ground := Ground.gcOnly Departure.lateStores }], guard := none }) (v := ?_) rfl (by kernel_rfl) (by kernel_rfl) (by kernel_rfl) (fun _ _ _ h => h) (Or.inl ⟨by rfl, ?_⟩) HB0.out ?_
                    rotate_left
                    · (intro w _; go_simp; with_reducible rfl)
                    try simp only [Act.put, List.setIfInBounds_toArray, List.set_cons_zero, List.set_cons_succ]
                    refine wpAnyH_ready (rs := [15]) (by kernel_rfl) (by simp) ?_
                    refine AllReadyH.cons (o := { dst := none, op := Op.store 26 (Operand.tmp 11) (Operand.tmp 53), type := 0, pos := "law.go:102", after := #[{ on := 14, ground := Ground.data }, { on := 12, ground := Ground.data }, { on := 10, ground := Ground.chain }, { on := 0, ground := Ground.phase }, { on := 1, ground := Ground.phase }, { on := 2, ground := Ground.phase }, { on := 3, ground := Ground.phase }, { on := 4, ground := Ground.phase }, { on := 5, ground := Ground.phase }, { on := 6, ground := Ground.phase }, { on := 7, ground := Ground.phase }, { on := 8, ground := Ground.phase }, { on := 9, ground := Ground.phase }, { on := 10, ground := Ground.phase }, { on := 11, ground := Ground.phase }, { on := 12, ground := Ground.phase }, { on := 13, ground := Ground.textOnly Departure.lateStores }, { on := 14, ground := Ground.phase }], guard := none }) rfl (fun K hK => ?_) ?_
                    · rw [if_pos (by rfl)]
                      ((refine wp_store_dig' _ _ rfl gA zd HZD.out rfl rfl HA.out HB0.out hgeA ?_; intro w16 hrow hb hoth; have HB0 := Lib.hid hb; clear hrow hb hoth))
                      refine hK.out _ _ HB0.out (fun _ => ?_)
                      clear hK K
                      try simp only [Act.put, List.setIfInBounds_toArray, List.set_cons_zero, List.set_cons_succ]
                      refine wpAnyH_take (i := 16) (oi := { dst := some 12, op := Op.assign (Operand.tmp 54), type := 34, pos := "law.go:102", after := #[{ on := 13, ground := Ground.data }, { on := 15, ground := Ground.chain }, { on := 0, ground := Ground.phase }, { on := 1, ground := Ground.phase }, { on := 2, ground := Ground.phase }, { on := 3, ground := Ground.phase }, { on := 4, ground := Ground.phase }, { on := 5, ground := Ground.phase }, { on := 6, ground := Ground.phase }, { on := 7, ground := Ground.phase }, { on := 8, ground := Ground.phase }, { on := 9, ground := Ground.phase }, { on := 10, ground := Ground.phase }, { on := 11, ground := Ground.phase }, { on := 12, ground := Ground.phase }, { on := 13, ground := Ground.phase }, { on := 14, ground := Ground.phase }, { on := 15, ground := Ground.phase }], guard := none }) (v := ?_) rfl (by kernel_rfl) (by kernel_rfl) (by kernel_rfl) (fun _ _ _ h => h) (Or.inl ⟨by rfl, ?_⟩) HB0.out ?_
                      rotate_left
                      · (intro w _; go_simp; with_reducible rfl)
                      try simp only [Act.put, List.setIfInBounds_toArray, List.set_cons_zero, List.set_cons_succ]
                      refine wpAnyH_done (by kernel_rfl) ?_ _
                      ((exact K v0 v1 v2 g gA _ HB0.out))
                    exact AllReadyH.nil
                  exact AllReadyH.nil
                exact AllReadyH.nil
              exact AllReadyH.nil
            refine AllReadyH.cons (o := { dst := some 11, op := Op.alloc 26, type := 0, pos := "law.go:102", after := #[], guard := none }) rfl (fun K hK => ?_) ?_
            · rw [if_pos (by rfl)]
              ((refine wp_alloc_dig 11 rfl rfl ?_; intro gA w15 hg hrow hb; (try have hdA := dnew_ne HN.out (Nat.le_of_eq hg.symm)); (try have HN := Lib.hid (HN.out.keep hb)); (try have HG := Lib.hid (HG.out.keep hb)); have hgeA : w10.heap.size ≤ gA := (by have := HB0.out.size; omega); have HA := Lib.hid hrow; have HB0 := Lib.hid (below_next HB0.out hb); clear hg hrow hb))
              refine hK.out _ _ HB0.out (fun _ => ?_)
              clear hK K
              try simp only [Act.put, List.setIfInBounds_toArray, List.set_cons_zero, List.set_cons_succ]
              refine wpAnyH_ready (rs := [6]) (by kernel_rfl) (by simp) ?_
              refine AllReadyH.cons (o := { dst := some 48, op := Op.call { callee := Callee.builtin Builtin.append, args := #[Operand.tmp 46, Operand.tmp 47], argTypes := #[30, 30] }, type := 30, pos := "law.go:102", after := #[{ on := 4, ground := Ground.data }, { on := 5, ground := Ground.data }], guard := none }) rfl (fun K hK => ?_) ?_
              · rw [if_pos (by rfl)]
                ((refine wp_dapp' rfl _ _ rfl v0 [] rfl HN.out _ _ ps rfl (HPS.out _ HB0.out) HL1.out ?_; intro v1 w13 hn hk; (try have hx := hk _ _ _ HG.out hdG; have hdG := hx.2; have HG := Lib.hid hx.1; clear hx); (try have hx := hk _ _ _ HA.out hdA; have hdA := hx.2; have HA := Lib.hid hx.1; clear hx); have HN : Hid (DNew w10 w13 v1 ps) := hn; have HB0 := Lib.hid hn.2.1; clear hn hk))
                refine hK.out _ _ HB0.out (fun _ => ?_)
                clear hK K
                try simp only [Act.put, List.setIfInBounds_toArray, List.set_cons_zero, List.set_cons_succ]
                refine wpAnyH_ready (rs := [9]) (by kernel_rfl) (by simp) ?_
                refine AllReadyH.cons (o := { dst := some 51, op := Op.call { callee := Callee.builtin Builtin.append, args := #[Operand.tmp 48, Operand.tmp 50], argTypes := #[30, 30] }, type := 30, pos := "law.go:102", after := #[{ on := 6, ground := Ground.data }, { on := 8, ground := Ground.data }, { on := 6, ground := Ground.chain }], guard := none }) rfl (fun K hK => ?_) ?_
                · rw [if_pos (by rfl)]
                  ((refine wp_dapp' rfl _ _ rfl v1 ps rfl HN.out _ _ [d] rfl (drest_one' HG.out HDL.out) HL2.out ?_; intro v2 w14 hn hk; (try have hx := hk _ _ _ HA.out hdA; have hdA := hx.2; have HA := Lib.hid hx.1; clear hx); have HN := Lib.hid hn; have HB0 := Lib.hid hn.2.1; clear hn hk))
                  refine hK.out _ _ HB0.out (fun _ => ?_)
                  clear hK K
                  try simp only [Act.put, List.setIfInBounds_toArray, List.set_cons_zero, List.set_cons_succ]
                  refine wpAnyH_ready (rs := [10]) (by kernel_rfl) (by simp) ?_
                  refine AllReadyH.cons (o := { dst := some 52, op := Op.call { callee := Callee.value (Operand.func 22), args := #[Operand.tmp 42, Operand.tmp 43, Operand.tmp 45, Operand.tmp 51], argTypes := #[26, 3, 3, 30] }, type := 39, pos := "law.go:102", after := #[{ on := 0, ground := Ground.data }, { on := 1, ground := Ground.data }, { on := 3, ground := Ground.data }, { on := 9, ground := Ground.data }, { on := 9, ground := Ground.chain }], guard := none }) rfl (fun K hK => ?_) ?_
                  · rw [if_pos (by rfl)]
                    go_simp
                    go_wp2_with ((go_at_call 22; (refine (HC2.out _ _ (dbuf_rest HN.out.1)).mono ?_); rintro e w17 ⟨rfl, hb⟩; (try have HA := Lib.hid (HA.out.keep hb)); have HB0 := Lib.hid (below_next HB0.out hb); clear hb))
                    refine hK.out _ _ HB0.out (fun _ => ?_)
                    clear hK K
                    try simp only [Act.put, List.setIfInBounds_toArray, List.set_cons_zero, List.set_cons_succ]
                    refine wpAnyH_take (i := 11) (oi := { dst := some 41, op := Op.move (Operand.tmp 52), type := 39, pos := "law.go:102", after := #[{ on := 10, ground := Ground.data }], guard := none }) (v := ?_) rfl (by kernel_rfl) (by kernel_rfl) (by kernel_rfl) (fun _ _ _ h => h) (Or.inl ⟨by rfl, ?_⟩) HB0.out ?_
                    rotate_left
                    · (intro w _; go_simp; with_reducible rfl)
                    try simp only [Act.put, List.setIfInBounds_toArray, List.set_cons_zero, List.set_cons_succ]
                    refine wpAnyH_take (i := 12) (oi := { dst := some 53, op := Op.extract (Operand.tmp 41) 0, type := 26, pos := "law.go:102", after := #[{ on := 11, ground := Ground.data }], guard := none }) (v := ?_) rfl (by kernel_rfl) (by kernel_rfl) (by kernel_rfl) (fun _ _ _ h => h) (Or.inl ⟨by rfl, ?_⟩) HB0.out ?_
                    rotate_left
                    · (intro w _; go_simp; with_reducible rfl)
                    try simp only [Act.put, List.setIfInBounds_toArray, List.set_cons_zero, List.set_cons_succ]
                    refine wpAnyH_take (i := 13) (oi := { dst := some 54, op := Op.extract (Operand.tmp 41) 1, type := 34, pos := "law.go:102", after := #[{ on := 11, ground := Ground.data }, { on := 15, ground := Ground.gcOnly Departure.lateStores }], guard := none }) (v := ?_) rfl (by kernel_rfl) (by kernel_rfl) (by kernel_rfl) (fun _ _ _ h => h) (Or.inl ⟨by rfl, ?_⟩) HB0.out ?_
                    rotate_left
                    · (intro w _; go_simp; with_reducible rfl)
                    try simp only [Act.put, List.setIfInBounds_toArray, List.set_cons_zero, List.set_cons_succ]
                    refine wpAnyH_ready (rs := [15]) (by kernel_rfl) (by simp) ?_
                    refine AllReadyH.cons (o := { dst := none, op := Op.store 26 (Operand.tmp 11) (Operand.tmp 53), type := 0, pos := "law.go:102", after := #[{ on := 14, ground := Ground.data }, { on := 12, ground := Ground.data }, { on := 10, ground := Ground.chain }, { on := 0, ground := Ground.phase }, { on := 1, ground := Ground.phase }, { on := 2, ground := Ground.phase }, { on := 3, ground := Ground.phase }, { on := 4, ground := Ground.phase }, { on := 5, ground := Ground.phase }, { on := 6, ground := Ground.phase }, { on := 7, ground := Ground.phase }, { on := 8, ground := Ground.phase }, { on := 9, ground := Ground.phase }, { on := 10, ground := Ground.phase }, { on := 11, ground := Ground.phase }, { on := 12, ground := Ground.phase }, { on := 13, ground := Ground.textOnly Departure.lateStores }, { on := 14, ground := Ground.phase }], guard := none }) rfl (fun K hK => ?_) ?_
                    · rw [if_pos (by rfl)]
                      ((refine wp_store_dig' _ _ rfl gA zd HZD.out rfl rfl HA.out HB0.out hgeA ?_; intro w16 hrow hb hoth; have HB0 := Lib.hid hb; clear hrow hb hoth))
                      refine hK.out _ _ HB0.out (fun _ => ?_)
                      clear hK K
                      try simp only [Act.put, List.setIfInBounds_toArray, List.set_cons_zero, List.set_cons_succ]
                      refine wpAnyH_take (i := 16) (oi := { dst := some 12, op := Op.assign (Operand.tmp 54), type := 34, pos := "law.go:102", after := #[{ on := 13, ground := Ground.data }, { on := 15, ground := Ground.chain }, { on := 0, ground := Ground.phase }, { on := 1, ground := Ground.phase }, { on := 2, ground := Ground.phase }, { on := 3, ground := Ground.phase }, { on := 4, ground := Ground.phase }, { on := 5, ground := Ground.phase }, { on := 6, ground := Ground.phase }, { on := 7, ground := Ground.phase }, { on := 8, ground := Ground.phase }, { on := 9, ground := Ground.phase }, { on := 10, ground := Ground.phase }, { on := 11, ground := Ground.phase }, { on := 12, ground := Ground.phase }, { on := 13, ground := Ground.phase }, { on := 14, ground := Ground.phase }, { on := 15, ground := Ground.phase }], guard := none }) (v := ?_) rfl (by kernel_rfl) (by kernel_rfl) (by kernel_rfl) (fun _ _ _ h => h) (Or.inl ⟨by rfl, ?_⟩) HB0.out ?_
                      rotate_left
                      · (intro w _; go_simp; with_reducible rfl)
                      try simp only [Act.put, List.setIfInBounds_toArray, List.set_cons_zero, List.set_cons_succ]
                      refine wpAnyH_done (by kernel_rfl) ?_ _
                      ((exact K v0 v1 v2 g gA _ HB0.out))
                    exact AllReadyH.nil
                  exact AllReadyH.nil
                exact AllReadyH.nil
              exact AllReadyH.nil
            exact AllReadyH.nil
          refine AllReadyH.cons (o := { dst := some 11, op := Op.alloc 26, type := 0, pos := "law.go:102", after := #[], guard := none }) rfl (fun K hK => ?_) ?_
          · rw [if_pos (by rfl)]
            ((refine wp_alloc_dig 11 rfl rfl ?_; intro gA w15 hg hrow hb; (try have hdA := dnew_ne HN.out (Nat.le_of_eq hg.symm)); (try have HN := Lib.hid (HN.out.keep hb)); (try have HG := Lib.hid (HG.out.keep hb)); have hgeA : w10.heap.size ≤ gA := (by have := HB0.out.size; omega); have HA := Lib.hid hrow; have HB0 := Lib.hid (below_next HB0.out hb); clear hg hrow hb))
            refine hK.out _ _ HB0.out (fun _ => ?_)
            clear hK K
            try simp only [Act.put, List.setIfInBounds_toArray, List.set_cons_zero, List.set_cons_succ]
            refine wpAnyH_ready (rs := [6, 8]) (by kernel_rfl) (by simp) ?_
            refine AllReadyH.cons (o := { dst := some 48, op := Op.call { callee := Callee.builtin Builtin.append, args := #[Operand.tmp 46, Operand.tmp 47], argTypes := #[30, 30] }, type := 30, pos := "law.go:102", after := #[{ on := 4, ground := Ground.data }, { on := 5, ground := Ground.data }], guard := none }) rfl (fun K hK => ?_) ?_
            · rw [if_pos (by rfl)]
              ((refine wp_dapp' rfl _ _ rfl v0 [] rfl HN.out _ _ ps rfl (HPS.out _ HB0.out) HL1.out ?_; intro v1 w13 hn hk; (try have hx := hk _ _ _ HG.out hdG; have hdG := hx.2; have HG := Lib.hid hx.1; clear hx); (try have hx := hk _ _ _ HA.out hdA; have hdA := hx.2; have HA := Lib.hid hx.1; clear hx); have HN : Hid (DNew w10 w13 v1 ps) := hn; have HB0 := Lib.hid hn.2.1; clear hn hk))
              refine hK.out _ _ HB0.out (fun _ => ?_)
              clear hK K
              try simp only [Act.put, List.setIfInBounds_toArray, List.set_cons_zero, List.set_cons_succ]
              refine wpAnyH_ready (rs := [8]) (by kernel_rfl) (by simp) ?_
              refine AllReadyH.cons (o := { dst := some 50, op := Op.buildSlice 30 1 #[(0, Operand.tmp 49)], type := 30, pos := "law.go:102", after := #[{ on := 7, ground := Ground.data }], guard := none }) rfl (fun K hK => ?_) ?_
              · rw [if_pos (by rfl)]
                ((refine wp_one' _ rfl d HDL.out rfl ?_; intro g w12 hrow hg hb; (try have hdG := dnew_ne HN.out hg); (try have HN := Lib.hid (HN.out.keep hb)); (try have HA := Lib.hid (HA.out.keep hb)); have HG := Lib.hid hrow; have HB0 := Lib.hid (below_next HB0.out hb); clear hrow hg hb))
                refine hK.out _ _ HB0.out (fun _ => ?_)
                clear hK K
                try simp only [Act.put, List.setIfInBounds_toArray, List.set_cons_zero, List.set_cons_succ]
                refine wpAnyH_ready (rs := [9]) (by kernel_rfl) (by simp) ?_
                refine AllReadyH.cons (o := { dst := some 51, op := Op.call { callee := Callee.builtin Builtin.append, args := #[Operand.tmp 48, Operand.tmp 50], argTypes := #[30, 30] }, type := 30, pos := "law.go:102", after := #[{ on := 6, ground := Ground.data }, { on := 8, ground := Ground.data }, { on := 6, ground := Ground.chain }], guard := none }) rfl (fun K hK => ?_) ?_
                · rw [if_pos (by rfl)]
                  ((refine wp_dapp' rfl _ _ rfl v1 ps rfl HN.out _ _ [d] rfl (drest_one' HG.out HDL.out) HL2.out ?_; intro v2 w14 hn hk; (try have hx := hk _ _ _ HA.out hdA; have hdA := hx.2; have HA := Lib.hid hx.1; clear hx); have HN := Lib.hid hn; have HB0 := Lib.hid hn.2.1; clear hn hk))
                  refine hK.out _ _ HB0.out (fun _ => ?_)
                  clear hK K
                  try simp only [Act.put, List.setIfInBounds_toArray, List.set_cons_zero, List.set_cons_succ]
                  refine wpAnyH_ready (rs := [10]) (by kernel_rfl) (by simp) ?_
                  refine AllReadyH.cons (o := { dst := some 52, op := Op.call { callee := Callee.value (Operand.func 22), args := #[Operand.tmp 42, Operand.tmp 43, Operand.tmp 45, Operand.tmp 51], argTypes := #[26, 3, 3, 30] }, type := 39, pos := "law.go:102", after := #[{ on := 0, ground := Ground.data }, { on := 1, ground := Ground.data }, { on := 3, ground := Ground.data }, { on := 9, ground := Ground.data }, { on := 9, ground := Ground.chain }], guard := none }) rfl (fun K hK => ?_) ?_
                  · rw [if_pos (by rfl)]
                    go_simp
                    go_wp2_with ((go_at_call 22; (refine (HC2.out _ _ (dbuf_rest HN.out.1)).mono ?_); rintro e w17 ⟨rfl, hb⟩; (try have HA := Lib.hid (HA.out.keep hb)); have HB0 := Lib.hid (below_next HB0.out hb); clear hb))
                    refine hK.out _ _ HB0.out (fun _ => ?_)
                    clear hK K
                    try simp only [Act.put, List.setIfInBounds_toArray, List.set_cons_zero, List.set_cons_succ]
                    refine wpAnyH_take (i := 11) (oi := { dst := some 41, op := Op.move (Operand.tmp 52), type := 39, pos := "law.go:102", after := #[{ on := 10, ground := Ground.data }], guard := none }) (v := ?_) rfl (by kernel_rfl) (by kernel_rfl) (by kernel_rfl) (fun _ _ _ h => h) (Or.inl ⟨by rfl, ?_⟩) HB0.out ?_
                    rotate_left
                    · (intro w _; go_simp; with_reducible rfl)
                    try simp only [Act.put, List.setIfInBounds_toArray, List.set_cons_zero, List.set_cons_succ]
                    refine wpAnyH_take (i := 12) (oi := { dst := some 53, op := Op.extract (Operand.tmp 41) 0, type := 26, pos := "law.go:102", after := #[{ on := 11, ground := Ground.data }], guard := none }) (v := ?_) rfl (by kernel_rfl) (by kernel_rfl) (by kernel_rfl) (fun _ _ _ h => h) (Or.inl ⟨by rfl, ?_⟩) HB0.out ?_
                    rotate_left
                    · (intro w _; go_simp; with_reducible rfl)
                    try simp only [Act.put, List.setIfInBounds_toArray, List.set_cons_zero, List.set_cons_succ]
                    refine wpAnyH_take (i := 13) (oi := { dst := some 54, op := Op.extract (Operand.tmp 41) 1, type := 34, pos := "law.go:102", after := #[{ on := 11, ground := Ground.data }, { on := 15, ground := Ground.gcOnly Departure.lateStores }], guard := none }) (v := ?_) rfl (by kernel_rfl) (by kernel_rfl) (by kernel_rfl) (fun _ _ _ h => h) (Or.inl ⟨by rfl, ?_⟩) HB0.out ?_
                    rotate_left
                    · (intro w _; go_simp; with_reducible rfl)
                    try simp only [Act.put, List.setIfInBounds_toArray, List.set_cons_zero, List.set_cons_succ]
                    refine wpAnyH_ready (rs := [15]) (by kernel_rfl) (by simp) ?_
                    refine AllReadyH.cons (o := { dst := none, op := Op.store 26 (Operand.tmp 11) (Operand.tmp 53), type := 0, pos := "law.go:102", after := #[{ on := 14, ground := Ground.data }, { on := 12, ground := Ground.data }, { on := 10, ground := Ground.chain }, { on := 0, ground := Ground.phase }, { on := 1, ground := Ground.phase }, { on := 2, ground := Ground.phase }, { on := 3, ground := Ground.phase }, { on := 4, ground := Ground.phase }, { on := 5, ground := Ground.phase }, { on := 6, ground := Ground.phase }, { on := 7, ground := Ground.phase }, { on := 8, ground := Ground.phase }, { on := 9, ground := Ground.phase }, { on := 10, ground := Ground.phase }, { on := 11, ground := Ground.phase }, { on := 12, ground := Ground.phase }, { on := 13, ground := Ground.textOnly Departure.lateStores }, { on := 14, ground := Ground.phase }], guard := none }) rfl (fun K hK => ?_) ?_
                    · rw [if_pos (by rfl)]
                      ((refine wp_store_dig' _ _ rfl gA zd HZD.out rfl rfl HA.out HB0.out hgeA ?_; intro w16 hrow hb hoth; have HB0 := Lib.hid hb; clear hrow hb hoth))
                      refine hK.out _ _ HB0.out (fun _ => ?_)
                      clear hK K
                      try simp only [Act.put, List.setIfInBounds_toArray, List.set_cons_zero, List.set_cons_succ]
                      refine wpAnyH_take (i := 16) (oi := { dst := some 12, op := Op.assign (Operand.tmp 54), type := 34, pos := "law.go:102", after := #[{ on := 13, ground := Ground.data }, { on := 15, ground := Ground.chain }, { on := 0, ground := Ground.phase }, { on := 1, ground := Ground.phase }, { on := 2, ground := Ground.phase }, { on := 3, ground := Ground.phase }, { on := 4, ground := Ground.phase }, { on := 5, ground := Ground.phase }, { on := 6, ground := Ground.phase }, { on := 7, ground := Ground.phase }, { on := 8, ground := Ground.phase }, { on := 9, ground := Ground.phase }, { on := 10, ground := Ground.phase }, { on := 11, ground := Ground.phase }, { on := 12, ground := Ground.phase }, { on := 13, ground := Ground.phase }, { on := 14, ground := Ground.phase }, { on := 15, ground := Ground.phase }], guard := none }) (v := ?_) rfl (by kernel_rfl) (by kernel_rfl) (by kernel_rfl) (fun _ _ _ h => h) (Or.inl ⟨by rfl, ?_⟩) HB0.out ?_
                      rotate_left
                      · (intro w _; go_simp; with_reducible rfl)
                      try simp only [Act.put, List.setIfInBounds_toArray, List.set_cons_zero, List.set_cons_succ]
                      refine wpAnyH_done (by kernel_rfl) ?_ _
                      ((exact K v0 v1 v2 g gA _ HB0.out))
                    exact AllReadyH.nil
                  exact AllReadyH.nil
                exact AllReadyH.nil
              exact AllReadyH.nil
            refine AllReadyH.cons (o := { dst := some 50, op := Op.buildSlice 30 1 #[(0, Operand.tmp 49)], type := 30, pos := "law.go:102", after := #[{ on := 7, ground := Ground.data }], guard := none }) rfl (fun K hK => ?_) ?_
            · rw [if_pos (by rfl)]
              ((refine wp_one' _ rfl d HDL.out rfl ?_; intro g w12 hrow hg hb; (try have hdG := dnew_ne HN.out hg); (try have HN := Lib.hid (HN.out.keep hb)); (try have HA := Lib.hid (HA.out.keep hb)); have HG := Lib.hid hrow; have HB0 := Lib.hid (below_next HB0.out hb); clear hrow hg hb))
              refine hK.out _ _ HB0.out (fun _ => ?_)
              clear hK K
              try simp only [Act.put, List.setIfInBounds_toArray, List.set_cons_zero, List.set_cons_succ]
              refine wpAnyH_ready (rs := [6]) (by kernel_rfl) (by simp) ?_
              refine AllReadyH.cons (o := { dst := some 48, op := Op.call { callee := Callee.builtin Builtin.append, args := #[Operand.tmp 46, Operand.tmp 47], argTypes := #[30, 30] }, type := 30, pos := "law.go:102", after := #[{ on := 4, ground := Ground.data }, { on := 5, ground := Ground.data }], guard := none }) rfl (fun K hK => ?_) ?_
              · rw [if_pos (by rfl)]
                ((refine wp_dapp' rfl _ _ rfl v0 [] rfl HN.out _ _ ps rfl (HPS.out _ HB0.out) HL1.out ?_; intro v1 w13 hn hk; (try have hx := hk _ _ _ HG.out hdG; have hdG := hx.2; have HG := Lib.hid hx.1; clear hx); (try have hx := hk _ _ _ HA.out hdA; have hdA := hx.2; have HA := Lib.hid hx.1; clear hx); have HN : Hid (DNew w10 w13 v1 ps) := hn; have HB0 := Lib.hid hn.2.1; clear hn hk))
                refine hK.out _ _ HB0.out (fun _ => ?_)
                clear hK K
                try simp only [Act.put, List.setIfInBounds_toArray, List.set_cons_zero, List.set_cons_succ]
                refine wpAnyH_ready (rs := [9]) (by kernel_rfl) (by simp) ?_
                refine AllReadyH.cons (o := { dst := some 51, op := Op.call { callee := Callee.builtin Builtin.append, args := #[Operand.tmp 48, Operand.tmp 50], argTypes := #[30, 30] }, type := 30, pos := "law.go:102", after := #[{ on := 6, ground := Ground.data }, { on := 8, ground := Ground.data }, { on := 6, ground := Ground.chain }], guard := none }) rfl (fun K hK => ?_) ?_
                · rw [if_pos (by rfl)]
                  ((refine wp_dapp' rfl _ _ rfl v1 ps rfl HN.out _ _ [d] rfl (drest_one' HG.out HDL.out) HL2.out ?_; intro v2 w14 hn hk; (try have hx := hk _ _ _ HA.out hdA; have hdA := hx.2; have HA := Lib.hid hx.1; clear hx); have HN := Lib.hid hn; have HB0 := Lib.hid hn.2.1; clear hn hk))
                  refine hK.out _ _ HB0.out (fun _ => ?_)
                  clear hK K
                  try simp only [Act.put, List.setIfInBounds_toArray, List.set_cons_zero, List.set_cons_succ]
                  refine wpAnyH_ready (rs := [10]) (by kernel_rfl) (by simp) ?_
                  refine AllReadyH.cons (o := { dst := some 52, op := Op.call { callee := Callee.value (Operand.func 22), args := #[Operand.tmp 42, Operand.tmp 43, Operand.tmp 45, Operand.tmp 51], argTypes := #[26, 3, 3, 30] }, type := 39, pos := "law.go:102", after := #[{ on := 0, ground := Ground.data }, { on := 1, ground := Ground.data }, { on := 3, ground := Ground.data }, { on := 9, ground := Ground.data }, { on := 9, ground := Ground.chain }], guard := none }) rfl (fun K hK => ?_) ?_
                  · rw [if_pos (by rfl)]
                    go_simp
                    go_wp2_with ((go_at_call 22; (refine (HC2.out _ _ (dbuf_rest HN.out.1)).mono ?_); rintro e w17 ⟨rfl, hb⟩; (try have HA := Lib.hid (HA.out.keep hb)); have HB0 := Lib.hid (below_next HB0.out hb); clear hb))
                    refine hK.out _ _ HB0.out (fun _ => ?_)
                    clear hK K
                    try simp only [Act.put, List.setIfInBounds_toArray, List.set_cons_zero, List.set_cons_succ]
                    refine wpAnyH_take (i := 11) (oi := { dst := some 41, op := Op.move (Operand.tmp 52), type := 39, pos := "law.go:102", after := #[{ on := 10, ground := Ground.data }], guard := none }) (v := ?_) rfl (by kernel_rfl) (by kernel_rfl) (by kernel_rfl) (fun _ _ _ h => h) (Or.inl ⟨by rfl, ?_⟩) HB0.out ?_
                    rotate_left
                    · (intro w _; go_simp; with_reducible rfl)
                    try simp only [Act.put, List.setIfInBounds_toArray, List.set_cons_zero, List.set_cons_succ]
                    refine wpAnyH_take (i := 12) (oi := { dst := some 53, op := Op.extract (Operand.tmp 41) 0, type := 26, pos := "law.go:102", after := #[{ on := 11, ground := Ground.data }], guard := none }) (v := ?_) rfl (by kernel_rfl) (by kernel_rfl) (by kernel_rfl) (fun _ _ _ h => h) (Or.inl ⟨by rfl, ?_⟩) HB0.out ?_
                    rotate_left
                    · (intro w _; go_simp; with_reducible rfl)
                    try simp only [Act.put, List.setIfInBounds_toArray, List.set_cons_zero, List.set_cons_succ]
                    refine wpAnyH_take (i := 13) (oi := { dst := some 54, op := Op.extract (Operand.tmp 41) 1, type := 34, pos := "law.go:102", after := #[{ on := 11, ground := Ground.data }, { on := 15, ground := Ground.gcOnly Departure.lateStores }], guard := none }) (v := ?_) rfl (by kernel_rfl) (by kernel_rfl) (by kernel_rfl) (fun _ _ _ h => h) (Or.inl ⟨by rfl, ?_⟩) HB0.out ?_
                    rotate_left
                    · (intro w _; go_simp; with_reducible rfl)
                    try simp only [Act.put, List.setIfInBounds_toArray, List.set_cons_zero, List.set_cons_succ]
                    refine wpAnyH_ready (rs := [15]) (by kernel_rfl) (by simp) ?_
                    refine AllReadyH.cons (o := { dst := none, op := Op.store 26 (Operand.tmp 11) (Operand.tmp 53), type := 0, pos := "law.go:102", after := #[{ on := 14, ground := Ground.data }, { on := 12, ground := Ground.data }, { on := 10, ground := Ground.chain }, { on := 0, ground := Ground.phase }, { on := 1, ground := Ground.phase }, { on := 2, ground := Ground.phase }, { on := 3, ground := Ground.phase }, { on := 4, ground := Ground.phase }, { on := 5, ground := Ground.phase }, { on := 6, ground := Ground.phase }, { on := 7, ground := Ground.phase }, { on := 8, ground := Ground.phase }, { on := 9, ground := Ground.phase }, { on := 10, ground := Ground.phase }, { on := 11, ground := Ground.phase }, { on := 12, ground := Ground.phase }, { on := 13, ground := Ground.textOnly Departure.lateStores }, { on := 14, ground := Ground.phase }], guard := none }) rfl (fun K hK => ?_) ?_
                    · rw [if_pos (by rfl)]
                      ((refine wp_store_dig' _ _ rfl gA zd HZD.out rfl rfl HA.out HB0.out hgeA ?_; intro w16 hrow hb hoth; have HB0 := Lib.hid hb; clear hrow hb hoth))
                      refine hK.out _ _ HB0.out (fun _ => ?_)
                      clear hK K
                      try simp only [Act.put, List.setIfInBounds_toArray, List.set_cons_zero, List.set_cons_succ]
                      refine wpAnyH_take (i := 16) (oi := { dst := some 12, op := Op.assign (Operand.tmp 54), type := 34, pos := "law.go:102", after := #[{ on := 13, ground := Ground.data }, { on := 15, ground := Ground.chain }, { on := 0, ground := Ground.phase }, { on := 1, ground := Ground.phase }, { on := 2, ground := Ground.phase }, { on := 3, ground := Ground.phase }, { on := 4, ground := Ground.phase }, { on := 5, ground := Ground.phase }, { on := 6, ground := Ground.phase }, { on := 7, ground := Ground.phase }, { on := 8, ground := Ground.phase }, { on := 9, ground := Ground.phase }, { on := 10, ground := Ground.phase }, { on := 11, ground := Ground.phase }, { on := 12, ground := Ground.phase }, { on := 13, ground := Ground.phase }, { on := 14, ground := Ground.phase }, { on := 15, ground := Ground.phase }], guard := none }) (v := ?_) rfl (by kernel_rfl) (by kernel_rfl) (by kernel_rfl) (fun _ _ _ h => h) (Or.inl ⟨by rfl, ?_⟩) HB0.out ?_
                      rotate_left
                      · (intro w _; go_simp; with_reducible rfl)
                      try simp only [Act.put, List.setIfInBounds_toArray, List.set_cons_zero, List.set_cons_succ]
                      refine wpAnyH_done (by kernel_rfl) ?_ _
                      ((exact K v0 v1 v2 g gA _ HB0.out))
                    exact AllReadyH.nil
                  exact AllReadyH.nil
                exact AllReadyH.nil
              exact AllReadyH.nil
            exact AllReadyH.nil
          exact AllReadyH.nil
        refine AllReadyH.cons (o := { dst := some 50, op := Op.buildSlice 30 1 #[(0, Operand.tmp 49)], type := 30, pos := "law.go:102", after := #[{ on := 7, ground := Ground.data }], guard := none }) rfl (fun K hK => ?_) ?_
        · rw [if_pos (by rfl)]
          ((refine wp_one' _ rfl d HDL.out rfl ?_; intro g w12 hrow hg hb; (try have hdG := dnew_ne HN.out hg); (try have HN := Lib.hid (HN.out.keep hb)); (try have HA := Lib.hid (HA.out.keep hb)); have HG := Lib.hid hrow; have HB0 := Lib.hid (below_next HB0.out hb); clear hrow hg hb))
          refine hK.out _ _ HB0.out (fun _ => ?_)
          clear hK K
          try simp only [Act.put, List.setIfInBounds_toArray, List.set_cons_zero, List.set_cons_succ]
          refine wpAnyH_ready (rs := [4, 14]) (by kernel_rfl) (by simp) ?_
          refine AllReadyH.cons (o := { dst := some 46, op := Op.buildSlice 30 0 #[], type := 30, pos := "law.go:102", after := #[], guard := none }) rfl (fun K hK => ?_) ?_
          · rw [if_pos (by rfl)]
            ((refine wp_dnone' rfl HB0.out ?_; intro v0 w11 hn hown hb; (try have hdG := own_ne HG.out hown); (try have hdA := own_ne HA.out hown); (try have HG := Lib.hid (HG.out.keep hb)); (try have HA := Lib.hid (HA.out.keep hb)); have HN := Lib.hid hn; have HB0 := Lib.hid hn.2.1; clear hn hown hb))
            refine hK.out _ _ HB0.out (fun _ => ?_)
            clear hK K
            try simp only [Act.put, List.setIfInBounds_toArray, List.set_cons_zero, List.set_cons_succ]
            refine wpAnyH_ready (rs := [6, 14]) (by kernel_rfl) (by simp) ?_
            refine AllReadyH.cons (o := { dst := some 48, op := Op.call { callee := Callee.builtin Builtin.append, args := #[Operand.tmp 46, Operand.tmp 47], argTypes := #[30, 30] }, type := 30, pos := "law.go:102", after := #[{ on := 4, ground := Ground.data }, { on := 5, ground := Ground.data }], guard := none }) rfl (fun K hK => ?_) ?_
            · rw [if_pos (by rfl)]
              ((refine wp_dapp' rfl _ _ rfl v0 [] rfl HN.out _ _ ps rfl (HPS.out _ HB0.out) HL1.out ?_; intro v1 w13 hn hk; (try have hx := hk _ _ _ HG.out hdG; have hdG := hx.2; have HG := Lib.hid hx.1; clear hx); (try have hx := hk _ _ _ HA.out hdA; have hdA := hx.2; have HA := Lib.hid hx.1; clear hx); have HN : Hid (DNew w10 w13 v1 ps) := hn; have HB0 := Lib.hid hn.2.1; clear hn hk))
              refine hK.out _ _ HB0.out (fun _ => ?_)
              clear hK K
              try simp only [Act.put, List.setIfInBounds_toArray, List.set_cons_zero, List.set_cons_succ]
              refine wpAnyH_ready (rs := [9, 14]) (by kernel_rfl) (by simp) ?_
              refine AllReadyH.cons (o := { dst := some 51, op := Op.call { callee := Callee.builtin Builtin.append, args := #[Operand.tmp 48, Operand.tmp 50], argTypes := #[30, 30] }, type := 30, pos := "law.go:102", after := #[{ on := 6, ground := Ground.data }, { on := 8, ground := Ground.data }, { on := 6, ground := Ground.chain }], guard := none }) rfl (fun K hK => ?_) ?_
              · rw [if_pos (by rfl)]
                ((refine wp_dapp' rfl _ _ rfl v1 ps rfl HN.out _ _ [d] rfl (drest_one' HG.out HDL.out) HL2.out ?_; intro v2 w14 hn hk; (try have hx := hk _ _ _ HA.out hdA; have hdA := hx.2; have HA := Lib.hid hx.1; clear hx); have HN := Lib.hid hn; have HB0 := Lib.hid hn.2.1; clear hn hk))
                refine hK.out _ _ HB0.out (fun _ => ?_)
                clear hK K
                try simp only [Act.put, List.setIfInBounds_toArray, List.set_cons_zero, List.set_cons_succ]
                refine wpAnyH_ready (rs := [10, 14]) (by kernel_rfl) (by simp) ?_
                refine AllReadyH.cons (o := { dst := some 52, op := Op.call { callee := Callee.value (Operand.func 22), args := #[Operand.tmp 42, Operand.tmp 43, Operand.tmp 45, Operand.tmp 51], argTypes := #[26, 3, 3, 30] }, type := 39, pos := "law.go:102", after := #[{ on := 0, ground := Ground.data }, { on := 1, ground := Ground.data }, { on := 3, ground := Ground.data }, { on := 9, ground := Ground.data }, { on := 9, ground := Ground.chain }], guard := none }) rfl (fun K hK => ?_) ?_
                · rw [if_pos (by rfl)]
                  go_simp
                  go_wp2_with ((go_at_call 22; (refine (HC2.out _ _ (dbuf_rest HN.out.1)).mono ?_); rintro e w17 ⟨rfl, hb⟩; (try have HA := Lib.hid (HA.out.keep hb)); have HB0 := Lib.hid (below_next HB0.out hb); clear hb))
                  refine hK.out _ _ HB0.out (fun _ => ?_)
                  clear hK K
                  try simp only [Act.put, List.setIfInBounds_toArray, List.set_cons_zero, List.set_cons_succ]
                  refine wpAnyH_take (i := 11) (oi := { dst := some 41, op := Op.move (Operand.tmp 52), type := 39, pos := "law.go:102", after := #[{ on := 10, ground := Ground.data }], guard := none }) (v := ?_) rfl (by kernel_rfl) (by kernel_rfl) (by kernel_rfl) (fun _ _ _ h => h) (Or.inl ⟨by rfl, ?_⟩) HB0.out ?_
                  rotate_left
                  · (intro w _; go_simp; with_reducible rfl)
                  try simp only [Act.put, List.setIfInBounds_toArray, List.set_cons_zero, List.set_cons_succ]
                  refine wpAnyH_take (i := 12) (oi := { dst := some 53, op := Op.extract (Operand.tmp 41) 0, type := 26, pos := "law.go:102", after := #[{ on := 11, ground := Ground.data }], guard := none }) (v := ?_) rfl (by kernel_rfl) (by kernel_rfl) (by kernel_rfl) (fun _ _ _ h => h) (Or.inl ⟨by rfl, ?_⟩) HB0.out ?_
                  rotate_left
                  · (intro w _; go_simp; with_reducible rfl)
                  try simp only [Act.put, List.setIfInBounds_toArray, List.set_cons_zero, List.set_cons_succ]
                  refine wpAnyH_take (i := 13) (oi := { dst := some 54, op := Op.extract (Operand.tmp 41) 1, type := 34, pos := "law.go:102", after := #[{ on := 11, ground := Ground.data }, { on := 15, ground := Ground.gcOnly Departure.lateStores }], guard := none }) (v := ?_) rfl (by kernel_rfl) (by kernel_rfl) (by kernel_rfl) (fun _ _ _ h => h) (Or.inl ⟨by rfl, ?_⟩) HB0.out ?_
                  rotate_left
                  · (intro w _; go_simp; with_reducible rfl)
                  try simp only [Act.put, List.setIfInBounds_toArray, List.set_cons_zero, List.set_cons_succ]
                  refine wpAnyH_ready (rs := [14]) (by kernel_rfl) (by simp) ?_
                  refine AllReadyH.cons (o := { dst := some 11, op := Op.alloc 26, type := 0, pos := "law.go:102", after := #[], guard := none }) rfl (fun K hK => ?_) ?_
                  · rw [if_pos (by rfl)]
                    ((refine wp_alloc_dig 11 rfl rfl ?_; intro gA w15 hg hrow hb; (try have hdA := dnew_ne HN.out (Nat.le_of_eq hg.symm)); (try have HN := Lib.hid (HN.out.keep hb)); (try have HG := Lib.hid (HG.out.keep hb)); have hgeA : w10.heap.size ≤ gA := (by have := HB0.out.size; omega); have HA := Lib.hid hrow; have HB0 := Lib.hid (below_next HB0.out hb); clear hg hrow hb))
                    refine hK.out _ _ HB0.out (fun _ => ?_)
                    clear hK K
                    try simp only [Act.put, List.setIfInBounds_toArray, List.set_cons_zero, List.set_cons_succ]
                    refine wpAnyH_ready (rs := [15]) (by kernel_rfl) (by simp) ?_
                    refine AllReadyH.cons (o := { dst := none, op := Op.store 26 (Operand.tmp 11) (Operand.tmp 53), type := 0, pos := "law.go:102", after := #[{ on := 14, ground := Ground.data }, { on := 12, ground := Ground.data }, { on := 10, ground := Ground.chain }, { on := 0, ground := Ground.phase }, { on := 1, ground := Ground.phase }, { on := 2, ground := Ground.phase }, { on := 3, ground := Ground.phase }, { on := 4, ground := Ground.phase }, { on := 5, ground := Ground.phase }, { on := 6, ground := Ground.phase }, { on := 7, ground := Ground.phase }, { on := 8, ground := Ground.phase }, { on := 9, ground := Ground.phase }, { on := 10, ground := Ground.phase }, { on := 11, ground := Ground.phase }, { on := 12, ground := Ground.phase }, { on := 13, ground := Ground.textOnly Departure.lateStores }, { on := 14, ground := Ground.phase }], guard := none }) rfl (fun K hK => ?_) ?_
                    · rw [if_pos (by rfl)]
                      ((refine wp_store_dig' _ _ rfl gA zd HZD.out rfl rfl HA.out HB0.out hgeA ?_; intro w16 hrow hb hoth; have HB0 := Lib.hid hb; clear hrow hb hoth))
                      refine hK.out _ _ HB0.out (fun _ => ?_)
                      clear hK K
                      try simp only [Act.put, List.setIfInBounds_toArray, List.set_cons_zero, List.set_cons_succ]
                      refine wpAnyH_take (i := 16) (oi := { dst := some 12, op := Op.assign (Operand.tmp 54), type := 34, pos := "law.go:102", after := #[{ on := 13, ground := Ground.data }, { on := 15, ground := Ground.chain }, { on := 0, ground := Ground.phase }, { on := 1, ground := Ground.phase }, { on := 2, ground := Ground.phase }, { on := 3, ground := Ground.phase }, { on := 4, ground := Ground.phase }, { on := 5, ground := Ground.phase }, { on := 6, ground := Ground.phase }, { on := 7, ground := Ground.phase }, { on := 8, ground := Ground.phase }, { on := 9, ground := Ground.phase }, { on := 10, ground := Ground.phase }, { on := 11, ground := Ground.phase }, { on := 12, ground := Ground.phase }, { on := 13, ground := Ground.phase }, { on := 14, ground := Ground.phase }, { on := 15, ground := Ground.phase }], guard := none }) (v := ?_) rfl (by kernel_rfl) (by kernel_rfl) (by kernel_rfl) (fun _ _ _ h => h) (Or.inl ⟨by rfl, ?_⟩) HB0.out ?_
                      rotate_left
                      · (intro w _; go_simp; with_reducible rfl)
                      try simp only [Act.put, List.setIfInBounds_toArray, List.set_cons_zero, List.set_cons_succ]
                      refine wpAnyH_done (by kernel_rfl) ?_ _
                      ((exact K v0 v1 v2 g gA _ HB0.out))
                    exact AllReadyH.nil
                  exact AllReadyH.nil
                refine AllReadyH.cons (o := { dst := some 11, op := Op.alloc 26, type := 0, pos := "law.go:102", after := #[], guard := none }) rfl (fun K hK => ?_) ?_
                · rw [if_pos (by rfl)]
                  ((refine wp_alloc_dig 11 rfl rfl ?_; intro gA w15 hg hrow hb; (try have hdA := dnew_ne HN.out (Nat.le_of_eq hg.symm)); (try have HN := Lib.hid (HN.out.keep hb)); (try have HG := Lib.hid (HG.out.keep hb)); have hgeA : w10.heap.size ≤ gA := (by have := HB0.out.size; omega); have HA := Lib.hid hrow; have HB0 := Lib.hid (below_next HB0.out hb); clear hg hrow hb))
                  refine hK.out _ _ HB0.out (fun _ => ?_)
                  clear hK K
                  try simp only [Act.put, List.setIfInBounds_toArray, List.set_cons_zero, List.set_cons_succ]
                  refine wpAnyH_ready (rs := [10]) (by kernel_rfl) (by simp) ?_
                  refine AllReadyH.cons (o := { dst := some 52, op := Op.call { callee := Callee.value (Operand.func 22), args := #[Operand.tmp 42, Operand.tmp 43, Operand.tmp 45, Operand.tmp 51], argTypes := #[26, 3, 3, 30] }, type := 39, pos := "law.go:102", after := #[{ on := 0, ground := Ground.data }, { on := 1, ground := Ground.data }, { on := 3, ground := Ground.data }, { on := 9, ground := Ground.data }, { on := 9, ground := Ground.chain }], guard := none }) rfl (fun K hK => ?_) ?_
                  · rw [if_pos (by rfl)]
                    go_simp
                    go_wp2_with ((go_at_call 22; (refine (HC2.out _ _ (dbuf_rest HN.out.1)).mono ?_); rintro e w17 ⟨rfl, hb⟩; (try have HA := Lib.hid (HA.out.keep hb)); have HB0 := Lib.hid (below_next HB0.out hb); clear hb))
                    refine hK.out _ _ HB0.out (fun _ => ?_)
                    clear hK K
                    try simp only [Act.put, List.setIfInBounds_toArray, List.set_cons_zero, List.set_cons_succ]
                    refine wpAnyH_take (i := 11) (oi := { dst := some 41, op := Op.move (Operand.tmp 52), type := 39, pos := "law.go:102", after := #[{ on := 10, ground := Ground.data }], guard := none }) (v := ?_) rfl (by kernel_rfl) (by kernel_rfl) (by kernel_rfl) (fun _ _ _ h => h) (Or.inl ⟨by rfl, ?_⟩) HB0.out ?_
                    rotate_left
                    · (intro w _; go_simp; with_reducible rfl)
                    try simp only [Act.put, List.setIfInBounds_toArray, List.set_cons_zero, List.set_cons_succ]
                    refine wpAnyH_take (i := 12) (oi := { dst := some 53, op := Op.extract (Operand.tmp 41) 0, type := 26, pos := "law.go:102", after := #[{ on := 11, ground := Ground.data }], guard := none }) (v := ?_) rfl (by kernel_rfl) (by kernel_rfl) (by kernel_rfl) (fun _ _ _ h => h) (Or.inl ⟨by rfl, ?_⟩) HB0.out ?_
                    rotate_left
                    · (intro w _; go_simp; with_reducible rfl)
                    try simp only [Act.put, List.setIfInBounds_toArray, List.set_cons_zero, List.set_cons_succ]
                    refine wpAnyH_take (i := 13) (oi := { dst := some 54, op := Op.extract (Operand.tmp 41) 1, type := 34, pos := "law.go:102", after := #[{ on := 11, ground := Ground.data }, { on := 15, ground := Ground.gcOnly Departure.lateStores }], guard := none }) (v := ?_) rfl (by kernel_rfl) (by kernel_rfl) (by kernel_rfl) (fun _ _ _ h => h) (Or.inl ⟨by rfl, ?_⟩) HB0.out ?_
                    rotate_left
                    · (intro w _; go_simp; with_reducible rfl)
                    try simp only [Act.put, List.setIfInBounds_toArray, List.set_cons_zero, List.set_cons_succ]
                    refine wpAnyH_ready (rs := [15]) (by kernel_rfl) (by simp) ?_
                    refine AllReadyH.cons (o := { dst := none, op := Op.store 26 (Operand.tmp 11) (Operand.tmp 53), type := 0, pos := "law.go:102", after := #[{ on := 14, ground := Ground.data }, { on := 12, ground := Ground.data }, { on := 10, ground := Ground.chain }, { on := 0, ground := Ground.phase }, { on := 1, ground := Ground.phase }, { on := 2, ground := Ground.phase }, { on := 3, ground := Ground.phase }, { on := 4, ground := Ground.phase }, { on := 5, ground := Ground.phase }, { on := 6, ground := Ground.phase }, { on := 7, ground := Ground.phase }, { on := 8, ground := Ground.phase }, { on := 9, ground := Ground.phase }, { on := 10, ground := Ground.phase }, { on := 11, ground := Ground.phase }, { on := 12, ground := Ground.phase }, { on := 13, ground := Ground.textOnly Departure.lateStores }, { on := 14, ground := Ground.phase }], guard := none }) rfl (fun K hK => ?_) ?_
                    · rw [if_pos (by rfl)]
                      ((refine wp_store_dig' _ _ rfl gA zd HZD.out rfl rfl HA.out HB0.out hgeA ?_; intro w16 hrow hb hoth; have HB0 := Lib.hid hb; clear hrow hb hoth))
                      refine hK.out _ _ HB0.out (fun _ => ?_)
                      clear hK K
                      try simp only [Act.put, List.setIfInBounds_toArray, List.set_cons_zero, List.set_cons_succ]
                      refine wpAnyH_take (i := 16) (oi := { dst := some 12, op := Op.assign (Operand.tmp 54), type := 34, pos := "law.go:102", after := #[{ on := 13, ground := Ground.data }, { on := 15, ground := Ground.chain }, { on := 0, ground := Ground.phase }, { on := 1, ground := Ground.phase }, { on := 2, ground := Ground.phase }, { on := 3, ground := Ground.phase }, { on := 4, ground := Ground.phase }, { on := 5, ground := Ground.phase }, { on := 6, ground := Ground.phase }, { on := 7, ground := Ground.phase }, { on := 8, ground := Ground.phase }, { on := 9, ground := Ground.phase }, { on := 10, ground := Ground.phase }, { on := 11, ground := Ground.phase }, { on := 12, ground := Ground.phase }, { on := 13, ground := Ground.phase }, { on := 14, ground := Ground.phase }, { on := 15, ground := Ground.phase }], guard := none }) (v := ?_) rfl (by kernel_rfl) (by kernel_rfl) (by kernel_rfl) (fun _ _ _ h => h) (Or.inl ⟨by rfl, ?_⟩) HB0.out ?_
                      rotate_left
                      · (intro w _; go_simp; with_reducible rfl)
                      try simp only [Act.put, List.setIfInBounds_toArray, List.set_cons_zero, List.set_cons_succ]
                      refine wpAnyH_done (by kernel_rfl) ?_ _
                      ((exact K v0 v1 v2 g gA _ HB0.out))
                    exact AllReadyH.nil
                  exact AllReadyH.nil
                exact AllReadyH.nil
              refine AllReadyH.cons (o := { dst := some 11, op := Op.alloc 26, type := 0, pos := "law.go:102", after := #[], guard := none }) rfl (fun K hK => ?_) ?_
              · rw [if_pos (by rfl)]
                ((refine wp_alloc_dig 11 rfl rfl ?_; intro gA w15 hg hrow hb; (try have hdA := dnew_ne HN.out (Nat.le_of_eq hg.symm)); (try have HN := Lib.hid (HN.out.keep hb)); (try have HG := Lib.hid (HG.out.keep hb)); have hgeA : w10.heap.size ≤ gA := (by have := HB0.out.size; omega); have HA := Lib.hid hrow; have HB0 := Lib.hid (below_next HB0.out hb); clear hg hrow hb))
                refine hK.out _ _ HB0.out (fun _ => ?_)
                clear hK K
                try simp only [Act.put, List.setIfInBounds_toArray, List.set_cons_zero, List.set_cons_succ]
                refine wpAnyH_ready (rs := [9]) (by kernel_rfl) (by simp) ?_
                refine AllReadyH.cons (o := { dst := some 51, op := Op.call { callee := Callee.builtin Builtin.append, args := #[Operand.tmp 48, Operand.tmp 50], argTypes := #[30, 30] }, type := 30, pos := "law.go:102", after := #[{ on := 6, ground := Ground.data }, { on := 8, ground := Ground.data }, { on := 6, ground := Ground.chain }], guard := none }) rfl (fun K hK => ?_) ?_
                · rw [if_pos (by rfl)]
                  ((refine wp_dapp' rfl _ _ rfl v1 ps rfl HN.out _ _ [d] rfl (drest_one' HG.out HDL.out) HL2.out ?_; intro v2 w14 hn hk; (try have hx := hk _ _ _ HA.out hdA; have hdA := hx.2; have HA := Lib.hid hx.1; clear hx); have HN := Lib.hid hn; have HB0 := Lib.hid hn.2.1; clear hn hk))
                  refine hK.out _ _ HB0.out (fun _ => ?_)
                  clear hK K
                  try simp only [Act.put, List.setIfInBounds_toArray, List.set_cons_zero, List.set_cons_succ]
                  refine wpAnyH_ready (rs := [10]) (by kernel_rfl) (by simp) ?_
                  refine AllReadyH.cons (o := { dst := some 52, op := Op.call { callee := Callee.value (Operand.func 22), args := #[Operand.tmp 42, Operand.tmp 43, Operand.tmp 45, Operand.tmp 51], argTypes := #[26, 3, 3, 30] }, type := 39, pos := "law.go:102", after := #[{ on := 0, ground := Ground.data }, { on := 1, ground := Ground.data }, { on := 3, ground := Ground.data }, { on := 9, ground := Ground.data }, { on := 9, ground := Ground.chain }], guard := none }) rfl (fun K hK => ?_) ?_
                  · rw [if_pos (by rfl)]
                    go_simp
                    go_wp2_with ((go_at_call 22; (refine (HC2.out _ _ (dbuf_rest HN.out.1)).mono ?_); rintro e w17 ⟨rfl, hb⟩; (try have HA := Lib.hid (HA.out.keep hb)); have HB0 := Lib.hid (below_next HB0.out hb); clear hb))
                    refine hK.out _ _ HB0.out (fun _ => ?_)
                    clear hK K
                    try simp only [Act.put, List.setIfInBounds_toArray, List.set_cons_zero, List.set_cons_succ]
                    refine wpAnyH_take (i := 11) (oi := { dst := some 41, op := Op.move (Operand.tmp 52), type := 39, pos := "law.go:102", after := #[{ on := 10, ground := Ground.data }], guard := none }) (v := ?_) rfl (by kernel_rfl) (by kernel_rfl) (by kernel_rfl) (fun _ _ _ h => h) (Or.inl ⟨by rfl, ?_⟩) HB0.out ?_
                    rotate_left
                    · (intro w _; go_simp; with_reducible rfl)
                    try simp only [Act.put, List.setIfInBounds_toArray, List.set_cons_zero, List.set_cons_succ]
                    refine wpAnyH_take (i := 12) (oi := { dst := some 53, op := Op.extract (Operand.tmp 41) 0, type := 26, pos := "law.go:102", after := #[{ on := 11, ground := Ground.data }], guard := none }) (v := ?_) rfl (by kernel_rfl) (by kernel_rfl) (by kernel_rfl) (fun _ _ _ h => h) (Or.inl ⟨by rfl, ?_⟩) HB0.out ?_
                    rotate_left
                    · (intro w _; go_simp; with_reducible rfl)
                    try simp only [Act.put, List.setIfInBounds_toArray, List.set_cons_zero, List.set_cons_succ]
                    refine wpAnyH_take (i := 13) (oi := { dst := some 54, op := Op.extract (Operand.tmp 41) 1, type := 34, pos := "law.go:102", after := #[{ on := 11, ground := Ground.data }, { on := 15, ground := Ground.gcOnly Departure.lateStores }], guard := none }) (v := ?_) rfl (by kernel_rfl) (by kernel_rfl) (by kernel_rfl) (fun _ _ _ h => h) (Or.inl ⟨by rfl, ?_⟩) HB0.out ?_
                    rotate_left
                    · (intro w _; go_simp; with_reducible rfl)
                    try simp only [Act.put, List.setIfInBounds_toArray, List.set_cons_zero, List.set_cons_succ]
                    refine wpAnyH_ready (rs := [15]) (by kernel_rfl) (by simp) ?_
                    refine AllReadyH.cons (o := { dst := none, op := Op.store 26 (Operand.tmp 11) (Operand.tmp 53), type := 0, pos := "law.go:102", after := #[{ on := 14, ground := Ground.data }, { on := 12, ground := Ground.data }, { on := 10, ground := Ground.chain }, { on := 0, ground := Ground.phase }, { on := 1, ground := Ground.phase }, { on := 2, ground := Ground.phase }, { on := 3, ground := Ground.phase }, { on := 4, ground := Ground.phase }, { on := 5, ground := Ground.phase }, { on := 6, ground := Ground.phase }, { on := 7, ground := Ground.phase }, { on := 8, ground := Ground.phase }, { on := 9, ground := Ground.phase }, { on := 10, ground := Ground.phase }, { on := 11, ground := Ground.phase }, { on := 12, ground := Ground.phase }, { on := 13, ground := Ground.textOnly Departure.lateStores }, { on := 14, ground := Ground.phase }], guard := none }) rfl (fun K hK => ?_) ?_
                    · rw [if_pos (by rfl)]
                      ((refine wp_store_dig' _ _ rfl gA zd HZD.out rfl rfl HA.out HB0.out hgeA ?_; intro w16 hrow hb hoth; have HB0 := Lib.hid hb; clear hrow hb hoth))
                      refine hK.out _ _ HB0.out (fun _ => ?_)
                      clear hK K
                      try simp only [Act.put, List.setIfInBounds_toArray, List.set_cons_zero, List.set_cons_succ]
                      refine wpAnyH_take (i := 16) (oi := { dst := some 12, op := Op.assign (Operand.tmp 54), type := 34, pos := "law.go:102", after := #[{ on := 13, ground := Ground.data }, { on := 15, ground := Ground.chain }, { on := 0, ground := Ground.phase }, { on := 1, ground := Ground.phase }, { on := 2, ground := Ground.phase }, { on := 3, ground := Ground.phase }, { on := 4, ground := Ground.phase }, { on := 5, ground := Ground.phase }, { on := 6, ground := Ground.phase }, { on := 7, ground := Ground.phase }, { on := 8, ground := Ground.phase }, { on := 9, ground := Ground.phase }, { on := 10, ground := Ground.phase }, { on := 11, ground := Ground.phase }, { on := 12, ground := Ground.phase }, { on := 13, ground := Ground.phase }, { on := 14, ground := Ground.phase }, { on := 15, ground := Ground.phase }], guard := none }) (v := ?_) rfl (by kernel_rfl) (by kernel_rfl) (by kernel_rfl) (fun _ _ _ h => h) (Or.inl ⟨by rfl, ?_⟩) HB0.out ?_
                      rotate_left
                      · (intro w _; go_simp; with_reducible rfl)
                      try simp only [Act.put, List.setIfInBounds_toArray, List.set_cons_zero, List.set_cons_succ]
                      refine wpAnyH_done (by kernel_rfl) ?_ _
                      ((exact K v0 v1 v2 g gA _ HB0.out))
                    exact AllReadyH.nil
                  exact AllReadyH.nil
                exact AllReadyH.nil
              exact AllReadyH.nil
            refine AllReadyH.cons (o := { dst := some 11, op := Op.alloc 26, type := 0, pos := "law.go:102", after := #[], guard := none }) rfl (fun K hK => ?_) ?_
            · rw [if_pos (by rfl)]
              ((refine wp_alloc_dig 11 rfl rfl ?_; intro gA w15 hg hrow hb; (try have hdA := dnew_ne HN.out (Nat.le_of_eq hg.symm)); (try have HN := Lib.hid (HN.out.keep hb)); (try have HG := Lib.hid (HG.out.keep hb)); have hgeA : w10.heap.size ≤ gA := (by have := HB0.out.size; omega); have HA := Lib.hid hrow; have HB0 := Lib.hid (below_next HB0.out hb); clear hg hrow hb))
              refine hK.out _ _ HB0.out (fun _ => ?_)
              clear hK K
              try simp only [Act.put, List.setIfInBounds_toArray, List.set_cons_zero, List.set_cons_succ]
              refine wpAnyH_ready (rs := [6]) (by kernel_rfl) (by simp) ?_
              refine AllReadyH.cons (o := { dst := some 48, op := Op.call { callee := Callee.builtin Builtin.append, args := #[Operand.tmp 46, Operand.tmp 47], argTypes := #[30, 30] }, type := 30, pos := "law.go:102", after := #[{ on := 4, ground := Ground.data }, { on := 5, ground := Ground.data }], guard := none }) rfl (fun K hK => ?_) ?_
              · rw [if_pos (by rfl)]
                ((refine wp_dapp' rfl _ _ rfl v0 [] rfl HN.out _ _ ps rfl (HPS.out _ HB0.out) HL1.out ?_; intro v1 w13 hn hk; (try have hx := hk _ _ _ HG.out hdG; have hdG := hx.2; have HG := Lib.hid hx.1; clear hx); (try have hx := hk _ _ _ HA.out hdA; have hdA := hx.2; have HA := Lib.hid hx.1; clear hx); have HN : Hid (DNew w10 w13 v1 ps) := hn; have HB0 := Lib.hid hn.2.1; clear hn hk))
                refine hK.out _ _ HB0.out (fun _ => ?_)
                clear hK K
                try simp only [Act.put, List.setIfInBounds_toArray, List.set_cons_zero, List.set_cons_succ]
                refine wpAnyH_ready (rs := [9]) (by kernel_rfl) (by simp) ?_
                refine AllReadyH.cons (o := { dst := some 51, op := Op.call { callee := Callee.builtin Builtin.append, args := #[Operand.tmp 48, Operand.tmp 50], argTypes := #[30, 30] }, type := 30, pos := "law.go:102", after := #[{ on := 6, ground := Ground.data }, { on := 8, ground := Ground.data }, { on := 6, ground := Ground.chain }], guard := none }) rfl (fun K hK => ?_) ?_
                · rw [if_pos (by rfl)]
                  ((refine wp_dapp' rfl _ _ rfl v1 ps rfl HN.out _ _ [d] rfl (drest_one' HG.out HDL.out) HL2.out ?_; intro v2 w14 hn hk; (try have hx := hk _ _ _ HA.out hdA; have hdA := hx.2; have HA := Lib.hid hx.1; clear hx); have HN := Lib.hid hn; have HB0 := Lib.hid hn.2.1; clear hn hk))
                  refine hK.out _ _ HB0.out (fun _ => ?_)
                  clear hK K
                  try simp only [Act.put, List.setIfInBounds_toArray, List.set_cons_zero, List.set_cons_succ]
                  refine wpAnyH_ready (rs := [10]) (by kernel_rfl) (by simp) ?_
                  refine AllReadyH.cons (o := { dst := some 52, op := Op.call { callee := Callee.value (Operand.func 22), args := #[Operand.tmp 42, Operand.tmp 43, Operand.tmp 45, Operand.tmp 51], argTypes := #[26, 3, 3, 30] }, type := 39, pos := "law.go:102", after := #[{ on := 0, ground := Ground.data }, { on := 1, ground := Ground.data }, { on := 3, ground := Ground.data }, { on := 9, ground := Ground.data }, { on := 9, ground := Ground.chain }], guard := none }) rfl (fun K hK => ?_) ?_
                  · rw [if_pos (by rfl)]
                    go_simp
                    go_wp2_with ((go_at_call 22; (refine (HC2.out _ _ (dbuf_rest HN.out.1)).mono ?_); rintro e w17 ⟨rfl, hb⟩; (try have HA := Lib.hid (HA.out.keep hb)); have HB0 := Lib.hid (below_next HB0.out hb); clear hb))
                    refine hK.out _ _ HB0.out (fun _ => ?_)
                    clear hK K
                    try simp only [Act.put, List.setIfInBounds_toArray, List.set_cons_zero, List.set_cons_succ]
                    refine wpAnyH_take (i := 11) (oi := { dst := some 41, op := Op.move (Operand.tmp 52), type := 39, pos := "law.go:102", after := #[{ on := 10, ground := Ground.data }], guard := none }) (v := ?_) rfl (by kernel_rfl) (by kernel_rfl) (by kernel_rfl) (fun _ _ _ h => h) (Or.inl ⟨by rfl, ?_⟩) HB0.out ?_
                    rotate_left
                    · (intro w _; go_simp; with_reducible rfl)
                    try simp only [Act.put, List.setIfInBounds_toArray, List.set_cons_zero, List.set_cons_succ]
                    refine wpAnyH_take (i := 12) (oi := { dst := some 53, op := Op.extract (Operand.tmp 41) 0, type := 26, pos := "law.go:102", after := #[{ on := 11, ground := Ground.data }], guard := none }) (v := ?_) rfl (by kernel_rfl) (by kernel_rfl) (by kernel_rfl) (fun _ _ _ h => h) (Or.inl ⟨by rfl, ?_⟩) HB0.out ?_
                    rotate_left
                    · (intro w _; go_simp; with_reducible rfl)
                    try simp only [Act.put, List.setIfInBounds_toArray, List.set_cons_zero, List.set_cons_succ]
                    refine wpAnyH_take (i := 13) (oi := { dst := some 54, op := Op.extract (Operand.tmp 41) 1, type := 34, pos := "law.go:102", after := #[{ on := 11, ground := Ground.data }, { on := 15, ground := Ground.gcOnly Departure.lateStores }], guard := none }) (v := ?_) rfl (by kernel_rfl) (by kernel_rfl) (by kernel_rfl) (fun _ _ _ h => h) (Or.inl ⟨by rfl, ?_⟩) HB0.out ?_
                    rotate_left
                    · (intro w _; go_simp; with_reducible rfl)
                    try simp only [Act.put, List.setIfInBounds_toArray, List.set_cons_zero, List.set_cons_succ]
                    refine wpAnyH_ready (rs := [15]) (by kernel_rfl) (by simp) ?_
                    refine AllReadyH.cons (o := { dst := none, op := Op.store 26 (Operand.tmp 11) (Operand.tmp 53), type := 0, pos := "law.go:102", after := #[{ on := 14, ground := Ground.data }, { on := 12, ground := Ground.data }, { on := 10, ground := Ground.chain }, { on := 0, ground := Ground.phase }, { on := 1, ground := Ground.phase }, { on := 2, ground := Ground.phase }, { on := 3, ground := Ground.phase }, { on := 4, ground := Ground.phase }, { on := 5, ground := Ground.phase }, { on := 6, ground := Ground.phase }, { on := 7, ground := Ground.phase }, { on := 8, ground := Ground.phase }, { on := 9, ground := Ground.phase }, { on := 10, ground := Ground.phase }, { on := 11, ground := Ground.phase }, { on := 12, ground := Ground.phase }, { on := 13, ground := Ground.textOnly Departure.lateStores }, { on := 14, ground := Ground.phase }], guard := none }) rfl (fun K hK => ?_) ?_
                    · rw [if_pos (by rfl)]
                      ((refine wp_store_dig' _ _ rfl gA zd HZD.out rfl rfl HA.out HB0.out hgeA ?_; intro w16 hrow hb hoth; have HB0 := Lib.hid hb; clear hrow hb hoth))
                      refine hK.out _ _ HB0.out (fun _ => ?_)
                      clear hK K
                      try simp only [Act.put, List.setIfInBounds_toArray, List.set_cons_zero, List.set_cons_succ]
                      refine wpAnyH_take (i := 16) (oi := { dst := some 12, op := Op.assign (Operand.tmp 54), type := 34, pos := "law.go:102", after := #[{ on := 13, ground := Ground.data }, { on := 15, ground := Ground.chain }, { on := 0, ground := Ground.phase }, { on := 1, ground := Ground.phase }, { on := 2, ground := Ground.phase }, { on := 3, ground := Ground.phase }, { on := 4, ground := Ground.phase }, { on := 5, ground := Ground.phase }, { on := 6, ground := Ground.phase }, { on := 7, ground := Ground.phase }, { on := 8, ground := Ground.phase }, { on := 9, ground := Ground.phase }, { on := 10, ground := Ground.phase }, { on := 11, ground := Ground.phase }, { on := 12, ground := Ground.phase }, { on := 13, ground := Ground.phase }, { on := 14, ground := Ground.phase }, { on := 15, ground := Ground.phase }], guard := none }) (v := ?_) rfl (by kernel_rfl) (by kernel_rfl) (by kernel_rfl) (fun _ _ _ h => h) (Or.inl ⟨by rfl, ?_⟩) HB0.out ?_
                      rotate_left
                      · (intro w _; go_simp; with_reducible rfl)
                      try simp only [Act.put, List.setIfInBounds_toArray, List.set_cons_zero, List.set_cons_succ]
                      refine wpAnyH_done (by kernel_rfl) ?_ _
                      ((exact K v0 v1 v2 g gA _ HB0.out))
                    exact AllReadyH.nil
                  exact AllReadyH.nil
                exact AllReadyH.nil
              exact AllReadyH.nil
            exact AllReadyH.nil
          refine AllReadyH.cons (o := { dst := some 11, op := Op.alloc 26, type := 0, pos := "law.go:102", after := #[], guard := none }) rfl (fun K hK => ?_) ?_
          · rw [if_pos (by rfl)]
            ((refine wp_alloc_dig 11 rfl rfl ?_; intro gA w15 hg hrow hb; (try have hdA := dnew_ne HN.out (Nat.le_of_eq hg.symm)); (try have HN := Lib.hid (HN.out.keep hb)); (try have HG := Lib.hid (HG.out.keep hb)); have hgeA : w10.heap.size ≤ gA := (by have := HB0.out.size; omega); have HA := Lib.hid hrow; have HB0 := Lib.hid (below_next HB0.out hb); clear hg hrow hb))
            refine hK.out _ _ HB0.out (fun _ => ?_)
            clear hK K
            try simp only [Act.put, List.setIfInBounds_toArray, List.set_cons_zero, List.set_cons_succ]
            refine wpAnyH_ready (rs := [4]) (by kernel_rfl) (by simp) ?_
            refine AllReadyH.cons (o := { dst := some 46, op := Op.buildSlice 30 0 #[], type := 30, pos := "law.go:102", after := #[], guard := none }) rfl (fun K hK => ?_) ?_
            · rw [if_pos (by rfl)]
              ((refine wp_dnone' rfl HB0.out ?_; intro v0 w11 hn hown hb; (try have hdG := own_ne HG.out hown); (try have hdA := own_ne HA.out hown); (try have HG := Lib.hid (HG.out.keep hb)); (try have HA := Lib.hid (HA.out.keep hb)); have HN := Lib.hid hn; have HB0 := Lib.hid hn.2.1; clear hn hown hb))
              refine hK.out _ _ HB0.out (fun _ => ?_)
              clear hK K
              try simp only [Act.put, List.setIfInBounds_toArray, List.set_cons_zero, List.set_cons_succ]
              refine wpAnyH_ready (rs := [6]) (by kernel_rfl) (by simp) ?_
              refine AllReadyH.cons (o := { dst := some 48, op := Op.call { callee := Callee.builtin Builtin.append, args := #[Operand.tmp 46, Operand.tmp 47], argTypes := #[30, 30] }, type := 30, pos := "law.go:102", after := #[{ on := 4, ground := Ground.data }, { on := 5, ground := Ground.data }], guard := none }) rfl (fun K hK => ?_) ?_
              · rw [if_pos (by rfl)]
                ((refine wp_dapp' rfl _ _ rfl v0 [] rfl HN.out _ _ ps rfl (HPS.out _ HB0.out) HL1.out ?_; intro v1 w13 hn hk; (try have hx := hk _ _ _ HG.out hdG; have hdG := hx.2; have HG := Lib.hid hx.1; clear hx); (try have hx := hk _ _ _ HA.out hdA; have hdA := hx.2; have HA := Lib.hid hx.1; clear hx); have HN : Hid (DNew w10 w13 v1 ps) := hn; have HB0 := Lib.hid hn.2.1; clear hn hk))
                refine hK.out _ _ HB0.out (fun _ => ?_)
                clear hK K
                try simp only [Act.put, List.setIfInBounds_toArray, List.set_cons_zero, List.set_cons_succ]
                refine wpAnyH_ready (rs := [9]) (by kernel_rfl) (by simp) ?_
                refine AllReadyH.cons (o := { dst := some 51, op := Op.call { callee := Callee.builtin Builtin.append, args := #[Operand.tmp 48, Operand.tmp 50], argTypes := #[30, 30] }, type := 30, pos := "law.go:102", after := #[{ on := 6, ground := Ground.data }, { on := 8, ground := Ground.data }, { on := 6, ground := Ground.chain }], guard := none }) rfl (fun K hK => ?_) ?_
                · rw [if_pos (by rfl)]
                  ((refine wp_dapp' rfl _ _ rfl v1 ps rfl HN.out _ _ [d] rfl (drest_one' HG.out HDL.out) HL2.out ?_; intro v2 w14 hn hk; (try have hx := hk _ _ _ HA.out hdA; have hdA := hx.2; have HA := Lib.hid hx.1; clear hx); have HN := Lib.hid hn; have HB0 := Lib.hid hn.2.1; clear hn hk))
                  refine hK.out _ _ HB0.out (fun _ => ?_)
                  clear hK K
                  try simp only [Act.put, List.setIfInBounds_toArray, List.set_cons_zero, List.set_cons_succ]
                  refine wpAnyH_ready (rs := [10]) (by kernel_rfl) (by simp) ?_
                  refine AllReadyH.cons (o := { dst := some 52, op := Op.call { callee := Callee.value (Operand.func 22), args := #[Operand.tmp 42, Operand.tmp 43, Operand.tmp 45, Operand.tmp 51], argTypes := #[26, 3, 3, 30] }, type := 39, pos := "law.go:102", after := #[{ on := 0, ground := Ground.data }, { on := 1, ground := Ground.data }, { on := 3, ground := Ground.data }, { on := 9, ground := Ground.data }, { on := 9, ground := Ground.chain }], guard := none }) rfl (fun K hK => ?_) ?_
                  · rw [if_pos (by rfl)]
                    go_simp
                    go_wp2_with ((go_at_call 22; (refine (HC2.out _ _ (dbuf_rest HN.out.1)).mono ?_); rintro e w17 ⟨rfl, hb⟩; (try have HA := Lib.hid (HA.out.keep hb)); have HB0 := Lib.hid (below_next HB0.out hb); clear hb))
                    refine hK.out _ _ HB0.out (fun _ => ?_)
                    clear hK K
                    try simp only [Act.put, List.setIfInBounds_toArray, List.set_cons_zero, List.set_cons_succ]
                    refine wpAnyH_take (i := 11) (oi := { dst := some 41, op := Op.move (Operand.tmp 52), type := 39, pos := "law.go:102", after := #[{ on := 10, ground := Ground.data }], guard := none }) (v := ?_) rfl (by kernel_rfl) (by kernel_rfl) (by kernel_rfl) (fun _ _ _ h => h) (Or.inl ⟨by rfl, ?_⟩) HB0.out ?_
                    rotate_left
                    · (intro w _; go_simp; with_reducible rfl)
                    try simp only [Act.put, List.setIfInBounds_toArray, List.set_cons_zero, List.set_cons_succ]
                    refine wpAnyH_take (i := 12) (oi := { dst := some 53, op := Op.extract (Operand.tmp 41) 0, type := 26, pos := "law.go:102", after := #[{ on := 11, ground := Ground.data }], guard := none }) (v := ?_) rfl (by kernel_rfl) (by kernel_rfl) (by kernel_rfl) (fun _ _ _ h => h) (Or.inl ⟨by rfl, ?_⟩) HB0.out ?_
                    rotate_left
                    · (intro w _; go_simp; with_reducible rfl)
                    try simp only [Act.put, List.setIfInBounds_toArray, List.set_cons_zero, List.set_cons_succ]
                    refine wpAnyH_take (i := 13) (oi := { dst := some 54, op := Op.extract (Operand.tmp 41) 1, type := 34, pos := "law.go:102", after := #[{ on := 11, ground := Ground.data }, { on := 15, ground := Ground.gcOnly Departure.lateStores }], guard := none }) (v := ?_) rfl (by kernel_rfl) (by kernel_rfl) (by kernel_rfl) (fun _ _ _ h => h) (Or.inl ⟨by rfl, ?_⟩) HB0.out ?_
                    rotate_left
                    · (intro w _; go_simp; with_reducible rfl)
                    try simp only [Act.put, List.setIfInBounds_toArray, List.set_cons_zero, List.set_cons_succ]
                    refine wpAnyH_ready (rs := [15]) (by kernel_rfl) (by simp) ?_
                    refine AllReadyH.cons (o := { dst := none, op := Op.store 26 (Operand.tmp 11) (Operand.tmp 53), type := 0, pos := "law.go:102", after := #[{ on := 14, ground := Ground.data }, { on := 12, ground := Ground.data }, { on := 10, ground := Ground.chain }, { on := 0, ground := Ground.phase }, { on := 1, ground := Ground.phase }, { on := 2, ground := Ground.phase }, { on := 3, ground := Ground.phase }, { on := 4, ground := Ground.phase }, { on := 5, ground := Ground.phase }, { on := 6, ground := Ground.phase }, { on := 7, ground := Ground.phase }, { on := 8, ground := Ground.phase }, { on := 9, ground := Ground.phase }, { on := 10, ground := Ground.phase }, { on := 11, ground := Ground.phase }, { on := 12, ground := Ground.phase }, { on := 13, ground := Ground.textOnly Departure.lateStores }, { on := 14, ground := Ground.phase }], guard := none }) rfl (fun K hK => ?_) ?_
                    · rw [if_pos (by rfl)]
                      ((refine wp_store_dig' _ _ rfl gA zd HZD.out rfl rfl HA.out HB0.out hgeA ?_; intro w16 hrow hb hoth; have HB0 := Lib.hid hb; clear hrow hb hoth))
                      refine hK.out _ _ HB0.out (fun _ => ?_)
                      clear hK K
                      try simp only [Act.put, List.setIfInBounds_toArray, List.set_cons_zero, List.set_cons_succ]
                      refine wpAnyH_take (i := 16) (oi := { dst := some 12, op := Op.assign (Operand.tmp 54), type := 34, pos := "law.go:102", after := #[{ on := 13, ground := Ground.data }, { on := 15, ground := Ground.chain }, { on := 0, ground := Ground.phase }, { on := 1, ground := Ground.phase }, { on := 2, ground := Ground.phase }, { on := 3, ground := Ground.phase }, { on := 4, ground := Ground.phase }, { on := 5, ground := Ground.phase }, { on := 6, ground := Ground.phase }, { on := 7, ground := Ground.phase }, { on := 8, ground := Ground.phase }, { on := 9, ground := Ground.phase }, { on := 10, ground := Ground.phase }, { on := 11, ground := Ground.phase }, { on := 12, ground := Ground.phase }, { on := 13, ground := Ground.phase }, { on := 14, ground := Ground.phase }, { on := 15, ground := Ground.phase }], guard := none }) (v := ?_) rfl (by kernel_rfl) (by kernel_rfl) (by kernel_rfl) (fun _ _ _ h => h) (Or.inl ⟨by rfl, ?_⟩) HB0.out ?_
                      rotate_left
                      · (intro w _; go_simp; with_reducible rfl)
                      try simp only [Act.put, List.setIfInBounds_toArray, List.set_cons_zero, List.set_cons_succ]
                      refine wpAnyH_done (by kernel_rfl) ?_ _
                      ((exact K v0 v1 v2 g gA _ HB0.out))
                    exact AllReadyH.nil
                  exact AllReadyH.nil
                exact AllReadyH.nil
              exact AllReadyH.nil
            exact AllReadyH.nil
          exact AllReadyH.nil
        refine AllReadyH.cons (o := { dst := some 11, op := Op.alloc 26, type := 0, pos := "law.go:102", after := #[], guard := none }) rfl (fun K hK => ?_) ?_
        · rw [if_pos (by rfl)]
          ((refine wp_alloc_dig 11 rfl rfl ?_; intro gA w15 hg hrow hb; (try have hdA := dnew_ne HN.out (Nat.le_of_eq hg.symm)); (try have HN := Lib.hid (HN.out.keep hb)); (try have HG := Lib.hid (HG.out.keep hb)); have hgeA : w10.heap.size ≤ gA := (by have := HB0.out.size; omega); have HA := Lib.hid hrow; have HB0 := Lib.hid (below_next HB0.out hb); clear hg hrow hb))
          refine hK.out _ _ HB0.out (fun _ => ?_)
          clear hK K
          try simp only [Act.put, List.setIfInBounds_toArray, List.set_cons_zero, List.set_cons_succ]
          refine wpAnyH_ready (rs := [4, 8]) (by kernel_rfl) (by simp) ?_
          refine AllReadyH.cons (o := { dst := some 46, op := Op.buildSlice 30 0 #[], type := 30, pos := "law.go:102", after := #[], guard := none }) rfl (fun K hK => ?_) ?_
          · rw [if_pos (by rfl)]
            ((refine wp_dnone' rfl HB0.out ?_; intro v0 w11 hn hown hb; (try have hdG := own_ne HG.out hown); (try have hdA := own_ne HA.out hown); (try have HG := Lib.hid (HG.out.keep hb)); (try have HA := Lib.hid (HA.out.keep hb)); have HN := Lib.hid hn; have HB0 := Lib.hid hn.2.1; clear hn hown hb))
            refine hK.out _ _ HB0.out (fun _ => ?_)
            clear hK K
            try simp only [Act.put, List.setIfInBounds_toArray, List.set_cons_zero, List.set_cons_succ]
            refine wpAnyH_ready (rs := [6, 8]) (by kernel_rfl) (by simp) ?_
            refine AllReadyH.cons (o := { dst := some 48, op := Op.call { callee := Callee.builtin Builtin.append, args := #[Operand.tmp 46, Operand.tmp 47], argTypes := #[30, 30] }, type := 30, pos := "law.go:102", after := #[{ on := 4, ground := Ground.data }, { on := 5, ground := Ground.data }], guard := none }) rfl (fun K hK => ?_) ?_
            · rw [if_pos (by rfl)]
              ((refine wp_dapp' rfl _ _ rfl v0 [] rfl HN.out _ _ ps rfl (HPS.out _ HB0.out) HL1.out ?_; intro v1 w13 hn hk; (try have hx := hk _ _ _ HG.out hdG; have hdG := hx.2; have HG := Lib.hid hx.1; clear hx); (try have hx := hk _ _ _ HA.out hdA; have hdA := hx.2; have HA := Lib.hid hx.1; clear hx); have HN : Hid (DNew w10 w13 v1 ps) := hn; have HB0 := Lib.hid hn.2.1; clear hn hk))
              refine hK.out _ _ HB0.out (fun _ => ?_)
              clear hK K
              try simp only [Act.put, List.setIfInBounds_toArray, List.set_cons_zero, List.set_cons_succ]
              refine wpAnyH_ready (rs := [8]) (by kernel_rfl) (by simp) ?_
              refine AllReadyH.cons (o := { dst := some 50, op := Op.buildSlice 30 1 #[(0, Operand.tmp 49)], type := 30, pos := "law.go:102", after := #[{ on := 7, ground := Ground.data }], guard := none }) rfl (fun K hK => ?_) ?_
              · rw [if_pos (by rfl)]
                ((refine wp_one' _ rfl d HDL.out rfl ?_; intro g w12 hrow hg hb; (try have hdG := dnew_ne HN.out hg); (try have HN := Lib.hid (HN.out.keep hb)); (try have HA := Lib.hid (HA.out.keep hb)); have HG := Lib.hid hrow; have HB0 := Lib.hid (below_next HB0.out hb); clear hrow hg hb))
                refine hK.out _ _ HB0.out (fun _ => ?_)
                clear hK K
                try simp only [Act.put, List.setIfInBounds_toArray, List.set_cons_zero, List.set_cons_succ]
                refine wpAnyH_ready (rs := [9]) (by kernel_rfl) (by simp) ?_
                refine AllReadyH.cons (o := { dst := some 51, op := Op.call { callee := Callee.builtin Builtin.append, args := #[Operand.tmp 48, Operand.tmp 50], argTypes := #[30, 30] }, type := 30, pos := "law.go:102", after := #[{ on := 6, ground := Ground.data }, { on := 8, ground := Ground.data }, { on := 6, ground := Ground.chain }], guard := none }) rfl (fun K hK => ?_) ?_
                · rw [if_pos (by rfl)]
                  ((refine wp_dapp' rfl _ _ rfl v1 ps rfl HN.out _ _ [d] rfl (drest_one' HG.out HDL.out) HL2.out ?_; intro v2 w14 hn hk; (try have hx := hk _ _ _ HA.out hdA; have hdA := hx.2; have HA := Lib.hid hx.1; clear hx); have HN := Lib.hid hn; have HB0 := Lib.hid hn.2.1; clear hn hk))
                  refine hK.out _ _ HB0.out (fun _ => ?_)
                  clear hK K
                  try simp only [Act.put, List.setIfInBounds_toArray, List.set_cons_zero, List.set_cons_succ]
                  refine wpAnyH_ready (rs := [10]) (by kernel_rfl) (by simp) ?_
                  refine AllReadyH.cons (o := { dst := some 52, op := Op.call { callee := Callee.value (Operand.func 22), args := #[Operand.tmp 42, Operand.tmp 43, Operand.tmp 45, Operand.tmp 51], argTypes := #[26, 3, 3, 30] }, type := 39, pos := "law.go:102", after := #[{ on := 0, ground := Ground.data }, { on := 1, ground := Ground.data }, { on := 3, ground := Ground.data }, { on := 9, ground := Ground.data }, { on := 9, ground := Ground.chain }], guard := none }) rfl (fun K hK => ?_) ?_
                  · rw [if_pos (by rfl)]
                    go_simp
                    go_wp2_with ((go_at_call 22; (refine (HC2.out _ _ (dbuf_rest HN.out.1)).mono ?_); rintro e w17 ⟨rfl, hb⟩; (try have HA := Lib.hid (HA.out.keep hb)); have HB0 := Lib.hid (below_next HB0.out hb); clear hb))
                    refine hK.out _ _ HB0.out (fun _ => ?_)
                    clear hK K
                    try simp only [Act.put, List.setIfInBounds_toArray, List.set_cons_zero, List.set_cons_succ]
                    refine wpAnyH_take (i := 11) (oi := { dst := some 41, op := Op.move (Operand.tmp 52), type := 39, pos := "law.go:102", after := #[{ on := 10, ground := Ground.data }], guard := none }) (v := ?_) rfl (by kernel_rfl) (by kernel_rfl) (by kernel_rfl) (fun _ _ _ h => h) (Or.inl ⟨by rfl, ?_⟩) HB0.out ?_
                    rotate_left
                    · (intro w _; go_simp; with_reducible rfl)
                    try simp only [Act.put, List.setIfInBounds_toArray, List.set_cons_zero, List.set_cons_succ]
                    refine wpAnyH_take (i := 12) (oi := { dst := some 53, op := Op.extract (Operand.tmp 41) 0, type := 26, pos := "law.go:102", after := #[{ on := 11, ground := Ground.data }], guard := none }) (v := ?_) rfl (by kernel_rfl) (by kernel_rfl) (by kernel_rfl) (fun _ _ _ h => h) (Or.inl ⟨by rfl, ?_⟩) HB0.out ?_
                    rotate_left
                    · (intro w _; go_simp; with_reducible rfl)
                    try simp only [Act.put, List.setIfInBounds_toArray, List.set_cons_zero, List.set_cons_succ]
                    refine wpAnyH_take (i := 13) (oi := { dst := some 54, op := Op.extract (Operand.tmp 41) 1, type := 34, pos := "law.go:102", after := #[{ on := 11, ground := Ground.data }, { on := 15, ground := Ground.gcOnly Departure.lateStores }], guard := none }) (v := ?_) rfl (by kernel_rfl) (by kernel_rfl) (by kernel_rfl) (fun _ _ _ h => h) (Or.inl ⟨by rfl, ?_⟩) HB0.out ?_
                    rotate_left
                    · (intro w _; go_simp; with_reducible rfl)
                    try simp only [Act.put, List.setIfInBounds_toArray, List.set_cons_zero, List.set_cons_succ]
                    refine wpAnyH_ready (rs := [15]) (by kernel_rfl) (by simp) ?_
                    refine AllReadyH.cons (o := { dst := none, op := Op.store 26 (Operand.tmp 11) (Operand.tmp 53), type := 0, pos := "law.go:102", after := #[{ on := 14, ground := Ground.data }, { on := 12, ground := Ground.data }, { on := 10, ground := Ground.chain }, { on := 0, ground := Ground.phase }, { on := 1, ground := Ground.phase }, { on := 2, ground := Ground.phase }, { on := 3, ground := Ground.phase }, { on := 4, ground := Ground.phase }, { on := 5, ground := Ground.phase }, { on := 6, ground := Ground.phase }, { on := 7, ground := Ground.phase }, { on := 8, ground := Ground.phase }, { on := 9, ground := Ground.phase }, { on := 10, ground := Ground.phase }, { on := 11, ground := Ground.phase }, { on := 12, ground := Ground.phase }, { on := 13, ground := Ground.textOnly Departure.lateStores }, { on := 14, ground := Ground.phase }], guard := none }) rfl (fun K hK => ?_) ?_
                    · rw [if_pos (by rfl)]
                      ((refine wp_store_dig' _ _ rfl gA zd HZD.out rfl rfl HA.out HB0.out hgeA ?_; intro w16 hrow hb hoth; have HB0 := Lib.hid hb; clear hrow hb hoth))
                      refine hK.out _ _ HB0.out (fun _ => ?_)
                      clear hK K
                      try simp only [Act.put, List.setIfInBounds_toArray, List.set_cons_zero, List.set_cons_succ]
                      refine wpAnyH_take (i := 16) (oi := { dst := some 12, op := Op.assign (Operand.tmp 54), type := 34, pos := "law.go:102", after := #[{ on := 13, ground := Ground.data }, { on := 15, ground := Ground.chain }, { on := 0, ground := Ground.phase }, { on := 1, ground := Ground.phase }, { on := 2, ground := Ground.phase }, { on := 3, ground := Ground.phase }, { on := 4, ground := Ground.phase }, { on := 5, ground := Ground.phase }, { on := 6, ground := Ground.phase }, { on := 7, ground := Ground.phase }, { on := 8, ground := Ground.phase }, { on := 9, ground := Ground.phase }, { on := 10, ground := Ground.phase }, { on := 11, ground := Ground.phase }, { on := 12, ground := Ground.phase }, { on := 13, ground := Ground.phase }, { on := 14, ground := Ground.phase }, { on := 15, ground := Ground.phase }], guard := none }) (v := ?_) rfl (by kernel_rfl) (by kernel_rfl) (by kernel_rfl) (fun _ _ _ h => h) (Or.inl ⟨by rfl, ?_⟩) HB0.out ?_
                      rotate_left
                      · (intro w _; go_simp; with_reducible rfl)
                      try simp only [Act.put, List.setIfInBounds_toArray, List.set_cons_zero, List.set_cons_succ]
                      refine wpAnyH_done (by kernel_rfl) ?_ _
                      ((exact K v0 v1 v2 g gA _ HB0.out))
                    exact AllReadyH.nil
                  exact AllReadyH.nil
                exact AllReadyH.nil
              exact AllReadyH.nil
            refine AllReadyH.cons (o := { dst := some 50, op := Op.buildSlice 30 1 #[(0, Operand.tmp 49)], type := 30, pos := "law.go:102", after := #[{ on := 7, ground := Ground.data }], guard := none }) rfl (fun K hK => ?_) ?_
            · rw [if_pos (by rfl)]
              ((refine wp_one' _ rfl d HDL.out rfl ?_; intro g w12 hrow hg hb; (try have hdG := dnew_ne HN.out hg); (try have HN := Lib.hid (HN.out.keep hb)); (try have HA := Lib.hid (HA.out.keep hb)); have HG := Lib.hid hrow; have HB0 := Lib.hid (below_next HB0.out hb); clear hrow hg hb))
              refine hK.out _ _ HB0.out (fun _ => ?_)
              clear hK K
              try simp only [Act.put, List.setIfInBounds_toArray, List.set_cons_zero, List.set_cons_succ]
              refine wpAnyH_ready (rs := [6]) (by kernel_rfl) (by simp) ?_
              refine AllReadyH.cons (o := { dst := some 48, op := Op.call { callee := Callee.builtin Builtin.append, args := #[Operand.tmp 46, Operand.tmp 47], argTypes := #[30, 30] }, type := 30, pos := "law.go:102", after := #[{ on := 4, ground := Ground.data }, { on := 5, ground := Ground.data }], guard := none }) rfl (fun K hK => ?_) ?_
              · rw [if_pos (by rfl)]
                ((refine wp_dapp' rfl _ _ rfl v0 [] rfl HN.out _ _ ps rfl (HPS.out _ HB0.out) HL1.out ?_; intro v1 w13 hn hk; (try have hx := hk _ _ _ HG.out hdG; have hdG := hx.2; have HG := Lib.hid hx.1; clear hx); (try have hx := hk _ _ _ HA.out hdA; have hdA := hx.2; have HA := Lib.hid hx.1; clear hx); have HN : Hid (DNew w10 w13 v1 ps) := hn; have HB0 := Lib.hid hn.2.1; clear hn hk))
                refine hK.out _ _ HB0.out (fun _ => ?_)
                clear hK K
                try simp only [Act.put, List.setIfInBounds_toArray, List.set_cons_zero, List.set_cons_succ]
                refine wpAnyH_ready (rs := [9]) (by kernel_rfl) (by simp) ?_
                refine AllReadyH.cons (o := { dst := some 51, op := Op.call { callee := Callee.builtin Builtin.append, args := #[Operand.tmp 48, Operand.tmp 50], argTypes := #[30, 30] }, type := 30, pos := "law.go:102", after := #[{ on := 6, ground := Ground.data }, { on := 8, ground := Ground.data }, { on := 6, ground := Ground.chain }], guard := none }) rfl (fun K hK => ?_) ?_
                · rw [if_pos (by rfl)]
                  ((refine wp_dapp' rfl _ _ rfl v1 ps rfl HN.out _ _ [d] rfl (drest_one' HG.out HDL.out) HL2.out ?_; intro v2 w14 hn hk; (try have hx := hk _ _ _ HA.out hdA; have hdA := hx.2; have HA := Lib.hid hx.1; clear hx); have HN := Lib.hid hn; have HB0 := Lib.hid hn.2.1; clear hn hk))
                  refine hK.out _ _ HB0.out (fun _ => ?_)
                  clear hK K
                  try simp only [Act.put, List.setIfInBounds_toArray, List.set_cons_zero, List.set_cons_succ]
                  refine wpAnyH_ready (rs := [10]) (by kernel_rfl) (by simp) ?_
                  refine AllReadyH.cons (o := { dst := some 52, op := Op.call { callee := Callee.value (Operand.func 22), args := #[Operand.tmp 42, Operand.tmp 43, Operand.tmp 45, Operand.tmp 51], argTypes := #[26, 3, 3, 30] }, type := 39, pos := "law.go:102", after := #[{ on := 0, ground := Ground.data }, { on := 1, ground := Ground.data }, { on := 3, ground := Ground.data }, { on := 9, ground := Ground.data }, { on := 9, ground := Ground.chain }], guard := none }) rfl (fun K hK => ?_) ?_
                  · rw [if_pos (by rfl)]
                    go_simp
                    go_wp2_with ((go_at_call 22; (refine (HC2.out _ _ (dbuf_rest HN.out.1)).mono ?_); rintro e w17 ⟨rfl, hb⟩; (try have HA := Lib.hid (HA.out.keep hb)); have HB0 := Lib.hid (below_next HB0.out hb); clear hb))
                    refine hK.out _ _ HB0.out (fun _ => ?_)
                    clear hK K
                    try simp only [Act.put, List.setIfInBounds_toArray, List.set_cons_zero, List.set_cons_succ]
                    refine wpAnyH_take (i := 11) (oi := { dst := some 41, op := Op.move (Operand.tmp 52), type := 39, pos := "law.go:102", after := #[{ on := 10, ground := Ground.data }], guard := none }) (v := ?_) rfl (by kernel_rfl) (by kernel_rfl) (by kernel_rfl) (fun _ _ _ h => h) (Or.inl ⟨by rfl, ?_⟩) HB0.out ?_
                    rotate_left
                    · (intro w _; go_simp; with_reducible rfl)
                    try simp only [Act.put, List.setIfInBounds_toArray, List.set_cons_zero, List.set_cons_succ]
                    refine wpAnyH_take (i := 12) (oi := { dst := some 53, op := Op.extract (Operand.tmp 41) 0, type := 26, pos := "law.go:102", after := #[{ on := 11, ground := Ground.data }], guard := none }) (v := ?_) rfl (by kernel_rfl) (by kernel_rfl) (by kernel_rfl) (fun _ _ _ h => h) (Or.inl ⟨by rfl, ?_⟩) HB0.out ?_
                    rotate_left
                    · (intro w _; go_simp; with_reducible rfl)
                    try simp only [Act.put, List.setIfInBounds_toArray, List.set_cons_zero, List.set_cons_succ]
                    refine wpAnyH_take (i := 13) (oi := { dst := some 54, op := Op.extract (Operand.tmp 41) 1, type := 34, pos := "law.go:102", after := #[{ on := 11, ground := Ground.data }, { on := 15, ground := Ground.gcOnly Departure.lateStores }], guard := none }) (v := ?_) rfl (by kernel_rfl) (by kernel_rfl) (by kernel_rfl) (fun _ _ _ h => h) (Or.inl ⟨by rfl, ?_⟩) HB0.out ?_
                    rotate_left
                    · (intro w _; go_simp; with_reducible rfl)
                    try simp only [Act.put, List.setIfInBounds_toArray, List.set_cons_zero, List.set_cons_succ]
                    refine wpAnyH_ready (rs := [15]) (by kernel_rfl) (by simp) ?_
                    refine AllReadyH.cons (o := { dst := none, op := Op.store 26 (Operand.tmp 11) (Operand.tmp 53), type := 0, pos := "law.go:102", after := #[{ on := 14, ground := Ground.data }, { on := 12, ground := Ground.data }, { on := 10, ground := Ground.chain }, { on := 0, ground := Ground.phase }, { on := 1, ground := Ground.phase }, { on := 2, ground := Ground.phase }, { on := 3, ground := Ground.phase }, { on := 4, ground := Ground.phase }, { on := 5, ground := Ground.phase }, { on := 6, ground := Ground.phase }, { on := 7, ground := Ground.phase }, { on := 8, ground := Ground.phase }, { on := 9, ground := Ground.phase }, { on := 10, ground := Ground.phase }, { on := 11, ground := Ground.phase }, { on := 12, ground := Ground.phase }, { on := 13, ground := Ground.textOnly Departure.lateStores }, { on := 14, ground := Ground.phase }], guard := none }) rfl (fun K hK => ?_) ?_
                    · rw [if_pos (by rfl)]
                      ((refine wp_store_dig' _ _ rfl gA zd HZD.out rfl rfl HA.out HB0.out hgeA ?_; intro w16 hrow hb hoth; have HB0 := Lib.hid hb; clear hrow hb hoth))
                      refine hK.out _ _ HB0.out (fun _ => ?_)
                      clear hK K
                      try simp only [Act.put, List.setIfInBounds_toArray, List.set_cons_zero, List.set_cons_succ]
                      refine wpAnyH_take (i := 16) (oi := { dst := some 12, op := Op.assign (Operand.tmp 54), type := 34, pos := "law.go:102", after := #[{ on := 13, ground := Ground.data }, { on := 15, ground := Ground.chain }, { on := 0, ground := Ground.phase }, { on := 1, ground := Ground.phase }, { on := 2, ground := Ground.phase }, { on := 3, ground := Ground.phase }, { on := 4, ground := Ground.phase }, { on := 5, ground := Ground.phase }, { on := 6, ground := Ground.phase }, { on := 7, ground := Ground.phase }, { on := 8, ground := Ground.phase }, { on := 9, ground := Ground.phase }, { on := 10, ground := Ground.phase }, { on := 11, ground := Ground.phase }, { on := 12, ground := Ground.phase }, { on := 13, ground := Ground.phase }, { on := 14, ground := Ground.phase }, { on := 15, ground := Ground.phase }], guard := none }) (v := ?_) rfl (by kernel_rfl) (by kernel_rfl) (by kernel_rfl) (fun _ _ _ h => h) (Or.inl ⟨by rfl, ?_⟩) HB0.out ?_
                      rotate_left
                      · (intro w _; go_simp; with_reducible rfl)
                      try simp only [Act.put, List.setIfInBounds_toArray, List.set_cons_zero, List.set_cons_succ]
                      refine wpAnyH_done (by kernel_rfl) ?_ _
                      ((exact K v0 v1 v2 g gA _ HB0.out))
                    exact AllReadyH.nil
                  exact AllReadyH.nil
                exact AllReadyH.nil
              exact AllReadyH.nil
            exact AllReadyH.nil
          refine AllReadyH.cons (o := { dst := some 50, op := Op.buildSlice 30 1 #[(0, Operand.tmp 49)], type := 30, pos := "law.go:102", after := #[{ on := 7, ground := Ground.data }], guard := none }) rfl (fun K hK => ?_) ?_
          · rw [if_pos (by rfl)]
            ((refine wp_one' _ rfl d HDL.out rfl ?_; intro g w12 hrow hg hb; (try have hdG := dnew_ne HN.out hg); (try have HN := Lib.hid (HN.out.keep hb)); (try have HA := Lib.hid (HA.out.keep hb)); have HG := Lib.hid hrow; have HB0 := Lib.hid (below_next HB0.out hb); clear hrow hg hb))
            refine hK.out _ _ HB0.out (fun _ => ?_)
            clear hK K
            try simp only [Act.put, List.setIfInBounds_toArray, List.set_cons_zero, List.set_cons_succ]
            refine wpAnyH_ready (rs := [4]) (by kernel_rfl) (by simp) ?_
            refine AllReadyH.cons (o := { dst := some 46, op := Op.buildSlice 30 0 #[], type := 30, pos := "law.go:102", after := #[], guard := none }) rfl (fun K hK => ?_) ?_
            · rw [if_pos (by rfl)]
              ((refine wp_dnone' rfl HB0.out ?_; intro v0 w11 hn hown hb; (try have hdG := own_ne HG.out hown); (try have hdA := own_ne HA.out hown); (try have HG := Lib.hid (HG.out.keep hb)); (try have HA := Lib.hid (HA.out.keep hb)); have HN := Lib.hid hn; have HB0 := Lib.hid hn.2.1; clear hn hown hb))
              refine hK.out _ _ HB0.out (fun _ => ?_)
              clear hK K
              try simp only [Act.put, List.setIfInBounds_toArray, List.set_cons_zero, List.set_cons_succ]
              refine wpAnyH_ready (rs := [6]) (by kernel_rfl) (by simp) ?_
              refine AllReadyH.cons (o := { dst := some 48, op := Op.call { callee := Callee.builtin Builtin.append, args := #[Operand.tmp 46, Operand.tmp 47], argTypes := #[30, 30] }, type := 30, pos := "law.go:102", after := #[{ on := 4, ground := Ground.data }, { on := 5, ground := Ground.data }], guard := none }) rfl (fun K hK => ?_) ?_
              · rw [if_pos (by rfl)]
                ((refine wp_dapp' rfl _ _ rfl v0 [] rfl HN.out _ _ ps rfl (HPS.out _ HB0.out) HL1.out ?_; intro v1 w13 hn hk; (try have hx := hk _ _ _ HG.out hdG; have hdG := hx.2; have HG := Lib.hid hx.1; clear hx); (try have hx := hk _ _ _ HA.out hdA; have hdA := hx.2; have HA := Lib.hid hx.1; clear hx); have HN : Hid (DNew w10 w13 v1 ps) := hn; have HB0 := Lib.hid hn.2.1; clear hn hk))
                refine hK.out _ _ HB0.out (fun _ => ?_)
                clear hK K
                try simp only [Act.put, List.setIfInBounds_toArray, List.set_cons_zero, List.set_cons_succ]
                refine wpAnyH_ready (rs := [9]) (by kernel_rfl) (by simp) ?_
                refine AllReadyH.cons (o := { dst := some 51, op := Op.call { callee := Callee.builtin Builtin.append, args := #[Operand.tmp 48, Operand.tmp 50], argTypes := #[30, 30] }, type := 30, pos := "law.go:102", after := #[{ on := 6, ground := Ground.data }, { on := 8, ground := Ground.data }, { on := 6, ground := Ground.chain }], guard := none }) rfl (fun K hK => ?_) ?_
                · rw [if_pos (by rfl)]
                  ((refine wp_dapp' rfl _ _ rfl v1 ps rfl HN.out _ _ [d] rfl (drest_one' HG.out HDL.out) HL2.out ?_; intro v2 w14 hn hk; (try have hx := hk _ _ _ HA.out hdA; have hdA := hx.2; have HA := Lib.hid hx.1; clear hx); have HN := Lib.hid hn; have HB0 := Lib.hid hn.2.1; clear hn hk))
                  refine hK.out _ _ HB0.out (fun _ => ?_)
                  clear hK K
                  try simp only [Act.put, List.setIfInBounds_toArray, List.set_cons_zero, List.set_cons_succ]
                  refine wpAnyH_ready (rs := [10]) (by kernel_rfl) (by simp) ?_
                  refine AllReadyH.cons (o := { dst := some 52, op := Op.call { callee := Callee.value (Operand.func 22), args := #[Operand.tmp 42, Operand.tmp 43, Operand.tmp 45, Operand.tmp 51], argTypes := #[26, 3, 3, 30] }, type := 39, pos := "law.go:102", after := #[{ on := 0, ground := Ground.data }, { on := 1, ground := Ground.data }, { on := 3, ground := Ground.data }, { on := 9, ground := Ground.data }, { on := 9, ground := Ground.chain }], guard := none }) rfl (fun K hK => ?_) ?_
                  · rw [if_pos (by rfl)]
                    go_simp
                    go_wp2_with ((go_at_call 22; (refine (HC2.out _ _ (dbuf_rest HN.out.1)).mono ?_); rintro e w17 ⟨rfl, hb⟩; (try have HA := Lib.hid (HA.out.keep hb)); have HB0 := Lib.hid (below_next HB0.out hb); clear hb))
                    refine hK.out _ _ HB0.out (fun _ => ?_)
                    clear hK K
                    try simp only [Act.put, List.setIfInBounds_toArray, List.set_cons_zero, List.set_cons_succ]
                    refine wpAnyH_take (i := 11) (oi := { dst := some 41, op := Op.move (Operand.tmp 52), type := 39, pos := "law.go:102", after := #[{ on := 10, ground := Ground.data }], guard := none }) (v := ?_) rfl (by kernel_rfl) (by kernel_rfl) (by kernel_rfl) (fun _ _ _ h => h) (Or.inl ⟨by rfl, ?_⟩) HB0.out ?_
                    rotate_left
                    · (intro w _; go_simp; with_reducible rfl)
                    try simp only [Act.put, List.setIfInBounds_toArray, List.set_cons_zero, List.set_cons_succ]
                    refine wpAnyH_take (i := 12) (oi := { dst := some 53, op := Op.extract (Operand.tmp 41) 0, type := 26, pos := "law.go:102", after := #[{ on := 11, ground := Ground.data }], guard := none }) (v := ?_) rfl (by kernel_rfl) (by kernel_rfl) (by kernel_rfl) (fun _ _ _ h => h) (Or.inl ⟨by rfl, ?_⟩) HB0.out ?_
                    rotate_left
                    · (intro w _; go_simp; with_reducible rfl)
                    try simp only [Act.put, List.setIfInBounds_toArray, List.set_cons_zero, List.set_cons_succ]
                    refine wpAnyH_take (i := 13) (oi := { dst := some 54, op := Op.extract (Operand.tmp 41) 1, type := 34, pos := "law.go:102", after := #[{ on := 11, ground := Ground.data }, { on := 15, ground := Ground.gcOnly Departure.lateStores }], guard := none }) (v := ?_) rfl (by kernel_rfl) (by kernel_rfl) (by kernel_rfl) (fun _ _ _ h => h) (Or.inl ⟨by rfl, ?_⟩) HB0.out ?_
                    rotate_left
                    · (intro w _; go_simp; with_reducible rfl)
                    try simp only [Act.put, List.setIfInBounds_toArray, List.set_cons_zero, List.set_cons_succ]
                    refine wpAnyH_ready (rs := [15]) (by kernel_rfl) (by simp) ?_
                    refine AllReadyH.cons (o := { dst := none, op := Op.store 26 (Operand.tmp 11) (Operand.tmp 53), type := 0, pos := "law.go:102", after := #[{ on := 14, ground := Ground.data }, { on := 12, ground := Ground.data }, { on := 10, ground := Ground.chain }, { on := 0, ground := Ground.phase }, { on := 1, ground := Ground.phase }, { on := 2, ground := Ground.phase }, { on := 3, ground := Ground.phase }, { on := 4, ground := Ground.phase }, { on := 5, ground := Ground.phase }, { on := 6, ground := Ground.phase }, { on := 7, ground := Ground.phase }, { on := 8, ground := Ground.phase }, { on := 9, ground := Ground.phase }, { on := 10, ground := Ground.phase }, { on := 11, ground := Ground.phase }, { on := 12, ground := Ground.phase }, { on := 13, ground := Ground.textOnly Departure.lateStores }, { on := 14, ground := Ground.phase }], guard := none }) rfl (fun K hK => ?_) ?_
                    · rw [if_pos (by rfl)]
                      ((refine wp_store_dig' _ _ rfl gA zd HZD.out rfl rfl HA.out HB0.out hgeA ?_; intro w16 hrow hb hoth; have HB0 := Lib.hid hb; clear hrow hb hoth))
                      refine hK.out _ _ HB0.out (fun _ => ?_)
                      clear hK K
                      try simp only [Act.put, List.setIfInBounds_toArray, List.set_cons_zero, List.set_cons_succ]
                      refine wpAnyH_take (i := 16) (oi := { dst := some 12, op := Op.assign (Operand.tmp 54), type := 34, pos := "law.go:102", after := #[{ on := 13, ground := Ground.data }, { on := 15, ground := Ground.chain }, { on := 0, ground := Ground.phase }, { on := 1, ground := Ground.phase }, { on := 2, ground := Ground.phase }, { on := 3, ground := Ground.phase }, { on := 4, ground := Ground.phase }, { on := 5, ground := Ground.phase }, { on := 6, ground := Ground.phase }, { on := 7, ground := Ground.phase }, { on := 8, ground := Ground.phase }, { on := 9, ground := Ground.phase }, { on := 10, ground := Ground.phase }, { on := 11, ground := Ground.phase }, { on := 12, ground := Ground.phase }, { on := 13, ground := Ground.phase }, { on := 14, ground := Ground.phase }, { on := 15, ground := Ground.phase }], guard := none }) (v := ?_) rfl (by kernel_rfl) (by kernel_rfl) (by kernel_rfl) (fun _ _ _ h => h) (Or.inl ⟨by rfl, ?_⟩) HB0.out ?_
                      rotate_left
                      · (intro w _; go_simp; with_reducible rfl)
                      try simp only [Act.put, List.setIfInBounds_toArray, List.set_cons_zero, List.set_cons_succ]
                      refine wpAnyH_done (by kernel_rfl) ?_ _
                      ((exact K v0 v1 v2 g gA _ HB0.out))
                    exact AllReadyH.nil
                  exact AllReadyH.nil
                exact AllReadyH.nil
              exact AllReadyH.nil
            exact AllReadyH.nil
          exact AllReadyH.nil
        exact AllReadyH.nil
      case kk =>
        intro v0 v1 v2 g gA w18 hb18
        have HG9Y := Lib.hid (HG910.out.keep hb18)
        have HG4Y := Lib.hid (HG4X.out.keep hb18)
        have HBY := Lib.hid (below_next HBX.out hb18)
        have htn : ¬ (t : Int) > 5 := by omega
        clear hb18
        go_wp2_with (first
          | (refine wpList_row_want (.tmp 9) rfl g9 tC HLC.out rfl HG9Y.out (by rfl) ?_)
          | (refine wpList_row_want (.tmp 4) rfl g4 tC HLC.out rfl HG4Y.out (by rfl) ?_)
          | (refine wpList_neq_dig _ _ rfl tC tC HLC.out HLC.out rfl rfl (by rfl) ?_; rw [beq_self_eq_true])
          | fail)
        go_roundw
        case rel => exact ⟨i + 1, by omega, by go_num, HBY.out⟩
        case measure => simp [intOf]; omega
    · obtain rfl : i = m := by omega
      go_wp2_with fail
      go_ret
      exact ⟨rfl, below_next HBW.out HBR.out⟩
end Go.Proofs.YtjibhelahagliaaDoor
