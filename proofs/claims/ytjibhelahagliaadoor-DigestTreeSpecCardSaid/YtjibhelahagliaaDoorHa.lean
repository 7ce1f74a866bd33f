/- DigestHalves: the law's walk. -/
import Derived.Test.YtjibhelahagliaaDoorSt
import Derived.Test.YtjibhelahagliaaDoorTa
import Derived.Deep.RegionLaw
import Derived.Deep.RegionHeld
import Derived.BigRegion
namespace Go.Proofs.YtjibhelahagliaaDoor
open Go.RowKit

theorem wpList_eq_dig {ops : Array Oper} {rest : List Oper} {o : Oper} {a : Act} {w : World} {Q : Exit → Act → World → Prop} (hgd : o.guard = none) (x y : Operand) (ho : o.op = .binOp .eql 26 x y 26)
    (c d : List UInt8) (hc : c.length = 32) (hd : d.length = 32) (hx : a.eval x = dg c) (hy : a.eval y = dg d)
    (h : wpList Tryd.prog ops Q rest (a.put o.dst (.bool (c == d))) w) : wpList Tryd.prog ops Q (o :: rest) a w :=
  wpList_plain hgd fun _ hK => wp_eq_dig x y ho c d hc hd hx hy (hK _ _ h)
theorem drest_bytes {B : Nat} {w : World} {b off n cap : Nat} {ds : List (List UInt8)} (h : DRest B w ds (.slice (some ⟨b, off, none⟩) n cap)) (i : Nat) (hi : i < ds.length) : Rest B w (ds.getD i []) (.slice (some ⟨b, off + i * 32, none⟩) 32 32) := by
  have hl := h.1.get hi
  obtain ⟨b', off', cap', he, _, _, hb, hc⟩ := h.some (by omega)
  injection he with h1 _ _
  injection h1 with h1
  injection h1 with h1 h2 _
  subst h1 h2
  exact ⟨some ⟨b, off + i * 32, none⟩, 32, by rw [hl], by omega, by simp [maxLen], (fun h => by cases h), .inr ⟨b, off + i * 32, rfl, hb, fun j hj => by
    have := hc i hi j (by omega)
    rw [this]
    generalize ds.getD i [] = x at hj ⊢
    simp [hj]⟩⟩
theorem row_far {w : World} {g g' T : Nat} {cs : List Value} (h : Row w g T cs) (cs' : Array Value) (hne : g ≠ g') : Row (w.setRow g' cs') g T cs := (setRow_other w g' g cs' (by omega)).trans h
theorem wp_alloc_dig {o : Oper} {a : Act} {w : World} {K : Act → World → Prop} {Q : Exit → Act → World → Prop} (t : Nat) (hd : o.dst = some t) (ho : o.op = .alloc 26)
    (h : ∀ g w', g = w.heap.size → Row w' g 26 zb → Below w.heap.size w w' → K (a.put (some t) (.pointer (some ⟨g, 0, none⟩))) w') : o.wp Tryd.prog a w K Q := by
  have h1 := h w.heap.size (w.alloc (.cells z32 26)) rfl (row_new w 26 zb) (Joins.below_alloc1 w _)
  obtain ⟨i0, hi, hz0, -, -⟩ := info_parts Tryd.info26
  rw [← hd] at h1
  unfold Oper.wp
  simp [execOp, ho, newObj, newVar, zeroValue, typeInfo, hi, hz0, Sem.run_bind]
  exact h1
theorem wp_store_dig' {o : Oper} {a : Act} {w : World} {K : Act → World → Prop} {Q : Exit → Act → World → Prop} (x y : Operand) (ho : o.op = .store 26 x y)
    (g : Nat) (d : List UInt8) (hd : d.length = 32) (hx : a.eval x = .pointer (some ⟨g, 0, none⟩)) (hy : a.eval y = dg d) (hg : Row w g 26 zb) {B : Nat} {w0 : World} (hb : Below B w0 w) (hB : B ≤ g)
    (h : ∀ w', Row w' g 26 (cellsOf d) → Below B w0 w' → (∀ g' T cs, g' ≠ g → Row w g' T cs → Row w' g' T cs) → K (a.put o.dst undef) w') : o.wp Tryd.prog a w K Q :=
  wp_store_dig x y ho g d hd hx hy hg (h _ (hg.setRow _) (below_setRow hb _ _ hB) fun g' T cs hne hr => row_far hr _ hne)

theorem wp_none' {o : Oper} {a : Act} {w w0 : World} {K : Act → World → Prop} {Q : Exit → Act → World → Prop} (ho : o.op = .buildSlice 22 0 #[]) (hb : Below w0.heap.size w0 w)
    (h : ∀ v' w', New w0 w' v' [] → K (a.put o.dst v') w') : o.wp Tryd.prog a w K Q := by
  obtain ⟨i0, hi, -, -, -⟩ := info_parts Tryd.info5
  exact wp_build_none 22 5 ho i0 Tryd.underlying22 hi (h _ _ ((new_none w).since hb))
theorem New.app' {w0 w w1 : World} {v v' : Value} {xs ys : List UInt8} (h : New w0 w v xs) (hb : Buf w1 v' ys) (hw : Wrote w w1 v v') : New w0 w1 v' ys := h.app hb hw
theorem wp_buf' {w w0 : World} {o : Oper} {a : Act} {K : Act → World → Prop} {Q : Exit → Act → World → Prop} (hgd : o.guard = none) (s x : Operand)
    (ho : o.op = .call { callee := .builtin .append, args := #[s, x], argTypes := #[22, 22] })
    (v : Value) (xs : List UInt8) (hs : a.eval s = v) (hn : New w0 w v xs) (sv : Value) (B : Nat) (ys : List UInt8) (hx : a.eval x = sv) (hr : Rest B w ys sv) (hlen : xs.length + ys.length ≤ 70368744177664)
    (h : ∀ v' w', New w0 w' v' (xs ++ ys) → K (a.put o.dst v') w') : o.wp Tryd.prog a w K Q :=
  wp_buf hgd s x ho v xs hs hn.1 sv B ys hx hr hlen fun v' w' hb hw => h v' w' (hn.app hb hw)
theorem cut3 {A B C : Type} {F : A → B → C → Prop} (G : A → B → C → Prop) {R : Prop} (rest : (∀ a b c, F a b c → G a b c) → R) (kk : ∀ a b c, F a b c → G a b c) : R := rest kk
theorem half_bound {m q : Nat} (h : 2 ≤ m) (hq : q = hf m) : 0 < q ∧ q < m := by rw [hq]; exact ⟨hf_pos h, hf_lt h⟩

set_option maxHeartbeats 8000000 in
set_option maxRecDepth 100000 in
theorem halves_walk (hs : Sane) (bs : List UInt8) (v : Value) (w : World) (hr : Rest w.heap.size w bs v) (hT : Tab w) :
    Calls Tryd.prog 7 #[v] w fun e w' => e = .returned (.bool true) ∧ Below w.heap.size w w' := by
  have HT := Lib.hid hT
  have HR := Lib.hid hr
  obtain ⟨a, cap, rfl⟩ : ∃ a cap, v = .slice a bs.length cap := by obtain ⟨a, cap, h, _⟩ := hr; exact ⟨a, cap, h⟩
  have HS := Lib.hid (hs w hT)
  clear hs hT hr
  go_enter Tryd.func7, Tryd.ntmps7
  go_wp2_with fail
  refine HS.out.mono ?_
  rintro e w1 ⟨rfl, hb1⟩
  have HB1 := Lib.hid hb1
  have HD := Lib.hid (digestsOf_call bs _ w1 (rest_keep HR.out hb1))
  clear HS hb1
  go_wp2_with fail
  refine HD.out.mono ?_
  rintro e w2 ⟨v3, rfl, hnew⟩
  clear HD
  obtain ⟨ds, hds⟩ : ∃ ds, ds = dgs bs := ⟨_, rfl⟩
  rw [← hds] at hnew
  have hlen : ds.length ≤ 24 := by rw [hds, dgs_len]; omega
  have HB2 := Lib.hid (below_next HB1.out hnew.2.1)
  have HDR := Lib.hid (dbuf_rest hnew.1)
  have HT2 := Lib.hid (HT.out.keep HB2.out)
  obtain ⟨a3, c3, rfl⟩ := hnew.shape
  clear hds hnew HB1 HR HT
  obtain ⟨m, hm⟩ : ∃ m, m = ds.length := ⟨_, rfl⟩
  have HTr : Hid (∀ W' : World, Below w2.heap.size w2 W' → Calls Tryd.prog 17 #[.slice a3 m c3] W' (RetD W' (tree ds))) := fun W' h => by
    rw [hm]
    exact tree_call ds (by omega) _ W' (HDR.out.keep h) (HT2.out.keep h)
  obtain ⟨tC, htC⟩ : ∃ tC, tC = tree ds := ⟨_, rfl⟩
  have HLC : Hid (tC.length = 32) := by rw [htC]; exact tree_len _
  rw [← htC] at HTr
  have HTG : Hid (∀ (W' : World) (tag : ByteArray) (l : List UInt8) (u : Value), tag.size ≤ 600 → l.length ≤ 600 → Rest W'.heap.size W' l u → Below w2.heap.size w2 W' → tagged tag.data.toList l = tC → Calls Tryd.prog 14 #[.string tag, u] W' (RetD W' tC)) := fun W' tag l u h1 h2 h3 h4 h5 => by
    rw [← h5]
    exact tagged_call tag l u W' (by omega) (by omega) h3 (HT2.out.keep h4)
  rw [← hm] at hlen ⊢
  rcases Nat.lt_or_ge m 2 with hlt | hge
  · rcases Nat.eq_zero_or_pos m with h0 | h0
    · subst h0
      have hd0 : ds = [] := List.eq_nil_of_length_eq_zero hm.symm
      have HE : Hid (tagged emptyS.data.toList [] = tC) := by rw [htC, hd0, tree_0]; rfl
      clear hm htC hd0 HDR
      go_wp2_with fail
      refine (HTr.out _ (Below.refl _ _)).mono ?_
      rintro e w3 ⟨rfl, hb3⟩
      have HB3 := Lib.hid hb3
      clear hb3
      go_wp2_with fail
      refine (HTG.out _ _ [] _ (by decide) (by simp) (rest_nil _ _) HB3.out HE.out).mono ?_
      rintro e w4 ⟨rfl, hb4⟩
      have HB4 := Lib.hid (below_next HB2.out (below_next HB3.out hb4))
      clear hb4
      go_wp2_with (refine wpList_eq_dig rfl _ _ rfl tC tC HLC.out HLC.out rfl rfl ?_; rw [beq_self_eq_true])
      exact bodyPost_ret (results_tmp (p := 2) rfl _ _ (.bool true) rfl) rfl ⟨rfl, HB4.out⟩
    · obtain rfl : m = 1 := by omega
      obtain ⟨b, off, c3', he, hcc, hcc2, hbl, hcd⟩ := HDR.out.some (by omega)
      injection he with h1 h2 h3
      subst h1 h3
      have HBY : Hid (∀ W' : World, Below w2.heap.size w2 W' → Rest W'.heap.size W' (ds.getD 0 []) (.slice (some ⟨b, off, none⟩) 32 32)) := fun W' h => by
        have := drest_bytes (HDR.out.keep h) 0 (by omega)
        rwa [Nat.zero_mul, Nat.add_zero] at this
      have HE : Hid (tagged (⟨#[108, 101, 97, 102]⟩ : ByteArray).data.toList (ds.getD 0 []) = tC) := by rw [htC, tree_1 ds hm.symm]; rfl
      have HL0 : Hid ((ds.getD 0 []).length ≤ 600) := by have := HDR.out.1.get (i := 0) (by omega); show (ds.getD 0 []).length ≤ 600; omega
      have hcap : 1 ≤ c3 := by omega
      clear hm htC h2 hcc hcd HDR
      go_wp2_with fail
      refine wp_region_any (by kernel_rfl) ?_
      try (change wpAny _ _ _ _ _ _ _ (World.drew _))
      (have HB0 : Hid (Below w2.heap.size w2 w2.drew) := (Below.refl _ w2).drew)
      refine wpAny_take (i := 0) (oi := { dst := some 21, op := Op.move (Operand.tmp 3), type := 30, pos := "law.go:120", after := #[], guard := none }) (v := ?_) rfl (by kernel_rfl) (by kernel_rfl) (by kernel_rfl) (fun _ _ _ h => h) (Or.inl ⟨by rfl, ?_⟩) ?_
      rotate_left
      · (intro w; go_simp; with_reducible rfl)
      try simp only [Act.put, List.setIfInBounds_toArray, List.set_cons_zero, List.set_cons_succ]
      refine wpAny_take (i := 2) (oi := { dst := some 23, op := Op.move (Operand.tmp 3), type := 30, pos := "law.go:120", after := #[], guard := none }) (v := ?_) rfl (by kernel_rfl) (by kernel_rfl) (by kernel_rfl) (fun _ _ _ h => h) (Or.inl ⟨by rfl, ?_⟩) ?_
      rotate_left
      · (intro w; go_simp; with_reducible rfl)
      try simp only [Act.put, List.setIfInBounds_toArray, List.set_cons_zero, List.set_cons_succ]
      refine wpAny_take (i := 3) (oi := { dst := some 24, op := Op.indexAddr 30 (Operand.tmp 23) (Operand.const (Value.int IntKind.i64 0)), type := 0, pos := "law.go:120", after := #[{ on := 2, ground := Ground.data }], guard := none }) (v := ?_) rfl (by kernel_rfl) (by kernel_rfl) (by kernel_rfl) (fun _ _ _ h => h) (Or.inl ⟨by rfl, ?_⟩) ?_
      rotate_left
      · (intro w; go_simp; with_reducible rfl)
      try simp only [Act.put, List.setIfInBounds_toArray, List.set_cons_zero, List.set_cons_succ]
      refine wpAny_take (i := 4) (oi := { dst := some 25, op := Op.slice 26 (Operand.tmp 24) none none none, type := 22, pos := "law.go:120", after := #[{ on := 3, ground := Ground.data }], guard := none }) (v := ?_) rfl (by kernel_rfl) (by kernel_rfl) (by kernel_rfl) (fun _ _ _ h => h) (Or.inl ⟨by rfl, ?_⟩) ?_
      rotate_left
      · (intro w; go_simp; with_reducible rfl)
      try simp only [Act.put, List.setIfInBounds_toArray, List.set_cons_zero, List.set_cons_succ]
      refine wpAny_ready (rs := [1]) (by kernel_rfl) (by simp) ?_
      refine Go.BigFrame.allReady_want (o := { dst := some 22, op := Op.call { callee := Callee.value (Operand.func 17), args := #[Operand.tmp 21], argTypes := #[30] }, type := 26, pos := "law.go:120", after := #[{ on := 0, ground := Ground.data }], guard := none }) rfl (by rfl) (fun K hK => ?_) ?_
      · skip
        go_simp
        go_wp2_with ((go_at_call 17; (with_reducible refine (HTr.out _ HB0.out).mono ?_); rintro e w3 ⟨rfl, hb⟩; have HB0 := Lib.hid (below_next HB0.out hb); clear hb))
        refine wpAny_ready (rs := [5]) (by kernel_rfl) (by simp) ?_
        refine Go.BigFrame.allReady_want (o := { dst := some 26, op := Op.call { callee := Callee.value (Operand.func 14), args := #[Operand.const (Value.string { data := #[108, 101, 97, 102] }), Operand.tmp 25], argTypes := #[9, 22] }, type := 26, pos := "law.go:120", after := #[{ on := 4, ground := Ground.data }, { on := 1, ground := Ground.chain }], guard := none }) rfl (by rfl) (fun K hK => ?_) ?_
        · skip
          go_simp
          go_wp2_with ((go_at_call 14; (with_reducible refine (HTG.out _ _ _ _ (by decide) HL0.out (HBY.out _ HB0.out) HB0.out HE.out).mono ?_); rintro e w4 ⟨rfl, hb⟩; have HB0 := Lib.hid (below_next HB0.out hb); clear hb))
          refine wpAny_ready (rs := [6]) (by kernel_rfl) (by simp) ?_
          refine Go.BigFrame.allReady_want (o := { dst := some 27, op := Op.binOp BinOp.eql 26 (Operand.tmp 22) (Operand.tmp 26) 26, type := 4, pos := "law.go:120", after := #[{ on := 1, ground := Ground.data }, { on := 5, ground := Ground.data }], guard := none }) rfl (by rfl) (fun K hK => ?_) ?_
          · skip
            ((refine wp_eq_dig _ _ rfl tC tC HLC.out HLC.out rfl rfl ?_; rw [beq_self_eq_true]))
            refine hK _ _ ?_
            clear hK K
            try simp only [Act.put, List.setIfInBounds_toArray, List.set_cons_zero, List.set_cons_succ]
            refine wpAny_take (i := 7) (oi := { dst := some 2, op := Op.assign (Operand.tmp 27), type := 4, pos := "law.go:120", after := #[{ on := 6, ground := Ground.data }, { on := 5, ground := Ground.chain }, { on := 0, ground := Ground.phase }, { on := 1, ground := Ground.phase }, { on := 2, ground := Ground.phase }, { on := 3, ground := Ground.phase }, { on := 4, ground := Ground.phase }, { on := 5, ground := Ground.phase }, { on := 6, ground := Ground.phase }], guard := none }) (v := ?_) rfl (by kernel_rfl) (by kernel_rfl) (by kernel_rfl) (fun _ _ _ h => h) (Or.inl ⟨by rfl, ?_⟩) ?_
            rotate_left
            · (intro w; go_simp; with_reducible rfl)
            try simp only [Act.put, List.setIfInBounds_toArray, List.set_cons_zero, List.set_cons_succ]
            refine wpAny_done (by kernel_rfl) ?_ _
            ((go_wp2_with fail; exact bodyPost_ret (results_tmp (p := 2) rfl _ _ (.bool true) rfl) rfl ⟨rfl, below_next HB2.out HB0.out⟩))
          exact AllReady.nil
        exact AllReady.nil
      exact AllReady.nil
  · have HM := Lib.hid hm
    have HTREE := Lib.hid htC
    clear hm htC
    go_wp2_with fail
    go_loop [4] (fun s4 => DblHead m s4) (fun s4 => m - (intOf s4).toNat)
    case atStart => exact ⟨1, 0, rfl, by omega, hge, by go_num⟩
    case round =>
      obtain ⟨q, j, hq, hq1, hqm, rfl⟩ := hrel
      have HQ := Lib.hid hq
      clear hq
      rcases Nat.lt_or_ge (2 * q) m with hl | hg
      · go_wp2
        go_round
        case rel => exact ⟨2 * q, j + 1, by rw [HQ.out, Nat.pow_succ]; omega, by omega, by omega, by go_num⟩
        case measure => simp [intOf]; omega
      · have hd : ¬ ((2 : Int) * q < m) := by omega
        have hqf : q = hf m := hf_unique hge HQ.out hqm hg
        obtain ⟨b, off, c3', he, hcc, hcc2, hbl, hcd⟩ := HDR.out.some (by rw [← HM.out]; omega)
        injection he with h1 h2 h3
        subst h1 h3
        rw [← HM.out] at hcc
        have HL : Hid (∀ W' : World, Below w2.heap.size w2 W' → Calls Tryd.prog 17 #[.slice (some ⟨b, off, none⟩) q c3] W' (RetD W' (tree (ds.take q)))) := fun W' h => by
          have hp := drest_part (HDR.out.keep h) 0 q c3 (by rw [← HM.out]; omega) (by omega) (Nat.le_refl _)
          rw [List.drop_zero, Nat.zero_mul, Nat.add_zero] at hp
          exact tree_call _ (by rw [List.length_take]; omega) _ W' hp (HT2.out.keep h)
        have HRr : Hid (∀ W' : World, Below w2.heap.size w2 W' → Calls Tryd.prog 17 #[.slice (some ⟨b, off + q * 32, none⟩) (m - q) (c3 - q)] W' (RetD W' (tree (ds.drop q)))) := fun W' h => by
          have hp := drest_part (HDR.out.keep h) q (m - q) (c3 - q) (by rw [← HM.out]; omega) (by omega) (by omega)
          rw [List.take_of_length_le (by rw [List.length_drop, ← HM.out]; omega)] at hp
          exact tree_call _ (by rw [List.length_drop, ← HM.out]; omega) _ W' hp (HT2.out.keep h)
        obtain ⟨tA, htA⟩ : ∃ tA, tA = tree (ds.take q) := ⟨_, rfl⟩
        obtain ⟨tB, htB⟩ : ∃ tB, tB = tree (ds.drop q) := ⟨_, rfl⟩
        have HLA : Hid (tA.length = 32) := by rw [htA]; exact tree_len _
        have HLB : Hid (tB.length = 32) := by rw [htB]; exact tree_len _
        have HE : Hid (tagged (⟨#[110, 111, 100, 101]⟩ : ByteArray).data.toList (tA ++ tB) = tC) := by
          rw [HTREE.out, tree_2 ds (by rw [← HM.out]; omega), ← HM.out, ← hqf, htA, htB]
          rfl
        rw [← htA] at HL
        rw [← htB] at HRr
        have hne : ¬ c3 = q := by omega
        have hkc : q ≤ c3 := by omega
        have hkn : q ≤ m := by omega
        have HL600 : Hid ((tA ++ tB).length ≤ 600) := by show (tA ++ tB).length ≤ 600; rw [List.length_append, HLA.out, HLB.out]; omega
        clear hqf htA htB h2 hcd hcc2 HDR
        go_wp2_with fail
        refine' cut3 (F := fun (g5 g6 : Nat) (w' : World) => Row w' g5 26 (cellsOf tA) ∧ Row w' g6 26 (cellsOf tB) ∧ Below w2.heap.size w2 w') _ ?rest ?kk
        case rest =>
          intro K
          refine wp_region_any (by kernel_rfl) ?_
          try (change wpAny _ _ _ _ _ _ _ (World.drew _))
          (obtain ⟨w0, hw0⟩ : ∃ x, x = w2.drew := ⟨_, rfl⟩; rw [← hw0]; have HB0 : Hid (Below w2.heap.size w2 w0) := (by rw [hw0]; exact (Below.refl _ w2).drew); clear hw0)
          refine wpAny_take (i := 0) (oi := { dst := some 35, op := Op.move (Operand.tmp 3), type := 30, pos := "law.go:126", after := #[], guard := none }) (v := ?_) rfl (by kernel_rfl) (by kernel_rfl) (by kernel_rfl) (fun _ _ _ h => h) (Or.inl ⟨by rfl, ?_⟩) ?_
          rotate_left
          · (intro w; go_simp; with_reducible rfl)
          try simp only [Act.put, List.setIfInBounds_toArray, List.set_cons_zero, List.set_cons_succ]
          refine wpAny_take (i := 1) (oi := { dst := some 36, op := Op.move (Operand.tmp 4), type := 3, pos := "law.go:126", after := #[], guard := none }) (v := ?_) rfl (by kernel_rfl) (by kernel_rfl) (by kernel_rfl) (fun _ _ _ h => h) (Or.inl ⟨by rfl, ?_⟩) ?_
          rotate_left
          · (intro w; go_simp; with_reducible rfl)
          try simp only [Act.put, List.setIfInBounds_toArray, List.set_cons_zero, List.set_cons_succ]
          refine wpAny_take (i := 2) (oi := { dst := some 37, op := Op.slice 30 (Operand.tmp 35) none (some (Operand.tmp 36)) none, type := 30, pos := "law.go:126", after := #[{ on := 0, ground := Ground.data }, { on := 1, ground := Ground.data }], guard := none }) (v := ?_) rfl (by kernel_rfl) (by kernel_rfl) (by kernel_rfl) (fun _ _ _ h => h) (Or.inl ⟨by rfl, ?_⟩) ?_
          rotate_left
          · (intro w; go_simp; with_reducible rfl)
          try simp only [Act.put, List.setIfInBounds_toArray, List.set_cons_zero, List.set_cons_succ]
          refine wpAny_take (i := 4) (oi := { dst := some 39, op := Op.move (Operand.tmp 3), type := 30, pos := "law.go:126", after := #[], guard := none }) (v := ?_) rfl (by kernel_rfl) (by kernel_rfl) (by kernel_rfl) (fun _ _ _ h => h) (Or.inl ⟨by rfl, ?_⟩) ?_
          rotate_left
          · (intro w; go_simp; with_reducible rfl)
          try simp only [Act.put, List.setIfInBounds_toArray, List.set_cons_zero, List.set_cons_succ]
          refine wpAny_take (i := 5) (oi := { dst := some 40, op := Op.move (Operand.tmp 4), type := 3, pos := "law.go:126", after := #[], guard := none }) (v := ?_) rfl (by kernel_rfl) (by kernel_rfl) (by kernel_rfl) (fun _ _ _ h => h) (Or.inl ⟨by rfl, ?_⟩) ?_
          rotate_left
          · (intro w; go_simp; with_reducible rfl)
          try simp only [Act.put, List.setIfInBounds_toArray, List.set_cons_zero, List.set_cons_succ]
          refine wpAny_take (i := 6) (oi := { dst := some 41, op := Op.slice 30 (Operand.tmp 39) (some (Operand.tmp 40)) none none, type := 30, pos := "law.go:126", after := #[{ on := 4, ground := Ground.data }, { on := 5, ground := Ground.data }], guard := none }) (v := ?_) rfl (by kernel_rfl) (by kernel_rfl) (by kernel_rfl) (fun _ _ _ h => h) (Or.inl ⟨by rfl, ?_⟩) ?_
          rotate_left
          · (intro w; go_simp; with_reducible rfl)
          try simp only [Act.put, List.setIfInBounds_toArray, List.set_cons_zero, List.set_cons_succ]
          refine wpAny_ready (rs := [3, 8, 9]) (by kernel_rfl) (by simp) ?_
          refine Go.BigFrame.allReady_want (o := { dst := some 38, op := Op.call { callee := Callee.value (Operand.func 17), args := #[Operand.tmp 37], argTypes := #[30] }, type := 26, pos := "law.go:126", after := #[{ on := 2, ground := Ground.data }], guard := none }) rfl (by rfl) (fun K hK => ?_) ?_
          · skip
            go_simp
            go_wp2_with ((go_at_call 17; (with_reducible refine (HL.out _ HB0.out).mono ?_); rintro e w3 ⟨rfl, hb⟩; have HB0 := Lib.hid (below_next HB0.out hb); (try have HR5 := Lib.hid (HR5.out.keep hb)); (try have HR6 := Lib.hid (HR6.out.keep hb)); clear hb))
            refine wpAny_ready (rs := [7, 8, 9]) (by kernel_rfl) (by simp) ?_
            refine Go.BigFrame.allReady_want (o := { dst := some 42, op := Op.call { callee := Callee.value (Operand.func 17), args := #[Operand.tmp 41], argTypes := #[30] }, type := 26, pos := "law.go:126", after := #[{ on := 6, ground := Ground.data }, { on := 3, ground := Ground.chain }], guard := none }) rfl (by rfl) (fun K hK => ?_) ?_
            · skip
              go_simp
              go_wp2_with ((go_at_call 17; (with_reducible refine (HRr.out _ HB0.out).mono ?_); rintro e w4 ⟨rfl, hb⟩; have HB0 := Lib.hid (below_next HB0.out hb); (try have HR5 := Lib.hid (HR5.out.keep hb)); (try have HR6 := Lib.hid (HR6.out.keep hb)); clear hb))
              refine wpAny_ready (rs := [8, 9]) (by kernel_rfl) (by simp) ?_
              refine Go.BigFrame.allReady_want (o := { dst := some 5, op := Op.alloc 26, type := 0, pos := "law.go:126", after := #[], guard := none }) rfl (by rfl) (fun K hK => ?_) ?_
              · skip
                ((refine wp_alloc_dig 5 rfl rfl ?_; intro g5 w5 hg hrow hb; have hge5 : w2.heap.size ≤ g5 := (by have := HB0.out.size; omega); have HR5 := Lib.hid hrow; (try have hne56 : g5 ≠ g6 := by have := HR6.out.lt; omega); (try have HR6 := Lib.hid (HR6.out.keep hb)); have HB0 := Lib.hid (below_next HB0.out hb); clear hb hg hrow))
                refine hK _ _ ?_
                clear hK K
                try simp only [Act.put, List.setIfInBounds_toArray, List.set_cons_zero, List.set_cons_succ]
                refine wpAny_ready (rs := [9]) (by kernel_rfl) (by simp) ?_
                refine Go.BigFrame.allReady_want (o := { dst := some 6, op := Op.alloc 26, type := 0, pos := "law.go:126", after := #[], guard := none }) rfl (by rfl) (fun K hK => ?_) ?_
                · skip
                  ((refine wp_alloc_dig 6 rfl rfl ?_; intro g6 w6 hg hrow hb; have hge6 : w2.heap.size ≤ g6 := (by have := HB0.out.size; omega); have HR6 := Lib.hid hrow; (try have hne56 : g5 ≠ g6 := by have := HR5.out.lt; omega); (try have HR5 := Lib.hid (HR5.out.keep hb)); have HB0 := Lib.hid (below_next HB0.out hb); clear hb hg hrow))
                  refine hK _ _ ?_
                  clear hK K
                  try simp only [Act.put, List.setIfInBounds_toArray, List.set_cons_zero, List.set_cons_succ]
                  refine wpAny_ready (rs := [10]) (by kernel_rfl) (by simp) ?_
                  refine Go.BigFrame.allReady_want (o := { dst := none, op := Op.store 26 (Operand.tmp 5) (Operand.tmp 38), type := 0, pos := "law.go:126", after := #[{ on := 8, ground := Ground.data }, { on := 3, ground := Ground.data }, { on := 7, ground := Ground.chain }, { on := 0, ground := Ground.phase }, { on := 1, ground := Ground.phase }, { on := 2, ground := Ground.phase }, { on := 3, ground := Ground.phase }, { on := 4, ground := Ground.textOnly Departure.lateStores }, { on := 5, ground := Ground.textOnly Departure.lateStores }, { on := 6, ground := Ground.textOnly Departure.lateStoresUnsure }, { on := 7, ground := Ground.phase }, { on := 8, ground := Ground.phase }, { on := 9, ground := Ground.phase }], guard := none }) rfl (by rfl) (fun K hK => ?_) ?_
                  · skip
                    ((refine wp_store_dig' _ _ rfl g5 tA HLA.out rfl rfl HR5.out HB0.out hge5 ?_; intro w' hrow hb hoth; have HR6 := Lib.hid (hoth _ _ _ (fun h => hne56 h.symm) HR6.out); have HR5 := Lib.hid hrow; have HB0 := Lib.hid hb; clear hrow hb hoth))
                    refine hK _ _ ?_
                    clear hK K
                    try simp only [Act.put, List.setIfInBounds_toArray, List.set_cons_zero, List.set_cons_succ]
                    refine wpAny_ready (rs := [11]) (by kernel_rfl) (by simp) ?_
                    refine Go.BigFrame.allReady_want (o := { dst := none, op := Op.store 26 (Operand.tmp 6) (Operand.tmp 42), type := 0, pos := "law.go:126", after := #[{ on := 9, ground := Ground.data }, { on := 7, ground := Ground.data }, { on := 10, ground := Ground.chain }, { on := 0, ground := Ground.phase }, { on := 1, ground := Ground.phase }, { on := 2, ground := Ground.phase }, { on := 3, ground := Ground.phase }, { on := 4, ground := Ground.phase }, { on := 5, ground := Ground.phase }, { on := 6, ground := Ground.phase }, { on := 7, ground := Ground.phase }, { on := 8, ground := Ground.phase }, { on := 9, ground := Ground.phase }, { on := 10, ground := Ground.phase }], guard := none }) rfl (by rfl) (fun K hK => ?_) ?_
                    · skip
                      ((refine wp_store_dig' _ _ rfl g6 tB HLB.out rfl rfl HR6.out HB0.out hge6 ?_; intro w' hrow hb hoth; have HR5 := Lib.hid (hoth _ _ _ hne56 HR5.out); have HR6 := Lib.hid hrow; have HB0 := Lib.hid hb; clear hrow hb hoth))
                      refine hK _ _ ?_
                      clear hK K
                      try simp only [Act.put, List.setIfInBounds_toArray, List.set_cons_zero, List.set_cons_succ]
                      refine wpAny_done (by kernel_rfl) ?_ _
                      ((exact K g5 g6 _ ⟨HR5.out, HR6.out, HB0.out⟩))
                    exact AllReady.nil
                  exact AllReady.nil
                exact AllReady.nil
              refine Go.BigFrame.allReady_want (o := { dst := some 6, op := Op.alloc 26, type := 0, pos := "law.go:126", after := #[], guard := none }) rfl (by rfl) (fun K hK => ?_) ?_
              · skip
                ((refine wp_alloc_dig 6 rfl rfl ?_; intro g6 w6 hg hrow hb; have hge6 : w2.heap.size ≤ g6 := (by have := HB0.out.size; omega); have HR6 := Lib.hid hrow; (try have hne56 : g5 ≠ g6 := by have := HR5.out.lt; omega); (try have HR5 := Lib.hid (HR5.out.keep hb)); have HB0 := Lib.hid (below_next HB0.out hb); clear hb hg hrow))
                refine hK _ _ ?_
                clear hK K
                try simp only [Act.put, List.setIfInBounds_toArray, List.set_cons_zero, List.set_cons_succ]
                refine wpAny_ready (rs := [8]) (by kernel_rfl) (by simp) ?_
                refine Go.BigFrame.allReady_want (o := { dst := some 5, op := Op.alloc 26, type := 0, pos := "law.go:126", after := #[], guard := none }) rfl (by rfl) (fun K hK => ?_) ?_
                · skip
                  ((refine wp_alloc_dig 5 rfl rfl ?_; intro g5 w5 hg hrow hb; have hge5 : w2.heap.size ≤ g5 := (by have := HB0.out.size; omega); have HR5 := Lib.hid hrow; (try have hne56 : g5 ≠ g6 := by have := HR6.out.lt; omega); (try have HR6 := Lib.hid (HR6.out.keep hb)); have HB0 := Lib.hid (below_next HB0.out hb); clear hb hg hrow))
                  refine hK _ _ ?_
                  clear hK K
                  try simp only [Act.put, List.setIfInBounds_toArray, List.set_cons_zero, List.set_cons_succ]
                  refine wpAny_ready (rs := [10]) (by kernel_rfl) (by simp) ?_
                  refine Go.BigFrame.allReady_want (o := { dst := none, op := Op.store 26 (Operand.tmp 5) (Operand.tmp 38), type := 0, pos := "law.go:126", after := #[{ on := 8, ground := Ground.data }, { on := 3, ground := Ground.data }, { on := 7, ground := Ground.chain }, { on := 0, ground := Ground.phase }, { on := 1, ground := Ground.phase }, { on := 2, ground := Ground.phase }, { on := 3, ground := Ground.phase }, { on := 4, ground := Ground.textOnly Departure.lateStores }, { on := 5, ground := Ground.textOnly Departure.lateStores }, { on := 6, ground := Ground.textOnly Departure.lateStoresUnsure }, { on := 7, ground := Ground.phase }, { on := 8, ground := Ground.phase }, { on := 9, ground := Ground.phase }], guard := none }) rfl (by rfl) (fun K hK => ?_) ?_
                  · skip
                    ((refine wp_store_dig' _ _ rfl g5 tA HLA.out rfl rfl HR5.out HB0.out hge5 ?_; intro w' hrow hb hoth; have HR6 := Lib.hid (hoth _ _ _ (fun h => hne56 h.symm) HR6.out); have HR5 := Lib.hid hrow; have HB0 := Lib.hid hb; clear hrow hb hoth))
                    refine hK _ _ ?_
                    clear hK K
                    try simp only [Act.put, List.setIfInBounds_toArray, List.set_cons_zero, List.set_cons_succ]
                    refine wpAny_ready (rs := [11]) (by kernel_rfl) (by simp) ?_
                    refine Go.BigFrame.allReady_want (o := { dst := none, op := Op.store 26 (Operand.tmp 6) (Operand.tmp 42), type := 0, pos := "law.go:126", after := #[{ on := 9, ground := Ground.data }, { on := 7, ground := Ground.data }, { on := 10, ground := Ground.chain }, { on := 0, ground := Ground.phase }, { on := 1, ground := Ground.phase }, { on := 2, ground := Ground.phase }, { on := 3, ground := Ground.phase }, { on := 4, ground := Ground.phase }, { on := 5, ground := Ground.phase }, { on := 6, ground := Ground.phase }, { on := 7, ground := Ground.phase }, { on := 8, ground := Ground.phase }, { on := 9, ground := Ground.phase }, { on := 10, ground := Ground.phase }], guard := none }) rfl (by rfl) (fun K hK => ?_) ?_
                    · skip
                      ((refine wp_store_dig' _ _ rfl g6 tB HLB.out rfl rfl HR6.out HB0.out hge6 ?_; intro w' hrow hb hoth; have HR5 := Lib.hid (hoth _ _ _ hne56 HR5.out); have HR6 := Lib.hid hrow; have HB0 := Lib.hid hb; clear hrow hb hoth))
                      refine hK _ _ ?_
                      clear hK K
                      try simp only [Act.put, List.setIfInBounds_toArray, List.set_cons_zero, List.set_cons_succ]
                      refine wpAny_done (by kernel_rfl) ?_ _
                      ((exact K g5 g6 _ ⟨HR5.out, HR6.out, HB0.out⟩))
                    exact AllReady.nil
                  exact AllReady.nil
                exact AllReady.nil
              exact AllReady.nil
            refine Go.BigFrame.allReady_want (o := { dst := some 5, op := Op.alloc 26, type := 0, pos := "law.go:126", after := #[], guard := none }) rfl (by rfl) (fun K hK => ?_) ?_
            · skip
              ((refine wp_alloc_dig 5 rfl rfl ?_; intro g5 w5 hg hrow hb; have hge5 : w2.heap.size ≤ g5 := (by have := HB0.out.size; omega); have HR5 := Lib.hid hrow; (try have hne56 : g5 ≠ g6 := by have := HR6.out.lt; omega); (try have HR6 := Lib.hid (HR6.out.keep hb)); have HB0 := Lib.hid (below_next HB0.out hb); clear hb hg hrow))
              refine hK _ _ ?_
              clear hK K
              try simp only [Act.put, List.setIfInBounds_toArray, List.set_cons_zero, List.set_cons_succ]
              refine wpAny_ready (rs := [7, 9]) (by kernel_rfl) (by simp) ?_
              refine Go.BigFrame.allReady_want (o := { dst := some 42, op := Op.call { callee := Callee.value (Operand.func 17), args := #[Operand.tmp 41], argTypes := #[30] }, type := 26, pos := "law.go:126", after := #[{ on := 6, ground := Ground.data }, { on := 3, ground := Ground.chain }], guard := none }) rfl (by rfl) (fun K hK => ?_) ?_
              · skip
                go_simp
                go_wp2_with ((go_at_call 17; (with_reducible refine (HRr.out _ HB0.out).mono ?_); rintro e w4 ⟨rfl, hb⟩; have HB0 := Lib.hid (below_next HB0.out hb); (try have HR5 := Lib.hid (HR5.out.keep hb)); (try have HR6 := Lib.hid (HR6.out.keep hb)); clear hb))
                refine wpAny_ready (rs := [9]) (by kernel_rfl) (by simp) ?_
                refine Go.BigFrame.allReady_want (o := { dst := some 6, op := Op.alloc 26, type := 0, pos := "law.go:126", after := #[], guard := none }) rfl (by rfl) (fun K hK => ?_) ?_
                · skip
                  ((refine wp_alloc_dig 6 rfl rfl ?_; intro g6 w6 hg hrow hb; have hge6 : w2.heap.size ≤ g6 := (by have := HB0.out.size; omega); have HR6 := Lib.hid hrow; (try have hne56 : g5 ≠ g6 := by have := HR5.out.lt; omega); (try have HR5 := Lib.hid (HR5.out.keep hb)); have HB0 := Lib.hid (below_next HB0.out hb); clear hb hg hrow))
                  refine hK _ _ ?_
                  clear hK K
                  try simp only [Act.put, List.setIfInBounds_toArray, List.set_cons_zero, List.set_cons_succ]
                  refine wpAny_ready (rs := [10]) (by kernel_rfl) (by simp) ?_
                  refine Go.BigFrame.allReady_want (o := { dst := none, op := Op.store 26 (Operand.tmp 5) (Operand.tmp 38), type := 0, pos := "law.go:126", after := #[{ on := 8, ground := Ground.data }, { on := 3, ground := Ground.data }, { on := 7, ground := Ground.chain }, { on := 0, ground := Ground.phase }, { on := 1, ground := Ground.phase }, { on := 2, ground := Ground.phase }, { on := 3, ground := Ground.phase }, { on := 4, ground := Ground.textOnly Departure.lateStores }, { on := 5, ground := Ground.textOnly Departure.lateStores }, { on := 6, ground := Ground.textOnly Departure.lateStoresUnsure }, { on := 7, ground := Ground.phase }, { on := 8, ground := Ground.phase }, { on := 9, ground := Ground.phase }], guard := none }) rfl (by rfl) (fun K hK => ?_) ?_
                  · skip
                    ((refine wp_store_dig' _ _ rfl g5 tA HLA.out rfl rfl HR5.out HB0.out hge5 ?_; intro w' hrow hb hoth; have HR6 := Lib.hid (hoth _ _ _ (fun h => hne56 h.symm) HR6.out); have HR5 := Lib.hid hrow; have HB0 := Lib.hid hb; clear hrow hb hoth))
                    refine hK _ _ ?_
                    clear hK K
                    try simp only [Act.put, List.setIfInBounds_toArray, List.set_cons_zero, List.set_cons_succ]
                    refine wpAny_ready (rs := [11]) (by kernel_rfl) (by simp) ?_
                    refine Go.BigFrame.allReady_want (o := { dst := none, op := Op.store 26 (Operand.tmp 6) (Operand.tmp 42), type := 0, pos := "law.go:126", after := #[{ on := 9, ground := Ground.data }, { on := 7, ground := Ground.data }, { on := 10, ground := Ground.chain }, { on := 0, ground := Ground.phase }, { on := 1, ground := Ground.phase }, { on := 2, ground := Ground.phase }, { on := 3, ground := Ground.phase }, { on := 4, ground := Ground.phase }, { on := 5, ground := Ground.phase }, { on := 6, ground := Ground.phase }, { on := 7, ground := Ground.phase }, { on := 8, ground := Ground.phase }, { on := 9, ground := Ground.phase }, { on := 10, ground := Ground.phase }], guard := none }) rfl (by rfl) (fun K hK => ?_) ?_
                    · skip
                      ((refine wp_store_dig' _ _ rfl g6 tB HLB.out rfl rfl HR6.out HB0.out hge6 ?_; intro w' hrow hb hoth; have HR5 := Lib.hid (hoth _ _ _ hne56 HR5.out); have HR6 := Lib.hid hrow; have HB0 := Lib.hid hb; clear hrow hb hoth))
                      refine hK _ _ ?_
                      clear hK K
                      try simp only [Act.put, List.setIfInBounds_toArray, List.set_cons_zero, List.set_cons_succ]
                      refine wpAny_done (by kernel_rfl) ?_ _
                      ((exact K g5 g6 _ ⟨HR5.out, HR6.out, HB0.out⟩))
                    exact AllReady.nil
                  exact AllReady.nil
                exact AllReady.nil
              refine Go.BigFrame.allReady_want (o := { dst := some 6, op := Op.alloc 26, type := 0, pos := "law.go:126", after := #[], guard := none }) rfl (by rfl) (fun K hK => ?_) ?_
              · skip
                ((refine wp_alloc_dig 6 rfl rfl ?_; intro g6 w6 hg hrow hb; have hge6 : w2.heap.size ≤ g6 := (by have := HB0.out.size; omega); have HR6 := Lib.hid hrow; (try have hne56 : g5 ≠ g6 := by have := HR5.out.lt; omega); (try have HR5 := Lib.hid (HR5.out.keep hb)); have HB0 := Lib.hid (below_next HB0.out hb); clear hb hg hrow))
                refine hK _ _ ?_
                clear hK K
                try simp only [Act.put, List.setIfInBounds_toArray, List.set_cons_zero, List.set_cons_succ]
                refine wpAny_ready (rs := [7]) (by kernel_rfl) (by simp) ?_
                refine Go.BigFrame.allReady_want (o := { dst := some 42, op := Op.call { callee := Callee.value (Operand.func 17), args := #[Operand.tmp 41], argTypes := #[30] }, type := 26, pos := "law.go:126", after := #[{ on := 6, ground := Ground.data }, { on := 3, ground := Ground.chain }], guard := none }) rfl (by rfl) (fun K hK => ?_) ?_
                · skip
                  go_simp
                  go_wp2_with ((go_at_call 17; (with_reducible refine (HRr.out _ HB0.out).mono ?_); rintro e w4 ⟨rfl, hb⟩; have HB0 := Lib.hid (below_next HB0.out hb); (try have HR5 := Lib.hid (HR5.out.keep hb)); (try have HR6 := Lib.hid (HR6.out.keep hb)); clear hb))
                  refine wpAny_ready (rs := [10]) (by kernel_rfl) (by simp) ?_
                  refine Go.BigFrame.allReady_want (o := { dst := none, op := Op.store 26 (Operand.tmp 5) (Operand.tmp 38), type := 0, pos := "law.go:126", after := #[{ on := 8, ground := Ground.data }, { on := 3, ground := Ground.data }, { on := 7, ground := Ground.chain }, { on := 0, ground := Ground.phase }, { on := 1, ground := Ground.phase }, { on := 2, ground := Ground.phase }, { on := 3, ground := Ground.phase }, { on := 4, ground := Ground.textOnly Departure.lateStores }, { on := 5, ground := Ground.textOnly Departure.lateStores }, { on := 6, ground := Ground.textOnly Departure.lateStoresUnsure }, { on := 7, ground := Ground.phase }, { on := 8, ground := Ground.phase }, { on := 9, ground := Ground.phase }], guard := none }) rfl (by rfl) (fun K hK => ?_) ?_
                  · skip
                    ((refine wp_store_dig' _ _ rfl g5 tA HLA.out rfl rfl HR5.out HB0.out hge5 ?_; intro w' hrow hb hoth; have HR6 := Lib.hid (hoth _ _ _ (fun h => hne56 h.symm) HR6.out); have HR5 := Lib.hid hrow; have HB0 := Lib.hid hb; clear hrow hb hoth))
                    refine hK _ _ ?_
                    clear hK K
                    try simp only [Act.put, List.setIfInBounds_toArray, List.set_cons_zero, List.set_cons_succ]
                    refine wpAny_ready (rs := [11]) (by kernel_rfl) (by simp) ?_
                    refine Go.BigFrame.allReady_want (o := { dst := none, op := Op.store 26 (Operand.tmp 6) (Operand.tmp 42), type := 0, pos := "law.go:126", after := #[{ on := 9, ground := Ground.data }, { on := 7, ground := Ground.data }, { on := 10, ground := Ground.chain }, { on := 0, ground := Ground.phase }, { on := 1, ground := Ground.phase }, { on := 2, ground := Ground.phase }, { on := 3, ground := Ground.phase }, { on := 4, ground := Ground.phase }, { on := 5, ground := Ground.phase }, { on := 6, ground := Ground.phase }, { on := 7, ground := Ground.phase }, { on := 8, ground := Ground.phase }, { on := 9, ground := Ground.phase }, { on := 10, ground := Ground.phase }], guard := none }) rfl (by rfl) (fun K hK => ?_) ?_
                    · skip
                      ((refine wp_store_dig' _ _ rfl g6 tB HLB.out rfl rfl HR6.out HB0.out hge6 ?_; intro w' hrow hb hoth; have HR5 := Lib.hid (hoth _ _ _ hne56 HR5.out); have HR6 := Lib.hid hrow; have HB0 := Lib.hid hb; clear hrow hb hoth))
                      refine hK _ _ ?_
                      clear hK K
                      try simp only [Act.put, List.setIfInBounds_toArray, List.set_cons_zero, List.set_cons_succ]
                      refine wpAny_done (by kernel_rfl) ?_ _
                      ((exact K g5 g6 _ ⟨HR5.out, HR6.out, HB0.out⟩))
                    exact AllReady.nil
                  exact AllReady.nil
                exact AllReady.nil
              exact AllReady.nil
            refine Go.BigFrame.allReady_want (o := { dst := some 6, op := Op.alloc 26, type := 0, pos := "law.go:126", after := #[], guard := none }) rfl (by rfl) (fun K hK => ?_) ?_
            · skip
              ((refine wp_alloc_dig 6 rfl rfl ?_; intro g6 w6 hg hrow hb; have hge6 : w2.heap.size ≤ g6 := (by have := HB0.out.size; omega); have HR6 := Lib.hid hrow; (try have hne56 : g5 ≠ g6 := by have := HR5.out.lt; omega); (try have HR5 := Lib.hid (HR5.out.keep hb)); have HB0 := Lib.hid (below_next HB0.out hb); clear hb hg hrow))
              refine hK _ _ ?_
              clear hK K
              try simp only [Act.put, List.setIfInBounds_toArray, List.set_cons_zero, List.set_cons_succ]
              refine wpAny_ready (rs := [7, 8]) (by kernel_rfl) (by simp) ?_
              refine Go.BigFrame.allReady_want (o := { dst := some 42, op := Op.call { callee := Callee.value (Operand.func 17), args := #[Operand.tmp 41], argTypes := #[30] }, type := 26, pos := "law.go:126", after := #[{ on := 6, ground := Ground.data }, { on := 3, ground := Ground.chain }], guard := none }) rfl (by rfl) (fun K hK => ?_) ?_
              · skip
                go_simp
                go_wp2_with ((go_at_call 17; (with_reducible refine (HRr.out _ HB0.out).mono ?_); rintro e w4 ⟨rfl, hb⟩; have HB0 := Lib.hid (below_next HB0.out hb); (try have HR5 := Lib.hid (HR5.out.keep hb)); (try have HR6 := Lib.hid (HR6.out.keep hb)); clear hb))
                refine wpAny_ready (rs := [8]) (by kernel_rfl) (by simp) ?_
                refine Go.BigFrame.allReady_want (o := { dst := some 5, op := Op.alloc 26, type := 0, pos := "law.go:126", after := #[], guard := none }) rfl (by rfl) (fun K hK => ?_) ?_
                · skip
                  ((refine wp_alloc_dig 5 rfl rfl ?_; intro g5 w5 hg hrow hb; have hge5 : w2.heap.size ≤ g5 := (by have := HB0.out.size; omega); have HR5 := Lib.hid hrow; (try have hne56 : g5 ≠ g6 := by have := HR6.out.lt; omega); (try have HR6 := Lib.hid (HR6.out.keep hb)); have HB0 := Lib.hid (below_next HB0.out hb); clear hb hg hrow))
                  refine hK _ _ ?_
                  clear hK K
                  try simp only [Act.put, List.setIfInBounds_toArray, List.set_cons_zero, List.set_cons_succ]
                  refine wpAny_ready (rs := [10]) (by kernel_rfl) (by simp) ?_
                  refine Go.BigFrame.allReady_want (o := { dst := none, op := Op.store 26 (Operand.tmp 5) (Operand.tmp 38), type := 0, pos := "law.go:126", after := #[{ on := 8, ground := Ground.data }, { on := 3, ground := Ground.data }, { on := 7, ground := Ground.chain }, { on := 0, ground := Ground.phase }, { on := 1, ground := Ground.phase }, { on := 2, ground := Ground.phase }, { on := 3, ground := Ground.phase }, { on := 4, ground := Ground.textOnly Departure.lateStores }, { on := 5, ground := Ground.textOnly Departure.lateStores }, { on := 6, ground := Ground.textOnly Departure.lateStoresUnsure }, { on := 7, ground := Ground.phase }, { on := 8, ground := Ground.phase }, { on := 9, ground := Ground.phase }], guard := none }) rfl (by rfl) (fun K hK => ?_) ?_
                  · skip
                    ((refine wp_store_dig' _ _ rfl g5 tA HLA.out rfl rfl HR5.out HB0.out hge5 ?_; intro w' hrow hb hoth; have HR6 := Lib.hid (hoth _ _ _ (fun h => hne56 h.symm) HR6.out); have HR5 := Lib.hid hrow; have HB0 := Lib.hid hb; clear hrow hb hoth))
                    refine hK _ _ ?_
                    clear hK K
                    try simp only [Act.put, List.setIfInBounds_toArray, List.set_cons_zero, List.set_cons_succ]
                    refine wpAny_ready (rs := [11]) (by kernel_rfl) (by simp) ?_
                    refine Go.BigFrame.allReady_want (o := { dst := none, op := Op.store 26 (Operand.tmp 6) (Operand.tmp 42), type := 0, pos := "law.go:126", after := #[{ on := 9, ground := Ground.data }, { on := 7, ground := Ground.data }, { on := 10, ground := Ground.chain }, { on := 0, ground := Ground.phase }, { on := 1, ground := Ground.phase }, { on := 2, ground := Ground.phase }, { on := 3, ground := Ground.phase }, { on := 4, ground := Ground.phase }, { on := 5, ground := Ground.phase }, { on := 6, ground := Ground.phase }, { on := 7, ground := Ground.phase }, { on := 8, ground := Ground.phase }, { on := 9, ground := Ground.phase }, { on := 10, ground := Ground.phase }], guard := none }) rfl (by rfl) (fun K hK => ?_) ?_
                    · skip
                      ((refine wp_store_dig' _ _ rfl g6 tB HLB.out rfl rfl HR6.out HB0.out hge6 ?_; intro w' hrow hb hoth; have HR5 := Lib.hid (hoth _ _ _ hne56 HR5.out); have HR6 := Lib.hid hrow; have HB0 := Lib.hid hb; clear hrow hb hoth))
                      refine hK _ _ ?_
                      clear hK K
                      try simp only [Act.put, List.setIfInBounds_toArray, List.set_cons_zero, List.set_cons_succ]
                      refine wpAny_done (by kernel_rfl) ?_ _
                      ((exact K g5 g6 _ ⟨HR5.out, HR6.out, HB0.out⟩))
                    exact AllReady.nil
                  exact AllReady.nil
                exact AllReady.nil
              refine Go.BigFrame.allReady_want (o := { dst := some 5, op := Op.alloc 26, type := 0, pos := "law.go:126", after := #[], guard := none }) rfl (by rfl) (fun K hK => ?_) ?_
              · skip
                ((refine wp_alloc_dig 5 rfl rfl ?_; intro g5 w5 hg hrow hb; have hge5 : w2.heap.size ≤ g5 := (by have := HB0.out.size; omega); have HR5 := Lib.hid hrow; (try have hne56 : g5 ≠ g6 := by have := HR6.out.lt; omega); (try have HR6 := Lib.hid (HR6.out.keep hb)); have HB0 := Lib.hid (below_next HB0.out hb); clear hb hg hrow))
                refine hK _ _ ?_
                clear hK K
                try simp only [Act.put, List.setIfInBounds_toArray, List.set_cons_zero, List.set_cons_succ]
                refine wpAny_ready (rs := [7]) (by kernel_rfl) (by simp) ?_
                refine Go.BigFrame.allReady_want (o := { dst := some 42, op := Op.call { callee := Callee.value (Operand.func 17), args := #[Operand.tmp 41], argTypes := #[30] }, type := 26, pos := "law.go:126", after := #[{ on := 6, ground := Ground.data }, { on := 3, ground := Ground.chain }], guard := none }) rfl (by rfl) (fun K hK => ?_) ?_
                · skip
                  go_simp
                  go_wp2_with ((go_at_call 17; (with_reducible refine (HRr.out _ HB0.out).mono ?_); rintro e w4 ⟨rfl, hb⟩; have HB0 := Lib.hid (below_next HB0.out hb); (try have HR5 := Lib.hid (HR5.out.keep hb)); (try have HR6 := Lib.hid (HR6.out.keep hb)); clear hb))
                  refine wpAny_ready (rs := [10]) (by kernel_rfl) (by simp) ?_
                  refine Go.BigFrame.allReady_want (o := { dst := none, op := Op.store 26 (Operand.tmp 5) (Operand.tmp 38), type := 0, pos := "law.go:126", after := #[{ on := 8, ground := Ground.data }, { on := 3, ground := Ground.data }, { on := 7, ground := Ground.chain }, { on := 0, ground := Ground.phase }, { on := 1, ground := Ground.phase }, { on := 2, ground := Ground.phase }, { on := 3, ground := Ground.phase }, { on := 4, ground := Ground.textOnly Departure.lateStores }, { on := 5, ground := Ground.textOnly Departure.lateStores }, { on := 6, ground := Ground.textOnly Departure.lateStoresUnsure }, { on := 7, ground := Ground.phase }, { on := 8, ground := Ground.phase }, { on := 9, ground := Ground.phase }], guard := none }) rfl (by rfl) (fun K hK => ?_) ?_
                  · skip
                    ((refine wp_store_dig' _ _ rfl g5 tA HLA.out rfl rfl HR5.out HB0.out hge5 ?_; intro w' hrow hb hoth; have HR6 := Lib.hid (hoth _ _ _ (fun h => hne56 h.symm) HR6.out); have HR5 := Lib.hid hrow; have HB0 := Lib.hid hb; clear hrow hb hoth))
                    refine hK _ _ ?_
                    clear hK K
                    try simp only [Act.put, List.setIfInBounds_toArray, List.set_cons_zero, List.set_cons_succ]
                    refine wpAny_ready (rs := [11]) (by kernel_rfl) (by simp) ?_
                    refine Go.BigFrame.allReady_want (o := { dst := none, op := Op.store 26 (Operand.tmp 6) (Operand.tmp 42), type := 0, pos := "law.go:126", after := #[{ on := 9, ground := Ground.data }, { on := 7, ground := Ground.data }, { on := 10, ground := Ground.chain }, { on := 0, ground := Ground.phase }, { on := 1, ground := Ground.phase }, { on := 2, ground := Ground.phase }, { on := 3, ground := Ground.phase }, { on := 4, ground := Ground.phase }, { on := 5, ground := Ground.phase }, { on := 6, ground := Ground.phase }, { on := 7, ground := Ground.phase }, { on := 8, ground := Ground.phase }, { on := 9, ground := Ground.phase }, { on := 10, ground := Ground.phase }], guard := none }) rfl (by rfl) (fun K hK => ?_) ?_
                    · skip
                      ((refine wp_store_dig' _ _ rfl g6 tB HLB.out rfl rfl HR6.out HB0.out hge6 ?_; intro w' hrow hb hoth; have HR5 := Lib.hid (hoth _ _ _ hne56 HR5.out); have HR6 := Lib.hid hrow; have HB0 := Lib.hid hb; clear hrow hb hoth))
                      refine hK _ _ ?_
                      clear hK K
                      try simp only [Act.put, List.setIfInBounds_toArray, List.set_cons_zero, List.set_cons_succ]
                      refine wpAny_done (by kernel_rfl) ?_ _
                      ((exact K g5 g6 _ ⟨HR5.out, HR6.out, HB0.out⟩))
                    exact AllReady.nil
                  exact AllReady.nil
                exact AllReady.nil
              exact AllReady.nil
            exact AllReady.nil
          refine Go.BigFrame.allReady_want (o := { dst := some 5, op := Op.alloc 26, type := 0, pos := "law.go:126", after := #[], guard := none }) rfl (by rfl) (fun K hK => ?_) ?_
          · skip
            ((refine wp_alloc_dig 5 rfl rfl ?_; intro g5 w5 hg hrow hb; have hge5 : w2.heap.size ≤ g5 := (by have := HB0.out.size; omega); have HR5 := Lib.hid hrow; (try have hne56 : g5 ≠ g6 := by have := HR6.out.lt; omega); (try have HR6 := Lib.hid (HR6.out.keep hb)); have HB0 := Lib.hid (below_next HB0.out hb); clear hb hg hrow))
            refine hK _ _ ?_
            clear hK K
            try simp only [Act.put, List.setIfInBounds_toArray, List.set_cons_zero, List.set_cons_succ]
            refine wpAny_ready (rs := [3, 9]) (by kernel_rfl) (by simp) ?_
            refine Go.BigFrame.allReady_want (o := { dst := some 38, op := Op.call { callee := Callee.value (Operand.func 17), args := #[Operand.tmp 37], argTypes := #[30] }, type := 26, pos := "law.go:126", after := #[{ on := 2, ground := Ground.data }], guard := none }) rfl (by rfl) (fun K hK => ?_) ?_
            · skip
              go_simp
              go_wp2_with ((go_at_call 17; (with_reducible refine (HL.out _ HB0.out).mono ?_); rintro e w3 ⟨rfl, hb⟩; have HB0 := Lib.hid (below_next HB0.out hb); (try have HR5 := Lib.hid (HR5.out.keep hb)); (try have HR6 := Lib.hid (HR6.out.keep hb)); clear hb))
              refine wpAny_ready (rs := [7, 9]) (by kernel_rfl) (by simp) ?_
              refine Go.BigFrame.allReady_want (o := { dst := some 42, op := Op.call { callee := Callee.value (Operand.func 17), args := #[Operand.tmp 41], argTypes := #[30] }, type := 26, pos := "law.go:126", after := #[{ on := 6, ground := Ground.data }, { on := 3, ground := Ground.chain }], guard := none }) rfl (by rfl) (fun K hK => ?_) ?_
              · skip
                go_simp
                go_wp2_with ((go_at_call 17; (with_reducible refine (HRr.out _ HB0.out).mono ?_); rintro e w4 ⟨rfl, hb⟩; have HB0 := Lib.hid (below_next HB0.out hb); (try have HR5 := Lib.hid (HR5.out.keep hb)); (try have HR6 := Lib.hid (HR6.out.keep hb)); clear hb))
                refine wpAny_ready (rs := [9]) (by kernel_rfl) (by simp) ?_
                refine Go.BigFrame.allReady_want (o := { dst := some 6, op := Op.alloc 26, type := 0, pos := "law.go:126", after := #[], guard := none }) rfl (by rfl) (fun K hK => ?_) ?_
                · skip
                  ((refine wp_alloc_dig 6 rfl rfl ?_; intro g6 w6 hg hrow hb; have hge6 : w2.heap.size ≤ g6 := (by have := HB0.out.size; omega); have HR6 := Lib.hid hrow; (try have hne56 : g5 ≠ g6 := by have := HR5.out.lt; omega); (try have HR5 := Lib.hid (HR5.out.keep hb)); have HB0 := Lib.hid (below_next HB0.out hb); clear hb hg hrow))
                  refine hK _ _ ?_
                  clear hK K
                  try simp only [Act.put, List.setIfInBounds_toArray, List.set_cons_zero, List.set_cons_succ]
                  refine wpAny_ready (rs := [10]) (by kernel_rfl) (by simp) ?_
                  refine Go.BigFrame.allReady_want (o := { dst := none, op := Op.store 26 (Operand.tmp 5) (Operand.tmp 38), type := 0, pos := "law.go:126", after := #[{ on := 8, ground := Ground.data }, { on := 3, ground := Ground.data }, { on := 7, ground := Ground.chain }, { on := 0, ground := Ground.phase }, { on := 1, ground := Ground.phase }, { on := 2, ground := Ground.phase }, { on := 3, ground := Ground.phase }, { on := 4, ground := Ground.textOnly Departure.lateStores }, { on := 5, ground := Ground.textOnly Departure.lateStores }, { on := 6, ground := Ground.textOnly Departure.lateStoresUnsure }, { on := 7, ground := Ground.phase }, { on := 8, ground := Ground.phase }, { on := 9, ground := Ground.phase }], guard := none }) rfl (by rfl) (fun K hK => ?_) ?_
                  · skip
                    ((refine wp_store_dig' _ _ rfl g5 tA HLA.out rfl rfl HR5.out HB0.out hge5 ?_; intro w' hrow hb hoth; have HR6 := Lib.hid (hoth _ _ _ (fun h => hne56 h.symm) HR6.out); have HR5 := Lib.hid hrow; have HB0 := Lib.hid hb; clear hrow hb hoth))
                    refine hK _ _ ?_
                    clear hK K
                    try simp only [Act.put, List.setIfInBounds_toArray, List.set_cons_zero, List.set_cons_succ]
                    refine wpAny_ready (rs := [11]) (by kernel_rfl) (by simp) ?_
                    refine Go.BigFrame.allReady_want (o := { dst := none, op := Op.store 26 (Operand.tmp 6) (Operand.tmp 42), type := 0, pos := "law.go:126", after := #[{ on := 9, ground := Ground.data }, { on := 7, ground := Ground.data }, { on := 10, ground := Ground.chain }, { on := 0, ground := Ground.phase }, { on := 1, ground := Ground.phase }, { on := 2, ground := Ground.phase }, { on := 3, ground := Ground.phase }, { on := 4, ground := Ground.phase }, { on := 5, ground := Ground.phase }, { on := 6, ground := Ground.phase }, { on := 7, ground := Ground.phase }, { on := 8, ground := Ground.phase }, { on := 9, ground := Ground.phase }, { on := 10, ground := Ground.phase }], guard := none }) rfl (by rfl) (fun K hK => ?_) ?_
                    · skip
                      ((refine wp_store_dig' _ _ rfl g6 tB HLB.out rfl rfl HR6.out HB0.out hge6 ?_; intro w' hrow hb hoth; have HR5 := Lib.hid (hoth _ _ _ hne56 HR5.out); have HR6 := Lib.hid hrow; have HB0 := Lib.hid hb; clear hrow hb hoth))
                      refine hK _ _ ?_
                      clear hK K
                      try simp only [Act.put, List.setIfInBounds_toArray, List.set_cons_zero, List.set_cons_succ]
                      refine wpAny_done (by kernel_rfl) ?_ _
                      ((exact K g5 g6 _ ⟨HR5.out, HR6.out, HB0.out⟩))
                    exact AllReady.nil
                  exact AllReady.nil
                exact AllReady.nil
              refine Go.BigFrame.allReady_want (o := { dst := some 6, op := Op.alloc 26, type := 0, pos := "law.go:126", after := #[], guard := none }) rfl (by rfl) (fun K hK => ?_) ?_
              · skip
                ((refine wp_alloc_dig 6 rfl rfl ?_; intro g6 w6 hg hrow hb; have hge6 : w2.heap.size ≤ g6 := (by have := HB0.out.size; omega); have HR6 := Lib.hid hrow; (try have hne56 : g5 ≠ g6 := by have := HR5.out.lt; omega); (try have HR5 := Lib.hid (HR5.out.keep hb)); have HB0 := Lib.hid (below_next HB0.out hb); clear hb hg hrow))
                refine hK _ _ ?_
                clear hK K
                try simp only [Act.put, List.setIfInBounds_toArray, List.set_cons_zero, List.set_cons_succ]
                refine wpAny_ready (rs := [7]) (by kernel_rfl) (by simp) ?_
                refine Go.BigFrame.allReady_want (o := { dst := some 42, op := Op.call { callee := Callee.value (Operand.func 17), args := #[Operand.tmp 41], argTypes := #[30] }, type := 26, pos := "law.go:126", after := #[{ on := 6, ground := Ground.data }, { on := 3, ground := Ground.chain }], guard := none }) rfl (by rfl) (fun K hK => ?_) ?_
                · skip
                  go_simp
                  go_wp2_with ((go_at_call 17; (with_reducible refine (HRr.out _ HB0.out).mono ?_); rintro e w4 ⟨rfl, hb⟩; have HB0 := Lib.hid (below_next HB0.out hb); (try have HR5 := Lib.hid (HR5.out.keep hb)); (try have HR6 := Lib.hid (HR6.out.keep hb)); clear hb))
                  refine wpAny_ready (rs := [10]) (by kernel_rfl) (by simp) ?_
                  refine Go.BigFrame.allReady_want (o := { dst := none, op := Op.store 26 (Operand.tmp 5) (Operand.tmp 38), type := 0, pos := "law.go:126", after := #[{ on := 8, ground := Ground.data }, { on := 3, ground := Ground.data }, { on := 7, ground := Ground.chain }, { on := 0, ground := Ground.phase }, { on := 1, ground := Ground.phase }, { on := 2, ground := Ground.phase }, { on := 3, ground := Ground.phase }, { on := 4, ground := Ground.textOnly Departure.lateStores }, { on := 5, ground := Ground.textOnly Departure.lateStores }, { on := 6, ground := Ground.textOnly Departure.lateStoresUnsure }, { on := 7, ground := Ground.phase }, { on := 8, ground := Ground.phase }, { on := 9, ground := Ground.phase }], guard := none }) rfl (by rfl) (fun K hK => ?_) ?_
                  · skip
                    ((refine wp_store_dig' _ _ rfl g5 tA HLA.out rfl rfl HR5.out HB0.out hge5 ?_; intro w' hrow hb hoth; have HR6 := Lib.hid (hoth _ _ _ (fun h => hne56 h.symm) HR6.out); have HR5 := Lib.hid hrow; have HB0 := Lib.hid hb; clear hrow hb hoth))
                    refine hK _ _ ?_
                    clear hK K
                    try simp only [Act.put, List.setIfInBounds_toArray, List.set_cons_zero, List.set_cons_succ]
                    refine wpAny_ready (rs := [11]) (by kernel_rfl) (by simp) ?_
                    refine Go.BigFrame.allReady_want (o := { dst := none, op := Op.store 26 (Operand.tmp 6) (Operand.tmp 42), type := 0, pos := "law.go:126", after := #[{ on := 9, ground := Ground.data }, { on := 7, ground := Ground.data }, { on := 10, ground := Ground.chain }, { on := 0, ground := Ground.phase }, { on := 1, ground := Ground.phase }, { on := 2, ground := Ground.phase }, { on := 3, ground := Ground.phase }, { on := 4, ground := Ground.phase }, { on := 5, ground := Ground.phase }, { on := 6, ground := Ground.phase }, { on := 7, ground := Ground.phase }, { on := 8, ground := Ground.phase }, { on := 9, ground := Ground.phase }, { on := 10, ground := Ground.phase }], guard := none }) rfl (by rfl) (fun K hK => ?_) ?_
                    · skip
                      ((refine wp_store_dig' _ _ rfl g6 tB HLB.out rfl rfl HR6.out HB0.out hge6 ?_; intro w' hrow hb hoth; have HR5 := Lib.hid (hoth _ _ _ hne56 HR5.out); have HR6 := Lib.hid hrow; have HB0 := Lib.hid hb; clear hrow hb hoth))
                      refine hK _ _ ?_
                      clear hK K
                      try simp only [Act.put, List.setIfInBounds_toArray, List.set_cons_zero, List.set_cons_succ]
                      refine wpAny_done (by kernel_rfl) ?_ _
                      ((exact K g5 g6 _ ⟨HR5.out, HR6.out, HB0.out⟩))
                    exact AllReady.nil
                  exact AllReady.nil
                exact AllReady.nil
              exact AllReady.nil
            refine Go.BigFrame.allReady_want (o := { dst := some 6, op := Op.alloc 26, type := 0, pos := "law.go:126", after := #[], guard := none }) rfl (by rfl) (fun K hK => ?_) ?_
            · skip
              ((refine wp_alloc_dig 6 rfl rfl ?_; intro g6 w6 hg hrow hb; have hge6 : w2.heap.size ≤ g6 := (by have := HB0.out.size; omega); have HR6 := Lib.hid hrow; (try have hne56 : g5 ≠ g6 := by have := HR5.out.lt; omega); (try have HR5 := Lib.hid (HR5.out.keep hb)); have HB0 := Lib.hid (below_next HB0.out hb); clear hb hg hrow))
              refine hK _ _ ?_
              clear hK K
              try simp only [Act.put, List.setIfInBounds_toArray, List.set_cons_zero, List.set_cons_succ]
              refine wpAny_ready (rs := [3]) (by kernel_rfl) (by simp) ?_
              refine Go.BigFrame.allReady_want (o := { dst := some 38, op := Op.call { callee := Callee.value (Operand.func 17), args := #[Operand.tmp 37], argTypes := #[30] }, type := 26, pos := "law.go:126", after := #[{ on := 2, ground := Ground.data }], guard := none }) rfl (by rfl) (fun K hK => ?_) ?_
              · skip
                go_simp
                go_wp2_with ((go_at_call 17; (with_reducible refine (HL.out _ HB0.out).mono ?_); rintro e w3 ⟨rfl, hb⟩; have HB0 := Lib.hid (below_next HB0.out hb); (try have HR5 := Lib.hid (HR5.out.keep hb)); (try have HR6 := Lib.hid (HR6.out.keep hb)); clear hb))
                refine wpAny_ready (rs := [7]) (by kernel_rfl) (by simp) ?_
                refine Go.BigFrame.allReady_want (o := { dst := some 42, op := Op.call { callee := Callee.value (Operand.func 17), args := #[Operand.tmp 41], argTypes := #[30] }, type := 26, pos := "law.go:126", after := #[{ on := 6, ground := Ground.data }, { on := 3, ground := Ground.chain }], guard := none }) rfl (by rfl) (fun K hK => ?_) ?_
                · skip
                  go_simp
                  go_wp2_with ((go_at_call 17; (with_reducible refine (HRr.out _ HB0.out).mono ?_); rintro e w4 ⟨rfl, hb⟩; have HB0 := Lib.hid (below_next HB0.out hb); (try have HR5 := Lib.hid (HR5.out.keep hb)); (try have HR6 := Lib.hid (HR6.out.keep hb)); clear hb))
                  refine wpAny_ready (rs := [10]) (by kernel_rfl) (by simp) ?_
                  refine Go.BigFrame.allReady_want (o := { dst := none, op := Op.store 26 (Operand.tmp 5) (Operand.tmp 38), type := 0, pos := "law.go:126", after := #[{ on := 8, ground := Ground.data }, { on := 3, ground := Ground.data }, { on := 7, ground := Ground.chain }, { on := 0, ground := Ground.phase }, { on := 1, ground := Ground.phase }, { on := 2, ground := Ground.phase }, { on := 3, ground := Ground.phase }, { on := 4, ground := Ground.textOnly Departure.lateStores }, { on := 5, ground := Ground.textOnly Departure.lateStores }, { on := 6, ground := Ground.textOnly Departure.lateStoresUnsure }, { on := 7, ground := Ground.phase }, { on := 8, ground := Ground.phase }, { on := 9, ground := Ground.phase }], guard := none }) rfl (by rfl) (fun K hK => ?_) ?_
                  · skip
                    ((refine wp_store_dig' _ _ rfl g5 tA HLA.out rfl rfl HR5.out HB0.out hge5 ?_; intro w' hrow hb hoth; have HR6 := Lib.hid (hoth _ _ _ (fun h => hne56 h.symm) HR6.out); have HR5 := Lib.hid hrow; have HB0 := Lib.hid hb; clear hrow hb hoth))
                    refine hK _ _ ?_
                    clear hK K
                    try simp only [Act.put, List.setIfInBounds_toArray, List.set_cons_zero, List.set_cons_succ]
                    refine wpAny_ready (rs := [11]) (by kernel_rfl) (by simp) ?_
                    refine Go.BigFrame.allReady_want (o := { dst := none, op := Op.store 26 (Operand.tmp 6) (Operand.tmp 42), type := 0, pos := "law.go:126", after := #[{ on := 9, ground := Ground.data }, { on := 7, ground := Ground.data }, { on := 10, ground := Ground.chain }, { on := 0, ground := Ground.phase }, { on := 1, ground := Ground.phase }, { on := 2, ground := Ground.phase }, { on := 3, ground := Ground.phase }, { on := 4, ground := Ground.phase }, { on := 5, ground := Ground.phase }, { on := 6, ground := Ground.phase }, { on := 7, ground := Ground.phase }, { on := 8, ground := Ground.phase }, { on := 9, ground := Ground.phase }, { on := 10, ground := Ground.phase }], guard := none }) rfl (by rfl) (fun K hK => ?_) ?_
                    · skip
                      ((refine wp_store_dig' _ _ rfl g6 tB HLB.out rfl rfl HR6.out HB0.out hge6 ?_; intro w' hrow hb hoth; have HR5 := Lib.hid (hoth _ _ _ hne56 HR5.out); have HR6 := Lib.hid hrow; have HB0 := Lib.hid hb; clear hrow hb hoth))
                      refine hK _ _ ?_
                      clear hK K
                      try simp only [Act.put, List.setIfInBounds_toArray, List.set_cons_zero, List.set_cons_succ]
                      refine wpAny_done (by kernel_rfl) ?_ _
                      ((exact K g5 g6 _ ⟨HR5.out, HR6.out, HB0.out⟩))
                    exact AllReady.nil
                  exact AllReady.nil
                exact AllReady.nil
              exact AllReady.nil
            exact AllReady.nil
          refine Go.BigFrame.allReady_want (o := { dst := some 6, op := Op.alloc 26, type := 0, pos := "law.go:126", after := #[], guard := none }) rfl (by rfl) (fun K hK => ?_) ?_
          · skip
            ((refine wp_alloc_dig 6 rfl rfl ?_; intro g6 w6 hg hrow hb; have hge6 : w2.heap.size ≤ g6 := (by have := HB0.out.size; omega); have HR6 := Lib.hid hrow; (try have hne56 : g5 ≠ g6 := by have := HR5.out.lt; omega); (try have HR5 := Lib.hid (HR5.out.keep hb)); have HB0 := Lib.hid (below_next HB0.out hb); clear hb hg hrow))
            refine hK _ _ ?_
            clear hK K
            try simp only [Act.put, List.setIfInBounds_toArray, List.set_cons_zero, List.set_cons_succ]
            refine wpAny_ready (rs := [3, 8]) (by kernel_rfl) (by simp) ?_
            refine Go.BigFrame.allReady_want (o := { dst := some 38, op := Op.call { callee := Callee.value (Operand.func 17), args := #[Operand.tmp 37], argTypes := #[30] }, type := 26, pos := "law.go:126", after := #[{ on := 2, ground := Ground.data }], guard := none }) rfl (by rfl) (fun K hK => ?_) ?_
            · skip
              go_simp
              go_wp2_with ((go_at_call 17; (with_reducible refine (HL.out _ HB0.out).mono ?_); rintro e w3 ⟨rfl, hb⟩; have HB0 := Lib.hid (below_next HB0.out hb); (try have HR5 := Lib.hid (HR5.out.keep hb)); (try have HR6 := Lib.hid (HR6.out.keep hb)); clear hb))
              refine wpAny_ready (rs := [7, 8]) (by kernel_rfl) (by simp) ?_
              refine Go.BigFrame.allReady_want (o := { dst := some 42, op := Op.call { callee := Callee.value (Operand.func 17), args := #[Operand.tmp 41], argTypes := #[30] }, type := 26, pos := "law.go:126", after := #[{ on := 6, ground := Ground.data }, { on := 3, ground := Ground.chain }], guard := none }) rfl (by rfl) (fun K hK => ?_) ?_
              · skip
                go_simp
                go_wp2_with ((go_at_call 17; (with_reducible refine (HRr.out _ HB0.out).mono ?_); rintro e w4 ⟨rfl, hb⟩; have HB0 := Lib.hid (below_next HB0.out hb); (try have HR5 := Lib.hid (HR5.out.keep hb)); (try have HR6 := Lib.hid (HR6.out.keep hb)); clear hb))
                refine wpAny_ready (rs := [8]) (by kernel_rfl) (by simp) ?_
                refine Go.BigFrame.allReady_want (o := { dst := some 5, op := Op.alloc 26, type := 0, pos := "law.go:126", after := #[], guard := none }) rfl (by rfl) (fun K hK => ?_) ?_
                · skip
                  ((refine wp_alloc_dig 5 rfl rfl ?_; intro g5 w5 hg hrow hb; have hge5 : w2.heap.size ≤ g5 := (by have := HB0.out.size; omega); have HR5 := Lib.hid hrow; (try have hne56 : g5 ≠ g6 := by have := HR6.out.lt; omega); (try have HR6 := Lib.hid (HR6.out.keep hb)); have HB0 := Lib.hid (below_next HB0.out hb); clear hb hg hrow))
                  refine hK _ _ ?_
                  clear hK K
                  try simp only [Act.put, List.setIfInBounds_toArray, List.set_cons_zero, List.set_cons_succ]
                  refine wpAny_ready (rs := [10]) (by kernel_rfl) (by simp) ?_
                  refine Go.BigFrame.allReady_want (o := { dst := none, op := Op.store 26 (Operand.tmp 5) (Operand.tmp 38), type := 0, pos := "law.go:126", after := #[{ on := 8, ground := Ground.data }, { on := 3, ground := Ground.data }, { on := 7, ground := Ground.chain }, { on := 0, ground := Ground.phase }, { on := 1, ground := Ground.phase }, { on := 2, ground := Ground.phase }, { on := 3, ground := Ground.phase }, { on := 4, ground := Ground.textOnly Departure.lateStores }, { on := 5, ground := Ground.textOnly Departure.lateStores }, { on := 6, ground := Ground.textOnly Departure.lateStoresUnsure }, { on := 7, ground := Ground.phase }, { on := 8, ground := Ground.phase }, { on := 9, ground := Ground.phase }], guard := none }) rfl (by rfl) (fun K hK => ?_) ?_
                  · skip
                    ((refine wp_store_dig' _ _ rfl g5 tA HLA.out rfl rfl HR5.out HB0.out hge5 ?_; intro w' hrow hb hoth; have HR6 := Lib.hid (hoth _ _ _ (fun h => hne56 h.symm) HR6.out); have HR5 := Lib.hid hrow; have HB0 := Lib.hid hb; clear hrow hb hoth))
                    refine hK _ _ ?_
                    clear hK K
                    try simp only [Act.put, List.setIfInBounds_toArray, List.set_cons_zero, List.set_cons_succ]
                    refine wpAny_ready (rs := [11]) (by kernel_rfl) (by simp) ?_
                    refine Go.BigFrame.allReady_want (o := { dst := none, op := Op.store 26 (Operand.tmp 6) (Operand.tmp 42), type := 0, pos := "law.go:126", after := #[{ on := 9, ground := Ground.data }, { on := 7, ground := Ground.data }, { on := 10, ground := Ground.chain }, { on := 0, ground := Ground.phase }, { on := 1, ground := Ground.phase }, { on := 2, ground := Ground.phase }, { on := 3, ground := Ground.phase }, { on := 4, ground := Ground.phase }, { on := 5, ground := Ground.phase }, { on := 6, ground := Ground.phase }, { on := 7, ground := Ground.phase }, { on := 8, ground := Ground.phase }, { on := 9, ground := Ground.phase }, { on := 10, ground := Ground.phase }], guard := none }) rfl (by rfl) (fun K hK => ?_) ?_
                    · skip
                      ((refine wp_store_dig' _ _ rfl g6 tB HLB.out rfl rfl HR6.out HB0.out hge6 ?_; intro w' hrow hb hoth; have HR5 := Lib.hid (hoth _ _ _ hne56 HR5.out); have HR6 := Lib.hid hrow; have HB0 := Lib.hid hb; clear hrow hb hoth))
                      refine hK _ _ ?_
                      clear hK K
                      try simp only [Act.put, List.setIfInBounds_toArray, List.set_cons_zero, List.set_cons_succ]
                      refine wpAny_done (by kernel_rfl) ?_ _
                      ((exact K g5 g6 _ ⟨HR5.out, HR6.out, HB0.out⟩))
                    exact AllReady.nil
                  exact AllReady.nil
                exact AllReady.nil
              refine Go.BigFrame.allReady_want (o := { dst := some 5, op := Op.alloc 26, type := 0, pos := "law.go:126", after := #[], guard := none }) rfl (by rfl) (fun K hK => ?_) ?_
              · skip
                ((refine wp_alloc_dig 5 rfl rfl ?_; intro g5 w5 hg hrow hb; have hge5 : w2.heap.size ≤ g5 := (by have := HB0.out.size; omega); have HR5 := Lib.hid hrow; (try have hne56 : g5 ≠ g6 := by have := HR6.out.lt; omega); (try have HR6 := Lib.hid (HR6.out.keep hb)); have HB0 := Lib.hid (below_next HB0.out hb); clear hb hg hrow))
                refine hK _ _ ?_
                clear hK K
                try simp only [Act.put, List.setIfInBounds_toArray, List.set_cons_zero, List.set_cons_succ]
                refine wpAny_ready (rs := [7]) (by kernel_rfl) (by simp) ?_
                refine Go.BigFrame.allReady_want (o := { dst := some 42, op := Op.call { callee := Callee.value (Operand.func 17), args := #[Operand.tmp 41], argTypes := #[30] }, type := 26, pos := "law.go:126", after := #[{ on := 6, ground := Ground.data }, { on := 3, ground := Ground.chain }], guard := none }) rfl (by rfl) (fun K hK => ?_) ?_
                · skip
                  go_simp
                  go_wp2_with ((go_at_call 17; (with_reducible refine (HRr.out _ HB0.out).mono ?_); rintro e w4 ⟨rfl, hb⟩; have HB0 := Lib.hid (below_next HB0.out hb); (try have HR5 := Lib.hid (HR5.out.keep hb)); (try have HR6 := Lib.hid (HR6.out.keep hb)); clear hb))
                  refine wpAny_ready (rs := [10]) (by kernel_rfl) (by simp) ?_
                  refine Go.BigFrame.allReady_want (o := { dst := none, op := Op.store 26 (Operand.tmp 5) (Operand.tmp 38), type := 0, pos := "law.go:126", after := #[{ on := 8, ground := Ground.data }, { on := 3, ground := Ground.data }, { on := 7, ground := Ground.chain }, { on := 0, ground := Ground.phase }, { on := 1, ground := Ground.phase }, { on := 2, ground := Ground.phase }, { on := 3, ground := Ground.phase }, { on := 4, ground := Ground.textOnly Departure.lateStores }, { on := 5, ground := Ground.textOnly Departure.lateStores }, { on := 6, ground := Ground.textOnly Departure.lateStoresUnsure }, { on := 7, ground := Ground.phase }, { on := 8, ground := Ground.phase }, { on := 9, ground := Ground.phase }], guard := none }) rfl (by rfl) (fun K hK => ?_) ?_
                  · skip
                    ((refine wp_store_dig' _ _ rfl g5 tA HLA.out rfl rfl HR5.out HB0.out hge5 ?_; intro w' hrow hb hoth; have HR6 := Lib.hid (hoth _ _ _ (fun h => hne56 h.symm) HR6.out); have HR5 := Lib.hid hrow; have HB0 := Lib.hid hb; clear hrow hb hoth))
                    refine hK _ _ ?_
                    clear hK K
                    try simp only [Act.put, List.setIfInBounds_toArray, List.set_cons_zero, List.set_cons_succ]
                    refine wpAny_ready (rs := [11]) (by kernel_rfl) (by simp) ?_
                    refine Go.BigFrame.allReady_want (o := { dst := none, op := Op.store 26 (Operand.tmp 6) (Operand.tmp 42), type := 0, pos := "law.go:126", after := #[{ on := 9, ground := Ground.data }, { on := 7, ground := Ground.data }, { on := 10, ground := Ground.chain }, { on := 0, ground := Ground.phase }, { on := 1, ground := Ground.phase }, { on := 2, ground := Ground.phase }, { on := 3, ground := Ground.phase }, { on := 4, ground := Ground.phase }, { on := 5, ground := Ground.phase }, { on := 6, ground := Ground.phase }, { on := 7, ground := Ground.phase }, { on := 8, ground := Ground.phase }, { on := 9, ground := Ground.phase }, { on := 10, ground := Ground.phase }], guard := none }) rfl (by rfl) (fun K hK => ?_) ?_
                    · skip
                      ((refine wp_store_dig' _ _ rfl g6 tB HLB.out rfl rfl HR6.out HB0.out hge6 ?_; intro w' hrow hb hoth; have HR5 := Lib.hid (hoth _ _ _ hne56 HR5.out); have HR6 := Lib.hid hrow; have HB0 := Lib.hid hb; clear hrow hb hoth))
                      refine hK _ _ ?_
                      clear hK K
                      try simp only [Act.put, List.setIfInBounds_toArray, List.set_cons_zero, List.set_cons_succ]
                      refine wpAny_done (by kernel_rfl) ?_ _
                      ((exact K g5 g6 _ ⟨HR5.out, HR6.out, HB0.out⟩))
                    exact AllReady.nil
                  exact AllReady.nil
                exact AllReady.nil
              exact AllReady.nil
            refine Go.BigFrame.allReady_want (o := { dst := some 5, op := Op.alloc 26, type := 0, pos := "law.go:126", after := #[], guard := none }) rfl (by rfl) (fun K hK => ?_) ?_
            · skip
              ((refine wp_alloc_dig 5 rfl rfl ?_; intro g5 w5 hg hrow hb; have hge5 : w2.heap.size ≤ g5 := (by have := HB0.out.size; omega); have HR5 := Lib.hid hrow; (try have hne56 : g5 ≠ g6 := by have := HR6.out.lt; omega); (try have HR6 := Lib.hid (HR6.out.keep hb)); have HB0 := Lib.hid (below_next HB0.out hb); clear hb hg hrow))
              refine hK _ _ ?_
              clear hK K
              try simp only [Act.put, List.setIfInBounds_toArray, List.set_cons_zero, List.set_cons_succ]
              refine wpAny_ready (rs := [3]) (by kernel_rfl) (by simp) ?_
              refine Go.BigFrame.allReady_want (o := { dst := some 38, op := Op.call { callee := Callee.value (Operand.func 17), args := #[Operand.tmp 37], argTypes := #[30] }, type := 26, pos := "law.go:126", after := #[{ on := 2, ground := Ground.data }], guard := none }) rfl (by rfl) (fun K hK => ?_) ?_
              · skip
                go_simp
                go_wp2_with ((go_at_call 17; (with_reducible refine (HL.out _ HB0.out).mono ?_); rintro e w3 ⟨rfl, hb⟩; have HB0 := Lib.hid (below_next HB0.out hb); (try have HR5 := Lib.hid (HR5.out.keep hb)); (try have HR6 := Lib.hid (HR6.out.keep hb)); clear hb))
                refine wpAny_ready (rs := [7]) (by kernel_rfl) (by simp) ?_
                refine Go.BigFrame.allReady_want (o := { dst := some 42, op := Op.call { callee := Callee.value (Operand.func 17), args := #[Operand.tmp 41], argTypes := #[30] }, type := 26, pos := "law.go:126", after := #[{ on := 6, ground := Ground.data }, { on := 3, ground := Ground.chain }], guard := none }) rfl (by rfl) (fun K hK => ?_) ?_
                · skip
                  go_simp
                  go_wp2_with ((go_at_call 17; (with_reducible refine (HRr.out _ HB0.out).mono ?_); rintro e w4 ⟨rfl, hb⟩; have HB0 := Lib.hid (below_next HB0.out hb); (try have HR5 := Lib.hid (HR5.out.keep hb)); (try have HR6 := Lib.hid (HR6.out.keep hb)); clear hb))
                  refine wpAny_ready (rs := [10]) (by kernel_rfl) (by simp) ?_
                  refine Go.BigFrame.allReady_want (o := { dst := none, op := Op.store 26 (Operand.tmp 5) (Operand.tmp 38), type := 0, pos := "law.go:126", after := #[{ on := 8, ground := Ground.data }, { on := 3, ground := Ground.data }, { on := 7, ground := Ground.chain }, { on := 0, ground := Ground.phase }, { on := 1, ground := Ground.phase }, { on := 2, ground := Ground.phase }, { on := 3, ground := Ground.phase }, { on := 4, ground := Ground.textOnly Departure.lateStores }, { on := 5, ground := Ground.textOnly Departure.lateStores }, { on := 6, ground := Ground.textOnly Departure.lateStoresUnsure }, { on := 7, ground := Ground.phase }, { on := 8, ground := Ground.phase }, { on := 9, ground := Ground.phase }], guard := none }) rfl (by rfl) (fun K hK => ?_) ?_
                  · skip
                    ((refine wp_store_dig' _ _ rfl g5 tA HLA.out rfl rfl HR5.out HB0.out hge5 ?_; intro w' hrow hb hoth; have HR6 := Lib.hid (hoth _ _ _ (fun h => hne56 h.symm) HR6.out); have HR5 := Lib.hid hrow; have HB0 := Lib.hid hb; clear hrow hb hoth))
                    refine hK _ _ ?_
                    clear hK K
                    try simp only [Act.put, List.setIfInBounds_toArray, List.set_cons_zero, List.set_cons_succ]
                    refine wpAny_ready (rs := [11]) (by kernel_rfl) (by simp) ?_
                    refine Go.BigFrame.allReady_want (o := { dst := none, op := Op.store 26 (Operand.tmp 6) (Operand.tmp 42), type := 0, pos := "law.go:126", after := #[{ on := 9, ground := Ground.data }, { on := 7, ground := Ground.data }, { on := 10, ground := Ground.chain }, { on := 0, ground := Ground.phase }, { on := 1, ground := Ground.phase }, { on := 2, ground := Ground.phase }, { on := 3, ground := Ground.phase }, { on := 4, ground := Ground.phase }, { on := 5, ground := Ground.phase }, { on := 6, ground := Ground.phase }, { on := 7, ground := Ground.phase }, { on := 8, ground := Ground.phase }, { on := 9, ground := Ground.phase }, { on := 10, ground := Ground.phase }], guard := none }) rfl (by rfl) (fun K hK => ?_) ?_
                    · skip
                      ((refine wp_store_dig' _ _ rfl g6 tB HLB.out rfl rfl HR6.out HB0.out hge6 ?_; intro w' hrow hb hoth; have HR5 := Lib.hid (hoth _ _ _ hne56 HR5.out); have HR6 := Lib.hid hrow; have HB0 := Lib.hid hb; clear hrow hb hoth))
                      refine hK _ _ ?_
                      clear hK K
                      try simp only [Act.put, List.setIfInBounds_toArray, List.set_cons_zero, List.set_cons_succ]
                      refine wpAny_done (by kernel_rfl) ?_ _
                      ((exact K g5 g6 _ ⟨HR5.out, HR6.out, HB0.out⟩))
                    exact AllReady.nil
                  exact AllReady.nil
                exact AllReady.nil
              exact AllReady.nil
            exact AllReady.nil
          exact AllReady.nil
        case kk =>
          rintro g5 g6 w3 ⟨hr5, hr6, hb3⟩
          have HT3 : Hid (∀ W' : World, Below w3.heap.size w3 W' → Calls Tryd.prog 17 #[.slice (some ⟨b, off, none⟩) m c3] W' (RetD W' tC)) := fun W' h => HTr.out W' (below_next hb3 h)
          have HTG3 : Hid (∀ (W' : World) (tag : ByteArray) (l : List UInt8) (u : Value), tag.size ≤ 600 → l.length ≤ 600 → Rest W'.heap.size W' l u → Below w3.heap.size w3 W' → tagged tag.data.toList l = tC → Calls Tryd.prog 14 #[.string tag, u] W' (RetD W' tC)) := fun W' tag l u h1 h2 h3 h4 h5 => HTG.out W' tag l u h1 h2 h3 (below_next hb3 h4) h5
          have HRA : Hid (∀ W' : World, Below w3.heap.size w3 W' → Rest W'.heap.size W' tA (.slice (some ⟨g5, 0, none⟩) 32 32)) := fun W' h => row_rest32 (hr5.keep h) HLA.out
          have HRB : Hid (∀ W' : World, Below w3.heap.size w3 W' → Rest W'.heap.size W' tB (.slice (some ⟨g6, 0, none⟩) 32 32)) := fun W' h => row_rest32 (hr6.keep h) HLB.out
          have HL1 := Lib.hid (show ([] : List UInt8).length + tA.length ≤ 70368744177664 by have := HLA.out; simp; omega)
          have HL2 := Lib.hid (show tA.length + tB.length ≤ 70368744177664 by have := HLA.out; have := HLB.out; omega)
          have HB3 := Lib.hid (below_next HB2.out hb3)
          clear HTr HTG HL HRr hr5 hr6 hb3
          go_wp2_with fail
          refine wp_region_any (by kernel_rfl) ?_
          try (change wpAny _ _ _ _ _ _ _ (World.drew _))
          (obtain ⟨w0, hw0⟩ : ∃ x, x = w3.drew := ⟨_, rfl⟩; rw [← hw0]; have HB0 : Hid (Below w3.heap.size w3 w0) := (by rw [hw0]; exact (Below.refl _ w3).drew); clear hw0)
          refine wpAny_take (i := 0) (oi := { dst := some 43, op := Op.move (Operand.tmp 3), type := 30, pos := "law.go:127", after := #[], guard := none }) (v := ?_) rfl (by kernel_rfl) (by kernel_rfl) (by kernel_rfl) (fun _ _ _ h => h) (Or.inl ⟨by rfl, ?_⟩) ?_
          rotate_left
          · (intro w; go_simp; with_reducible rfl)
          try simp only [Act.put, List.setIfInBounds_toArray, List.set_cons_zero, List.set_cons_succ]
          refine wpAny_take (i := 3) (oi := { dst := some 46, op := Op.slice 26 (Operand.tmp 5) none none none, type := 22, pos := "law.go:127", after := #[], guard := none }) (v := ?_) rfl (by kernel_rfl) (by kernel_rfl) (by kernel_rfl) (fun _ _ _ h => h) (Or.inl ⟨by rfl, ?_⟩) ?_
          rotate_left
          · (intro w; go_simp; with_reducible rfl)
          try simp only [Act.put, List.setIfInBounds_toArray, List.set_cons_zero, List.set_cons_succ]
          refine wpAny_take (i := 5) (oi := { dst := some 48, op := Op.slice 26 (Operand.tmp 6) none none none, type := 22, pos := "law.go:127", after := #[], guard := none }) (v := ?_) rfl (by kernel_rfl) (by kernel_rfl) (by kernel_rfl) (fun _ _ _ h => h) (Or.inl ⟨by rfl, ?_⟩) ?_
          rotate_left
          · (intro w; go_simp; with_reducible rfl)
          try simp only [Act.put, List.setIfInBounds_toArray, List.set_cons_zero, List.set_cons_succ]
          refine wpAny_ready (rs := [1, 2]) (by kernel_rfl) (by simp) ?_
          refine Go.BigFrame.allReady_want (o := { dst := some 44, op := Op.call { callee := Callee.value (Operand.func 17), args := #[Operand.tmp 43], argTypes := #[30] }, type := 26, pos := "law.go:127", after := #[{ on := 0, ground := Ground.data }], guard := none }) rfl (by rfl) (fun K hK => ?_) ?_
          · skip
            go_simp
            go_wp2_with ((go_at_call 17; (with_reducible refine (HT3.out _ HB0.out).mono ?_); rintro e w7 ⟨rfl, hb⟩; (try have HN := Lib.hid (HN.out.keep hb)); have HB0 := Lib.hid (below_next HB0.out hb); clear hb))
            refine wpAny_ready (rs := [2]) (by kernel_rfl) (by simp) ?_
            refine Go.BigFrame.allReady_want (o := { dst := some 45, op := Op.buildSlice 22 0 #[], type := 22, pos := "law.go:127", after := #[], guard := none }) rfl (by rfl) (fun K hK => ?_) ?_
            · skip
              ((refine wp_none' rfl HB0.out ?_; intro v0 w4 hn; have HN := Lib.hid hn; have HB0 := Lib.hid hn.2.1; clear hn))
              refine hK _ _ ?_
              clear hK K
              try simp only [Act.put, List.setIfInBounds_toArray, List.set_cons_zero, List.set_cons_succ]
              refine wpAny_ready (rs := [4]) (by kernel_rfl) (by simp) ?_
              refine Go.BigFrame.allReady_want (o := { dst := some 47, op := Op.call { callee := Callee.builtin Builtin.append, args := #[Operand.tmp 45, Operand.tmp 46], argTypes := #[22, 22] }, type := 22, pos := "law.go:127", after := #[{ on := 2, ground := Ground.data }, { on := 3, ground := Ground.data }, { on := 1, ground := Ground.chain }], guard := none }) rfl (by rfl) (fun K hK => ?_) ?_
              · skip
                ((refine wp_buf' rfl _ _ rfl _ [] rfl HN.out _ _ tA rfl (HRA.out _ HB0.out) HL1.out ?_; intro v1 w5 hn; have HN : Hid (New w3 w5 v1 tA) := hn; have HB0 := Lib.hid hn.2.1; clear hn))
                refine hK _ _ ?_
                clear hK K
                try simp only [Act.put, List.setIfInBounds_toArray, List.set_cons_zero, List.set_cons_succ]
                refine wpAny_ready (rs := [6]) (by kernel_rfl) (by simp) ?_
                refine Go.BigFrame.allReady_want (o := { dst := some 49, op := Op.call { callee := Callee.builtin Builtin.append, args := #[Operand.tmp 47, Operand.tmp 48], argTypes := #[22, 22] }, type := 22, pos := "law.go:127", after := #[{ on := 4, ground := Ground.data }, { on := 5, ground := Ground.data }, { on := 4, ground := Ground.chain }], guard := none }) rfl (by rfl) (fun K hK => ?_) ?_
                · skip
                  ((refine wp_buf' rfl _ _ rfl _ tA rfl HN.out _ _ tB rfl (HRB.out _ HB0.out) HL2.out ?_; intro v2 w6 hn; have HN := Lib.hid hn; have HB0 := Lib.hid hn.2.1; have HR2 := Lib.hid (buf_rest' hn.1); clear hn))
                  refine hK _ _ ?_
                  clear hK K
                  try simp only [Act.put, List.setIfInBounds_toArray, List.set_cons_zero, List.set_cons_succ]
                  refine wpAny_ready (rs := [7]) (by kernel_rfl) (by simp) ?_
                  refine Go.BigFrame.allReady_want (o := { dst := some 50, op := Op.call { callee := Callee.value (Operand.func 14), args := #[Operand.const (Value.string { data := #[110, 111, 100, 101] }), Operand.tmp 49], argTypes := #[9, 22] }, type := 26, pos := "law.go:127", after := #[{ on := 6, ground := Ground.data }, { on := 6, ground := Ground.chain }], guard := none }) rfl (by rfl) (fun K hK => ?_) ?_
                  · skip
                    go_simp
                    go_wp2_with ((go_at_call 14; (with_reducible refine (HTG3.out _ _ _ _ (by decide) HL600.out HR2.out HB0.out HE.out).mono ?_); rintro e w8 ⟨rfl, hb⟩; have HB0 := Lib.hid (below_next HB0.out hb); clear hb))
                    refine wpAny_ready (rs := [8]) (by kernel_rfl) (by simp) ?_
                    refine Go.BigFrame.allReady_want (o := { dst := some 51, op := Op.binOp BinOp.eql 26 (Operand.tmp 44) (Operand.tmp 50) 26, type := 4, pos := "law.go:127", after := #[{ on := 1, ground := Ground.data }, { on := 7, ground := Ground.data }], guard := none }) rfl (by rfl) (fun K hK => ?_) ?_
                    · skip
                      ((refine wp_eq_dig _ _ rfl tC tC HLC.out HLC.out rfl rfl ?_; rw [beq_self_eq_true]))
                      refine hK _ _ ?_
                      clear hK K
                      try simp only [Act.put, List.setIfInBounds_toArray, List.set_cons_zero, List.set_cons_succ]
                      refine wpAny_take (i := 9) (oi := { dst := some 2, op := Op.assign (Operand.tmp 51), type := 4, pos := "law.go:127", after := #[{ on := 8, ground := Ground.data }, { on := 7, ground := Ground.chain }, { on := 0, ground := Ground.phase }, { on := 1, ground := Ground.phase }, { on := 2, ground := Ground.phase }, { on := 3, ground := Ground.phase }, { on := 4, ground := Ground.phase }, { on := 5, ground := Ground.phase }, { on := 6, ground := Ground.phase }, { on := 7, ground := Ground.phase }, { on := 8, ground := Ground.phase }], guard := none }) (v := ?_) rfl (by kernel_rfl) (by kernel_rfl) (by kernel_rfl) (fun _ _ _ h => h) (Or.inl ⟨by rfl, ?_⟩) ?_
                      rotate_left
                      · (intro w; go_simp; with_reducible rfl)
                      try simp only [Act.put, List.setIfInBounds_toArray, List.set_cons_zero, List.set_cons_succ]
                      refine wpAny_done (by kernel_rfl) ?_ _
                      ((go_wp2_with fail; exact bodyPost_ret (results_tmp (p := 2) rfl _ _ (.bool true) rfl) rfl ⟨rfl, below_next HB3.out HB0.out⟩))
                    exact AllReady.nil
                  exact AllReady.nil
                exact AllReady.nil
              exact AllReady.nil
            exact AllReady.nil
          refine Go.BigFrame.allReady_want (o := { dst := some 45, op := Op.buildSlice 22 0 #[], type := 22, pos := "law.go:127", after := #[], guard := none }) rfl (by rfl) (fun K hK => ?_) ?_
          · skip
            ((refine wp_none' rfl HB0.out ?_; intro v0 w4 hn; have HN := Lib.hid hn; have HB0 := Lib.hid hn.2.1; clear hn))
            refine hK _ _ ?_
            clear hK K
            try simp only [Act.put, List.setIfInBounds_toArray, List.set_cons_zero, List.set_cons_succ]
            refine wpAny_ready (rs := [1]) (by kernel_rfl) (by simp) ?_
            refine Go.BigFrame.allReady_want (o := { dst := some 44, op := Op.call { callee := Callee.value (Operand.func 17), args := #[Operand.tmp 43], argTypes := #[30] }, type := 26, pos := "law.go:127", after := #[{ on := 0, ground := Ground.data }], guard := none }) rfl (by rfl) (fun K hK => ?_) ?_
            · skip
              go_simp
              go_wp2_with ((go_at_call 17; (with_reducible refine (HT3.out _ HB0.out).mono ?_); rintro e w7 ⟨rfl, hb⟩; (try have HN := Lib.hid (HN.out.keep hb)); have HB0 := Lib.hid (below_next HB0.out hb); clear hb))
              refine wpAny_ready (rs := [4]) (by kernel_rfl) (by simp) ?_
              refine Go.BigFrame.allReady_want (o := { dst := some 47, op := Op.call { callee := Callee.builtin Builtin.append, args := #[Operand.tmp 45, Operand.tmp 46], argTypes := #[22, 22] }, type := 22, pos := "law.go:127", after := #[{ on := 2, ground := Ground.data }, { on := 3, ground := Ground.data }, { on := 1, ground := Ground.chain }], guard := none }) rfl (by rfl) (fun K hK => ?_) ?_
              · skip
                ((refine wp_buf' rfl _ _ rfl _ [] rfl HN.out _ _ tA rfl (HRA.out _ HB0.out) HL1.out ?_; intro v1 w5 hn; have HN : Hid (New w3 w5 v1 tA) := hn; have HB0 := Lib.hid hn.2.1; clear hn))
                refine hK _ _ ?_
                clear hK K
                try simp only [Act.put, List.setIfInBounds_toArray, List.set_cons_zero, List.set_cons_succ]
                refine wpAny_ready (rs := [6]) (by kernel_rfl) (by simp) ?_
                refine Go.BigFrame.allReady_want (o := { dst := some 49, op := Op.call { callee := Callee.builtin Builtin.append, args := #[Operand.tmp 47, Operand.tmp 48], argTypes := #[22, 22] }, type := 22, pos := "law.go:127", after := #[{ on := 4, ground := Ground.data }, { on := 5, ground := Ground.data }, { on := 4, ground := Ground.chain }], guard := none }) rfl (by rfl) (fun K hK => ?_) ?_
                · skip
                  ((refine wp_buf' rfl _ _ rfl _ tA rfl HN.out _ _ tB rfl (HRB.out _ HB0.out) HL2.out ?_; intro v2 w6 hn; have HN := Lib.hid hn; have HB0 := Lib.hid hn.2.1; have HR2 := Lib.hid (buf_rest' hn.1); clear hn))
                  refine hK _ _ ?_
                  clear hK K
                  try simp only [Act.put, List.setIfInBounds_toArray, List.set_cons_zero, List.set_cons_succ]
                  refine wpAny_ready (rs := [7]) (by kernel_rfl) (by simp) ?_
                  refine Go.BigFrame.allReady_want (o := { dst := some 50, op := Op.call { callee := Callee.value (Operand.func 14), args := #[Operand.const (Value.string { data := #[110, 111, 100, 101] }), Operand.tmp 49], argTypes := #[9, 22] }, type := 26, pos := "law.go:127", after := #[{ on := 6, ground := Ground.data }, { on := 6, ground := Ground.chain }], guard := none }) rfl (by rfl) (fun K hK => ?_) ?_
                  · skip
                    go_simp
                    go_wp2_with ((go_at_call 14; (with_reducible refine (HTG3.out _ _ _ _ (by decide) HL600.out HR2.out HB0.out HE.out).mono ?_); rintro e w8 ⟨rfl, hb⟩; have HB0 := Lib.hid (below_next HB0.out hb); clear hb))
                    refine wpAny_ready (rs := [8]) (by kernel_rfl) (by simp) ?_
                    refine Go.BigFrame.allReady_want (o := { dst := some 51, op := Op.binOp BinOp.eql 26 (Operand.tmp 44) (Operand.tmp 50) 26, type := 4, pos := "law.go:127", after := #[{ on := 1, ground := Ground.data }, { on := 7, ground := Ground.data }], guard := none }) rfl (by rfl) (fun K hK => ?_) ?_
                    · skip
                      ((refine wp_eq_dig _ _ rfl tC tC HLC.out HLC.out rfl rfl ?_; rw [beq_self_eq_true]))
                      refine hK _ _ ?_
                      clear hK K
                      try simp only [Act.put, List.setIfInBounds_toArray, List.set_cons_zero, List.set_cons_succ]
                      refine wpAny_take (i := 9) (oi := { dst := some 2, op := Op.assign (Operand.tmp 51), type := 4, pos := "law.go:127", after := #[{ on := 8, ground := Ground.data }, { on := 7, ground := Ground.chain }, { on := 0, ground := Ground.phase }, { on := 1, ground := Ground.phase }, { on := 2, ground := Ground.phase }, { on := 3, ground := Ground.phase }, { on := 4, ground := Ground.phase }, { on := 5, ground := Ground.phase }, { on := 6, ground := Ground.phase }, { on := 7, ground := Ground.phase }, { on := 8, ground := Ground.phase }], guard := none }) (v := ?_) rfl (by kernel_rfl) (by kernel_rfl) (by kernel_rfl) (fun _ _ _ h => h) (Or.inl ⟨by rfl, ?_⟩) ?_
                      rotate_left
                      · (intro w; go_simp; with_reducible rfl)
                      try simp only [Act.put, List.setIfInBounds_toArray, List.set_cons_zero, List.set_cons_succ]
                      refine wpAny_done (by kernel_rfl) ?_ _
                      ((go_wp2_with fail; exact bodyPost_ret (results_tmp (p := 2) rfl _ _ (.bool true) rfl) rfl ⟨rfl, below_next HB3.out HB0.out⟩))
                    exact AllReady.nil
                  exact AllReady.nil
                exact AllReady.nil
              exact AllReady.nil
            exact AllReady.nil
          exact AllReady.nil
end Go.Proofs.YtjibhelahagliaaDoor
