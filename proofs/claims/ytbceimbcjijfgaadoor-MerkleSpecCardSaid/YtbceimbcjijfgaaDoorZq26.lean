/- MerkleProve: the law's walk. -/
import Derived.Test.YtbceimbcjijfgaaDoorZq23
import Derived.Test.YtbceimbcjijfgaaDoorZq25
namespace Go.Proofs.YtbceimbcjijfgaaDoor.Dig
open Go.RowKit

theorem plen_le : ∀ (f g n i : Nat), n ≤ 2 ^ g → plen f n i ≤ g
  | 0, _, _, _, _ => Nat.zero_le _
  | f + 1, g, n, i, h => by
    rw [plen]
    by_cases h1 : n ≤ 1
    · rw [if_pos h1]; exact Nat.zero_le _
    · rw [if_neg h1]
      match g, h with
      | 0, h => simp at h; omega
      | g + 1, h =>
        rw [Nat.pow_succ] at h
        have ih := plen_le f g ((n + 1) / 2) (i / 2) (by omega)
        split <;> omega
theorem digs_up : ∀ (f : Nat) (l : List (List UInt8)), Digs l → Digs (upN sha Ndd f l)
  | 0, _, h => h
  | f + 1, l, h => digs_up f _ (digs_nx h)
theorem root_len (l : List (List UInt8)) (h : Digs l) (h1 : 1 ≤ l.length) : (rootR sha Ndd l).length = 32 := by
  have hD := digs_up l.length l h
  have hL : 1 ≤ (upN sha Ndd l.length l).length := by
    rw [up_len]
    have hp : 0 < 2 ^ l.length := Nat.pow_pos (by omega)
    generalize 2 ^ l.length = q at *
    rw [Nat.le_div_iff_mul_le hp]
    omega
  unfold rootR
  match hu : upN sha Ndd l.length l, hL with
  | x :: r, _ =>
    rw [hu] at hD
    exact hD x (by simp)
theorem climb_prove (ls : List (List UInt8)) (i : Nat) (hl : isL (ls.length : Int) (i : Int) = true) : climbD 17 (ls.length : Int) (i : Int) (ls.getD i []) (pth sha Ndd 17 (ls.map leafD) i) = (rootD ls, 0) := by
  obtain ⟨h1, h2, h3⟩ := isL_nat hl
  have hlen : (ls.map leafD).length = ls.length := List.length_map ..
  unfold climbD
  rw [if_neg (by rw [hl]; simp), Int.toNat_natCast, Int.toNat_natCast, pth_len, hlen, if_neg (by simp)]
  have h := clm_pth sha Ndd 17 (ls.map leafD) i (by omega) (by omega)
  rw [hlen] at h
  have e : (ls.map leafD).getD i [] = leafD (ls.getD i []) := by simp [show i < ls.length by omega]
  rw [e] at h
  rw [h]
  unfold rootD
  rw [if_neg (by omega)]
set_option maxHeartbeats 8000000 in
set_option maxRecDepth 100000 in
theorem prove_walk (ls : List (List UInt8)) (i : Int) (v : Value) (w : World) (hi : -9223372036854775808 ≤ i ∧ i ≤ 9223372036854775807) (hr : LRest w.heap.size w ls v) (hT : Tab w) :
    Calls Tryd.prog 5 #[v, .int .i64 i] w fun e w' => e = .returned (.bool true) ∧ Below w.heap.size w w' := by
  have HR := Lib.hid hr
  have HT := Lib.hid hT
  obtain ⟨a, cap, rfl⟩ : ∃ a cap, v = .slice a ls.length cap := by obtain ⟨a, cap, h, _⟩ := hr; exact ⟨a, cap, h⟩
  have HFEW := Lib.hid (fun W h => Few_call ls (.slice a ls.length cap) W h)
  cases hf : fewB ls with
  | false =>
    rw [hf] at HFEW
    clear hr hT
    go_enter Tryd.func5, Tryd.ntmps5
    go_wp2_with (first
      | (go_at_call 11; refine (HFEW.out w1 (HR.out.keep HB1.out)).mono ?_; rintro e w2 ⟨rfl, rfl⟩)
      | (go_at_call 10; refine (sane_call w HT.out).mono ?_; rintro e w1 ⟨rfl, hb⟩; have HB1 := Lib.hid hb; clear hb)
      | fail)
    go_ret
    exact ⟨rfl, HB1.out⟩
  | true =>
    rw [hf] at HFEW
    have hn40 : ls.length ≤ 40 ∧ ∀ p ∈ ls, p.length ≤ 200 := by
      unfold fewB at hf
      rw [Bool.and_eq_true] at hf
      exact ⟨of_decide_eq_true hf.1, fun p hp => by simpa using List.all_eq_true.1 hf.2 p hp⟩
    have HN40 := Lib.hid hn40
    by_cases hl : isL (ls.length : Int) i = true
    · obtain ⟨i1, i2, i3⟩ := isL_nat hl
      obtain ⟨j, rfl⟩ : ∃ j : Nat, i = (j : Int) := ⟨i.toNat, by omega⟩
      have HCL : Hid (∀ (W : World) bv pv, Rest W.heap.size W (ls.getD j []) bv → DRest W.heap.size W (pth sha Ndd 17 (ls.map leafD) j) pv → Tab W → Calls Tryd.prog 17 #[.int .i64 (ls.length : Int), .int .i64 (j : Int), bv, pv] W fun e w' => e = .returned (.tuple #[dg (rootD ls), .int .i64 0]) ∧ Below W.heap.size W w') := Lib.hid (fun W bv pv h1 h2 h3 => by
        have h := Climb_call (ls.length : Int) (j : Int) (ls.getD j []) bv (pth sha Ndd 17 (ls.map leafD) j) pv W (by
          have := hn40.2 (ls.getD j []) (by rw [show ls.getD j [] = ls[j]'(by omega) by simp [show j < ls.length by omega]]; exact List.getElem_mem _)
          omega) h1 h2 h3
        rwa [climb_prove ls j hl] at h)
      have HPR : Hid (∀ W, LRest W.heap.size W ls (.slice a ls.length cap) → Tab W → Calls Tryd.prog 12 #[.slice a ls.length cap, .int .i64 (j : Int)] W fun e w' => ∃ v', e = .returned (.tuple #[v', .int .i64 0]) ∧ DNew W w' v' (pth sha Ndd 17 (ls.map leafD) j)) := Lib.hid (fun W h1 h2 => Prove_ok ls j _ W (fun p hp => by have := hn40.2 p hp; omega) h1 hl h2)
      have HRT : Hid (∀ W, LRest W.heap.size W ls (.slice a ls.length cap) → Tab W → Calls Tryd.prog 14 #[.slice a ls.length cap] W fun e w' => e = .returned (dg (rootD ls)) ∧ Below W.heap.size W w') := Lib.hid (fun W h1 h2 => Root_call ls _ W (by omega) (fun p hp => by have := hn40.2 p hp; omega) h1 h2)
      have HPN : Hid ((pth sha Ndd 17 (ls.map leafD) j).length ≤ 16) := Lib.hid (by
        rw [pth_len, List.length_map]
        have := plen_le 17 6 ls.length j (by omega)
        omega)
      have HLD : Hid ((rootD ls).length = 32) := Lib.hid (by
        unfold rootD
        rw [if_neg (by omega)]
        exact root_len _ (fun d hd => by obtain ⟨x, _, rfl⟩ := List.mem_map.1 hd; exact leafD_len x) (by rw [List.length_map]; omega))
      obtain ⟨b, off, rfl⟩ : ∃ b off, a = some ⟨b, off, none⟩ := by
        obtain ⟨a', cap', h3, _, _, h4⟩ := hr
        injection h3 with e1 _ _
        rcases h4 with h0 | ⟨b, off, ha, _, _⟩
        · omega
        · exact ⟨b, off, by rw [e1, ha]⟩
      obtain ⟨hbl, xv, ck, hx⟩ := LRest.at hr j (by omega)
      obtain ⟨rd, hrd⟩ : ∃ rd, rd = rootD ls := ⟨_, rfl⟩
      obtain ⟨path, hpath⟩ : ∃ path, path = pth sha Ndd 17 (ls.map leafD) j := ⟨_, rfl⟩
      rw [← hrd] at HCL HRT HLD
      rw [← hpath] at HCL HPR HPN
      obtain ⟨n, hn⟩ : ∃ n, n = ls.length := ⟨_, rfl⟩
      rw [← hn] at HFEW HCL HPR HRT HR i2 ⊢
      obtain ⟨pl, hpl⟩ : ∃ pl, pl = path.length := ⟨_, rfl⟩
      rw [← hpl] at HPN
      have HPLE := Lib.hid hpl
      obtain ⟨xa, xc, rfl⟩ : ∃ xa xc, xv = .slice xa (ls.getD j []).length xc := by obtain ⟨xa, xc, h, _⟩ := hx; exact ⟨xa, xc, h⟩
      obtain ⟨xl, hxl⟩ : ∃ xl, xl = (ls.getD j []).length := ⟨_, rfl⟩
      rw [← hxl] at ck hx
      have HX := Lib.hid hx
      have h1i : ¬ (j : Int) < 0 := by omega
      have h2i : ¬ (n : Int) ≤ (j : Int) := by omega
      have h3i : (j : Int) < (n : Int) := by omega
      have h4i : (pl : Int) ≤ 16 := by have := HPN.out; omega
      have h5i : (0 : Int) ≤ (j : Int) := by omega
      clear hr hT hn40 hl hrd hpath hn hpl hx hxl hf
      go_enter Tryd.func5, Tryd.ntmps5
      go_upto_region 9 with (first
        | (refine wpList_store_dig rfl (.tmp 7) (.tmp 45) rfl g7 rd HLD.out rfl rfl H5.out HB5.out (by have := hg7; have := HB4.out.size; omega) ?_; intro w6 hrow hb hoth; have H6 := Lib.hid hrow; have HB6 := Lib.hid hb; clear hrow hb hoth)
        | (refine wpList_alloc_dig rfl 7 rfl rfl ?_; intro g7 w5 hg hrow hb; have hg7 : w4.heap.size ≤ g7 := (by omega); have H5 := Lib.hid hrow; have HB5 := Lib.hid (below_next HB4.out hb); clear hg hrow hb)
        | (go_at_call 17; refine (HCL.out w3 _ _ (rest_keep HX.out HB3.out) HP3.out (HT.out.keep HB3.out)).mono ?_; rintro e w4 ⟨rfl, hb⟩; have HB4 := Lib.hid (below_next HB3.out hb); clear hb)
        | (go_at_call 12; refine (HPR.out w2 (HR.out.keep HB1.out) (HT.out.keep HB1.out)).mono ?_; rintro e w3 ⟨v3, rfl, hn⟩; obtain ⟨a3, c3, hv3⟩ := hn.shape; rw [← HPLE.out] at hv3; subst hv3; have HB3 := Lib.hid (below_next HB1.out hn.2.1); have HP3 := Lib.hid (dbuf_rest hn.1); have ck3 := (HB3.out.cell (p := ⟨b, off + j, none⟩) hbl).trans ck; clear hn)
        | (go_at_call 11; refine (HFEW.out w1 (HR.out.keep HB1.out)).mono ?_; rintro e w2 ⟨rfl, rfl⟩)
        | (go_at_call 10; refine (sane_call w HT.out).mono ?_; rintro e w1 ⟨rfl, hb⟩; have HB1 := Lib.hid hb; clear hb)
        | fail)
      have HTR := Lib.hid (HT.out.keep HB6.out)
      have HRL := Lib.hid (HR.out.keep HB6.out)
      have HDA : Hid (DigAt (fun w' => Below w6.heap.size w6 w') g7 rd) := Lib.hid ⟨HLD.out, fun W' h => range_row (H6.out.keep h)⟩
      (refine wp_region_held_drew (S := fun w' => Below w6.heap.size w6 w') (by kernel_rfl) ((Below.refl _ w6).drew) (fun hHeld => ?_))
      (obtain ⟨w0, hw0⟩ : ∃ x, x = w6.drew := ⟨_, rfl⟩; rw [← hw0] at hHeld ⊢; have HS := Lib.hid hHeld; clear hHeld hw0)
      refine wpAnyH_take (i := 0) (oi := { dst := some 47, op := Op.move (Operand.tmp 6), type := 26, pos := "law.go:66", after := #[], guard := none }) (v := ?_) rfl (by kernel_rfl) (by kernel_rfl) (by kernel_rfl) (fun _ _ _ h => h) (Or.inl ⟨by rfl, ?_⟩) HS.out ?_
      rotate_left
      · (intro w hSw; (try dsimp only at hSw); go_simp; with_reducible rfl)
      try simp only [Act.put, List.setIfInBounds_toArray, List.set_cons_zero, List.set_cons_succ]
      refine wpAnyH_take (i := 1) (oi := { dst := some 48, op := Op.binOp BinOp.eql 26 (Operand.tmp 47) (Operand.const (Value.int IntKind.i64 0)) 26, type := 4, pos := "law.go:66", after := #[{ on := 0, ground := Ground.data }], guard := none }) (v := ?_) rfl (by kernel_rfl) (by kernel_rfl) (by kernel_rfl) (fun _ _ _ h => h) (Or.inl ⟨by rfl, ?_⟩) HS.out ?_
      rotate_left
      · (intro w hSw; (try dsimp only at hSw); go_simp; with_reducible rfl)
      try simp only [Act.put, List.setIfInBounds_toArray, List.set_cons_zero, List.set_cons_succ]
      refine wpAnyH_take (i := 2) (oi := { dst := some 49, op := Op.move (Operand.tmp 48), type := 4, pos := "law.go:66", after := #[{ on := 1, ground := Ground.data }], guard := none }) (v := ?_) rfl (by kernel_rfl) (by kernel_rfl) (by kernel_rfl) (fun _ _ _ h => h) (Or.inl ⟨by rfl, ?_⟩) HS.out ?_
      rotate_left
      · (intro w hSw; (try dsimp only at hSw); go_simp; with_reducible rfl)
      try simp only [Act.put, List.setIfInBounds_toArray, List.set_cons_zero, List.set_cons_succ]
      refine wpAnyH_take (i := 3) (oi := { dst := some 50, op := Op.move (Operand.tmp 8), type := 26, pos := "law.go:66", after := #[{ on := 2, ground := Ground.guard }], guard := some (2, true) }) (v := ?_) rfl (by kernel_rfl) (by kernel_rfl) (by kernel_rfl) (fun _ _ _ h => h) (Or.inl ⟨by rfl, ?_⟩) HS.out ?_
      rotate_left
      · (intro w hSw; (try dsimp only at hSw); go_simp; with_reducible rfl)
      try simp only [Act.put, List.setIfInBounds_toArray, List.set_cons_zero, List.set_cons_succ]
      refine wpAnyH_take (i := 4) (oi := { dst := some 51, op := Op.binOp BinOp.eql 26 (Operand.tmp 50) (Operand.const (Value.int IntKind.i64 0)) 26, type := 4, pos := "law.go:66", after := #[{ on := 3, ground := Ground.data }, { on := 2, ground := Ground.guard }], guard := some (2, true) }) (v := ?_) rfl (by kernel_rfl) (by kernel_rfl) (by kernel_rfl) (fun _ _ _ h => h) (Or.inl ⟨by rfl, ?_⟩) HS.out ?_
      rotate_left
      · (intro w hSw; (try dsimp only at hSw); go_simp; with_reducible rfl)
      try simp only [Act.put, List.setIfInBounds_toArray, List.set_cons_zero, List.set_cons_succ]
      refine wpAnyH_take (i := 5) (oi := { dst := some 52, op := Op.pick (Operand.tmp 49) (Operand.tmp 51) (Operand.const (Value.bool false)), type := 4, pos := "law.go:66", after := #[{ on := 2, ground := Ground.data }, { on := 4, ground := Ground.data }], guard := none }) (v := ?_) rfl (by kernel_rfl) (by kernel_rfl) (by kernel_rfl) (fun _ _ _ h => h) (Or.inl ⟨by rfl, ?_⟩) HS.out ?_
      rotate_left
      · (intro w hSw; (try dsimp only at hSw); go_simp; with_reducible rfl)
      try simp only [Act.put, List.setIfInBounds_toArray, List.set_cons_zero, List.set_cons_succ]
      refine wpAnyH_take (i := 6) (oi := { dst := some 53, op := Op.move (Operand.tmp 52), type := 4, pos := "law.go:66", after := #[{ on := 5, ground := Ground.data }, { on := 2, ground := Ground.chain }], guard := none }) (v := ?_) rfl (by kernel_rfl) (by kernel_rfl) (by kernel_rfl) (fun _ _ _ h => h) (Or.inl ⟨by rfl, ?_⟩) HS.out ?_
      rotate_left
      · (intro w hSw; (try dsimp only at hSw); go_simp; with_reducible rfl)
      try simp only [Act.put, List.setIfInBounds_toArray, List.set_cons_zero, List.set_cons_succ]
      refine take_dig (i := 7) (oi := { dst := some 54, op := Op.load 30 (Operand.tmp 7), type := 30, pos := "law.go:66", after := #[{ on := 6, ground := Ground.guard }], guard := some (6, true) }) HDA.out rfl (by kernel_rfl) (by kernel_rfl) (by kernel_rfl) (fun _ _ _ h => h) HS.out rfl rfl (by rfl) ?_
      try simp only [Act.put, List.setIfInBounds_toArray, List.set_cons_zero, List.set_cons_succ]
      refine wpAnyH_take (i := 8) (oi := { dst := some 55, op := Op.move (Operand.tmp 0), type := 22, pos := "law.go:66", after := #[{ on := 6, ground := Ground.guard }], guard := some (6, true) }) (v := ?_) rfl (by kernel_rfl) (by kernel_rfl) (by kernel_rfl) (fun _ _ _ h => h) (Or.inl ⟨by rfl, ?_⟩) HS.out ?_
      rotate_left
      · (intro w hSw; (try dsimp only at hSw); go_simp; with_reducible rfl)
      try simp only [Act.put, List.setIfInBounds_toArray, List.set_cons_zero, List.set_cons_succ]
      refine wpAnyH_ready (rs := [9]) (by kernel_rfl) (by simp) ?_
      refine AllReadyH.cons (o := { dst := some 56, op := Op.call { callee := Callee.value (Operand.func 14), args := #[Operand.tmp 55], argTypes := #[22] }, type := 30, pos := "law.go:66", after := #[{ on := 8, ground := Ground.data }, { on := 6, ground := Ground.chain }, { on := 6, ground := Ground.guard }], guard := some (6, true) }) rfl (fun K hK => ?_) ?_
      · rw [if_pos (by rfl)]
        go_simp
        go_wp2_with (go_at_call 14; refine (HRT.out _ (HRL.out.keep HS.out) (HTR.out.keep HS.out)).mono ?_; rintro e wb ⟨rfl, hb⟩; replace HS := Lib.hid (below_next HS.out hb); clear hb)
        refine hK.out _ _ HS.out (fun _ => ?_)
        clear hK K
        try simp only [Act.put, List.setIfInBounds_toArray, List.set_cons_zero, List.set_cons_succ]
        refine wpAnyH_ready (rs := [10]) (by kernel_rfl) (by simp) ?_
        refine AllReadyH.cons (o := { dst := some 57, op := Op.binOp BinOp.eql 30 (Operand.tmp 54) (Operand.tmp 56) 30, type := 4, pos := "law.go:66", after := #[{ on := 7, ground := Ground.data }, { on := 9, ground := Ground.data }, { on := 6, ground := Ground.guard }], guard := some (6, true) }) rfl (fun K hK => ?_) ?_
        · rw [if_pos (by rfl)]
          (refine wp_eq_dig _ _ rfl rd rd HLD.out HLD.out rfl rfl ?_; rw [show (rd == rd) = true by simp])
          refine hK.out _ _ HS.out (fun _ => ?_)
          clear hK K
          try simp only [Act.put, List.setIfInBounds_toArray, List.set_cons_zero, List.set_cons_succ]
          refine wpAnyH_take (i := 11) (oi := { dst := some 58, op := Op.pick (Operand.tmp 53) (Operand.tmp 57) (Operand.const (Value.bool false)), type := 4, pos := "law.go:66", after := #[{ on := 6, ground := Ground.data }, { on := 10, ground := Ground.data }], guard := none }) (v := ?_) rfl (by kernel_rfl) (by kernel_rfl) (by kernel_rfl) (fun _ _ _ h => h) (Or.inl ⟨by rfl, ?_⟩) HS.out ?_
          rotate_left
          · (intro w hSw; (try dsimp only at hSw); go_simp; with_reducible rfl)
          try simp only [Act.put, List.setIfInBounds_toArray, List.set_cons_zero, List.set_cons_succ]
          refine wpAnyH_take (i := 12) (oi := { dst := some 59, op := Op.move (Operand.tmp 58), type := 4, pos := "law.go:66", after := #[{ on := 11, ground := Ground.data }, { on := 9, ground := Ground.chain }], guard := none }) (v := ?_) rfl (by kernel_rfl) (by kernel_rfl) (by kernel_rfl) (fun _ _ _ h => h) (Or.inl ⟨by rfl, ?_⟩) HS.out ?_
          rotate_left
          · (intro w hSw; (try dsimp only at hSw); go_simp; with_reducible rfl)
          try simp only [Act.put, List.setIfInBounds_toArray, List.set_cons_zero, List.set_cons_succ]
          refine wpAnyH_take (i := 13) (oi := { dst := some 60, op := Op.move (Operand.tmp 5), type := 25, pos := "law.go:66", after := #[{ on := 12, ground := Ground.guard }], guard := some (12, true) }) (v := ?_) rfl (by kernel_rfl) (by kernel_rfl) (by kernel_rfl) (fun _ _ _ h => h) (Or.inl ⟨by rfl, ?_⟩) HS.out ?_
          rotate_left
          · (intro w hSw; (try dsimp only at hSw); go_simp; with_reducible rfl)
          try simp only [Act.put, List.setIfInBounds_toArray, List.set_cons_zero, List.set_cons_succ]
          refine wpAnyH_take (i := 14) (oi := { dst := some 61, op := Op.call { callee := Callee.builtin Builtin.len, args := #[Operand.tmp 60], argTypes := #[25] }, type := 3, pos := "law.go:66", after := #[{ on := 13, ground := Ground.data }, { on := 12, ground := Ground.guard }], guard := some (12, true) }) (v := ?_) rfl (by kernel_rfl) (by kernel_rfl) (by kernel_rfl) (fun _ _ _ h => h) (Or.inl ⟨by rfl, ?_⟩) HS.out ?_
          rotate_left
          · (intro w hSw; (try dsimp only at hSw); go_simp; with_reducible rfl)
          try simp only [Act.put, List.setIfInBounds_toArray, List.set_cons_zero, List.set_cons_succ]
          refine wpAnyH_take (i := 15) (oi := { dst := some 62, op := Op.binOp BinOp.leq 3 (Operand.tmp 61) (Operand.const (Value.int IntKind.i64 16)) 3, type := 4, pos := "law.go:66", after := #[{ on := 14, ground := Ground.data }, { on := 12, ground := Ground.guard }], guard := some (12, true) }) (v := ?_) rfl (by kernel_rfl) (by kernel_rfl) (by kernel_rfl) (fun _ _ _ h => h) (Or.inl ⟨by rfl, ?_⟩) HS.out ?_
          rotate_left
          · (intro w hSw; (try dsimp only at hSw); go_simp; with_reducible rfl)
          try simp only [Act.put, List.setIfInBounds_toArray, List.set_cons_zero, List.set_cons_succ]
          refine wpAnyH_take (i := 16) (oi := { dst := some 63, op := Op.pick (Operand.tmp 59) (Operand.tmp 62) (Operand.const (Value.bool false)), type := 4, pos := "law.go:66", after := #[{ on := 12, ground := Ground.data }, { on := 15, ground := Ground.data }], guard := none }) (v := ?_) rfl (by kernel_rfl) (by kernel_rfl) (by kernel_rfl) (fun _ _ _ h => h) (Or.inl ⟨by rfl, ?_⟩) HS.out ?_
          rotate_left
          · (intro w hSw; (try dsimp only at hSw); go_simp; with_reducible rfl)
          try simp only [Act.put, List.setIfInBounds_toArray, List.set_cons_zero, List.set_cons_succ]
          refine wpAnyH_take (i := 17) (oi := { dst := some 4, op := Op.assign (Operand.tmp 63), type := 4, pos := "law.go:66", after := #[{ on := 16, ground := Ground.data }, { on := 12, ground := Ground.chain }, { on := 0, ground := Ground.phase }, { on := 1, ground := Ground.phase }, { on := 2, ground := Ground.phase }, { on := 3, ground := Ground.phase }, { on := 4, ground := Ground.phase }, { on := 5, ground := Ground.phase }, { on := 6, ground := Ground.phase }, { on := 7, ground := Ground.phase }, { on := 8, ground := Ground.phase }, { on := 9, ground := Ground.phase }, { on := 10, ground := Ground.phase }, { on := 11, ground := Ground.phase }, { on := 12, ground := Ground.phase }, { on := 13, ground := Ground.phase }, { on := 14, ground := Ground.phase }, { on := 15, ground := Ground.phase }, { on := 16, ground := Ground.phase }], guard := none }) (v := ?_) rfl (by kernel_rfl) (by kernel_rfl) (by kernel_rfl) (fun _ _ _ h => h) (Or.inl ⟨by rfl, ?_⟩) HS.out ?_
          rotate_left
          · (intro w hSw; (try dsimp only at hSw); go_simp; with_reducible rfl)
          try simp only [Act.put, List.setIfInBounds_toArray, List.set_cons_zero, List.set_cons_succ]
          refine wpAnyH_done (by kernel_rfl) ?_ _
          go_wp2_with fail
          go_ret
          exact ⟨rfl, below_next HB6.out HS.out⟩
        exact AllReadyH.nil
      exact AllReadyH.nil
    · have hl' : isL (ls.length : Int) i = false := by cases h : isL (ls.length : Int) i <;> simp_all
      have HPB := Lib.hid (fun W h => Prove_bad ls i (.slice a ls.length cap) W h hl')
      have hc : i < 0 ∨ (¬ i < 0 ∧ (ls.length : Int) ≤ i) := by
        unfold isL at hl'
        simp at hl'
        omega
      obtain ⟨n, hn⟩ : ∃ n, n = ls.length := ⟨_, rfl⟩
      rw [← hn] at HFEW HPB HR hc ⊢
      clear hl hl' hr hT hn hn40
      rcases hc with h1 | ⟨h1, h2⟩
      · go_enter Tryd.func5, Tryd.ntmps5
        go_wp2_with (first
          | (go_at_call 12; refine (HPB.out w2 (HR.out.keep HB1.out)).mono ?_; rintro e w3 ⟨rfl, hb⟩; have HB3 := Lib.hid (below_next HB1.out hb); clear hb)
          | (go_at_call 11; refine (HFEW.out w1 (HR.out.keep HB1.out)).mono ?_; rintro e w2 ⟨rfl, rfl⟩)
          | (go_at_call 10; refine (sane_call w HT.out).mono ?_; rintro e w1 ⟨rfl, hb⟩; have HB1 := Lib.hid hb; clear hb)
          | fail)
        go_ret
        exact ⟨rfl, HB3.out⟩
      · go_enter Tryd.func5, Tryd.ntmps5
        go_wp2_with (first
          | (go_at_call 12; refine (HPB.out w2 (HR.out.keep HB1.out)).mono ?_; rintro e w3 ⟨rfl, hb⟩; have HB3 := Lib.hid (below_next HB1.out hb); clear hb)
          | (go_at_call 11; refine (HFEW.out w1 (HR.out.keep HB1.out)).mono ?_; rintro e w2 ⟨rfl, rfl⟩)
          | (go_at_call 10; refine (sane_call w HT.out).mono ?_; rintro e w1 ⟨rfl, hb⟩; have HB1 := Lib.hid hb; clear hb)
          | fail)
        go_ret
        exact ⟨rfl, HB3.out⟩
end Go.Proofs.YtbceimbcjijfgaaDoor.Dig
