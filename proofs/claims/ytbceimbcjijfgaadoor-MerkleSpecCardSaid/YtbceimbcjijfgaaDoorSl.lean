/- MerkleSplit: the law's walk. -/
import Derived.Test.YtbceimbcjijfgaaDoorZq26
import Derived.Deep.RegionLaw
import Derived.Deep.RegionHeld
import Derived.BigRegion
namespace Go.Proofs.YtbceimbcjijfgaaDoor.Dig
open Go.RowKit

theorem LRest.part {B : Nat} {w : World} {b off n cap : Nat} {ls : List (List UInt8)} (h : LRest B w ls (.slice (some ⟨b, off, none⟩) n cap)) (i k cap2 : Nat) (hk : i + k ≤ ls.length) (hk1 : 1 ≤ k) (h1 : k ≤ cap2) (h2 : cap2 ≤ cap) :
    LRest B w ((ls.drop i).take k) (.slice (some ⟨b, off + i, none⟩) k cap2) := by
  have hat := fun j hj => LRest.at h j hj
  obtain ⟨a, cap', he, h3, h4, _⟩ := h
  injection he with e1 e2 e3
  subst e3
  have hlen : ((ls.drop i).take k).length = k := by rw [List.length_take, List.length_drop]; omega
  refine ⟨some ⟨b, off + i, none⟩, cap2, by rw [hlen], by rw [hlen]; exact h1, by omega, .inr ⟨b, off + i, rfl, (hat i (by omega)).1, fun j hj => ?_⟩⟩
  rw [hlen] at hj
  obtain ⟨_, xv, hc, hr⟩ := hat (i + j) (by omega)
  refine ⟨xv, by rw [← hc, Nat.add_assoc], ?_⟩
  have hg : ((ls.drop i).take k).getD j [] = ls.getD (i + j) [] := by simp [hj]
  rw [hg]
  exact hr
theorem rootD_len (ls : List (List UInt8)) : (rootD ls).length = 32 := by
  unfold rootD
  by_cases h : ls.length = 0
  · rw [if_pos h]; exact tagged_len _ _
  · rw [if_neg h]
    exact root_len _ (fun d hd => by obtain ⟨x, _, rfl⟩ := List.mem_map.1 hd; exact leafD_len x) (by rw [List.length_map]; omega)
theorem rootD_split (ls : List (List UInt8)) (f q : Nat) (hq : q = 2 ^ f) (h1 : q < ls.length) (h2 : ls.length ≤ 2 * q) : tagged nodeS.data.toList (rootD (ls.take q) ++ rootD (ls.drop q)) = rootD ls := by
  have hq0 : 0 < q := by rw [hq]; exact Nat.pow_pos (by omega)
  have e1 : (ls.take q).length = q := by rw [List.length_take]; omega
  have e2 : (ls.drop q).length = ls.length - q := List.length_drop
  unfold rootD
  rw [if_neg (by omega), if_neg (by omega), if_neg (by omega)]
  have h := root_split sha Ndd ((ls.take q).map leafD) ((ls.drop q).map leafD) f (by rw [List.length_map, e1, hq]) (by rw [List.length_map, e2]; omega) (by rw [List.length_map, e2, ← hq]; omega)
  rw [← List.map_append, List.take_append_drop] at h
  rw [h]
  unfold tagged nodeX Ndd
  rw [List.append_assoc]
def DblHead (m : Nat) (s : Value) : Prop := ∃ q j : Nat, q = 2 ^ j ∧ 1 ≤ q ∧ q < m ∧ s = .int .i64 (q : Int)
theorem mem_take_le {ls : List (List UInt8)} {q : Nat} {p : List UInt8} (h : p ∈ ls.take q) : p ∈ ls := List.mem_of_mem_take h
set_option maxHeartbeats 8000000 in
set_option maxRecDepth 100000 in
theorem split_walk (ls : List (List UInt8)) (v : Value) (w : World) (hr : LRest w.heap.size w ls v) (hT : Tab w) :
    Calls Tryd.prog 8 #[v] w fun e w' => e = .returned (.bool true) ∧ Below w.heap.size w w' := by
  have HR := Lib.hid hr
  have HT := Lib.hid hT
  obtain ⟨a, cap, rfl⟩ : ∃ a cap, v = .slice a ls.length cap := by obtain ⟨a, cap, h, _⟩ := hr; exact ⟨a, cap, h⟩
  have HFEW := Lib.hid (fun W h => Few_call ls (.slice a ls.length cap) W h)
  cases hf : fewB ls with
  | false =>
    rw [hf] at HFEW
    clear hr hT
    go_enter Tryd.func8, Tryd.ntmps8
    go_wp2_with (first
      | (go_at_call 11; refine (HFEW.out w1 (HR.out.keep HB1.out)).mono ?_; rintro e w2 ⟨rfl, rfl⟩)
      | (go_at_call 10; refine (sane_call w HT.out).mono ?_; rintro e w1 ⟨rfl, hb⟩; have HB1 := Lib.hid hb; clear hb)
      | fail)
    go_ret
    exact ⟨rfl, HB1.out⟩
  | true =>
    rw [hf] at HFEW
    have hn40 : ls.length ≤ 40 ∧ ∀ p ∈ ls, p.length ≤ 200 := by
      unfold fewB at hf
      rw [Bool.and_eq_true] at hf
      exact ⟨of_decide_eq_true hf.1, fun p hp => by simpa using List.all_eq_true.1 hf.2 p hp⟩
    have HN40 := Lib.hid hn40
    by_cases h2 : ls.length < 2
    · obtain ⟨n, hn⟩ : ∃ n, n = ls.length := ⟨_, rfl⟩
      rw [← hn] at HFEW HR h2 ⊢
      have h2i : (n : Int) < 2 := by omega
      clear hr hT hn40 hn hf h2
      go_enter Tryd.func8, Tryd.ntmps8
      go_wp2_with (first
        | (go_at_call 11; refine (HFEW.out w1 (HR.out.keep HB1.out)).mono ?_; rintro e w2 ⟨rfl, rfl⟩)
        | (go_at_call 10; refine (sane_call w HT.out).mono ?_; rintro e w1 ⟨rfl, hb⟩; have HB1 := Lib.hid hb; clear hb)
        | fail)
      go_ret
      exact ⟨rfl, HB1.out⟩
    · obtain ⟨b, off, rfl⟩ : ∃ b off, a = some ⟨b, off, none⟩ := by
        obtain ⟨a', cap', h3, _, _, h4⟩ := hr
        injection h3 with e1 _ _
        rcases h4 with h0 | ⟨b, off, ha, _, _⟩
        · omega
        · exact ⟨b, off, by rw [e1, ha]⟩
      have hcap : ls.length ≤ cap := by
        obtain ⟨a', cap', h3, h5, _, _⟩ := hr
        injection h3 with _ _ e3
        omega
      obtain ⟨m, hm⟩ : ∃ m, m = ls.length := ⟨_, rfl⟩
      have HM := Lib.hid hm
      rw [← hm] at HFEW HR h2 hcap ⊢
      have h2i : ¬ (m : Int) < 2 := by omega
      have hmi : (m : Int) ≤ 40 := by omega
      clear hr hT hn40 hm hf
      go_enter Tryd.func8, Tryd.ntmps8
      go_wp2_with (first
        | (go_at_call 11; refine (HFEW.out w1 (HR.out.keep HB1.out)).mono ?_; rintro e w2 ⟨rfl, rfl⟩)
        | (go_at_call 10; refine (sane_call w HT.out).mono ?_; rintro e w1 ⟨rfl, hb⟩; have HB1 := Lib.hid hb; clear hb)
        | fail)
      go_loop [3] (fun s3 => DblHead m s3) (fun s3 => m - (intOf s3).toNat)
      case atStart => exact ⟨1, 0, rfl, by omega, by omega, by go_num⟩
      case round =>
        obtain ⟨q, j, hq, hq1, hqm, rfl⟩ := hrel
        have HQ := Lib.hid hq
        clear hq
        rcases Nat.lt_or_ge (2 * q) m with hl | hg
        · go_wp2
          go_round
          case rel => exact ⟨2 * q, j + 1, by rw [HQ.out, Nat.pow_succ]; omega, by omega, by omega, by go_num⟩
          case measure => simp [intOf]; omega
        · have hd : ¬ ((2 : Int) * q < m) := by omega
          have HL : Hid (∀ W' : World, Below w2.heap.size w2 W' → Calls Tryd.prog 14 #[.slice (some ⟨b, off, none⟩) q cap] W' (RetD W' (rootD (ls.take q)))) := fun W' h => by
            have hp := ((HR.out.keep HB1.out).keep h).part 0 q cap (by rw [← HM.out]; omega) (by omega) (by omega) (Nat.le_refl _)
            rw [List.drop_zero, Nat.add_zero] at hp
            exact Root_call _ _ W' (by rw [List.length_take]; omega) (fun p hp => by have := HN40.out.2 p (List.mem_of_mem_take hp); omega) hp ((HT.out.keep HB1.out).keep h)
          have HRr : Hid (∀ W' : World, Below w2.heap.size w2 W' → Calls Tryd.prog 14 #[.slice (some ⟨b, off + q, none⟩) (m - q) (cap - q)] W' (RetD W' (rootD (ls.drop q)))) := fun W' h => by
            have hp := ((HR.out.keep HB1.out).keep h).part q (m - q) (cap - q) (by rw [← HM.out]; omega) (by omega) (by omega) (by omega)
            rw [List.take_of_length_le (by rw [List.length_drop, ← HM.out]; omega)] at hp
            exact Root_call _ _ W' (by rw [List.length_drop, ← HM.out]; omega) (fun p hp => by have := HN40.out.2 p (List.mem_of_mem_drop hp); omega) hp ((HT.out.keep HB1.out).keep h)
          have HTr : Hid (∀ W' : World, Below w2.heap.size w2 W' → Calls Tryd.prog 14 #[.slice (some ⟨b, off, none⟩) m cap] W' (RetD W' (rootD ls))) := fun W' h =>
            Root_call _ _ W' (by rw [← HM.out]; omega) (fun p hp => by have := HN40.out.2 p hp; omega) ((HR.out.keep HB1.out).keep h) ((HT.out.keep HB1.out).keep h)
          have HE : Hid (tagged (⟨#[110, 111, 100, 101]⟩ : ByteArray).data.toList (rootD (ls.take q) ++ rootD (ls.drop q)) = rootD ls) := Lib.hid (rootD_split ls j q HQ.out (by rw [← HM.out]; exact hqm) (by rw [← HM.out]; exact hg))
          have HLA : Hid ((rootD (ls.take q)).length = 32) := rootD_len _
          have HLB : Hid ((rootD (ls.drop q)).length = 32) := rootD_len _
          have HLC : Hid ((rootD ls).length = 32) := rootD_len _
          obtain ⟨tA, htA⟩ : ∃ tA, tA = rootD (ls.take q) := ⟨_, rfl⟩
          obtain ⟨tB, htB⟩ : ∃ tB, tB = rootD (ls.drop q) := ⟨_, rfl⟩
          obtain ⟨tC, htC⟩ : ∃ tC, tC = rootD ls := ⟨_, rfl⟩
          rw [← htA] at HL HE HLA
          rw [← htB] at HRr HE HLB
          rw [← htC] at HTr HE HLC
          have HTG : Hid (∀ (W' : World) (tag : ByteArray) (l : List UInt8) (u : Value), tag.size ≤ 600 → l.length ≤ 600 → Rest W'.heap.size W' l u → Below w2.heap.size w2 W' → tagged tag.data.toList l = tC → Calls Tryd.prog 22 #[.string tag, u] W' (RetD W' tC)) := fun W' tag l u h1 h2 h3 h4 h5 => by
            rw [← h5]
            exact tagged_call tag l u W' (by omega) (by omega) h3 ((HT.out.keep HB1.out).keep h4)
          have hne : ¬ cap = q := by omega
          have hkc : q ≤ cap := by omega
          have hkn : q ≤ m := by omega
          have HL600 : Hid ((tA ++ tB).length ≤ 600) := by show (tA ++ tB).length ≤ 600; rw [List.length_append, HLA.out, HLB.out]; omega
          clear htA htB htC HFEW
          go_wp2_with fail
          refine' cut3 (F := fun (g5 g6 : Nat) (w' : World) => Row w' g5 30 (cellsOf tA) ∧ Row w' g6 30 (cellsOf tB) ∧ Below w2.heap.size w2 w') _ ?rest ?kk
          case rest =>
            intro K
            refine wp_region_any (by kernel_rfl) ?_
            try (change wpAny _ _ _ _ _ _ _ (World.drew _))
            (obtain ⟨w0, hw0⟩ : ∃ x, x = w2.drew := ⟨_, rfl⟩; rw [← hw0]; have HB0 : Hid (Below w2.heap.size w2 w0) := (by rw [hw0]; exact (Below.refl _ w2).drew); clear hw0)
            refine wpAny_take (i := 0) (oi := { dst := some 23, op := Op.move (Operand.tmp 0), type := 22, pos := "law.go:117", after := #[], guard := none }) (v := ?_) rfl (by kernel_rfl) (by kernel_rfl) (by kernel_rfl) (fun _ _ _ h => h) (Or.inl ⟨by rfl, ?_⟩) ?_
            rotate_left
            · (intro w; go_simp; with_reducible rfl)
            try simp only [Act.put, List.setIfInBounds_toArray, List.set_cons_zero, List.set_cons_succ]
            refine wpAny_take (i := 1) (oi := { dst := some 24, op := Op.move (Operand.tmp 3), type := 3, pos := "law.go:117", after := #[], guard := none }) (v := ?_) rfl (by kernel_rfl) (by kernel_rfl) (by kernel_rfl) (fun _ _ _ h => h) (Or.inl ⟨by rfl, ?_⟩) ?_
            rotate_left
            · (intro w; go_simp; with_reducible rfl)
            try simp only [Act.put, List.setIfInBounds_toArray, List.set_cons_zero, List.set_cons_succ]
            refine wpAny_take (i := 2) (oi := { dst := some 25, op := Op.slice 22 (Operand.tmp 23) none (some (Operand.tmp 24)) none, type := 22, pos := "law.go:117", after := #[{ on := 0, ground := Ground.data }, { on := 1, ground := Ground.data }], guard := none }) (v := ?_) rfl (by kernel_rfl) (by kernel_rfl) (by kernel_rfl) (fun _ _ _ h => h) (Or.inl ⟨by rfl, ?_⟩) ?_
            rotate_left
            · (intro w; go_simp; with_reducible rfl)
            try simp only [Act.put, List.setIfInBounds_toArray, List.set_cons_zero, List.set_cons_succ]
            refine wpAny_take (i := 4) (oi := { dst := some 27, op := Op.move (Operand.tmp 0), type := 22, pos := "law.go:117", after := #[], guard := none }) (v := ?_) rfl (by kernel_rfl) (by kernel_rfl) (by kernel_rfl) (fun _ _ _ h => h) (Or.inl ⟨by rfl, ?_⟩) ?_
            rotate_left
            · (intro w; go_simp; with_reducible rfl)
            try simp only [Act.put, List.setIfInBounds_toArray, List.set_cons_zero, List.set_cons_succ]
            refine wpAny_take (i := 5) (oi := { dst := some 28, op := Op.move (Operand.tmp 3), type := 3, pos := "law.go:117", after := #[], guard := none }) (v := ?_) rfl (by kernel_rfl) (by kernel_rfl) (by kernel_rfl) (fun _ _ _ h => h) (Or.inl ⟨by rfl, ?_⟩) ?_
            rotate_left
            · (intro w; go_simp; with_reducible rfl)
            try simp only [Act.put, List.setIfInBounds_toArray, List.set_cons_zero, List.set_cons_succ]
            refine wpAny_take (i := 6) (oi := { dst := some 29, op := Op.slice 22 (Operand.tmp 27) (some (Operand.tmp 28)) none none, type := 22, pos := "law.go:117", after := #[{ on := 4, ground := Ground.data }, { on := 5, ground := Ground.data }], guard := none }) (v := ?_) rfl (by kernel_rfl) (by kernel_rfl) (by kernel_rfl) (fun _ _ _ h => h) (Or.inl ⟨by rfl, ?_⟩) ?_
            rotate_left
            · (intro w; go_simp; with_reducible rfl)
            try simp only [Act.put, List.setIfInBounds_toArray, List.set_cons_zero, List.set_cons_succ]
            refine wpAny_ready (rs := [3, 8, 9]) (by kernel_rfl) (by simp) ?_
            refine Go.BigFrame.allReady_want (o := { dst := some 26, op := Op.call { callee := Callee.value (Operand.func 14), args := #[Operand.tmp 25], argTypes := #[22] }, type := 30, pos := "law.go:117", after := #[{ on := 2, ground := Ground.data }], guard := none }) rfl (by rfl) (fun K hK => ?_) ?_
            · skip
              go_simp
              go_wp2_with ((go_at_call 14; (with_reducible refine (HL.out _ HB0.out).mono ?_); rintro e w3 ⟨rfl, hb⟩; have HB0 := Lib.hid (below_next HB0.out hb); (try have HR5 := Lib.hid (HR5.out.keep hb)); (try have HR6 := Lib.hid (HR6.out.keep hb)); clear hb))
              refine wpAny_ready (rs := [7, 8, 9]) (by kernel_rfl) (by simp) ?_
              refine Go.BigFrame.allReady_want (o := { dst := some 30, op := Op.call { callee := Callee.value (Operand.func 14), args := #[Operand.tmp 29], argTypes := #[22] }, type := 30, pos := "law.go:117", after := #[{ on := 6, ground := Ground.data }, { on := 3, ground := Ground.chain }], guard := none }) rfl (by rfl) (fun K hK => ?_) ?_
              · skip
                go_simp
                go_wp2_with ((go_at_call 14; (with_reducible refine (HRr.out _ HB0.out).mono ?_); rintro e w4 ⟨rfl, hb⟩; have HB0 := Lib.hid (below_next HB0.out hb); (try have HR5 := Lib.hid (HR5.out.keep hb)); (try have HR6 := Lib.hid (HR6.out.keep hb)); clear hb))
                refine wpAny_ready (rs := [8, 9]) (by kernel_rfl) (by simp) ?_
                refine Go.BigFrame.allReady_want (o := { dst := some 4, op := Op.alloc 30, type := 0, pos := "law.go:117", after := #[], guard := none }) rfl (by rfl) (fun K hK => ?_) ?_
                · skip
                  ((refine wp_alloc_dig 4 rfl rfl ?_; intro g5 w5 hg hrow hb; have hge5 : w2.heap.size ≤ g5 := (by have := HB0.out.size; omega); have HR5 := Lib.hid hrow; (try have hne56 : g5 ≠ g6 := by have := HR6.out.lt; omega); (try have HR6 := Lib.hid (HR6.out.keep hb)); have HB0 := Lib.hid (below_next HB0.out hb); clear hb hg hrow))
                  refine hK _ _ ?_
                  clear hK K
                  try simp only [Act.put, List.setIfInBounds_toArray, List.set_cons_zero, List.set_cons_succ]
                  refine wpAny_ready (rs := [9]) (by kernel_rfl) (by simp) ?_
                  refine Go.BigFrame.allReady_want (o := { dst := some 5, op := Op.alloc 30, type := 0, pos := "law.go:117", after := #[], guard := none }) rfl (by rfl) (fun K hK => ?_) ?_
                  · skip
                    ((refine wp_alloc_dig 5 rfl rfl ?_; intro g6 w6 hg hrow hb; have hge6 : w2.heap.size ≤ g6 := (by have := HB0.out.size; omega); have HR6 := Lib.hid hrow; (try have hne56 : g5 ≠ g6 := by have := HR5.out.lt; omega); (try have HR5 := Lib.hid (HR5.out.keep hb)); have HB0 := Lib.hid (below_next HB0.out hb); clear hb hg hrow))
                    refine hK _ _ ?_
                    clear hK K
                    try simp only [Act.put, List.setIfInBounds_toArray, List.set_cons_zero, List.set_cons_succ]
                    refine wpAny_ready (rs := [10]) (by kernel_rfl) (by simp) ?_
                    refine Go.BigFrame.allReady_want (o := { dst := none, op := Op.store 30 (Operand.tmp 4) (Operand.tmp 26), type := 0, pos := "law.go:117", after := #[{ on := 8, ground := Ground.data }, { on := 3, ground := Ground.data }, { on := 7, ground := Ground.chain }, { on := 0, ground := Ground.phase }, { on := 1, ground := Ground.phase }, { on := 2, ground := Ground.phase }, { on := 3, ground := Ground.phase }, { on := 4, ground := Ground.textOnly Departure.lateStores }, { on := 5, ground := Ground.textOnly Departure.lateStores }, { on := 6, ground := Ground.textOnly Departure.lateStoresUnsure }, { on := 7, ground := Ground.phase }, { on := 8, ground := Ground.phase }, { on := 9, ground := Ground.phase }], guard := none }) rfl (by rfl) (fun K hK => ?_) ?_
                    · skip
                      ((refine wp_store_dig' _ _ rfl g5 tA HLA.out rfl rfl HR5.out HB0.out hge5 ?_; intro w' hrow hb hoth; have HR6 := Lib.hid (hoth _ _ _ (fun h => hne56 h.symm) HR6.out); have HR5 := Lib.hid hrow; have HB0 := Lib.hid hb; clear hrow hb hoth))
                      refine hK _ _ ?_
                      clear hK K
                      try simp only [Act.put, List.setIfInBounds_toArray, List.set_cons_zero, List.set_cons_succ]
                      refine wpAny_ready (rs := [11]) (by kernel_rfl) (by simp) ?_
                      refine Go.BigFrame.allReady_want (o := { dst := none, op := Op.store 30 (Operand.tmp 5) (Operand.tmp 30), type := 0, pos := "law.go:117", after := #[{ on := 9, ground := Ground.data }, { on := 7, ground := Ground.data }, { on := 10, ground := Ground.chain }, { on := 0, ground := Ground.phase }, { on := 1, ground := Ground.phase }, { on := 2, ground := Ground.phase }, { on := 3, ground := Ground.phase }, { on := 4, ground := Ground.phase }, { on := 5, ground := Ground.phase }, { on := 6, ground := Ground.phase }, { on := 7, ground := Ground.phase }, { on := 8, ground := Ground.phase }, { on := 9, ground := Ground.phase }, { on := 10, ground := Ground.phase }], guard := none }) rfl (by rfl) (fun K hK => ?_) ?_
                      · skip
                        ((refine wp_store_dig' _ _ rfl g6 tB HLB.out rfl rfl HR6.out HB0.out hge6 ?_; intro w' hrow hb hoth; have HR5 := Lib.hid (hoth _ _ _ hne56 HR5.out); have HR6 := Lib.hid hrow; have HB0 := Lib.hid hb; clear hrow hb hoth))
                        refine hK _ _ ?_
                        clear hK K
                        try simp only [Act.put, List.setIfInBounds_toArray, List.set_cons_zero, List.set_cons_succ]
                        refine wpAny_done (by kernel_rfl) ?_ _
                        ((exact K g5 g6 _ ⟨HR5.out, HR6.out, HB0.out⟩))
                      exact AllReady.nil
                    exact AllReady.nil
                  exact AllReady.nil
                refine Go.BigFrame.allReady_want (o := { dst := some 5, op := Op.alloc 30, type := 0, pos := "law.go:117", after := #[], guard := none }) rfl (by rfl) (fun K hK => ?_) ?_
                · skip
                  ((refine wp_alloc_dig 5 rfl rfl ?_; intro g6 w6 hg hrow hb; have hge6 : w2.heap.size ≤ g6 := (by have := HB0.out.size; omega); have HR6 := Lib.hid hrow; (try have hne56 : g5 ≠ g6 := by have := HR5.out.lt; omega); (try have HR5 := Lib.hid (HR5.out.keep hb)); have HB0 := Lib.hid (below_next HB0.out hb); clear hb hg hrow))
                  refine hK _ _ ?_
                  clear hK K
                  try simp only [Act.put, List.setIfInBounds_toArray, List.set_cons_zero, List.set_cons_succ]
                  refine wpAny_ready (rs := [8]) (by kernel_rfl) (by simp) ?_
                  refine Go.BigFrame.allReady_want (o := { dst := some 4, op := Op.alloc 30, type := 0, pos := "law.go:117", after := #[], guard := none }) rfl (by rfl) (fun K hK => ?_) ?_
                  · skip
                    ((refine wp_alloc_dig 4 rfl rfl ?_; intro g5 w5 hg hrow hb; have hge5 : w2.heap.size ≤ g5 := (by have := HB0.out.size; omega); have HR5 := Lib.hid hrow; (try have hne56 : g5 ≠ g6 := by have := HR6.out.lt; omega); (try have HR6 := Lib.hid (HR6.out.keep hb)); have HB0 := Lib.hid (below_next HB0.out hb); clear hb hg hrow))
                    refine hK _ _ ?_
                    clear hK K
                    try simp only [Act.put, List.setIfInBounds_toArray, List.set_cons_zero, List.set_cons_succ]
                    refine wpAny_ready (rs := [10]) (by kernel_rfl) (by simp) ?_
                    refine Go.BigFrame.allReady_want (o := { dst := none, op := Op.store 30 (Operand.tmp 4) (Operand.tmp 26), type := 0, pos := "law.go:117", after := #[{ on := 8, ground := Ground.data }, { on := 3, ground := Ground.data }, { on := 7, ground := Ground.chain }, { on := 0, ground := Ground.phase }, { on := 1, ground := Ground.phase }, { on := 2, ground := Ground.phase }, { on := 3, ground := Ground.phase }, { on := 4, ground := Ground.textOnly Departure.lateStores }, { on := 5, ground := Ground.textOnly Departure.lateStores }, { on := 6, ground := Ground.textOnly Departure.lateStoresUnsure }, { on := 7, ground := Ground.phase }, { on := 8, ground := Ground.phase }, { on := 9, ground := Ground.phase }], guard := none }) rfl (by rfl) (fun K hK => ?_) ?_
                    · skip
                      ((refine wp_store_dig' _ _ rfl g5 tA HLA.out rfl rfl HR5.out HB0.out hge5 ?_; intro w' hrow hb hoth; have HR6 := Lib.hid (hoth _ _ _ (fun h => hne56 h.symm) HR6.out); have HR5 := Lib.hid hrow; have HB0 := Lib.hid hb; clear hrow hb hoth))
                      refine hK _ _ ?_
                      clear hK K
                      try simp only [Act.put, List.setIfInBounds_toArray, List.set_cons_zero, List.set_cons_succ]
                      refine wpAny_ready (rs := [11]) (by kernel_rfl) (by simp) ?_
                      refine Go.BigFrame.allReady_want (o := { dst := none, op := Op.store 30 (Operand.tmp 5) (Operand.tmp 30), type := 0, pos := "law.go:117", after := #[{ on := 9, ground := Ground.data }, { on := 7, ground := Ground.data }, { on := 10, ground := Ground.chain }, { on := 0, ground := Ground.phase }, { on := 1, ground := Ground.phase }, { on := 2, ground := Ground.phase }, { on := 3, ground := Ground.phase }, { on := 4, ground := Ground.phase }, { on := 5, ground := Ground.phase }, { on := 6, ground := Ground.phase }, { on := 7, ground := Ground.phase }, { on := 8, ground := Ground.phase }, { on := 9, ground := Ground.phase }, { on := 10, ground := Ground.phase }], guard := none }) rfl (by rfl) (fun K hK => ?_) ?_
                      · skip
                        ((refine wp_store_dig' _ _ rfl g6 tB HLB.out rfl rfl HR6.out HB0.out hge6 ?_; intro w' hrow hb hoth; have HR5 := Lib.hid (hoth _ _ _ hne56 HR5.out); have HR6 := Lib.hid hrow; have HB0 := Lib.hid hb; clear hrow hb hoth))
                        refine hK _ _ ?_
                        clear hK K
                        try simp only [Act.put, List.setIfInBounds_toArray, List.set_cons_zero, List.set_cons_succ]
                        refine wpAny_done (by kernel_rfl) ?_ _
                        ((exact K g5 g6 _ ⟨HR5.out, HR6.out, HB0.out⟩))
                      exact AllReady.nil
                    exact AllReady.nil
                  exact AllReady.nil
                exact AllReady.nil
              refine Go.BigFrame.allReady_want (o := { dst := some 4, op := Op.alloc 30, type := 0, pos := "law.go:117", after := #[], guard := none }) rfl (by rfl) (fun K hK => ?_) ?_
              · skip
                ((refine wp_alloc_dig 4 rfl rfl ?_; intro g5 w5 hg hrow hb; have hge5 : w2.heap.size ≤ g5 := (by have := HB0.out.size; omega); have HR5 := Lib.hid hrow; (try have hne56 : g5 ≠ g6 := by have := HR6.out.lt; omega); (try have HR6 := Lib.hid (HR6.out.keep hb)); have HB0 := Lib.hid (below_next HB0.out hb); clear hb hg hrow))
                refine hK _ _ ?_
                clear hK K
                try simp only [Act.put, List.setIfInBounds_toArray, List.set_cons_zero, List.set_cons_succ]
                refine wpAny_ready (rs := [7, 9]) (by kernel_rfl) (by simp) ?_
                refine Go.BigFrame.allReady_want (o := { dst := some 30, op := Op.call { callee := Callee.value (Operand.func 14), args := #[Operand.tmp 29], argTypes := #[22] }, type := 30, pos := "law.go:117", after := #[{ on := 6, ground := Ground.data }, { on := 3, ground := Ground.chain }], guard := none }) rfl (by rfl) (fun K hK => ?_) ?_
                · skip
                  go_simp
                  go_wp2_with ((go_at_call 14; (with_reducible refine (HRr.out _ HB0.out).mono ?_); rintro e w4 ⟨rfl, hb⟩; have HB0 := Lib.hid (below_next HB0.out hb); (try have HR5 := Lib.hid (HR5.out.keep hb)); (try have HR6 := Lib.hid (HR6.out.keep hb)); clear hb))
                  refine wpAny_ready (rs := [9]) (by kernel_rfl) (by simp) ?_
                  refine Go.BigFrame.allReady_want (o := { dst := some 5, op := Op.alloc 30, type := 0, pos := "law.go:117", after := #[], guard := none }) rfl (by rfl) (fun K hK => ?_) ?_
                  · skip
                    ((refine wp_alloc_dig 5 rfl rfl ?_; intro g6 w6 hg hrow hb; have hge6 : w2.heap.size ≤ g6 := (by have := HB0.out.size; omega); have HR6 := Lib.hid hrow; (try have hne56 : g5 ≠ g6 := by have := HR5.out.lt; omega); (try have HR5 := Lib.hid (HR5.out.keep hb)); have HB0 := Lib.hid (below_next HB0.out hb); clear hb hg hrow))
                    refine hK _ _ ?_
                    clear hK K
                    try simp only [Act.put, List.setIfInBounds_toArray, List.set_cons_zero, List.set_cons_succ]
                    refine wpAny_ready (rs := [10]) (by kernel_rfl) (by simp) ?_
                    refine Go.BigFrame.allReady_want (o := { dst := none, op := Op.store 30 (Operand.tmp 4) (Operand.tmp 26), type := 0, pos := "law.go:117", after := #[{ on := 8, ground := Ground.data }, { on := 3, ground := Ground.data }, { on := 7, ground := Ground.chain }, { on := 0, ground := Ground.phase }, { on := 1, ground := Ground.phase }, { on := 2, ground := Ground.phase }, { on := 3, ground := Ground.phase }, { on := 4, ground := Ground.textOnly Departure.lateStores }, { on := 5, ground := Ground.textOnly Departure.lateStores }, { on := 6, ground := Ground.textOnly Departure.lateStoresUnsure }, { on := 7, ground := Ground.phase }, { on := 8, ground := Ground.phase }, { on := 9, ground := Ground.phase }], guard := none }) rfl (by rfl) (fun K hK => ?_) ?_
                    · skip
                      ((refine wp_store_dig' _ _ rfl g5 tA HLA.out rfl rfl HR5.out HB0.out hge5 ?_; intro w' hrow hb hoth; have HR6 := Lib.hid (hoth _ _ _ (fun h => hne56 h.symm) HR6.out); have HR5 := Lib.hid hrow; have HB0 := Lib.hid hb; clear hrow hb hoth))
                      refine hK _ _ ?_
                      clear hK K
                      try simp only [Act.put, List.setIfInBounds_toArray, List.set_cons_zero, List.set_cons_succ]
                      refine wpAny_ready (rs := [11]) (by kernel_rfl) (by simp) ?_
                      refine Go.BigFrame.allReady_want (o := { dst := none, op := Op.store 30 (Operand.tmp 5) (Operand.tmp 30), type := 0, pos := "law.go:117", after := #[{ on := 9, ground := Ground.data }, { on := 7, ground := Ground.data }, { on := 10, ground := Ground.chain }, { on := 0, ground := Ground.phase }, { on := 1, ground := Ground.phase }, { on := 2, ground := Ground.phase }, { on := 3, ground := Ground.phase }, { on := 4, ground := Ground.phase }, { on := 5, ground := Ground.phase }, { on := 6, ground := Ground.phase }, { on := 7, ground := Ground.phase }, { on := 8, ground := Ground.phase }, { on := 9, ground := Ground.phase }, { on := 10, ground := Ground.phase }], guard := none }) rfl (by rfl) (fun K hK => ?_) ?_
                      · skip
                        ((refine wp_store_dig' _ _ rfl g6 tB HLB.out rfl rfl HR6.out HB0.out hge6 ?_; intro w' hrow hb hoth; have HR5 := Lib.hid (hoth _ _ _ hne56 HR5.out); have HR6 := Lib.hid hrow; have HB0 := Lib.hid hb; clear hrow hb hoth))
                        refine hK _ _ ?_
                        clear hK K
                        try simp only [Act.put, List.setIfInBounds_toArray, List.set_cons_zero, List.set_cons_succ]
                        refine wpAny_done (by kernel_rfl) ?_ _
                        ((exact K g5 g6 _ ⟨HR5.out, HR6.out, HB0.out⟩))
                      exact AllReady.nil
                    exact AllReady.nil
                  exact AllReady.nil
                refine Go.BigFrame.allReady_want (o := { dst := some 5, op := Op.alloc 30, type := 0, pos := "law.go:117", after := #[], guard := none }) rfl (by rfl) (fun K hK => ?_) ?_
                · skip
                  ((refine wp_alloc_dig 5 rfl rfl ?_; intro g6 w6 hg hrow hb; have hge6 : w2.heap.size ≤ g6 := (by have := HB0.out.size; omega); have HR6 := Lib.hid hrow; (try have hne56 : g5 ≠ g6 := by have := HR5.out.lt; omega); (try have HR5 := Lib.hid (HR5.out.keep hb)); have HB0 := Lib.hid (below_next HB0.out hb); clear hb hg hrow))
                  refine hK _ _ ?_
                  clear hK K
                  try simp only [Act.put, List.setIfInBounds_toArray, List.set_cons_zero, List.set_cons_succ]
                  refine wpAny_ready (rs := [7]) (by kernel_rfl) (by simp) ?_
                  refine Go.BigFrame.allReady_want (o := { dst := some 30, op := Op.call { callee := Callee.value (Operand.func 14), args := #[Operand.tmp 29], argTypes := #[22] }, type := 30, pos := "law.go:117", after := #[{ on := 6, ground := Ground.data }, { on := 3, ground := Ground.chain }], guard := none }) rfl (by rfl) (fun K hK => ?_) ?_
                  · skip
                    go_simp
                    go_wp2_with ((go_at_call 14; (with_reducible refine (HRr.out _ HB0.out).mono ?_); rintro e w4 ⟨rfl, hb⟩; have HB0 := Lib.hid (below_next HB0.out hb); (try have HR5 := Lib.hid (HR5.out.keep hb)); (try have HR6 := Lib.hid (HR6.out.keep hb)); clear hb))
                    refine wpAny_ready (rs := [10]) (by kernel_rfl) (by simp) ?_
                    refine Go.BigFrame.allReady_want (o := { dst := none, op := Op.store 30 (Operand.tmp 4) (Operand.tmp 26), type := 0, pos := "law.go:117", after := #[{ on := 8, ground := Ground.data }, { on := 3, ground := Ground.data }, { on := 7, ground := Ground.chain }, { on := 0, ground := Ground.phase }, { on := 1, ground := Ground.phase }, { on := 2, ground := Ground.phase }, { on := 3, ground := Ground.phase }, { on := 4, ground := Ground.textOnly Departure.lateStores }, { on := 5, ground := Ground.textOnly Departure.lateStores }, { on := 6, ground := Ground.textOnly Departure.lateStoresUnsure }, { on := 7, ground := Ground.phase }, { on := 8, ground := Ground.phase }, { on := 9, ground := Ground.phase }], guard := none }) rfl (by rfl) (fun K hK => ?_) ?_
                    · skip
                      ((refine wp_store_dig' _ _ rfl g5 tA HLA.out rfl rfl HR5.out HB0.out hge5 ?_; intro w' hrow hb hoth; have HR6 := Lib.hid (hoth _ _ _ (fun h => hne56 h.symm) HR6.out); have HR5 := Lib.hid hrow; have HB0 := Lib.hid hb; clear hrow hb hoth))
                      refine hK _ _ ?_
                      clear hK K
                      try simp only [Act.put, List.setIfInBounds_toArray, List.set_cons_zero, List.set_cons_succ]
                      refine wpAny_ready (rs := [11]) (by kernel_rfl) (by simp) ?_
                      refine Go.BigFrame.allReady_want (o := { dst := none, op := Op.store 30 (Operand.tmp 5) (Operand.tmp 30), type := 0, pos := "law.go:117", after := #[{ on := 9, ground := Ground.data }, { on := 7, ground := Ground.data }, { on := 10, ground := Ground.chain }, { on := 0, ground := Ground.phase }, { on := 1, ground := Ground.phase }, { on := 2, ground := Ground.phase }, { on := 3, ground := Ground.phase }, { on := 4, ground := Ground.phase }, { on := 5, ground := Ground.phase }, { on := 6, ground := Ground.phase }, { on := 7, ground := Ground.phase }, { on := 8, ground := Ground.phase }, { on := 9, ground := Ground.phase }, { on := 10, ground := Ground.phase }], guard := none }) rfl (by rfl) (fun K hK => ?_) ?_
                      · skip
                        ((refine wp_store_dig' _ _ rfl g6 tB HLB.out rfl rfl HR6.out HB0.out hge6 ?_; intro w' hrow hb hoth; have HR5 := Lib.hid (hoth _ _ _ hne56 HR5.out); have HR6 := Lib.hid hrow; have HB0 := Lib.hid hb; clear hrow hb hoth))
                        refine hK _ _ ?_
                        clear hK K
                        try simp only [Act.put, List.setIfInBounds_toArray, List.set_cons_zero, List.set_cons_succ]
                        refine wpAny_done (by kernel_rfl) ?_ _
                        ((exact K g5 g6 _ ⟨HR5.out, HR6.out, HB0.out⟩))
                      exact AllReady.nil
                    exact AllReady.nil
                  exact AllReady.nil
                exact AllReady.nil
              refine Go.BigFrame.allReady_want (o := { dst := some 5, op := Op.alloc 30, type := 0, pos := "law.go:117", after := #[], guard := none }) rfl (by rfl) (fun K hK => ?_) ?_
              · skip
                ((refine wp_alloc_dig 5 rfl rfl ?_; intro g6 w6 hg hrow hb; have hge6 : w2.heap.size ≤ g6 := (by have := HB0.out.size; omega); have HR6 := Lib.hid hrow; (try have hne56 : g5 ≠ g6 := by have := HR5.out.lt; omega); (try have HR5 := Lib.hid (HR5.out.keep hb)); have HB0 := Lib.hid (below_next HB0.out hb); clear hb hg hrow))
                refine hK _ _ ?_
                clear hK K
                try simp only [Act.put, List.setIfInBounds_toArray, List.set_cons_zero, List.set_cons_succ]
                refine wpAny_ready (rs := [7, 8]) (by kernel_rfl) (by simp) ?_
                refine Go.BigFrame.allReady_want (o := { dst := some 30, op := Op.call { callee := Callee.value (Operand.func 14), args := #[Operand.tmp 29], argTypes := #[22] }, type := 30, pos := "law.go:117", after := #[{ on := 6, ground := Ground.data }, { on := 3, ground := Ground.chain }], guard := none }) rfl (by rfl) (fun K hK => ?_) ?_
                · skip
                  go_simp
                  go_wp2_with ((go_at_call 14; (with_reducible refine (HRr.out _ HB0.out).mono ?_); rintro e w4 ⟨rfl, hb⟩; have HB0 := Lib.hid (below_next HB0.out hb); (try have HR5 := Lib.hid (HR5.out.keep hb)); (try have HR6 := Lib.hid (HR6.out.keep hb)); clear hb))
                  refine wpAny_ready (rs := [8]) (by kernel_rfl) (by simp) ?_
                  refine Go.BigFrame.allReady_want (o := { dst := some 4, op := Op.alloc 30, type := 0, pos := "law.go:117", after := #[], guard := none }) rfl (by rfl) (fun K hK => ?_) ?_
                  · skip
                    ((refine wp_alloc_dig 4 rfl rfl ?_; intro g5 w5 hg hrow hb; have hge5 : w2.heap.size ≤ g5 := (by have := HB0.out.size; omega); have HR5 := Lib.hid hrow; (try have hne56 : g5 ≠ g6 := by have := HR6.out.lt; omega); (try have HR6 := Lib.hid (HR6.out.keep hb)); have HB0 := Lib.hid (below_next HB0.out hb); clear hb hg hrow))
                    refine hK _ _ ?_
                    clear hK K
                    try simp only [Act.put, List.setIfInBounds_toArray, List.set_cons_zero, List.set_cons_succ]
                    refine wpAny_ready (rs := [10]) (by kernel_rfl) (by simp) ?_
                    refine Go.BigFrame.allReady_want (o := { dst := none, op := Op.store 30 (Operand.tmp 4) (Operand.tmp 26), type := 0, pos := "law.go:117", after := #[{ on := 8, ground := Ground.data }, { on := 3, ground := Ground.data }, { on := 7, ground := Ground.chain }, { on := 0, ground := Ground.phase }, { on := 1, ground := Ground.phase }, { on := 2, ground := Ground.phase }, { on := 3, ground := Ground.phase }, { on := 4, ground := Ground.textOnly Departure.lateStores }, { on := 5, ground := Ground.textOnly Departure.lateStores }, { on := 6, ground := Ground.textOnly Departure.lateStoresUnsure }, { on := 7, ground := Ground.phase }, { on := 8, ground := Ground.phase }, { on := 9, ground := Ground.phase }], guard := none }) rfl (by rfl) (fun K hK => ?_) ?_
                    · skip
                      ((refine wp_store_dig' _ _ rfl g5 tA HLA.out rfl rfl HR5.out HB0.out hge5 ?_; intro w' hrow hb hoth; have HR6 := Lib.hid (hoth _ _ _ (fun h => hne56 h.symm) HR6.out); have HR5 := Lib.hid hrow; have HB0 := Lib.hid hb; clear hrow hb hoth))
                      refine hK _ _ ?_
                      clear hK K
                      try simp only [Act.put, List.setIfInBounds_toArray, List.set_cons_zero, List.set_cons_succ]
                      refine wpAny_ready (rs := [11]) (by kernel_rfl) (by simp) ?_
                      refine Go.BigFrame.allReady_want (o := { dst := none, op := Op.store 30 (Operand.tmp 5) (Operand.tmp 30), type := 0, pos := "law.go:117", after := #[{ on := 9, ground := Ground.data }, { on := 7, ground := Ground.data }, { on := 10, ground := Ground.chain }, { on := 0, ground := Ground.phase }, { on := 1, ground := Ground.phase }, { on := 2, ground := Ground.phase }, { on := 3, ground := Ground.phase }, { on := 4, ground := Ground.phase }, { on := 5, ground := Ground.phase }, { on := 6, ground := Ground.phase }, { on := 7, ground := Ground.phase }, { on := 8, ground := Ground.phase }, { on := 9, ground := Ground.phase }, { on := 10, ground := Ground.phase }], guard := none }) rfl (by rfl) (fun K hK => ?_) ?_
                      · skip
                        ((refine wp_store_dig' _ _ rfl g6 tB HLB.out rfl rfl HR6.out HB0.out hge6 ?_; intro w' hrow hb hoth; have HR5 := Lib.hid (hoth _ _ _ hne56 HR5.out); have HR6 := Lib.hid hrow; have HB0 := Lib.hid hb; clear hrow hb hoth))
                        refine hK _ _ ?_
                        clear hK K
                        try simp only [Act.put, List.setIfInBounds_toArray, List.set_cons_zero, List.set_cons_succ]
                        refine wpAny_done (by kernel_rfl) ?_ _
                        ((exact K g5 g6 _ ⟨HR5.out, HR6.out, HB0.out⟩))
                      exact AllReady.nil
                    exact AllReady.nil
                  exact AllReady.nil
                refine Go.BigFrame.allReady_want (o := { dst := some 4, op := Op.alloc 30, type := 0, pos := "law.go:117", after := #[], guard := none }) rfl (by rfl) (fun K hK => ?_) ?_
                · skip
                  ((refine wp_alloc_dig 4 rfl rfl ?_; intro g5 w5 hg hrow hb; have hge5 : w2.heap.size ≤ g5 := (by have := HB0.out.size; omega); have HR5 := Lib.hid hrow; (try have hne56 : g5 ≠ g6 := by have := HR6.out.lt; omega); (try have HR6 := Lib.hid (HR6.out.keep hb)); have HB0 := Lib.hid (below_next HB0.out hb); clear hb hg hrow))
                  refine hK _ _ ?_
                  clear hK K
                  try simp only [Act.put, List.setIfInBounds_toArray, List.set_cons_zero, List.set_cons_succ]
                  refine wpAny_ready (rs := [7]) (by kernel_rfl) (by simp) ?_
                  refine Go.BigFrame.allReady_want (o := { dst := some 30, op := Op.call { callee := Callee.value (Operand.func 14), args := #[Operand.tmp 29], argTypes := #[22] }, type := 30, pos := "law.go:117", after := #[{ on := 6, ground := Ground.data }, { on := 3, ground := Ground.chain }], guard := none }) rfl (by rfl) (fun K hK => ?_) ?_
                  · skip
                    go_simp
                    go_wp2_with ((go_at_call 14; (with_reducible refine (HRr.out _ HB0.out).mono ?_); rintro e w4 ⟨rfl, hb⟩; have HB0 := Lib.hid (below_next HB0.out hb); (try have HR5 := Lib.hid (HR5.out.keep hb)); (try have HR6 := Lib.hid (HR6.out.keep hb)); clear hb))
                    refine wpAny_ready (rs := [10]) (by kernel_rfl) (by simp) ?_
                    refine Go.BigFrame.allReady_want (o := { dst := none, op := Op.store 30 (Operand.tmp 4) (Operand.tmp 26), type := 0, pos := "law.go:117", after := #[{ on := 8, ground := Ground.data }, { on := 3, ground := Ground.data }, { on := 7, ground := Ground.chain }, { on := 0, ground := Ground.phase }, { on := 1, ground := Ground.phase }, { on := 2, ground := Ground.phase }, { on := 3, ground := Ground.phase }, { on := 4, ground := Ground.textOnly Departure.lateStores }, { on := 5, ground := Ground.textOnly Departure.lateStores }, { on := 6, ground := Ground.textOnly Departure.lateStoresUnsure }, { on := 7, ground := Ground.phase }, { on := 8, ground := Ground.phase }, { on := 9, ground := Ground.phase }], guard := none }) rfl (by rfl) (fun K hK => ?_) ?_
                    · skip
                      ((refine wp_store_dig' _ _ rfl g5 tA HLA.out rfl rfl HR5.out HB0.out hge5 ?_; intro w' hrow hb hoth; have HR6 := Lib.hid (hoth _ _ _ (fun h => hne56 h.symm) HR6.out); have HR5 := Lib.hid hrow; have HB0 := Lib.hid hb; clear hrow hb hoth))
                      refine hK _ _ ?_
                      clear hK K
                      try simp only [Act.put, List.setIfInBounds_toArray, List.set_cons_zero, List.set_cons_succ]
                      refine wpAny_ready (rs := [11]) (by kernel_rfl) (by simp) ?_
                      refine Go.BigFrame.allReady_want (o := { dst := none, op := Op.store 30 (Operand.tmp 5) (Operand.tmp 30), type := 0, pos := "law.go:117", after := #[{ on := 9, ground := Ground.data }, { on := 7, ground := Ground.data }, { on := 10, ground := Ground.chain }, { on := 0, ground := Ground.phase }, { on := 1, ground := Ground.phase }, { on := 2, ground := Ground.phase }, { on := 3, ground := Ground.phase }, { on := 4, ground := Ground.phase }, { on := 5, ground := Ground.phase }, { on := 6, ground := Ground.phase }, { on := 7, ground := Ground.phase }, { on := 8, ground := Ground.phase }, { on := 9, ground := Ground.phase }, { on := 10, ground := Ground.phase }], guard := none }) rfl (by rfl) (fun K hK => ?_) ?_
                      · skip
                        ((refine wp_store_dig' _ _ rfl g6 tB HLB.out rfl rfl HR6.out HB0.out hge6 ?_; intro w' hrow hb hoth; have HR5 := Lib.hid (hoth _ _ _ hne56 HR5.out); have HR6 := Lib.hid hrow; have HB0 := Lib.hid hb; clear hrow hb hoth))
                        refine hK _ _ ?_
                        clear hK K
                        try simp only [Act.put, List.setIfInBounds_toArray, List.set_cons_zero, List.set_cons_succ]
                        refine wpAny_done (by kernel_rfl) ?_ _
                        ((exact K g5 g6 _ ⟨HR5.out, HR6.out, HB0.out⟩))
                      exact AllReady.nil
                    exact AllReady.nil
                  exact AllReady.nil
                exact AllReady.nil
              exact AllReady.nil
            refine Go.BigFrame.allReady_want (o := { dst := some 4, op := Op.alloc 30, type := 0, pos := "law.go:117", after := #[], guard := none }) rfl (by rfl) (fun K hK => ?_) ?_
            · skip
              ((refine wp_alloc_dig 4 rfl rfl ?_; intro g5 w5 hg hrow hb; have hge5 : w2.heap.size ≤ g5 := (by have := HB0.out.size; omega); have HR5 := Lib.hid hrow; (try have hne56 : g5 ≠ g6 := by have := HR6.out.lt; omega); (try have HR6 := Lib.hid (HR6.out.keep hb)); have HB0 := Lib.hid (below_next HB0.out hb); clear hb hg hrow))
              refine hK _ _ ?_
              clear hK K
              try simp only [Act.put, List.setIfInBounds_toArray, List.set_cons_zero, List.set_cons_succ]
              refine wpAny_ready (rs := [3, 9]) (by kernel_rfl) (by simp) ?_
              refine Go.BigFrame.allReady_want (o := { dst := some 26, op := Op.call { callee := Callee.value (Operand.func 14), args := #[Operand.tmp 25], argTypes := #[22] }, type := 30, pos := "law.go:117", after := #[{ on := 2, ground := Ground.data }], guard := none }) rfl (by rfl) (fun K hK => ?_) ?_
              · skip
                go_simp
                go_wp2_with ((go_at_call 14; (with_reducible refine (HL.out _ HB0.out).mono ?_); rintro e w3 ⟨rfl, hb⟩; have HB0 := Lib.hid (below_next HB0.out hb); (try have HR5 := Lib.hid (HR5.out.keep hb)); (try have HR6 := Lib.hid (HR6.out.keep hb)); clear hb))
                refine wpAny_ready (rs := [7, 9]) (by kernel_rfl) (by simp) ?_
                refine Go.BigFrame.allReady_want (o := { dst := some 30, op := Op.call { callee := Callee.value (Operand.func 14), args := #[Operand.tmp 29], argTypes := #[22] }, type := 30, pos := "law.go:117", after := #[{ on := 6, ground := Ground.data }, { on := 3, ground := Ground.chain }], guard := none }) rfl (by rfl) (fun K hK => ?_) ?_
                · skip
                  go_simp
                  go_wp2_with ((go_at_call 14; (with_reducible refine (HRr.out _ HB0.out).mono ?_); rintro e w4 ⟨rfl, hb⟩; have HB0 := Lib.hid (below_next HB0.out hb); (try have HR5 := Lib.hid (HR5.out.keep hb)); (try have HR6 := Lib.hid (HR6.out.keep hb)); clear hb))
                  refine wpAny_ready (rs := [9]) (by kernel_rfl) (by simp) ?_
                  refine Go.BigFrame.allReady_want (o := { dst := some 5, op := Op.alloc 30, type := 0, pos := "law.go:117", after := #[], guard := none }) rfl (by rfl) (fun K hK => ?_) ?_
                  · skip
                    ((refine wp_alloc_dig 5 rfl rfl ?_; intro g6 w6 hg hrow hb; have hge6 : w2.heap.size ≤ g6 := (by have := HB0.out.size; omega); have HR6 := Lib.hid hrow; (try have hne56 : g5 ≠ g6 := by have := HR5.out.lt; omega); (try have HR5 := Lib.hid (HR5.out.keep hb)); have HB0 := Lib.hid (below_next HB0.out hb); clear hb hg hrow))
                    refine hK _ _ ?_
                    clear hK K
                    try simp only [Act.put, List.setIfInBounds_toArray, List.set_cons_zero, List.set_cons_succ]
                    refine wpAny_ready (rs := [10]) (by kernel_rfl) (by simp) ?_
                    refine Go.BigFrame.allReady_want (o := { dst := none, op := Op.store 30 (Operand.tmp 4) (Operand.tmp 26), type := 0, pos := "law.go:117", after := #[{ on := 8, ground := Ground.data }, { on := 3, ground := Ground.data }, { on := 7, ground := Ground.chain }, { on := 0, ground := Ground.phase }, { on := 1, ground := Ground.phase }, { on := 2, ground := Ground.phase }, { on := 3, ground := Ground.phase }, { on := 4, ground := Ground.textOnly Departure.lateStores }, { on := 5, ground := Ground.textOnly Departure.lateStores }, { on := 6, ground := Ground.textOnly Departure.lateStoresUnsure }, { on := 7, ground := Ground.phase }, { on := 8, ground := Ground.phase }, { on := 9, ground := Ground.phase }], guard := none }) rfl (by rfl) (fun K hK => ?_) ?_
                    · skip
                      ((refine wp_store_dig' _ _ rfl g5 tA HLA.out rfl rfl HR5.out HB0.out hge5 ?_; intro w' hrow hb hoth; have HR6 := Lib.hid (hoth _ _ _ (fun h => hne56 h.symm) HR6.out); have HR5 := Lib.hid hrow; have HB0 := Lib.hid hb; clear hrow hb hoth))
                      refine hK _ _ ?_
                      clear hK K
                      try simp only [Act.put, List.setIfInBounds_toArray, List.set_cons_zero, List.set_cons_succ]
                      refine wpAny_ready (rs := [11]) (by kernel_rfl) (by simp) ?_
                      refine Go.BigFrame.allReady_want (o := { dst := none, op := Op.store 30 (Operand.tmp 5) (Operand.tmp 30), type := 0, pos := "law.go:117", after := #[{ on := 9, ground := Ground.data }, { on := 7, ground := Ground.data }, { on := 10, ground := Ground.chain }, { on := 0, ground := Ground.phase }, { on := 1, ground := Ground.phase }, { on := 2, ground := Ground.phase }, { on := 3, ground := Ground.phase }, { on := 4, ground := Ground.phase }, { on := 5, ground := Ground.phase }, { on := 6, ground := Ground.phase }, { on := 7, ground := Ground.phase }, { on := 8, ground := Ground.phase }, { on := 9, ground := Ground.phase }, { on := 10, ground := Ground.phase }], guard := none }) rfl (by rfl) (fun K hK => ?_) ?_
                      · skip
                        ((refine wp_store_dig' _ _ rfl g6 tB HLB.out rfl rfl HR6.out HB0.out hge6 ?_; intro w' hrow hb hoth; have HR5 := Lib.hid (hoth _ _ _ hne56 HR5.out); have HR6 := Lib.hid hrow; have HB0 := Lib.hid hb; clear hrow hb hoth))
                        refine hK _ _ ?_
                        clear hK K
                        try simp only [Act.put, List.setIfInBounds_toArray, List.set_cons_zero, List.set_cons_succ]
                        refine wpAny_done (by kernel_rfl) ?_ _
                        ((exact K g5 g6 _ ⟨HR5.out, HR6.out, HB0.out⟩))
                      exact AllReady.nil
                    exact AllReady.nil
                  exact AllReady.nil
                refine Go.BigFrame.allReady_want (o := { dst := some 5, op := Op.alloc 30, type := 0, pos := "law.go:117", after := #[], guard := none }) rfl (by rfl) (fun K hK => ?_) ?_
                · skip
                  ((refine wp_alloc_dig 5 rfl rfl ?_; intro g6 w6 hg hrow hb; have hge6 : w2.heap.size ≤ g6 := (by have := HB0.out.size; omega); have HR6 := Lib.hid hrow; (try have hne56 : g5 ≠ g6 := by have := HR5.out.lt; omega); (try have HR5 := Lib.hid (HR5.out.keep hb)); have HB0 := Lib.hid (below_next HB0.out hb); clear hb hg hrow))
                  refine hK _ _ ?_
                  clear hK K
                  try simp only [Act.put, List.setIfInBounds_toArray, List.set_cons_zero, List.set_cons_succ]
                  refine wpAny_ready (rs := [7]) (by kernel_rfl) (by simp) ?_
                  refine Go.BigFrame.allReady_want (o := { dst := some 30, op := Op.call { callee := Callee.value (Operand.func 14), args := #[Operand.tmp 29], argTypes := #[22] }, type := 30, pos := "law.go:117", after := #[{ on := 6, ground := Ground.data }, { on := 3, ground := Ground.chain }], guard := none }) rfl (by rfl) (fun K hK => ?_) ?_
                  · skip
                    go_simp
                    go_wp2_with ((go_at_call 14; (with_reducible refine (HRr.out _ HB0.out).mono ?_); rintro e w4 ⟨rfl, hb⟩; have HB0 := Lib.hid (below_next HB0.out hb); (try have HR5 := Lib.hid (HR5.out.keep hb)); (try have HR6 := Lib.hid (HR6.out.keep hb)); clear hb))
                    refine wpAny_ready (rs := [10]) (by kernel_rfl) (by simp) ?_
                    refine Go.BigFrame.allReady_want (o := { dst := none, op := Op.store 30 (Operand.tmp 4) (Operand.tmp 26), type := 0, pos := "law.go:117", after := #[{ on := 8, ground := Ground.data }, { on := 3, ground := Ground.data }, { on := 7, ground := Ground.chain }, { on := 0, ground := Ground.phase }, { on := 1, ground := Ground.phase }, { on := 2, ground := Ground.phase }, { on := 3, ground := Ground.phase }, { on := 4, ground := Ground.textOnly Departure.lateStores }, { on := 5, ground := Ground.textOnly Departure.lateStores }, { on := 6, ground := Ground.textOnly Departure.lateStoresUnsure }, { on := 7, ground := Ground.phase }, { on := 8, ground := Ground.phase }, { on := 9, ground := Ground.phase }], guard := none }) rfl (by rfl) (fun K hK => ?_) ?_
                    · skip
                      ((refine wp_store_dig' _ _ rfl g5 tA HLA.out rfl rfl HR5.out HB0.out hge5 ?_; intro w' hrow hb hoth; have HR6 := Lib.hid (hoth _ _ _ (fun h => hne56 h.symm) HR6.out); have HR5 := Lib.hid hrow; have HB0 := Lib.hid hb; clear hrow hb hoth))
                      refine hK _ _ ?_
                      clear hK K
                      try simp only [Act.put, List.setIfInBounds_toArray, List.set_cons_zero, List.set_cons_succ]
                      refine wpAny_ready (rs := [11]) (by kernel_rfl) (by simp) ?_
                      refine Go.BigFrame.allReady_want (o := { dst := none, op := Op.store 30 (Operand.tmp 5) (Operand.tmp 30), type := 0, pos := "law.go:117", after := #[{ on := 9, ground := Ground.data }, { on := 7, ground := Ground.data }, { on := 10, ground := Ground.chain }, { on := 0, ground := Ground.phase }, { on := 1, ground := Ground.phase }, { on := 2, ground := Ground.phase }, { on := 3, ground := Ground.phase }, { on := 4, ground := Ground.phase }, { on := 5, ground := Ground.phase }, { on := 6, ground := Ground.phase }, { on := 7, ground := Ground.phase }, { on := 8, ground := Ground.phase }, { on := 9, ground := Ground.phase }, { on := 10, ground := Ground.phase }], guard := none }) rfl (by rfl) (fun K hK => ?_) ?_
                      · skip
                        ((refine wp_store_dig' _ _ rfl g6 tB HLB.out rfl rfl HR6.out HB0.out hge6 ?_; intro w' hrow hb hoth; have HR5 := Lib.hid (hoth _ _ _ hne56 HR5.out); have HR6 := Lib.hid hrow; have HB0 := Lib.hid hb; clear hrow hb hoth))
                        refine hK _ _ ?_
                        clear hK K
                        try simp only [Act.put, List.setIfInBounds_toArray, List.set_cons_zero, List.set_cons_succ]
                        refine wpAny_done (by kernel_rfl) ?_ _
                        ((exact K g5 g6 _ ⟨HR5.out, HR6.out, HB0.out⟩))
                      exact AllReady.nil
                    exact AllReady.nil
                  exact AllReady.nil
                exact AllReady.nil
              refine Go.BigFrame.allReady_want (o := { dst := some 5, op := Op.alloc 30, type := 0, pos := "law.go:117", after := #[], guard := none }) rfl (by rfl) (fun K hK => ?_) ?_
              · skip
                ((refine wp_alloc_dig 5 rfl rfl ?_; intro g6 w6 hg hrow hb; have hge6 : w2.heap.size ≤ g6 := (by have := HB0.out.size; omega); have HR6 := Lib.hid hrow; (try have hne56 : g5 ≠ g6 := by have := HR5.out.lt; omega); (try have HR5 := Lib.hid (HR5.out.keep hb)); have HB0 := Lib.hid (below_next HB0.out hb); clear hb hg hrow))
                refine hK _ _ ?_
                clear hK K
                try simp only [Act.put, List.setIfInBounds_toArray, List.set_cons_zero, List.set_cons_succ]
                refine wpAny_ready (rs := [3]) (by kernel_rfl) (by simp) ?_
                refine Go.BigFrame.allReady_want (o := { dst := some 26, op := Op.call { callee := Callee.value (Operand.func 14), args := #[Operand.tmp 25], argTypes := #[22] }, type := 30, pos := "law.go:117", after := #[{ on := 2, ground := Ground.data }], guard := none }) rfl (by rfl) (fun K hK => ?_) ?_
                · skip
                  go_simp
                  go_wp2_with ((go_at_call 14; (with_reducible refine (HL.out _ HB0.out).mono ?_); rintro e w3 ⟨rfl, hb⟩; have HB0 := Lib.hid (below_next HB0.out hb); (try have HR5 := Lib.hid (HR5.out.keep hb)); (try have HR6 := Lib.hid (HR6.out.keep hb)); clear hb))
                  refine wpAny_ready (rs := [7]) (by kernel_rfl) (by simp) ?_
                  refine Go.BigFrame.allReady_want (o := { dst := some 30, op := Op.call { callee := Callee.value (Operand.func 14), args := #[Operand.tmp 29], argTypes := #[22] }, type := 30, pos := "law.go:117", after := #[{ on := 6, ground := Ground.data }, { on := 3, ground := Ground.chain }], guard := none }) rfl (by rfl) (fun K hK => ?_) ?_
                  · skip
                    go_simp
                    go_wp2_with ((go_at_call 14; (with_reducible refine (HRr.out _ HB0.out).mono ?_); rintro e w4 ⟨rfl, hb⟩; have HB0 := Lib.hid (below_next HB0.out hb); (try have HR5 := Lib.hid (HR5.out.keep hb)); (try have HR6 := Lib.hid (HR6.out.keep hb)); clear hb))
                    refine wpAny_ready (rs := [10]) (by kernel_rfl) (by simp) ?_
                    refine Go.BigFrame.allReady_want (o := { dst := none, op := Op.store 30 (Operand.tmp 4) (Operand.tmp 26), type := 0, pos := "law.go:117", after := #[{ on := 8, ground := Ground.data }, { on := 3, ground := Ground.data }, { on := 7, ground := Ground.chain }, { on := 0, ground := Ground.phase }, { on := 1, ground := Ground.phase }, { on := 2, ground := Ground.phase }, { on := 3, ground := Ground.phase }, { on := 4, ground := Ground.textOnly Departure.lateStores }, { on := 5, ground := Ground.textOnly Departure.lateStores }, { on := 6, ground := Ground.textOnly Departure.lateStoresUnsure }, { on := 7, ground := Ground.phase }, { on := 8, ground := Ground.phase }, { on := 9, ground := Ground.phase }], guard := none }) rfl (by rfl) (fun K hK => ?_) ?_
                    · skip
                      ((refine wp_store_dig' _ _ rfl g5 tA HLA.out rfl rfl HR5.out HB0.out hge5 ?_; intro w' hrow hb hoth; have HR6 := Lib.hid (hoth _ _ _ (fun h => hne56 h.symm) HR6.out); have HR5 := Lib.hid hrow; have HB0 := Lib.hid hb; clear hrow hb hoth))
                      refine hK _ _ ?_
                      clear hK K
                      try simp only [Act.put, List.setIfInBounds_toArray, List.set_cons_zero, List.set_cons_succ]
                      refine wpAny_ready (rs := [11]) (by kernel_rfl) (by simp) ?_
                      refine Go.BigFrame.allReady_want (o := { dst := none, op := Op.store 30 (Operand.tmp 5) (Operand.tmp 30), type := 0, pos := "law.go:117", after := #[{ on := 9, ground := Ground.data }, { on := 7, ground := Ground.data }, { on := 10, ground := Ground.chain }, { on := 0, ground := Ground.phase }, { on := 1, ground := Ground.phase }, { on := 2, ground := Ground.phase }, { on := 3, ground := Ground.phase }, { on := 4, ground := Ground.phase }, { on := 5, ground := Ground.phase }, { on := 6, ground := Ground.phase }, { on := 7, ground := Ground.phase }, { on := 8, ground := Ground.phase }, { on := 9, ground := Ground.phase }, { on := 10, ground := Ground.phase }], guard := none }) rfl (by rfl) (fun K hK => ?_) ?_
                      · skip
                        ((refine wp_store_dig' _ _ rfl g6 tB HLB.out rfl rfl HR6.out HB0.out hge6 ?_; intro w' hrow hb hoth; have HR5 := Lib.hid (hoth _ _ _ hne56 HR5.out); have HR6 := Lib.hid hrow; have HB0 := Lib.hid hb; clear hrow hb hoth))
                        refine hK _ _ ?_
                        clear hK K
                        try simp only [Act.put, List.setIfInBounds_toArray, List.set_cons_zero, List.set_cons_succ]
                        refine wpAny_done (by kernel_rfl) ?_ _
                        ((exact K g5 g6 _ ⟨HR5.out, HR6.out, HB0.out⟩))
                      exact AllReady.nil
                    exact AllReady.nil
                  exact AllReady.nil
                exact AllReady.nil
              exact AllReady.nil
            refine Go.BigFrame.allReady_want (o := { dst := some 5, op := Op.alloc 30, type := 0, pos := "law.go:117", after := #[], guard := none }) rfl (by rfl) (fun K hK => ?_) ?_
            · skip
              ((refine wp_alloc_dig 5 rfl rfl ?_; intro g6 w6 hg hrow hb; have hge6 : w2.heap.size ≤ g6 := (by have := HB0.out.size; omega); have HR6 := Lib.hid hrow; (try have hne56 : g5 ≠ g6 := by have := HR5.out.lt; omega); (try have HR5 := Lib.hid (HR5.out.keep hb)); have HB0 := Lib.hid (below_next HB0.out hb); clear hb hg hrow))
              refine hK _ _ ?_
              clear hK K
              try simp only [Act.put, List.setIfInBounds_toArray, List.set_cons_zero, List.set_cons_succ]
              refine wpAny_ready (rs := [3, 8]) (by kernel_rfl) (by simp) ?_
              refine Go.BigFrame.allReady_want (o := { dst := some 26, op := Op.call { callee := Callee.value (Operand.func 14), args := #[Operand.tmp 25], argTypes := #[22] }, type := 30, pos := "law.go:117", after := #[{ on := 2, ground := Ground.data }], guard := none }) rfl (by rfl) (fun K hK => ?_) ?_
              · skip
                go_simp
                go_wp2_with ((go_at_call 14; (with_reducible refine (HL.out _ HB0.out).mono ?_); rintro e w3 ⟨rfl, hb⟩; have HB0 := Lib.hid (below_next HB0.out hb); (try have HR5 := Lib.hid (HR5.out.keep hb)); (try have HR6 := Lib.hid (HR6.out.keep hb)); clear hb))
                refine wpAny_ready (rs := [7, 8]) (by kernel_rfl) (by simp) ?_
                refine Go.BigFrame.allReady_want (o := { dst := some 30, op := Op.call { callee := Callee.value (Operand.func 14), args := #[Operand.tmp 29], argTypes := #[22] }, type := 30, pos := "law.go:117", after := #[{ on := 6, ground := Ground.data }, { on := 3, ground := Ground.chain }], guard := none }) rfl (by rfl) (fun K hK => ?_) ?_
                · skip
                  go_simp
                  go_wp2_with ((go_at_call 14; (with_reducible refine (HRr.out _ HB0.out).mono ?_); rintro e w4 ⟨rfl, hb⟩; have HB0 := Lib.hid (below_next HB0.out hb); (try have HR5 := Lib.hid (HR5.out.keep hb)); (try have HR6 := Lib.hid (HR6.out.keep hb)); clear hb))
                  refine wpAny_ready (rs := [8]) (by kernel_rfl) (by simp) ?_
                  refine Go.BigFrame.allReady_want (o := { dst := some 4, op := Op.alloc 30, type := 0, pos := "law.go:117", after := #[], guard := none }) rfl (by rfl) (fun K hK => ?_) ?_
                  · skip
                    ((refine wp_alloc_dig 4 rfl rfl ?_; intro g5 w5 hg hrow hb; have hge5 : w2.heap.size ≤ g5 := (by have := HB0.out.size; omega); have HR5 := Lib.hid hrow; (try have hne56 : g5 ≠ g6 := by have := HR6.out.lt; omega); (try have HR6 := Lib.hid (HR6.out.keep hb)); have HB0 := Lib.hid (below_next HB0.out hb); clear hb hg hrow))
                    refine hK _ _ ?_
                    clear hK K
                    try simp only [Act.put, List.setIfInBounds_toArray, List.set_cons_zero, List.set_cons_succ]
                    refine wpAny_ready (rs := [10]) (by kernel_rfl) (by simp) ?_
                    refine Go.BigFrame.allReady_want (o := { dst := none, op := Op.store 30 (Operand.tmp 4) (Operand.tmp 26), type := 0, pos := "law.go:117", after := #[{ on := 8, ground := Ground.data }, { on := 3, ground := Ground.data }, { on := 7, ground := Ground.chain }, { on := 0, ground := Ground.phase }, { on := 1, ground := Ground.phase }, { on := 2, ground := Ground.phase }, { on := 3, ground := Ground.phase }, { on := 4, ground := Ground.textOnly Departure.lateStores }, { on := 5, ground := Ground.textOnly Departure.lateStores }, { on := 6, ground := Ground.textOnly Departure.lateStoresUnsure }, { on := 7, ground := Ground.phase }, { on := 8, ground := Ground.phase }, { on := 9, ground := Ground.phase }], guard := none }) rfl (by rfl) (fun K hK => ?_) ?_
                    · skip
                      ((refine wp_store_dig' _ _ rfl g5 tA HLA.out rfl rfl HR5.out HB0.out hge5 ?_; intro w' hrow hb hoth; have HR6 := Lib.hid (hoth _ _ _ (fun h => hne56 h.symm) HR6.out); have HR5 := Lib.hid hrow; have HB0 := Lib.hid hb; clear hrow hb hoth))
                      refine hK _ _ ?_
                      clear hK K
                      try simp only [Act.put, List.setIfInBounds_toArray, List.set_cons_zero, List.set_cons_succ]
                      refine wpAny_ready (rs := [11]) (by kernel_rfl) (by simp) ?_
                      refine Go.BigFrame.allReady_want (o := { dst := none, op := Op.store 30 (Operand.tmp 5) (Operand.tmp 30), type := 0, pos := "law.go:117", after := #[{ on := 9, ground := Ground.data }, { on := 7, ground := Ground.data }, { on := 10, ground := Ground.chain }, { on := 0, ground := Ground.phase }, { on := 1, ground := Ground.phase }, { on := 2, ground := Ground.phase }, { on := 3, ground := Ground.phase }, { on := 4, ground := Ground.phase }, { on := 5, ground := Ground.phase }, { on := 6, ground := Ground.phase }, { on := 7, ground := Ground.phase }, { on := 8, ground := Ground.phase }, { on := 9, ground := Ground.phase }, { on := 10, ground := Ground.phase }], guard := none }) rfl (by rfl) (fun K hK => ?_) ?_
                      · skip
                        ((refine wp_store_dig' _ _ rfl g6 tB HLB.out rfl rfl HR6.out HB0.out hge6 ?_; intro w' hrow hb hoth; have HR5 := Lib.hid (hoth _ _ _ hne56 HR5.out); have HR6 := Lib.hid hrow; have HB0 := Lib.hid hb; clear hrow hb hoth))
                        refine hK _ _ ?_
                        clear hK K
                        try simp only [Act.put, List.setIfInBounds_toArray, List.set_cons_zero, List.set_cons_succ]
                        refine wpAny_done (by kernel_rfl) ?_ _
                        ((exact K g5 g6 _ ⟨HR5.out, HR6.out, HB0.out⟩))
                      exact AllReady.nil
                    exact AllReady.nil
                  exact AllReady.nil
                refine Go.BigFrame.allReady_want (o := { dst := some 4, op := Op.alloc 30, type := 0, pos := "law.go:117", after := #[], guard := none }) rfl (by rfl) (fun K hK => ?_) ?_
                · skip
                  ((refine wp_alloc_dig 4 rfl rfl ?_; intro g5 w5 hg hrow hb; have hge5 : w2.heap.size ≤ g5 := (by have := HB0.out.size; omega); have HR5 := Lib.hid hrow; (try have hne56 : g5 ≠ g6 := by have := HR6.out.lt; omega); (try have HR6 := Lib.hid (HR6.out.keep hb)); have HB0 := Lib.hid (below_next HB0.out hb); clear hb hg hrow))
                  refine hK _ _ ?_
                  clear hK K
                  try simp only [Act.put, List.setIfInBounds_toArray, List.set_cons_zero, List.set_cons_succ]
                  refine wpAny_ready (rs := [7]) (by kernel_rfl) (by simp) ?_
                  refine Go.BigFrame.allReady_want (o := { dst := some 30, op := Op.call { callee := Callee.value (Operand.func 14), args := #[Operand.tmp 29], argTypes := #[22] }, type := 30, pos := "law.go:117", after := #[{ on := 6, ground := Ground.data }, { on := 3, ground := Ground.chain }], guard := none }) rfl (by rfl) (fun K hK => ?_) ?_
                  · skip
                    go_simp
                    go_wp2_with ((go_at_call 14; (with_reducible refine (HRr.out _ HB0.out).mono ?_); rintro e w4 ⟨rfl, hb⟩; have HB0 := Lib.hid (below_next HB0.out hb); (try have HR5 := Lib.hid (HR5.out.keep hb)); (try have HR6 := Lib.hid (HR6.out.keep hb)); clear hb))
                    refine wpAny_ready (rs := [10]) (by kernel_rfl) (by simp) ?_
                    refine Go.BigFrame.allReady_want (o := { dst := none, op := Op.store 30 (Operand.tmp 4) (Operand.tmp 26), type := 0, pos := "law.go:117", after := #[{ on := 8, ground := Ground.data }, { on := 3, ground := Ground.data }, { on := 7, ground := Ground.chain }, { on := 0, ground := Ground.phase }, { on := 1, ground := Ground.phase }, { on := 2, ground := Ground.phase }, { on := 3, ground := Ground.phase }, { on := 4, ground := Ground.textOnly Departure.lateStores }, { on := 5, ground := Ground.textOnly Departure.lateStores }, { on := 6, ground := Ground.textOnly Departure.lateStoresUnsure }, { on := 7, ground := Ground.phase }, { on := 8, ground := Ground.phase }, { on := 9, ground := Ground.phase }], guard := none }) rfl (by rfl) (fun K hK => ?_) ?_
                    · skip
                      ((refine wp_store_dig' _ _ rfl g5 tA HLA.out rfl rfl HR5.out HB0.out hge5 ?_; intro w' hrow hb hoth; have HR6 := Lib.hid (hoth _ _ _ (fun h => hne56 h.symm) HR6.out); have HR5 := Lib.hid hrow; have HB0 := Lib.hid hb; clear hrow hb hoth))
                      refine hK _ _ ?_
                      clear hK K
                      try simp only [Act.put, List.setIfInBounds_toArray, List.set_cons_zero, List.set_cons_succ]
                      refine wpAny_ready (rs := [11]) (by kernel_rfl) (by simp) ?_
                      refine Go.BigFrame.allReady_want (o := { dst := none, op := Op.store 30 (Operand.tmp 5) (Operand.tmp 30), type := 0, pos := "law.go:117", after := #[{ on := 9, ground := Ground.data }, { on := 7, ground := Ground.data }, { on := 10, ground := Ground.chain }, { on := 0, ground := Ground.phase }, { on := 1, ground := Ground.phase }, { on := 2, ground := Ground.phase }, { on := 3, ground := Ground.phase }, { on := 4, ground := Ground.phase }, { on := 5, ground := Ground.phase }, { on := 6, ground := Ground.phase }, { on := 7, ground := Ground.phase }, { on := 8, ground := Ground.phase }, { on := 9, ground := Ground.phase }, { on := 10, ground := Ground.phase }], guard := none }) rfl (by rfl) (fun K hK => ?_) ?_
                      · skip
                        ((refine wp_store_dig' _ _ rfl g6 tB HLB.out rfl rfl HR6.out HB0.out hge6 ?_; intro w' hrow hb hoth; have HR5 := Lib.hid (hoth _ _ _ hne56 HR5.out); have HR6 := Lib.hid hrow; have HB0 := Lib.hid hb; clear hrow hb hoth))
                        refine hK _ _ ?_
                        clear hK K
                        try simp only [Act.put, List.setIfInBounds_toArray, List.set_cons_zero, List.set_cons_succ]
                        refine wpAny_done (by kernel_rfl) ?_ _
                        ((exact K g5 g6 _ ⟨HR5.out, HR6.out, HB0.out⟩))
                      exact AllReady.nil
                    exact AllReady.nil
                  exact AllReady.nil
                exact AllReady.nil
              refine Go.BigFrame.allReady_want (o := { dst := some 4, op := Op.alloc 30, type := 0, pos := "law.go:117", after := #[], guard := none }) rfl (by rfl) (fun K hK => ?_) ?_
              · skip
                ((refine wp_alloc_dig 4 rfl rfl ?_; intro g5 w5 hg hrow hb; have hge5 : w2.heap.size ≤ g5 := (by have := HB0.out.size; omega); have HR5 := Lib.hid hrow; (try have hne56 : g5 ≠ g6 := by have := HR6.out.lt; omega); (try have HR6 := Lib.hid (HR6.out.keep hb)); have HB0 := Lib.hid (below_next HB0.out hb); clear hb hg hrow))
                refine hK _ _ ?_
                clear hK K
                try simp only [Act.put, List.setIfInBounds_toArray, List.set_cons_zero, List.set_cons_succ]
                refine wpAny_ready (rs := [3]) (by kernel_rfl) (by simp) ?_
                refine Go.BigFrame.allReady_want (o := { dst := some 26, op := Op.call { callee := Callee.value (Operand.func 14), args := #[Operand.tmp 25], argTypes := #[22] }, type := 30, pos := "law.go:117", after := #[{ on := 2, ground := Ground.data }], guard := none }) rfl (by rfl) (fun K hK => ?_) ?_
                · skip
                  go_simp
                  go_wp2_with ((go_at_call 14; (with_reducible refine (HL.out _ HB0.out).mono ?_); rintro e w3 ⟨rfl, hb⟩; have HB0 := Lib.hid (below_next HB0.out hb); (try have HR5 := Lib.hid (HR5.out.keep hb)); (try have HR6 := Lib.hid (HR6.out.keep hb)); clear hb))
                  refine wpAny_ready (rs := [7]) (by kernel_rfl) (by simp) ?_
                  refine Go.BigFrame.allReady_want (o := { dst := some 30, op := Op.call { callee := Callee.value (Operand.func 14), args := #[Operand.tmp 29], argTypes := #[22] }, type := 30, pos := "law.go:117", after := #[{ on := 6, ground := Ground.data }, { on := 3, ground := Ground.chain }], guard := none }) rfl (by rfl) (fun K hK => ?_) ?_
                  · skip
                    go_simp
                    go_wp2_with ((go_at_call 14; (with_reducible refine (HRr.out _ HB0.out).mono ?_); rintro e w4 ⟨rfl, hb⟩; have HB0 := Lib.hid (below_next HB0.out hb); (try have HR5 := Lib.hid (HR5.out.keep hb)); (try have HR6 := Lib.hid (HR6.out.keep hb)); clear hb))
                    refine wpAny_ready (rs := [10]) (by kernel_rfl) (by simp) ?_
                    refine Go.BigFrame.allReady_want (o := { dst := none, op := Op.store 30 (Operand.tmp 4) (Operand.tmp 26), type := 0, pos := "law.go:117", after := #[{ on := 8, ground := Ground.data }, { on := 3, ground := Ground.data }, { on := 7, ground := Ground.chain }, { on := 0, ground := Ground.phase }, { on := 1, ground := Ground.phase }, { on := 2, ground := Ground.phase }, { on := 3, ground := Ground.phase }, { on := 4, ground := Ground.textOnly Departure.lateStores }, { on := 5, ground := Ground.textOnly Departure.lateStores }, { on := 6, ground := Ground.textOnly Departure.lateStoresUnsure }, { on := 7, ground := Ground.phase }, { on := 8, ground := Ground.phase }, { on := 9, ground := Ground.phase }], guard := none }) rfl (by rfl) (fun K hK => ?_) ?_
                    · skip
                      ((refine wp_store_dig' _ _ rfl g5 tA HLA.out rfl rfl HR5.out HB0.out hge5 ?_; intro w' hrow hb hoth; have HR6 := Lib.hid (hoth _ _ _ (fun h => hne56 h.symm) HR6.out); have HR5 := Lib.hid hrow; have HB0 := Lib.hid hb; clear hrow hb hoth))
                      refine hK _ _ ?_
                      clear hK K
                      try simp only [Act.put, List.setIfInBounds_toArray, List.set_cons_zero, List.set_cons_succ]
                      refine wpAny_ready (rs := [11]) (by kernel_rfl) (by simp) ?_
                      refine Go.BigFrame.allReady_want (o := { dst := none, op := Op.store 30 (Operand.tmp 5) (Operand.tmp 30), type := 0, pos := "law.go:117", after := #[{ on := 9, ground := Ground.data }, { on := 7, ground := Ground.data }, { on := 10, ground := Ground.chain }, { on := 0, ground := Ground.phase }, { on := 1, ground := Ground.phase }, { on := 2, ground := Ground.phase }, { on := 3, ground := Ground.phase }, { on := 4, ground := Ground.phase }, { on := 5, ground := Ground.phase }, { on := 6, ground := Ground.phase }, { on := 7, ground := Ground.phase }, { on := 8, ground := Ground.phase }, { on := 9, ground := Ground.phase }, { on := 10, ground := Ground.phase }], guard := none }) rfl (by rfl) (fun K hK => ?_) ?_
                      · skip
                        ((refine wp_store_dig' _ _ rfl g6 tB HLB.out rfl rfl HR6.out HB0.out hge6 ?_; intro w' hrow hb hoth; have HR5 := Lib.hid (hoth _ _ _ hne56 HR5.out); have HR6 := Lib.hid hrow; have HB0 := Lib.hid hb; clear hrow hb hoth))
                        refine hK _ _ ?_
                        clear hK K
                        try simp only [Act.put, List.setIfInBounds_toArray, List.set_cons_zero, List.set_cons_succ]
                        refine wpAny_done (by kernel_rfl) ?_ _
                        ((exact K g5 g6 _ ⟨HR5.out, HR6.out, HB0.out⟩))
                      exact AllReady.nil
                    exact AllReady.nil
                  exact AllReady.nil
                exact AllReady.nil
              exact AllReady.nil
            exact AllReady.nil
          case kk =>
            rintro g5 g6 w3 ⟨hr5, hr6, hb3⟩
            have HT3 : Hid (∀ W' : World, Below w3.heap.size w3 W' → Calls Tryd.prog 14 #[.slice (some ⟨b, off, none⟩) m cap] W' (RetD W' tC)) := fun W' h => HTr.out W' (below_next hb3 h)
            have HTG3 : Hid (∀ (W' : World) (tag : ByteArray) (l : List UInt8) (u : Value), tag.size ≤ 600 → l.length ≤ 600 → Rest W'.heap.size W' l u → Below w3.heap.size w3 W' → tagged tag.data.toList l = tC → Calls Tryd.prog 22 #[.string tag, u] W' (RetD W' tC)) := fun W' tag l u h1 h2 h3 h4 h5 => HTG.out W' tag l u h1 h2 h3 (below_next hb3 h4) h5
            have HRA : Hid (∀ W' : World, Below w3.heap.size w3 W' → Rest W'.heap.size W' tA (.slice (some ⟨g5, 0, none⟩) 32 32)) := fun W' h => row_rest32 (hr5.keep h) HLA.out
            have HRB : Hid (∀ W' : World, Below w3.heap.size w3 W' → Rest W'.heap.size W' tB (.slice (some ⟨g6, 0, none⟩) 32 32)) := fun W' h => row_rest32 (hr6.keep h) HLB.out
            have HL1 := Lib.hid (show ([] : List UInt8).length + tA.length ≤ 70368744177664 by have := HLA.out; simp; omega)
            have HL2 := Lib.hid (show tA.length + tB.length ≤ 70368744177664 by have := HLA.out; have := HLB.out; omega)
            have HB3 := Lib.hid (below_next HB1.out hb3)
            clear HTr HTG HL HRr hr5 hr6 hb3
            go_wp2_with fail
            refine wp_region_any (by kernel_rfl) ?_
            try (change wpAny _ _ _ _ _ _ _ (World.drew _))
            (obtain ⟨w0, hw0⟩ : ∃ x, x = w3.drew := ⟨_, rfl⟩; rw [← hw0]; have HB0 : Hid (Below w3.heap.size w3 w0) := (by rw [hw0]; exact (Below.refl _ w3).drew); clear hw0)
            refine wpAny_take (i := 0) (oi := { dst := some 31, op := Op.move (Operand.tmp 0), type := 22, pos := "law.go:118", after := #[], guard := none }) (v := ?_) rfl (by kernel_rfl) (by kernel_rfl) (by kernel_rfl) (fun _ _ _ h => h) (Or.inl ⟨by rfl, ?_⟩) ?_
            rotate_left
            · (intro w; go_simp; with_reducible rfl)
            try simp only [Act.put, List.setIfInBounds_toArray, List.set_cons_zero, List.set_cons_succ]
            refine wpAny_take (i := 3) (oi := { dst := some 34, op := Op.slice 30 (Operand.tmp 4) none none none, type := 34, pos := "law.go:118", after := #[], guard := none }) (v := ?_) rfl (by kernel_rfl) (by kernel_rfl) (by kernel_rfl) (fun _ _ _ h => h) (Or.inl ⟨by rfl, ?_⟩) ?_
            rotate_left
            · (intro w; go_simp; with_reducible rfl)
            try simp only [Act.put, List.setIfInBounds_toArray, List.set_cons_zero, List.set_cons_succ]
            refine wpAny_take (i := 5) (oi := { dst := some 36, op := Op.slice 30 (Operand.tmp 5) none none none, type := 34, pos := "law.go:118", after := #[], guard := none }) (v := ?_) rfl (by kernel_rfl) (by kernel_rfl) (by kernel_rfl) (fun _ _ _ h => h) (Or.inl ⟨by rfl, ?_⟩) ?_
            rotate_left
            · (intro w; go_simp; with_reducible rfl)
            try simp only [Act.put, List.setIfInBounds_toArray, List.set_cons_zero, List.set_cons_succ]
            refine wpAny_ready (rs := [1, 2]) (by kernel_rfl) (by simp) ?_
            refine Go.BigFrame.allReady_want (o := { dst := some 32, op := Op.call { callee := Callee.value (Operand.func 14), args := #[Operand.tmp 31], argTypes := #[22] }, type := 30, pos := "law.go:118", after := #[{ on := 0, ground := Ground.data }], guard := none }) rfl (by rfl) (fun K hK => ?_) ?_
            · skip
              go_simp
              go_wp2_with ((go_at_call 14; (with_reducible refine (HT3.out _ HB0.out).mono ?_); rintro e w7 ⟨rfl, hb⟩; (try have HN := Lib.hid (HN.out.keep hb)); have HB0 := Lib.hid (below_next HB0.out hb); clear hb))
              refine wpAny_ready (rs := [2]) (by kernel_rfl) (by simp) ?_
              refine Go.BigFrame.allReady_want (o := { dst := some 33, op := Op.buildSlice 34 0 #[], type := 34, pos := "law.go:118", after := #[], guard := none }) rfl (by rfl) (fun K hK => ?_) ?_
              · skip
                ((refine wp_none' rfl HB0.out ?_; intro v0 w4 hn; have HN := Lib.hid hn; have HB0 := Lib.hid hn.2.1; clear hn))
                refine hK _ _ ?_
                clear hK K
                try simp only [Act.put, List.setIfInBounds_toArray, List.set_cons_zero, List.set_cons_succ]
                refine wpAny_ready (rs := [4]) (by kernel_rfl) (by simp) ?_
                refine Go.BigFrame.allReady_want (o := { dst := some 35, op := Op.call { callee := Callee.builtin Builtin.append, args := #[Operand.tmp 33, Operand.tmp 34], argTypes := #[34, 34] }, type := 34, pos := "law.go:118", after := #[{ on := 2, ground := Ground.data }, { on := 3, ground := Ground.data }, { on := 1, ground := Ground.chain }], guard := none }) rfl (by rfl) (fun K hK => ?_) ?_
                · skip
                  ((refine wp_buf' rfl _ _ rfl _ [] rfl HN.out _ _ tA rfl (HRA.out _ HB0.out) HL1.out ?_; intro v1 w5 hn; have HN : Hid (New w3 w5 v1 tA) := hn; have HB0 := Lib.hid hn.2.1; clear hn))
                  refine hK _ _ ?_
                  clear hK K
                  try simp only [Act.put, List.setIfInBounds_toArray, List.set_cons_zero, List.set_cons_succ]
                  refine wpAny_ready (rs := [6]) (by kernel_rfl) (by simp) ?_
                  refine Go.BigFrame.allReady_want (o := { dst := some 37, op := Op.call { callee := Callee.builtin Builtin.append, args := #[Operand.tmp 35, Operand.tmp 36], argTypes := #[34, 34] }, type := 34, pos := "law.go:118", after := #[{ on := 4, ground := Ground.data }, { on := 5, ground := Ground.data }, { on := 4, ground := Ground.chain }], guard := none }) rfl (by rfl) (fun K hK => ?_) ?_
                  · skip
                    ((refine wp_buf' rfl _ _ rfl _ tA rfl HN.out _ _ tB rfl (HRB.out _ HB0.out) HL2.out ?_; intro v2 w6 hn; have HN := Lib.hid hn; have HB0 := Lib.hid hn.2.1; have HR2 := Lib.hid (buf_rest' hn.1); clear hn))
                    refine hK _ _ ?_
                    clear hK K
                    try simp only [Act.put, List.setIfInBounds_toArray, List.set_cons_zero, List.set_cons_succ]
                    refine wpAny_ready (rs := [7]) (by kernel_rfl) (by simp) ?_
                    refine Go.BigFrame.allReady_want (o := { dst := some 38, op := Op.call { callee := Callee.value (Operand.func 22), args := #[Operand.const (Value.string { data := #[110, 111, 100, 101] }), Operand.tmp 37], argTypes := #[9, 34] }, type := 30, pos := "law.go:118", after := #[{ on := 6, ground := Ground.data }, { on := 6, ground := Ground.chain }], guard := none }) rfl (by rfl) (fun K hK => ?_) ?_
                    · skip
                      go_simp
                      go_wp2_with ((go_at_call 22; (with_reducible refine (HTG3.out _ _ _ _ (by decide) HL600.out HR2.out HB0.out HE.out).mono ?_); rintro e w8 ⟨rfl, hb⟩; have HB0 := Lib.hid (below_next HB0.out hb); clear hb))
                      refine wpAny_ready (rs := [8]) (by kernel_rfl) (by simp) ?_
                      refine Go.BigFrame.allReady_want (o := { dst := some 39, op := Op.binOp BinOp.eql 30 (Operand.tmp 32) (Operand.tmp 38) 30, type := 4, pos := "law.go:118", after := #[{ on := 1, ground := Ground.data }, { on := 7, ground := Ground.data }], guard := none }) rfl (by rfl) (fun K hK => ?_) ?_
                      · skip
                        ((refine wp_eq_dig _ _ rfl tC tC HLC.out HLC.out rfl rfl ?_; rw [beq_self_eq_true]))
                        refine hK _ _ ?_
                        clear hK K
                        try simp only [Act.put, List.setIfInBounds_toArray, List.set_cons_zero, List.set_cons_succ]
                        refine wpAny_take (i := 9) (oi := { dst := some 2, op := Op.assign (Operand.tmp 39), type := 4, pos := "law.go:118", after := #[{ on := 8, ground := Ground.data }, { on := 7, ground := Ground.chain }, { on := 0, ground := Ground.phase }, { on := 1, ground := Ground.phase }, { on := 2, ground := Ground.phase }, { on := 3, ground := Ground.phase }, { on := 4, ground := Ground.phase }, { on := 5, ground := Ground.phase }, { on := 6, ground := Ground.phase }, { on := 7, ground := Ground.phase }, { on := 8, ground := Ground.phase }], guard := none }) (v := ?_) rfl (by kernel_rfl) (by kernel_rfl) (by kernel_rfl) (fun _ _ _ h => h) (Or.inl ⟨by rfl, ?_⟩) ?_
                        rotate_left
                        · (intro w; go_simp; with_reducible rfl)
                        try simp only [Act.put, List.setIfInBounds_toArray, List.set_cons_zero, List.set_cons_succ]
                        refine wpAny_done (by kernel_rfl) ?_ _
                        ((go_wp2_with fail; go_ret; exact ⟨rfl, below_next HB3.out HB0.out⟩))
                      exact AllReady.nil
                    exact AllReady.nil
                  exact AllReady.nil
                exact AllReady.nil
              exact AllReady.nil
            refine Go.BigFrame.allReady_want (o := { dst := some 33, op := Op.buildSlice 34 0 #[], type := 34, pos := "law.go:118", after := #[], guard := none }) rfl (by rfl) (fun K hK => ?_) ?_
            · skip
              ((refine wp_none' rfl HB0.out ?_; intro v0 w4 hn; have HN := Lib.hid hn; have HB0 := Lib.hid hn.2.1; clear hn))
              refine hK _ _ ?_
              clear hK K
              try simp only [Act.put, List.setIfInBounds_toArray, List.set_cons_zero, List.set_cons_succ]
              refine wpAny_ready (rs := [1]) (by kernel_rfl) (by simp) ?_
              refine Go.BigFrame.allReady_want (o := { dst := some 32, op := Op.call { callee := Callee.value (Operand.func 14), args := #[Operand.tmp 31], argTypes := #[22] }, type := 30, pos := "law.go:118", after := #[{ on := 0, ground := Ground.data }], guard := none }) rfl (by rfl) (fun K hK => ?_) ?_
              · skip
                go_simp
                go_wp2_with ((go_at_call 14; (with_reducible refine (HT3.out _ HB0.out).mono ?_); rintro e w7 ⟨rfl, hb⟩; (try have HN := Lib.hid (HN.out.keep hb)); have HB0 := Lib.hid (below_next HB0.out hb); clear hb))
                refine wpAny_ready (rs := [4]) (by kernel_rfl) (by simp) ?_
                refine Go.BigFrame.allReady_want (o := { dst := some 35, op := Op.call { callee := Callee.builtin Builtin.append, args := #[Operand.tmp 33, Operand.tmp 34], argTypes := #[34, 34] }, type := 34, pos := "law.go:118", after := #[{ on := 2, ground := Ground.data }, { on := 3, ground := Ground.data }, { on := 1, ground := Ground.chain }], guard := none }) rfl (by rfl) (fun K hK => ?_) ?_
                · skip
                  ((refine wp_buf' rfl _ _ rfl _ [] rfl HN.out _ _ tA rfl (HRA.out _ HB0.out) HL1.out ?_; intro v1 w5 hn; have HN : Hid (New w3 w5 v1 tA) := hn; have HB0 := Lib.hid hn.2.1; clear hn))
                  refine hK _ _ ?_
                  clear hK K
                  try simp only [Act.put, List.setIfInBounds_toArray, List.set_cons_zero, List.set_cons_succ]
                  refine wpAny_ready (rs := [6]) (by kernel_rfl) (by simp) ?_
                  refine Go.BigFrame.allReady_want (o := { dst := some 37, op := Op.call { callee := Callee.builtin Builtin.append, args := #[Operand.tmp 35, Operand.tmp 36], argTypes := #[34, 34] }, type := 34, pos := "law.go:118", after := #[{ on := 4, ground := Ground.data }, { on := 5, ground := Ground.data }, { on := 4, ground := Ground.chain }], guard := none }) rfl (by rfl) (fun K hK => ?_) ?_
                  · skip
                    ((refine wp_buf' rfl _ _ rfl _ tA rfl HN.out _ _ tB rfl (HRB.out _ HB0.out) HL2.out ?_; intro v2 w6 hn; have HN := Lib.hid hn; have HB0 := Lib.hid hn.2.1; have HR2 := Lib.hid (buf_rest' hn.1); clear hn))
                    refine hK _ _ ?_
                    clear hK K
                    try simp only [Act.put, List.setIfInBounds_toArray, List.set_cons_zero, List.set_cons_succ]
                    refine wpAny_ready (rs := [7]) (by kernel_rfl) (by simp) ?_
                    refine Go.BigFrame.allReady_want (o := { dst := some 38, op := Op.call { callee := Callee.value (Operand.func 22), args := #[Operand.const (Value.string { data := #[110, 111, 100, 101] }), Operand.tmp 37], argTypes := #[9, 34] }, type := 30, pos := "law.go:118", after := #[{ on := 6, ground := Ground.data }, { on := 6, ground := Ground.chain }], guard := none }) rfl (by rfl) (fun K hK => ?_) ?_
                    · skip
                      go_simp
                      go_wp2_with ((go_at_call 22; (with_reducible refine (HTG3.out _ _ _ _ (by decide) HL600.out HR2.out HB0.out HE.out).mono ?_); rintro e w8 ⟨rfl, hb⟩; have HB0 := Lib.hid (below_next HB0.out hb); clear hb))
                      refine wpAny_ready (rs := [8]) (by kernel_rfl) (by simp) ?_
                      refine Go.BigFrame.allReady_want (o := { dst := some 39, op := Op.binOp BinOp.eql 30 (Operand.tmp 32) (Operand.tmp 38) 30, type := 4, pos := "law.go:118", after := #[{ on := 1, ground := Ground.data }, { on := 7, ground := Ground.data }], guard := none }) rfl (by rfl) (fun K hK => ?_) ?_
                      · skip
                        ((refine wp_eq_dig _ _ rfl tC tC HLC.out HLC.out rfl rfl ?_; rw [beq_self_eq_true]))
                        refine hK _ _ ?_
                        clear hK K
                        try simp only [Act.put, List.setIfInBounds_toArray, List.set_cons_zero, List.set_cons_succ]
                        refine wpAny_take (i := 9) (oi := { dst := some 2, op := Op.assign (Operand.tmp 39), type := 4, pos := "law.go:118", after := #[{ on := 8, ground := Ground.data }, { on := 7, ground := Ground.chain }, { on := 0, ground := Ground.phase }, { on := 1, ground := Ground.phase }, { on := 2, ground := Ground.phase }, { on := 3, ground := Ground.phase }, { on := 4, ground := Ground.phase }, { on := 5, ground := Ground.phase }, { on := 6, ground := Ground.phase }, { on := 7, ground := Ground.phase }, { on := 8, ground := Ground.phase }], guard := none }) (v := ?_) rfl (by kernel_rfl) (by kernel_rfl) (by kernel_rfl) (fun _ _ _ h => h) (Or.inl ⟨by rfl, ?_⟩) ?_
                        rotate_left
                        · (intro w; go_simp; with_reducible rfl)
                        try simp only [Act.put, List.setIfInBounds_toArray, List.set_cons_zero, List.set_cons_succ]
                        refine wpAny_done (by kernel_rfl) ?_ _
                        ((go_wp2_with fail; go_ret; exact ⟨rfl, below_next HB3.out HB0.out⟩))
                      exact AllReady.nil
                    exact AllReady.nil
                  exact AllReady.nil
                exact AllReady.nil
              exact AllReady.nil
            exact AllReady.nil
end Go.Proofs.YtbceimbcjijfgaaDoor.Dig
