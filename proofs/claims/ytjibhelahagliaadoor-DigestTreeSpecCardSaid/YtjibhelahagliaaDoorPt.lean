/- The path of an element: the reference's functions. -/
import Derived.Test.YtjibhelahagliaaDoorRv
import Derived.Test.YtjibhelahagliaaDoorU
import Derived.Test.YtjibhelahagliaaDoorZ
import Derived.Deep.RegionLaw
import Derived.Deep.RegionHeld
import Derived.BigRegion
namespace Go.Proofs.YtjibhelahagliaaDoor
open Go.RowKit

theorem refpath_1 (l : List (List UInt8)) (h : l.length = 1) (k : Nat) (v : Value) (w : World) (hr : DRest w.heap.size w l v) :
    Calls Tryd.prog 41 #[v, .int .i64 (k : Int)] w (RetL w (path l k)) := by
  obtain ⟨a, cap, rfl⟩ : ∃ a cap, v = .slice a l.length cap := by obtain ⟨_, a, cap, h, _⟩ := hr; exact ⟨a, cap, h⟩
  rw [h, path_1 l k (by omega)]
  go_enter Tryd.func41, Tryd.ntmps41
  go_wp2
  exact bodyPost_ret (results_tmp (p := 4) rfl _ _ (.slice (some ⟨w.heap.size, 0, none⟩) 0 0) rfl) rfl ⟨_, rfl, dnew_none w⟩

set_option maxHeartbeats 1000000 in
set_option maxRecDepth 100000 in
theorem refpath_l (ds : List (List UInt8)) (n q k : Nat) (hnn : ds.length = n) (hn : 2 ≤ n) (hn2 : n ≤ 1073741824) (hq : q = hf n) (hk : k < q) (v : Value) (w : World) (hr : DRest w.heap.size w ds v) (hT : Tab w) (hs : (path (ds.take q) k).length ≤ 1099511627776)
    (ih : ∀ (u : Value) (W : World), DRest W.heap.size W (ds.take q) u → Tab W → Calls Tryd.prog 41 #[u, .int .i64 (k : Int)] W (RetL W (path (ds.take q) k))) :
    Calls Tryd.prog 41 #[v, .int .i64 (k : Int)] w (RetL w (path (ds.take q) k ++ [tree (ds.drop q)])) := by
  have HT := Lib.hid hT
  obtain ⟨b, off, cap, rfl, hcap, hcap2, hb, hc⟩ := hr.some (by omega)
  have hq1 : q < n := by rw [hq]; exact hf_lt hn
  have hq0 : 0 < q := by rw [hq]; exact hf_pos hn
  have HL : Hid (∀ W' : World, Below w.heap.size w W' → Calls Tryd.prog 41 #[.slice (some ⟨b, off, none⟩) q cap, .int .i64 (k : Int)] W' (RetL W' (path (ds.take q) k))) := fun W' h => by
    have hp := drest_part (hr.keep h) 0 q cap (by omega) (by omega) (Nat.le_refl _)
    rw [List.drop_zero, Nat.zero_mul, Nat.add_zero] at hp
    exact ih _ W' hp (HT.out.keep h)
  have HR : Hid (∀ W' : World, Below w.heap.size w W' → Calls Tryd.prog 18 #[.slice (some ⟨b, off + q * 32, none⟩) (n - q) (cap - q)] W' (RetD W' (tree (ds.drop q)))) := fun W' h => by
    have hp := drest_part (hr.keep h) q (n - q) (cap - q) (by omega) (by omega) (by omega)
    rw [List.take_of_length_le (by rw [List.length_drop]; omega)] at hp
    exact reftree_call _ (by rw [List.length_drop]; omega) _ W' hp
  obtain ⟨pA, hpA⟩ : ∃ pA, pA = path (ds.take q) k := ⟨_, rfl⟩
  obtain ⟨tB, htB⟩ : ∃ tB, tB = tree (ds.drop q) := ⟨_, rfl⟩
  rw [← hpA] at HL hs ⊢
  rw [← htB] at HR ⊢
  have HLB : Hid (tB.length = 32) := by rw [htB]; exact tree_len _
  have HS := Lib.hid hs
  have HF : Hid (∀ W' : World, Calls Tryd.prog 38 #[.int .i64 (n : Int)] W' fun e w' => e = .returned (.int .i64 (q : Int)) ∧ W' = w') := fun W' => by rw [hq]; exact half_call n W' hn (by omega)
  have hne : ¬ cap = q := by omega
  have hn1 : ¬ ((n : Int) = 1) := by omega
  rw [hnn] at hcap ⊢
  have hkc : q ≤ cap := by omega
  have hkn : q ≤ n := by omega
  clear ih hr hT hc hpA htB hq hs hnn
  go_enter Tryd.func41, Tryd.ntmps41
  go_wp2_with (go_at_call 38; refine (HF.out _).mono ?_; rintro e w' ⟨rfl, rfl⟩)
  refine wp_region_any (by kernel_rfl) ?_
  try (change wpAny _ _ _ _ _ _ _ (World.drew _))
  (skip)
  refine wpAny_take (i := 0) (oi := { dst := some 16, op := Op.move (Operand.tmp 0), type := 30, pos := "ref.go:114", after := #[], guard := none }) (v := ?_) rfl (by kernel_rfl) (by kernel_rfl) (by kernel_rfl) (fun _ _ _ h => h) (Or.inl ⟨by rfl, ?_⟩) ?_
  rotate_left
  · (intro w; go_simp; with_reducible rfl)
  try simp only [Act.put, List.setIfInBounds_toArray, List.set_cons_zero, List.set_cons_succ]
  refine wpAny_take (i := 1) (oi := { dst := some 17, op := Op.move (Operand.tmp 5), type := 3, pos := "ref.go:114", after := #[], guard := none }) (v := ?_) rfl (by kernel_rfl) (by kernel_rfl) (by kernel_rfl) (fun _ _ _ h => h) (Or.inl ⟨by rfl, ?_⟩) ?_
  rotate_left
  · (intro w; go_simp; with_reducible rfl)
  try simp only [Act.put, List.setIfInBounds_toArray, List.set_cons_zero, List.set_cons_succ]
  refine wpAny_take (i := 2) (oi := { dst := some 18, op := Op.slice 30 (Operand.tmp 16) none (some (Operand.tmp 17)) none, type := 30, pos := "ref.go:114", after := #[{ on := 0, ground := Ground.data }, { on := 1, ground := Ground.data }], guard := none }) (v := ?_) rfl (by kernel_rfl) (by kernel_rfl) (by kernel_rfl) (fun _ _ _ h => h) (Or.inl ⟨by rfl, ?_⟩) ?_
  rotate_left
  · (intro w; go_simp; with_reducible rfl)
  try simp only [Act.put, List.setIfInBounds_toArray, List.set_cons_zero, List.set_cons_succ]
  refine wpAny_take (i := 3) (oi := { dst := some 19, op := Op.move (Operand.tmp 1), type := 3, pos := "ref.go:114", after := #[], guard := none }) (v := ?_) rfl (by kernel_rfl) (by kernel_rfl) (by kernel_rfl) (fun _ _ _ h => h) (Or.inl ⟨by rfl, ?_⟩) ?_
  rotate_left
  · (intro w; go_simp; with_reducible rfl)
  try simp only [Act.put, List.setIfInBounds_toArray, List.set_cons_zero, List.set_cons_succ]
  refine wpAny_take (i := 5) (oi := { dst := some 21, op := Op.move (Operand.tmp 0), type := 30, pos := "ref.go:114", after := #[], guard := none }) (v := ?_) rfl (by kernel_rfl) (by kernel_rfl) (by kernel_rfl) (fun _ _ _ h => h) (Or.inl ⟨by rfl, ?_⟩) ?_
  rotate_left
  · (intro w; go_simp; with_reducible rfl)
  try simp only [Act.put, List.setIfInBounds_toArray, List.set_cons_zero, List.set_cons_succ]
  refine wpAny_take (i := 6) (oi := { dst := some 22, op := Op.move (Operand.tmp 5), type := 3, pos := "ref.go:114", after := #[], guard := none }) (v := ?_) rfl (by kernel_rfl) (by kernel_rfl) (by kernel_rfl) (fun _ _ _ h => h) (Or.inl ⟨by rfl, ?_⟩) ?_
  rotate_left
  · (intro w; go_simp; with_reducible rfl)
  try simp only [Act.put, List.setIfInBounds_toArray, List.set_cons_zero, List.set_cons_succ]
  refine wpAny_take (i := 7) (oi := { dst := some 23, op := Op.slice 30 (Operand.tmp 21) (some (Operand.tmp 22)) none none, type := 30, pos := "ref.go:114", after := #[{ on := 5, ground := Ground.data }, { on := 6, ground := Ground.data }], guard := none }) (v := ?_) rfl (by kernel_rfl) (by kernel_rfl) (by kernel_rfl) (fun _ _ _ h => h) (Or.inl ⟨by rfl, ?_⟩) ?_
  rotate_left
  · (intro w; go_simp; with_reducible rfl)
  try simp only [Act.put, List.setIfInBounds_toArray, List.set_cons_zero, List.set_cons_succ]
  refine wpAny_ready (rs := [4]) (by kernel_rfl) (by simp) ?_
  refine Go.BigFrame.allReady_want (o := { dst := some 20, op := Op.call { callee := Callee.value (Operand.func 41), args := #[Operand.tmp 18, Operand.tmp 19], argTypes := #[30, 3] }, type := 30, pos := "ref.go:114", after := #[{ on := 2, ground := Ground.data }, { on := 3, ground := Ground.data }], guard := none }) rfl (by rfl) (fun K hK => ?_) ?_
  · skip
    go_simp
    go_wp2_with ((go_at_call 41; (with_reducible refine (HL.out _ ((Below.refl _ w).drew)).mono ?_); clear HL; rintro e w1 ⟨u1, rfl, hn1'⟩; have HN1 := Lib.hid hn1'.undrew; have HB1 : Hid (Below w.heap.size w w1) := hn1'.undrew.2.1; clear hn1'))
    refine wpAny_ready (rs := [8]) (by kernel_rfl) (by simp) ?_
    refine Go.BigFrame.allReady_want (o := { dst := some 24, op := Op.call { callee := Callee.value (Operand.func 18), args := #[Operand.tmp 23], argTypes := #[30] }, type := 26, pos := "ref.go:114", after := #[{ on := 7, ground := Ground.data }, { on := 4, ground := Ground.chain }], guard := none }) rfl (by rfl) (fun K hK => ?_) ?_
    · skip
      go_simp
      go_wp2_with ((go_at_call 18; (with_reducible refine (HR.out _ HB1.out).mono ?_); clear HR; rintro e w2 ⟨rfl, hb2⟩; have HN2 := Lib.hid (HN1.out.keep hb2); clear hb2))
      refine wpAny_ready (rs := [9]) (by kernel_rfl) (by simp) ?_
      refine Go.BigFrame.allReady_want (o := { dst := some 25, op := Op.buildSlice 30 1 #[(0, Operand.tmp 24)], type := 30, pos := "ref.go:114", after := #[{ on := 8, ground := Ground.data }], guard := none }) rfl (by rfl) (fun K hK => ?_) ?_
      · skip
        ((refine wp_build_one _ rfl tB HLB.out rfl ?_; have HA : Hid (DNew w (w2.alloc (.cells (cellsOf tB).toArray 26)) u1 pA) := HN2.out.keep (Joins.below_alloc1 w2 _); have HRB : Hid (Row (w2.alloc (.cells (cellsOf tB).toArray 26)) w2.heap.size 26 (cellsOf tB)) := row_new w2 26 _))
        refine hK _ _ ?_
        clear hK K
        try simp only [Act.put, List.setIfInBounds_toArray, List.set_cons_zero, List.set_cons_succ]
        refine wpAny_ready (rs := [10]) (by kernel_rfl) (by simp) ?_
        refine Go.BigFrame.allReady_want (o := { dst := some 26, op := Op.call { callee := Callee.builtin Builtin.append, args := #[Operand.tmp 20, Operand.tmp 25], argTypes := #[30, 30] }, type := 30, pos := "ref.go:114", after := #[{ on := 4, ground := Ground.data }, { on := 9, ground := Ground.data }, { on := 8, ground := Ground.chain }], guard := none }) rfl (by rfl) (fun K hK => ?_) ?_
        · skip
          ((refine wp_append_dig rfl _ _ rfl u1 pA rfl HA.out.1 w2.heap.size tB HLB.out rfl HRB.out HS.out ?_; intro v' w4 hb4 hw4; have HN4 := Lib.hid (HA.out.app hb4 hw4); clear hb4 hw4))
          refine hK _ _ ?_
          clear hK K
          try simp only [Act.put, List.setIfInBounds_toArray, List.set_cons_zero, List.set_cons_succ]
          refine wpAny_take (i := 11) (oi := { dst := some 4, op := Op.assign (Operand.tmp 26), type := 30, pos := "ref.go:114", after := #[{ on := 10, ground := Ground.data }, { on := 10, ground := Ground.chain }, { on := 0, ground := Ground.phase }, { on := 1, ground := Ground.phase }, { on := 2, ground := Ground.phase }, { on := 3, ground := Ground.phase }, { on := 4, ground := Ground.phase }, { on := 5, ground := Ground.phase }, { on := 6, ground := Ground.phase }, { on := 7, ground := Ground.phase }, { on := 8, ground := Ground.phase }, { on := 9, ground := Ground.phase }, { on := 10, ground := Ground.phase }], guard := none }) (v := ?_) rfl (by kernel_rfl) (by kernel_rfl) (by kernel_rfl) (fun _ _ _ h => h) (Or.inl ⟨by rfl, ?_⟩) ?_
          rotate_left
          · (intro w; go_simp; with_reducible rfl)
          try simp only [Act.put, List.setIfInBounds_toArray, List.set_cons_zero, List.set_cons_succ]
          refine wpAny_done (by kernel_rfl) ?_ _
          ((go_wp2_with fail; exact bodyPost_ret (results_tmp (p := 4) rfl _ _ v' rfl) rfl ⟨_, rfl, HN4.out⟩))
        exact AllReady.nil
      exact AllReady.nil
    exact AllReady.nil
  exact AllReady.nil
set_option maxHeartbeats 1000000 in
set_option maxRecDepth 100000 in
theorem refpath_r (ds : List (List UInt8)) (n q k : Nat) (hnn : ds.length = n) (hn : 2 ≤ n) (hn2 : n ≤ 1073741824) (hq : q = hf n) (hkn : k < n) (hk : q ≤ k) (v : Value) (w : World) (hr : DRest w.heap.size w ds v) (hT : Tab w) (hs : (path (ds.drop q) (k - q)).length ≤ 1099511627776)
    (ih : ∀ (u : Value) (W : World), DRest W.heap.size W (ds.drop q) u → Tab W → Calls Tryd.prog 41 #[u, .int .i64 ((k - q : Nat) : Int)] W (RetL W (path (ds.drop q) (k - q)))) :
    Calls Tryd.prog 41 #[v, .int .i64 (k : Int)] w (RetL w (path (ds.drop q) (k - q) ++ [tree (ds.take q)])) := by
  obtain ⟨kk, hkk⟩ : ∃ kk, kk = k - q := ⟨_, rfl⟩
  rw [← hkk] at ih hs ⊢
  have HT := Lib.hid hT
  obtain ⟨b, off, cap, rfl, hcap, hcap2, hb, hc⟩ := hr.some (by omega)
  have hq1 : q < n := by rw [hq]; exact hf_lt hn
  have hq0 : 0 < q := by rw [hq]; exact hf_pos hn
  have HL : Hid (∀ W' : World, Below w.heap.size w W' → Calls Tryd.prog 41 #[.slice (some ⟨b, off + q * 32, none⟩) (n - q) (cap - q), .int .i64 (kk : Int)] W' (RetL W' (path (ds.drop q) kk))) := fun W' h => by
    have hp := drest_part (hr.keep h) q (n - q) (cap - q) (by omega) (by omega) (by omega)
    rw [List.take_of_length_le (by rw [List.length_drop]; omega)] at hp
    exact ih _ W' hp (HT.out.keep h)
  have HR : Hid (∀ W' : World, Below w.heap.size w W' → Calls Tryd.prog 18 #[.slice (some ⟨b, off, none⟩) q cap] W' (RetD W' (tree (ds.take q)))) := fun W' h => by
    have hp := drest_part (hr.keep h) 0 q cap (by omega) (by omega) (Nat.le_refl _)
    rw [List.drop_zero, Nat.zero_mul, Nat.add_zero] at hp
    exact reftree_call _ (by rw [List.length_take]; omega) _ W' hp
  obtain ⟨pA, hpA⟩ : ∃ pA, pA = path (ds.drop q) kk := ⟨_, rfl⟩
  obtain ⟨tB, htB⟩ : ∃ tB, tB = tree (ds.take q) := ⟨_, rfl⟩
  rw [← hpA] at HL hs ⊢
  rw [← htB] at HR ⊢
  have HLB : Hid (tB.length = 32) := by rw [htB]; exact tree_len _
  have HS := Lib.hid hs
  have HF : Hid (∀ W' : World, Calls Tryd.prog 38 #[.int .i64 (n : Int)] W' fun e w' => e = .returned (.int .i64 (q : Int)) ∧ W' = w') := fun W' => by rw [hq]; exact half_call n W' hn (by omega)
  have hne : ¬ cap = q := by omega
  have hn1 : ¬ ((n : Int) = 1) := by omega
  rw [hnn] at hcap ⊢
  have hwk : IntKind.i64.wrap ((k : Int) - (q : Int)) = (kk : Int) := by rw [IntKind.wrap_i64]; omega
  have hnlt : ¬ ((k : Int) < (q : Int)) := by omega
  have hkc : q ≤ cap := by omega
  have hkn : q ≤ n := by omega
  clear ih hr hT hc hpA htB hq hs hnn hkk
  go_enter Tryd.func41, Tryd.ntmps41
  go_wp2_with (go_at_call 38; refine (HF.out _).mono ?_; rintro e w' ⟨rfl, rfl⟩)
  refine wp_region_any (by kernel_rfl) ?_
  try (change wpAny _ _ _ _ _ _ _ (World.drew _))
  (skip)
  refine wpAny_take (i := 0) (oi := { dst := some 27, op := Op.move (Operand.tmp 0), type := 30, pos := "ref.go:116", after := #[], guard := none }) (v := ?_) rfl (by kernel_rfl) (by kernel_rfl) (by kernel_rfl) (fun _ _ _ h => h) (Or.inl ⟨by rfl, ?_⟩) ?_
  rotate_left
  · (intro w; go_simp; with_reducible rfl)
  try simp only [Act.put, List.setIfInBounds_toArray, List.set_cons_zero, List.set_cons_succ]
  refine wpAny_take (i := 1) (oi := { dst := some 28, op := Op.move (Operand.tmp 5), type := 3, pos := "ref.go:116", after := #[], guard := none }) (v := ?_) rfl (by kernel_rfl) (by kernel_rfl) (by kernel_rfl) (fun _ _ _ h => h) (Or.inl ⟨by rfl, ?_⟩) ?_
  rotate_left
  · (intro w; go_simp; with_reducible rfl)
  try simp only [Act.put, List.setIfInBounds_toArray, List.set_cons_zero, List.set_cons_succ]
  refine wpAny_take (i := 2) (oi := { dst := some 29, op := Op.slice 30 (Operand.tmp 27) (some (Operand.tmp 28)) none none, type := 30, pos := "ref.go:116", after := #[{ on := 0, ground := Ground.data }, { on := 1, ground := Ground.data }], guard := none }) (v := ?_) rfl (by kernel_rfl) (by kernel_rfl) (by kernel_rfl) (fun _ _ _ h => h) (Or.inl ⟨by rfl, ?_⟩) ?_
  rotate_left
  · (intro w; go_simp; with_reducible rfl)
  try simp only [Act.put, List.setIfInBounds_toArray, List.set_cons_zero, List.set_cons_succ]
  refine wpAny_take (i := 3) (oi := { dst := some 30, op := Op.move (Operand.tmp 1), type := 3, pos := "ref.go:116", after := #[], guard := none }) (v := ?_) rfl (by kernel_rfl) (by kernel_rfl) (by kernel_rfl) (fun _ _ _ h => h) (Or.inl ⟨by rfl, ?_⟩) ?_
  rotate_left
  · (intro w; go_simp; with_reducible rfl)
  try simp only [Act.put, List.setIfInBounds_toArray, List.set_cons_zero, List.set_cons_succ]
  refine wpAny_take (i := 4) (oi := { dst := some 31, op := Op.move (Operand.tmp 5), type := 3, pos := "ref.go:116", after := #[], guard := none }) (v := ?_) rfl (by kernel_rfl) (by kernel_rfl) (by kernel_rfl) (fun _ _ _ h => h) (Or.inl ⟨by rfl, ?_⟩) ?_
  rotate_left
  · (intro w; go_simp; with_reducible rfl)
  try simp only [Act.put, List.setIfInBounds_toArray, List.set_cons_zero, List.set_cons_succ]
  refine wpAny_take (i := 5) (oi := { dst := some 32, op := Op.binOp BinOp.sub 3 (Operand.tmp 30) (Operand.tmp 31) 3, type := 3, pos := "ref.go:116", after := #[{ on := 3, ground := Ground.data }, { on := 4, ground := Ground.data }], guard := none }) (v := ?_) rfl (by kernel_rfl) (by kernel_rfl) (by kernel_rfl) (fun _ _ _ h => h) (Or.inl ⟨by rfl, ?_⟩) ?_
  rotate_left
  · (intro w; go_simp; with_reducible rfl)
  try simp only [Act.put, List.setIfInBounds_toArray, List.set_cons_zero, List.set_cons_succ]
  refine wpAny_take (i := 7) (oi := { dst := some 34, op := Op.move (Operand.tmp 0), type := 30, pos := "ref.go:116", after := #[], guard := none }) (v := ?_) rfl (by kernel_rfl) (by kernel_rfl) (by kernel_rfl) (fun _ _ _ h => h) (Or.inl ⟨by rfl, ?_⟩) ?_
  rotate_left
  · (intro w; go_simp; with_reducible rfl)
  try simp only [Act.put, List.setIfInBounds_toArray, List.set_cons_zero, List.set_cons_succ]
  refine wpAny_take (i := 8) (oi := { dst := some 35, op := Op.move (Operand.tmp 5), type := 3, pos := "ref.go:116", after := #[], guard := none }) (v := ?_) rfl (by kernel_rfl) (by kernel_rfl) (by kernel_rfl) (fun _ _ _ h => h) (Or.inl ⟨by rfl, ?_⟩) ?_
  rotate_left
  · (intro w; go_simp; with_reducible rfl)
  try simp only [Act.put, List.setIfInBounds_toArray, List.set_cons_zero, List.set_cons_succ]
  refine wpAny_take (i := 9) (oi := { dst := some 36, op := Op.slice 30 (Operand.tmp 34) none (some (Operand.tmp 35)) none, type := 30, pos := "ref.go:116", after := #[{ on := 7, ground := Ground.data }, { on := 8, ground := Ground.data }], guard := none }) (v := ?_) rfl (by kernel_rfl) (by kernel_rfl) (by kernel_rfl) (fun _ _ _ h => h) (Or.inl ⟨by rfl, ?_⟩) ?_
  rotate_left
  · (intro w; go_simp; with_reducible rfl)
  try simp only [Act.put, List.setIfInBounds_toArray, List.set_cons_zero, List.set_cons_succ]
  refine wpAny_ready (rs := [6]) (by kernel_rfl) (by simp) ?_
  refine Go.BigFrame.allReady_want (o := { dst := some 33, op := Op.call { callee := Callee.value (Operand.func 41), args := #[Operand.tmp 29, Operand.tmp 32], argTypes := #[30, 3] }, type := 30, pos := "ref.go:116", after := #[{ on := 2, ground := Ground.data }, { on := 5, ground := Ground.data }], guard := none }) rfl (by rfl) (fun K hK => ?_) ?_
  · skip
    go_simp
    go_wp2_with ((go_at_call 41; (with_reducible refine (HL.out _ ((Below.refl _ w).drew)).mono ?_); clear HL; rintro e w1 ⟨u1, rfl, hn1'⟩; have HN1 := Lib.hid hn1'.undrew; have HB1 : Hid (Below w.heap.size w w1) := hn1'.undrew.2.1; clear hn1'))
    refine wpAny_ready (rs := [10]) (by kernel_rfl) (by simp) ?_
    refine Go.BigFrame.allReady_want (o := { dst := some 37, op := Op.call { callee := Callee.value (Operand.func 18), args := #[Operand.tmp 36], argTypes := #[30] }, type := 26, pos := "ref.go:116", after := #[{ on := 9, ground := Ground.data }, { on := 6, ground := Ground.chain }], guard := none }) rfl (by rfl) (fun K hK => ?_) ?_
    · skip
      go_simp
      go_wp2_with ((go_at_call 18; (with_reducible refine (HR.out _ HB1.out).mono ?_); clear HR; rintro e w2 ⟨rfl, hb2⟩; have HN2 := Lib.hid (HN1.out.keep hb2); clear hb2))
      refine wpAny_ready (rs := [11]) (by kernel_rfl) (by simp) ?_
      refine Go.BigFrame.allReady_want (o := { dst := some 38, op := Op.buildSlice 30 1 #[(0, Operand.tmp 37)], type := 30, pos := "ref.go:116", after := #[{ on := 10, ground := Ground.data }], guard := none }) rfl (by rfl) (fun K hK => ?_) ?_
      · skip
        ((refine wp_build_one _ rfl tB HLB.out rfl ?_; have HA : Hid (DNew w (w2.alloc (.cells (cellsOf tB).toArray 26)) u1 pA) := HN2.out.keep (Joins.below_alloc1 w2 _); have HRB : Hid (Row (w2.alloc (.cells (cellsOf tB).toArray 26)) w2.heap.size 26 (cellsOf tB)) := row_new w2 26 _))
        refine hK _ _ ?_
        clear hK K
        try simp only [Act.put, List.setIfInBounds_toArray, List.set_cons_zero, List.set_cons_succ]
        refine wpAny_ready (rs := [12]) (by kernel_rfl) (by simp) ?_
        refine Go.BigFrame.allReady_want (o := { dst := some 39, op := Op.call { callee := Callee.builtin Builtin.append, args := #[Operand.tmp 33, Operand.tmp 38], argTypes := #[30, 30] }, type := 30, pos := "ref.go:116", after := #[{ on := 6, ground := Ground.data }, { on := 11, ground := Ground.data }, { on := 10, ground := Ground.chain }], guard := none }) rfl (by rfl) (fun K hK => ?_) ?_
        · skip
          ((refine wp_append_dig rfl _ _ rfl u1 pA rfl HA.out.1 w2.heap.size tB HLB.out rfl HRB.out HS.out ?_; intro v' w4 hb4 hw4; have HN4 := Lib.hid (HA.out.app hb4 hw4); clear hb4 hw4))
          refine hK _ _ ?_
          clear hK K
          try simp only [Act.put, List.setIfInBounds_toArray, List.set_cons_zero, List.set_cons_succ]
          refine wpAny_take (i := 13) (oi := { dst := some 4, op := Op.assign (Operand.tmp 39), type := 30, pos := "ref.go:116", after := #[{ on := 12, ground := Ground.data }, { on := 12, ground := Ground.chain }, { on := 0, ground := Ground.phase }, { on := 1, ground := Ground.phase }, { on := 2, ground := Ground.phase }, { on := 3, ground := Ground.phase }, { on := 4, ground := Ground.phase }, { on := 5, ground := Ground.phase }, { on := 6, ground := Ground.phase }, { on := 7, ground := Ground.phase }, { on := 8, ground := Ground.phase }, { on := 9, ground := Ground.phase }, { on := 10, ground := Ground.phase }, { on := 11, ground := Ground.phase }, { on := 12, ground := Ground.phase }], guard := none }) (v := ?_) rfl (by kernel_rfl) (by kernel_rfl) (by kernel_rfl) (fun _ _ _ h => h) (Or.inl ⟨by rfl, ?_⟩) ?_
          rotate_left
          · (intro w; go_simp; with_reducible rfl)
          try simp only [Act.put, List.setIfInBounds_toArray, List.set_cons_zero, List.set_cons_succ]
          refine wpAny_done (by kernel_rfl) ?_ _
          ((go_wp2_with fail; exact bodyPost_ret (results_tmp (p := 4) rfl _ _ v' rfl) rfl ⟨_, rfl, HN4.out⟩))
        exact AllReady.nil
      exact AllReady.nil
    exact AllReady.nil
  exact AllReady.nil

theorem refpath_call (n : Nat) : ∀ (ds : List (List UInt8)) (k : Nat) (v : Value) (w : World), ds.length = n → k < n → n ≤ 1073741824 → DRest w.heap.size w ds v → Tab w →
    Calls Tryd.prog 41 #[v, .int .i64 (k : Int)] w (RetL w (path ds k)) := by
  induction n using Nat.strongRecOn with
  | ind n ih =>
    intro ds k v w hl hk hn hr hT
    by_cases h1 : n ≤ 1
    · exact refpath_1 ds (by omega) k v w hr
    · have h2 := hf_lt (n := n) (by omega)
      have h3 := hf_pos (n := n) (by omega)
      by_cases hq : k < hf n
      · have hl2 : (ds.take (hf n)).length = hf n := by rw [List.length_take]; omega
        rw [path_l ds k (by omega) (by rw [hl]; exact hq), hl]
        refine refpath_l ds n (hf n) k hl (by omega) hn rfl hq v w hr hT ?_ fun u W hu hW => ih (hf n) h2 _ k u W hl2 hq (by omega) hu hW
        rw [path_len (hf n) _ k hl2]
        have := steps_le 40 k (hf n) (by omega)
        omega
      · have hl2 : (ds.drop (hf n)).length = n - hf n := by rw [List.length_drop]; omega
        rw [path_r ds k (by omega) (by rw [hl]; exact hq), hl]
        refine refpath_r ds n (hf n) k hl (by omega) hn rfl hk (by omega) v w hr hT ?_ fun u W hu hW => ih (n - hf n) (by omega) _ (k - hf n) u W hl2 (by omega) (by omega) hu hW
        rw [path_len (n - hf n) _ (k - hf n) hl2]
        have := steps_le 40 (k - hf n) (n - hf n) (by omega)
        omega

theorem refPath_ok (ds : List (List UInt8)) (k : Nat) (hk : k < ds.length) (hn : ds.length ≤ 1073741824) (v : Value) (w : World) (hr : DRest w.heap.size w ds v) (hT : Tab w) :
    Calls Tryd.prog 20 #[v, .int .i64 (k : Int)] w fun e w' => ∃ u, e = .returned (.tuple #[u, .int .i64 0]) ∧ DNew w w' u (path ds k) := by
  obtain ⟨a, cap, rfl⟩ : ∃ a cap, v = .slice a ds.length cap := by obtain ⟨_, a, cap, h, _⟩ := hr; exact ⟨a, cap, h⟩
  have HC := Lib.hid (refpath_call ds.length ds k _ w rfl hk hn hr hT)
  have h1 : ¬ ((k : Int) < 0) := by omega
  have h2 : ¬ ((k : Int) ≥ (ds.length : Int)) := by omega
  clear hr hT
  go_enter Tryd.func20, Tryd.ntmps20
  go_wp2_with (go_at_call 41; refine HC.out.mono ?_; rintro e w' ⟨u, rfl, hn1⟩)
  exact bodyPost_ret (results_tmps (p := 4) (q := 5) rfl _ _ u (.int .i64 0) rfl rfl) rfl ⟨_, rfl, hn1⟩

theorem refPath_no (n : Nat) (k : Int) (hno : k < 0 ∨ k ≥ n) (a : Option Addr) (cap : Nat) (w : World) :
    Calls Tryd.prog 20 #[.slice a n cap, .int .i64 k] w fun e w' => e = .returned (.tuple #[.slice none 0 0, .int .i64 1]) ∧ w = w' := by
  by_cases h1 : k < 0
  · clear hno
    go_enter Tryd.func20, Tryd.ntmps20
    go_wp2
    exact bodyPost_ret (results_tmps (p := 4) (q := 5) rfl _ _ (.slice none 0 0) (.int .i64 1) rfl rfl) rfl ⟨rfl, rfl⟩
  · have h2 : k ≥ (n : Int) := by omega
    clear hno
    go_enter Tryd.func20, Tryd.ntmps20
    go_wp2
    exact bodyPost_ret (results_tmps (p := 4) (q := 5) rfl _ _ (.slice none 0 0) (.int .i64 1) rfl rfl) rfl ⟨rfl, rfl⟩
end Go.Proofs.YtjibhelahagliaaDoor
