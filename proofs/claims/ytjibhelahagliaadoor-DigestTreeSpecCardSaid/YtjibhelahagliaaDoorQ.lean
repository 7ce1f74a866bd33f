/- The digest of a list, and the path of an element: the program's functions. -/
import Derived.Test.YtjibhelahagliaaDoorP
import Derived.Test.YtjibhelahagliaaDoorO
namespace Go.Proofs.YtjibhelahagliaaDoor
open Go.RowKit

theorem leafD_eq (d : List UInt8) : leafD d = lf d := rfl
theorem nodeD_eq (a b : List UInt8) : nodeD a b = nd a b := rfl

theorem below_undrew {W w1 : World} (h : Below W.drew.heap.size W.drew w1) : Below W.heap.size W w1 := ⟨h.os, h.tape, h.output, h.size, h.block⟩
/-- what a call leaves: a digest, and nothing that was there has turned -/
def RetD (w : World) (d : List UInt8) (e : Ending) (w' : World) : Prop := e = .returned (dg d) ∧ Below w.heap.size w w'

set_option maxHeartbeats 4000000 in
set_option maxRecDepth 100000 in
theorem tree_call_0 (a : Option Addr) (cap : Nat) (w : World) (hT : Tab w) : Calls Tryd.prog 17 #[.slice a 0 cap] w (RetD w (tree [])) := by
  have HT := Lib.hid hT
  clear hT
  go_enter Tryd.func17, Tryd.ntmps17
  go_wp2_with fail
  refine (tagged_call emptyS [] _ _ (by decide) (by simp) (rest_nil _ _) (HT.out.keep (Joins.below_alloc1 w _))).mono ?_
  rintro e w2 ⟨rfl, hb2⟩
  have HB := Lib.hid (below_next (Joins.below_alloc1 w _) hb2)
  have HRow : Hid (Row w2 w.heap.size 26 zb) := row_zero rfl hb2
  clear hb2
  obtain ⟨res, hres⟩ : ∃ res, res = tree [] := ⟨_, rfl⟩
  rw [show tagged emptyS.data.toList [] = res from (by rw [hres, tree_0]; rfl)]
  have HLR : Hid (res.length = 32) := by rw [hres]; exact tree_len _
  have HRES := Lib.hid hres
  clear hres
  unfold dg
  go_wp2_with (refine wpList_store_row rfl 26 (.tmp 2) (.tmp 8) rfl w.heap.size (cellsOf res).toArray rfl rfl 26 zb.toArray HRow.out (by rw [size32 HLR.out]; exact info26) (by rw [size32 HLR.out]; rfl) (cellsOf_one _) ?_)
  exact bodyPost_ret (results_cell_row rfl _ _ w.heap.size 26 (cellsOf res).toArray (0, 0) _ rfl (HRow.out.setRow _) Tryd.underlying26 rfl (size32' HLR.out)) rfl ⟨by rw [HRES.out]; rfl, below_setRow HB.out _ _ (by omega)⟩

set_option maxHeartbeats 4000000 in
set_option maxRecDepth 100000 in
theorem tree_call_1 (d : List UInt8) (v : Value) (w : World) (hr : DRest w.heap.size w [d] v) (hT : Tab w) : Calls Tryd.prog 17 #[v] w (RetD w (tree [d])) := by
  have HT := Lib.hid hT
  have hd : d.length = 32 := hr.1 d (by simp)
  have HD := Lib.hid hd
  obtain ⟨b, off, cap, rfl, hcap, hcap2, hb, hc⟩ := hr.some (by simp)
  have HC : Hid (∀ j, j < 32 → (w.alloc (.cells z32 26)).cell? ⟨b, off + j, none⟩ = some (.int .u8 ((d.getD j 0).toNat : Int))) := fun j hj => by
    have h := hc 0 (by simp) j hj
    simp only [Nat.zero_mul, Nat.add_zero] at h
    exact ((Joins.below_alloc1 w (.cells z32 26)).cell (p := ⟨b, off + j, none⟩) hb).trans h
  clear hT hd hc hr
  simp only [List.length_cons, List.length_nil, Nat.zero_add] at hcap ⊢
  go_enter Tryd.func17, Tryd.ntmps17
  go_wp2_with (refine wpList_load_dig rfl (.tmp 12) rfl b off rfl d HD.out HC.out ?_)
  unfold dg
  go_wp2_with fail
  refine (leaf_call d HD.out _ (HT.out.keep (Joins.below_alloc1 w _))).mono ?_
  rintro e w2 ⟨rfl, hb2⟩
  have HB := Lib.hid (below_next (Joins.below_alloc1 w _) hb2)
  have HRow : Hid (Row w2 w.heap.size 26 zb) := row_zero rfl hb2
  clear hb2
  obtain ⟨res, hres⟩ : ∃ res, res = tree [d] := ⟨_, rfl⟩
  rw [show leafD d = res from (by rw [hres, tree_1 [d] rfl]; rfl)]
  have HLR : Hid (res.length = 32) := by rw [hres]; exact tree_len _
  have HRES := Lib.hid hres
  clear hres
  unfold dg
  go_wp2_with (refine wpList_store_row rfl 26 (.tmp 2) (.tmp 14) rfl w.heap.size (cellsOf res).toArray rfl rfl 26 zb.toArray HRow.out (by rw [size32 HLR.out]; exact info26) (by rw [size32 HLR.out]; rfl) (cellsOf_one _) ?_)
  exact bodyPost_ret (results_cell_row rfl _ _ w.heap.size 26 (cellsOf res).toArray (0, 0) _ rfl (HRow.out.setRow _) Tryd.underlying26 rfl (size32' HLR.out)) rfl ⟨by rw [HRES.out]; rfl, below_setRow HB.out _ _ (by omega)⟩
set_option maxHeartbeats 4000000 in
set_option maxRecDepth 100000 in
theorem tree_call_2 (ds : List (List UInt8)) (hn : 2 ≤ ds.length) (hn2 : ds.length ≤ 1073741824) (v : Value) (w : World) (hr : DRest w.heap.size w ds v) (hT : Tab w)
    (ih : ∀ (es : List (List UInt8)) (u : Value) (W : World), es.length < ds.length → DRest W.heap.size W es u → Tab W → Calls Tryd.prog 17 #[u] W (RetD W (tree es))) :
    Calls Tryd.prog 17 #[v] w (RetD w (tree ds)) := by
  have HT := Lib.hid hT
  have hdg := hr.1
  obtain ⟨b, off, cap, rfl, hcap, hcap2, hb, hc⟩ := hr.some (by omega)
  obtain ⟨n, hnn⟩ : ∃ n, n = ds.length := ⟨_, rfl⟩
  obtain ⟨k, hk⟩ : ∃ k, k = hf n := ⟨_, rfl⟩
  have hk1 : k < n := by rw [hk]; exact hf_lt (by omega)
  have hk2 : 0 < k := by rw [hk]; exact hf_pos (by omega)
  rw [← hnn] at hr hcap hn hn2 ih ⊢
  obtain ⟨W, hW⟩ : ∃ W, W = w.alloc (.cells z32 26) := ⟨_, rfl⟩
  have hWb : Below w.heap.size w W := by rw [hW]; exact Joins.below_alloc1 w _
  have HRow : Hid (Row W w.heap.size 26 zb) := by rw [hW]; exact row_new w 26 zb
  have HL : Hid (∀ W' : World, Below W.heap.size W W' → Calls Tryd.prog 17 #[.slice (some ⟨b, off, none⟩) k cap] W' (RetD W' (tree (ds.take k)))) := fun W' h => by
    have hb' := below_next hWb h
    have hp := drest_part (hr.keep hb') 0 k cap (by omega) (by omega) (Nat.le_refl _)
    rw [List.drop_zero, Nat.zero_mul, Nat.add_zero] at hp
    exact ih _ _ W' (by rw [List.length_take]; omega) hp (HT.out.keep hb')
  have HR : Hid (∀ W' : World, Below W.heap.size W W' → Calls Tryd.prog 17 #[.slice (some ⟨b, off + k * 32, none⟩) (n - k) (cap - k)] W' (RetD W' (tree (ds.drop k)))) := fun W' h => by
    have hb' := below_next hWb h
    have hp := drest_part (hr.keep hb') k (n - k) (cap - k) (by omega) (by omega) (by omega)
    rw [List.take_of_length_le (by rw [List.length_drop]; omega)] at hp
    exact ih _ _ W' (by rw [List.length_drop]; omega) hp (HT.out.keep hb')
  have HN : Hid (∀ W' : World, Below W.heap.size W W' → Calls Tryd.prog 37 #[dg (tree (ds.take k)), dg (tree (ds.drop k))] W' (RetD W' (tree ds))) := fun W' h => by
    rw [tree_2 ds (by omega), ← hnn, ← hk]
    exact node_call _ _ (tree_len _) (tree_len _) W' (HT.out.keep (below_next hWb h))
  have HWB := Lib.hid hWb
  have HF : Hid (∀ W' : World, Calls Tryd.prog 36 #[.int .i64 (n : Int)] W' fun e w' => e = .returned (.int .i64 (k : Int)) ∧ W' = w') := fun W' => by rw [hk]; exact first_call n W' hn (by omega)
  have HTL : Hid ((tree ds).length = 32) := tree_len ds
  obtain ⟨tA, htA⟩ : ∃ tA, tA = tree (ds.take k) := ⟨_, rfl⟩
  obtain ⟨tB, htB⟩ : ∃ tB, tB = tree (ds.drop k) := ⟨_, rfl⟩
  obtain ⟨tC, htC⟩ : ∃ tC, tC = tree ds := ⟨_, rfl⟩
  rw [← htA] at HL HN
  rw [← htB] at HR HN
  rw [← htC] at HN HTL ⊢
  have hne : ¬ cap = k := by omega
  have hn0 : ¬ ((n : Int) = 0) := by omega
  have hn1 : ¬ ((n : Int) = 1) := by omega
  have HW := Lib.hid hW
  clear ih hr hT hc hdg hWb hW hnn hk htA htB htC
  go_enter Tryd.func17, Tryd.ntmps17
  go_wp2_with (go_at_call 36; refine (HF.out _).mono ?_; rintro e w' ⟨rfl, rfl⟩)
  rw [← HW.out]
  have hkc : k ≤ cap := by omega
  have hkn : k ≤ n := by omega
  have hnc : n ≤ cap := hcap
  go_region_with (first
    | (go_at_call 17; (with_reducible refine (HL.out _ ((Below.refl _ W).drew)).mono ?_); clear HL; rintro e w1 ⟨rfl, hb1⟩; have HB1 := Lib.hid (below_undrew hb1); clear hb1)
    | (go_at_call 17; (with_reducible refine (HR.out _ HB1.out).mono ?_); clear HR; rintro e w2 ⟨rfl, hb2⟩; have HB2 := Lib.hid (below_next HB1.out hb2); clear hb2)
    | (go_at_call 37; (with_reducible refine (HN.out _ HB2.out).mono ?_); rintro e w3 ⟨rfl, hb3⟩; have HB3 := Lib.hid (below_next HB2.out hb3); clear hb3; have HRow3 : Hid (Row w3 w.heap.size 26 zb) := HRow.out.keep HB3.out; have hst := run_store32 HRow3.out HTL.out; have hcl : (cellsOf tC).length = 32 := (by rw [cellsOf_len, HTL.out]); unfold dg))
  all_goals
    clear hst hcl
    go_wp2_with fail
    exact bodyPost_ret (results_cell_row rfl _ _ w.heap.size 26 (cellsOf tC).toArray (0, 0) _ rfl (HRow3.out.setRow _) Tryd.underlying26 rfl (size32' HTL.out)) rfl ⟨rfl, below_setRow (below_next HWB.out HB3.out) _ _ (by omega)⟩

theorem tree_call (ds : List (List UInt8)) (hn : ds.length ≤ 1073741824) (v : Value) (w : World) (hr : DRest w.heap.size w ds v) (hT : Tab w) : Calls Tryd.prog 17 #[v] w (RetD w (tree ds)) := by
  obtain ⟨n, hnn⟩ : ∃ n, n = ds.length := ⟨_, rfl⟩
  induction n using Nat.strongRecOn generalizing ds v w with
  | ind n ih =>
    by_cases h2 : 2 ≤ ds.length
    · exact tree_call_2 ds h2 hn v w hr hT fun es u W he hre hTe => ih es.length (by omega) es (by omega) u W hre hTe rfl
    · match ds, hr, h2 with
      | [], hr, _ =>
        obtain ⟨_, a, cap, rfl, _⟩ := hr
        exact tree_call_0 a cap w hT
      | [d], hr, _ => exact tree_call_1 d v w hr hT
      | _ :: _ :: _, _, h2 => exact absurd h2 (by simp)
end Go.Proofs.YtjibhelahagliaaDoor
