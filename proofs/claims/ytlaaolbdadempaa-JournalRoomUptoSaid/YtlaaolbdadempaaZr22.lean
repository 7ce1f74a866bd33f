/- The examples of the chapter: the law's function. -/
import Derived.Lib.SlBytesConst
import Derived.BigQuiet
import Derived.Test.YtlaaolbdadempaaZr21
import Derived.Test.YtlaaolbdadempaaZr17
namespace Go.Proofs.Ytlaaolbdadempaa
open Go.RowKit

theorem jbox_first {w w' : World} {o : Obj} (hb : Below ((w.alloc (.cells #[.slice none 0 0, .int .i64 0, .int .i64 0] 55)).alloc o).drew.heap.size ((w.alloc (.cells #[.slice none 0 0, .int .i64 0, .int .i64 0] 55)).alloc o).drew w') : Row w' w.heap.size 55 [.slice none 0 0, .int .i64 0, .int .i64 0] :=
  ((row_new w 55 [.slice none 0 0, .int .i64 0, .int .i64 0]).keep (Joins.below_alloc1 _ _)).keep (below_undrew hb)
theorem jbox_second {w w' : World} {o : Obj} (hb : Below ((w.alloc o).alloc (.cells #[.slice none 0 0, .int .i64 0, .int .i64 0] 55)).drew.heap.size ((w.alloc o).alloc (.cells #[.slice none 0 0, .int .i64 0, .int .i64 0] 55)).drew w') : Row w' (w.heap.size + 1) 55 [.slice none 0 0, .int .i64 0, .int .i64 0] := by
  have h := row_new (w.alloc o) 55 [.slice none 0 0, .int .i64 0, .int .i64 0]
  rw [World.size_alloc] at h
  exact h.keep (below_undrew hb)
theorem below3 {B : Nat} {w0 w : World} (h : Below B w0 w) (g : Nat) (a b c : Value) (hg : B ≤ g) : Below B w0 (((w.setCell ⟨g, 0, none⟩ a).setCell ⟨g, 1, none⟩ b).setCell ⟨g, 2, none⟩ c) :=
  below_setCell (below_setCell (below_setCell h _ 0 _ hg) _ 1 _ hg) _ 2 _ hg
theorem rest_lit {W W4 : World} (h : W4 = W.alloc (.cells #[.int .u8 97, .int .u8 98] 5 (2, 3))) : Rest W4.heap.size W4 [97, 98] (.slice (some ⟨W.heap.size, 0, none⟩) 2 2) := by
  have hrow : W4.heap[W.heap.size]? = some (.cells #[.int .u8 97, .int .u8 98] 5 (2, 3)) := by rw [h]; exact heap_alloc_new W _
  refine ⟨some ⟨W.heap.size, 0, none⟩, 2, rfl, by simp, by simp [maxLen], (fun h => by cases h), .inr ⟨W.heap.size, 0, rfl, (Array.getElem?_eq_some_iff.1 hrow).1, fun i hi => ?_⟩⟩
  rw [Nat.zero_add, cell_of_row W4 W.heap.size _ _ _ _ hrow]
  have hi2 : i = 0 ∨ i = 1 := by simp at hi; omega
  rcases hi2 with rfl | rfl <;> rfl
theorem cut5v {F : Value → Value → Option Addr → Nat → World → Prop} (G : Value → Value → Option Addr → Nat → World → Prop) {R : Prop} (rest : (∀ a b c d e, F a b c d e → G a b c d e) → R) (kk : ∀ a b c d e, F a b c d e → G a b c d e) : R := rest kk

set_option maxHeartbeats 8000000 in
set_option maxRecDepth 100000 in
theorem jsane_call (w : World) :
    Calls Try.prog 36 #[] w fun e w' => e = .returned (.bool true) ∧ Below w.heap.size w w' := by
  have HB := Lib.hid (Below.refl w.heap.size w)
  go_enter Try.func36, Try.ntmps36
  go_wp2_with fail
  refine (new_law 1 jnew1).mono ?_
  rintro e w1 ⟨s1, p1, l1, b1, rfl, hd, hb⟩
  replace HB := Lib.hid (below_next HB.out hb)
  have HD1 := Lib.hid hd
  clear hd hb
  unfold dv at *
  go_wp2_with (first
    | (refine wpList_store_ags rfl _ _ _ rfl w1.heap.size [s1, p1, .int .i64 l1, .bool b1] _ size25 (by rfl) rfl rfl (row_new w1 25 _) (one_all HD1.out) (Joins.below_alloc1 w1 _) (Nat.le_refl _) ?_; intro v1 hr hb _; replace HB := Lib.hid (below_next HB.out hb); have HX1 := Lib.hid (Box.new HD1.out hr hb); clear hr hb)
    | (refine wpList_load_dsk rfl _ rfl _ _ (by rfl) rfl HX1.out.row ?_))
  refine (open_law HX1.out.drest jop1).mono ?_
  rintro e w2 ⟨jv2, rfl, hn, hb⟩
  replace HB := Lib.hid (below_next HB.out hb)
  replace HX1 := Lib.hid (HX1.out.keep hb)
  have HN2 := Lib.hid hn
  obtain ⟨ja2, jc2, rfl⟩ := nrest_slice hn
  clear hn hb
  go_wp2_with (first
    | (refine wpList_store_ags rfl _ _ _ rfl w2.heap.size [.slice ja2 (([] : List (List UInt8))).length jc2, .int .i64 1, .int .i64 0] _ size55 (by rfl) rfl rfl (row_new w2 55 _) (one_alj HN2.out) (Joins.below_alloc1 w2 _) (Nat.le_refl _) ?_; intro v2 hr hb _; replace HB := Lib.hid (below_next HB.out hb); replace HX1 := Lib.hid (HX1.out.keep hb); have HJ2 := Lib.hid (JBox.new HN2.out hr hb); clear hr hb HN2))
  simp only [List.length_nil] at HJ2 ⊢
  obtain ⟨ZB, hZB⟩ : ∃ ZB, ZB = (cellsOf (List.replicate 113 0)).toArray := ⟨_, rfl⟩
  have HZB := Lib.hid hZB
  have HMK : Hid (∀ W : World, (Instr.makeSlice 35 (.int .i64 113) (.int .i64 113)).run Try.prog W = .ok (.slice (some ⟨W.heap.size, 0, none⟩) 113 113) (W.alloc (.cells ZB 5))) := Lib.hid (by rw [hZB]; exact mk_bytes 113 (by omega))
  clear hZB
  have c0 := HJ2.out.row.cell (i := 0) rfl
  have c1 := HJ2.out.row.cell (i := 1) rfl
  have c2 := HJ2.out.row.cell (i := 2) rfl
  have hmk := HMK.out
  have hlt2 := HJ2.out.lt
  have HWR : Hid (∀ (W : World) gz, Below v2.heap.size v2 W → W.heap[gz]? = some (.cells ZB 5 (0, 0)) → Calls Try.prog 41 #[.agg #[.slice ja2 0 jc2, .int .i64 1, .int .i64 0], .slice (some ⟨gz, 0, none⟩) 113 113] W (NewJ W [] 0 0 2)) :=
    Lib.hid (fun W gz hb hz => append_law (HJ2.out.keep hb).nrest (row_rest (g := gz) (xs := List.replicate 113 0) (n := 113) (by unfold Row; rw [hz, HZB.out]) (by simp) (by omega)) mild0 (by simp) jap1)
  refine' cut5v (F := fun _ _ _ _ W9 => Below v2.heap.size v2 W9) _ ?rest3 ?kk3
  case rest3 =>
    intro K
    go_region_law (go_simp; go_at_call 41; refine (HWR.out _ _ (by first | exact below_drew (Joins.below_alloc1 v2 _) | exact below_drew (below_two v2 _ _)) (by first | exact heap_alloc_new v2 _ | exact (Joins.below_alloc1 (v2.alloc (.cells ZB 5)) _).block v2.heap.size (by simp) |>.trans (heap_alloc_new v2 _) | (have h9 := heap_alloc_new (v2.alloc (.cells #[.slice none 0 0, .int .i64 0, .int .i64 0] 55)) (.cells ZB 5); rw [World.size_alloc] at h9; exact h9))).mono ?_; rintro e w5 ⟨v5, rfl, hn5, hb5⟩; obtain ⟨ja5, jc5, rfl⟩ := nrest_slice hn5; simp only [List.length_nil]; (first | (have r0 := jbox_first hb5; have q0 := r0.cell (i := 0) rfl; have q1 := r0.cell (i := 1) rfl; have q2 := r0.cell (i := 2) rfl; have k0 := r0.free 0; have k1 := r0.free 1; have k2 := r0.free 2) | (have r0 := jbox_second hb5; have q0 := r0.cell (i := 0) rfl; have q1 := r0.cell (i := 1) rfl; have q2 := r0.cell (i := 2) rfl; have k0 := r0.free 0; have k1 := r0.free 1; have k2 := r0.free 2) | skip))
    · have hF : Below v2.heap.size v2 (w5.alloc (.cells #[.slice ja5 0 jc5, .int .i64 0, .int .i64 0] 55)) := below_next ((Joins.below_alloc1 v2 _).trans ((below_undrew hb5).mono (by simp))) (Joins.below_alloc1 w5 _)
      generalize (Value.slice (some ⟨v2.heap.size, 0, none⟩) 113 113) = vz
      generalize (Value.pointer (some ⟨w5.heap.size, 0, none⟩)) = vp
      generalize w5.alloc (.cells #[.slice ja5 0 jc5, .int .i64 0, .int .i64 0] 55) = W9 at hF ⊢
      exact K vz vp ja5 jc5 W9 hF
    all_goals
      refine K _ _ _ _ _ ?_
      first
        | exact below_next ((Joins.below_alloc1 v2 _).trans ((below_undrew hb5).mono (by simp))) (Joins.below_alloc1 w5 _)
        | exact below3 ((Joins.below_alloc1 v2 _).trans ((below_undrew hb5).mono (by simp))) _ _ _ _ (by simp)
        | exact below3 ((below_two v2 _ _).trans ((below_undrew hb5).mono (by simp; omega))) _ _ _ _ (by simp)
  case kk3 =>
    intro vz3 vp3 ja3 jc3 W3 hF
    replace HB := Lib.hid (below_next HB.out hF)
    replace HX1 := Lib.hid (HX1.out.keep hF)
    replace HJ2 := Lib.hid (HJ2.out.keep hF)
    clear hF HMK HWR hmk c0 c1 c2 hlt2 HZB
    have hcv := fun (w : World) (C : Array Value) (n c : Nat) => Lib.run_convert_bytes_const (P := Try.prog) w 35 5 C n c Try.underlying35 Try.underlying5
    go_wp2_with (first
      | (refine wpList_load_jnl rfl _ rfl _ _ (by rfl) rfl HJ2.out.row ?_))
    obtain ⟨W4, hW4⟩ : ∃ W4, W4 = W3.alloc (.cells #[.int .u8 97, .int .u8 98] 5 (2, 3)) := ⟨_, rfl⟩
    have hb : Below W3.heap.size W3 W4 := by rw [hW4]; exact Joins.below_alloc1 W3 _
    have hrow := rest_lit hW4
    rw [← hW4]
    replace HB := Lib.hid (below_next HB.out hb)
    replace HX1 := Lib.hid (HX1.out.keep hb)
    replace HJ2 := Lib.hid (HJ2.out.keep hb)
    have HROW := Lib.hid hrow
    clear hW4 hb hrow hcv
    refine (append_law HJ2.out.nrest HROW.out mild0 (by simp) jap2).mono ?_
    rintro e w4 ⟨jv4, rfl, hn, hb⟩
    replace HB := Lib.hid (below_next HB.out hb)
    replace HX1 := Lib.hid (HX1.out.keep hb)
    replace HJ2 := Lib.hid (HJ2.out.keep hb)
    have HN4 := Lib.hid hn
    obtain ⟨ja4, jc4, rfl⟩ := nrest_slice hn
    clear hn hb
    go_wp2_with (first
      | (refine wpList_store_ags rfl _ _ _ rfl w4.heap.size [.slice ja4 (([[97, 98]] : List (List UInt8))).length jc4, .int .i64 1, .int .i64 0] _ size55 (by rfl) rfl rfl (row_new w4 55 _) (one_alj HN4.out) (Joins.below_alloc1 w4 _) (Nat.le_refl _) ?_; intro v4 hr hb _; replace HB := Lib.hid (below_next HB.out hb); replace HX1 := Lib.hid (HX1.out.keep hb); replace HJ2 := Lib.hid (HJ2.out.keep hb); have HJ4 := Lib.hid (JBox.new HN4.out hr hb); clear hr hb HN4)
      | (refine wpList_load_jnl rfl _ rfl _ _ (by rfl) rfl HJ4.out.row ?_)
      | (refine wpList_load_dsk rfl _ rfl _ _ (by rfl) rfl HX1.out.row ?_))
    refine (jsync_law HJ4.out.nrest mild1 HX1.out.drest jsy1).mono ?_
    rintro e w5 ⟨jv5, ds5, dp5, dl5, db5, rfl, hn, hd, hb⟩
    replace HB := Lib.hid (below_next HB.out hb)
    replace HX1 := Lib.hid (HX1.out.keep hb)
    replace HJ2 := Lib.hid (HJ2.out.keep hb)
    replace HJ4 := Lib.hid (HJ4.out.keep hb)
    have hb5 := hb
    have HN5 := Lib.hid hn
    have HD5 := Lib.hid hd
    obtain ⟨ja5, jc5, rfl⟩ := nrest_slice hn
    clear hn hd hb
    have rA := Lib.hid ((row_new w5 55 [.slice none 0 0, .int .i64 0, .int .i64 0]).keep (Joins.below_alloc1 _ (.cells #[.slice none 0 0, .slice none 0 0, .int .i64 0, .bool false] 25)))
    have rB := row_new (w5.alloc (.cells #[.slice none 0 0, .int .i64 0, .int .i64 0] 55)) 25 [.slice none 0 0, .slice none 0 0, .int .i64 0, .bool false]
    rw [World.size_alloc] at rB
    replace rB := Lib.hid rB
    have bAB := Lib.hid (below_two w5 (.cells #[.slice none 0 0, .int .i64 0, .int .i64 0] 55) (.cells #[.slice none 0 0, .slice none 0 0, .int .i64 0, .bool false] 25))
    go_wp2_with (first
      | (refine wpList_store_ags rfl 55 _ _ rfl w5.heap.size [.slice ja5 (([[97, 98]] : List (List UInt8))).length jc5, .int .i64 1, .int .i64 1] _ size55 (by rfl) rfl rfl rA.out (one_alj HN5.out) bAB.out (Nat.le_refl _) ?_; intro vA hr hb hf; have rA2 := Lib.hid hr; replace rB := Lib.hid (rB.out.same (hf _ (by omega))); replace bAB := Lib.hid hb; clear hr hb hf rA)
      | (refine wpList_store_ags rfl 25 _ _ rfl (w5.heap.size + 1) [ds5, dp5, .int .i64 dl5, .bool db5] _ size25 (by rfl) rfl rfl rB.out (one_all HD5.out) bAB.out (by omega) ?_; intro v5 hr hb hf; replace HB := Lib.hid (below_next HB.out hb); replace HX1 := Lib.hid (HX1.out.keep hb); replace HJ2 := Lib.hid (HJ2.out.keep hb); replace HJ4 := Lib.hid (HJ4.out.keep hb); have HJ5 := Lib.hid (JBox.mk (rA2.out.same (hf _ (by omega))) (HN5.out.stays hb)); have HX5 := Lib.hid (Box.mk hr ((HD5.out.stays hb).mono (Nat.le_succ _))); clear hr hb hf rA2 rB bAB HN5 HD5)
      | (refine wpList_load_dsk rfl _ rfl _ _ (by rfl) rfl HX5.out.row ?_))
    refine (open_law HX5.out.drest jop2).mono ?_
    rintro e w6 ⟨jv6, rfl, hn, hb⟩
    replace HB := Lib.hid (below_next HB.out hb)
    replace HX1 := Lib.hid (HX1.out.keep hb)
    replace HJ2 := Lib.hid (HJ2.out.keep hb)
    replace HJ4 := Lib.hid (HJ4.out.keep hb)
    replace HJ5 := Lib.hid (HJ5.out.keep hb)
    replace HX5 := Lib.hid (HX5.out.keep hb)
    have HN6 := Lib.hid hn
    obtain ⟨ja6, jc6, rfl⟩ := nrest_slice hn
    clear hn hb
    obtain ⟨eb6, eo6, eu6, rfl, hbl6, hru6, hcl6⟩ := HN6.out.at (k := 0) (x := [97, 98]) rfl
    obtain ⟨ua6, uc6, rfl, _, _⟩ := hru6.shape
    have HRU6 := Lib.hid hru6
    have HCL6 := Lib.hid hcl6
    have HB6 := Lib.hid (Below.refl w6.heap.size w6)
    clear hbl6 hru6 hcl6
    go_wp2_with (first
      | (refine wpList_store_ags rfl _ _ _ rfl w6.heap.size [.slice (some ⟨eb6, eo6, none⟩) (([[97, 98]] : List (List UInt8))).length jc6, .int .i64 1, .int .i64 1] _ size55 (by rfl) rfl rfl (row_new w6 55 _) (one_alj HN6.out) (Joins.below_alloc1 w6 _) (Nat.le_refl _) ?_; intro v6 hr hb _; replace HB := Lib.hid (below_next HB.out hb); replace HB6 := Lib.hid (below_next HB6.out hb); replace HX1 := Lib.hid (HX1.out.keep hb); replace HJ2 := Lib.hid (HJ2.out.keep hb); replace HJ4 := Lib.hid (HJ4.out.keep hb); replace HJ5 := Lib.hid (HJ5.out.keep hb); replace HX5 := Lib.hid (HX5.out.keep hb); have HJ6 := Lib.hid (JBox.new HN6.out hr hb); clear hr hb HN6)
      | (refine wpList_load_jnl rfl _ rfl _ _ (by rfl) rfl HJ4.out.row ?_)
      | (refine wpList_load_dsk rfl _ rfl _ _ (by rfl) rfl HX5.out.row ?_))
    refine (jsync_law HJ4.out.nrest mild1 HX5.out.drest jsy2).mono ?_
    rintro e w7 ⟨jv7, ds7, dp7, dl7, db7, rfl, hn, hd, hb⟩
    replace HB := Lib.hid (below_next HB.out hb)
    replace HX1 := Lib.hid (HX1.out.keep hb)
    replace HJ2 := Lib.hid (HJ2.out.keep hb)
    replace HJ4 := Lib.hid (HJ4.out.keep hb)
    replace HJ5 := Lib.hid (HJ5.out.keep hb)
    replace HX5 := Lib.hid (HX5.out.keep hb)
    replace HJ6 := Lib.hid (HJ6.out.keep hb)
    have hb7 := hb
    have HN7 := Lib.hid hn
    have HD7 := Lib.hid hd
    obtain ⟨ja7, jc7, rfl⟩ := nrest_slice hn
    clear hn hd hb
    have rA := Lib.hid ((row_new w7 55 [.slice none 0 0, .int .i64 0, .int .i64 0]).keep (Joins.below_alloc1 _ (.cells #[.slice none 0 0, .slice none 0 0, .int .i64 0, .bool false] 25)))
    have rB := row_new (w7.alloc (.cells #[.slice none 0 0, .int .i64 0, .int .i64 0] 55)) 25 [.slice none 0 0, .slice none 0 0, .int .i64 0, .bool false]
    rw [World.size_alloc] at rB
    replace rB := Lib.hid rB
    have bAB := Lib.hid (below_two w7 (.cells #[.slice none 0 0, .int .i64 0, .int .i64 0] 55) (.cells #[.slice none 0 0, .slice none 0 0, .int .i64 0, .bool false] 25))
    replace HB6 := Lib.hid (below_next HB6.out hb7)
    go_wp2_with (first
      | (refine wpList_store_ags rfl 55 _ _ rfl w7.heap.size [.slice ja7 (([] : List (List UInt8))).length jc7, .int .i64 0, .int .i64 0] _ size55 (by rfl) rfl rfl rA.out (one_alj HN7.out) bAB.out (Nat.le_refl _) ?_; intro vA hr hb hf; have rA2 := Lib.hid hr; replace rB := Lib.hid (rB.out.same (hf _ (by omega))); replace bAB := Lib.hid hb; clear hr hb hf rA)
      | (refine wpList_store_ags rfl 25 _ _ rfl (w7.heap.size + 1) [ds7, dp7, .int .i64 dl7, .bool db7] _ size25 (by rfl) rfl rfl rB.out (one_all HD7.out) bAB.out (by omega) ?_; intro v7 hr hb hf; replace HB := Lib.hid (below_next HB.out hb); replace HX1 := Lib.hid (HX1.out.keep hb); replace HJ2 := Lib.hid (HJ2.out.keep hb); replace HJ4 := Lib.hid (HJ4.out.keep hb); replace HJ5 := Lib.hid (HJ5.out.keep hb); replace HX5 := Lib.hid (HX5.out.keep hb); replace HJ6 := Lib.hid (HJ6.out.keep hb); have hb9 := hb; clear hr hb hf rA2 rB bAB HN7 HD7; replace HB6 := Lib.hid (below_next HB6.out hb9); have a0 := HJ2.out.row.cell (i := 0) rfl; have a1 := HJ2.out.row.cell (i := 1) rfl; have a2 := HJ2.out.row.cell (i := 2) rfl))
    have hrm := room_law HJ2.out.nrest (s := 0) (m := 1) mild0
    rw [jrm1] at hrm
    refine hrm.mono ?_
    rintro e w8 ⟨rfl, hb⟩
    replace HB := Lib.hid (below_next HB.out hb)
    replace HX1 := Lib.hid (HX1.out.keep hb)
    replace HJ2 := Lib.hid (HJ2.out.keep hb)
    replace HJ4 := Lib.hid (HJ4.out.keep hb)
    replace HJ5 := Lib.hid (HJ5.out.keep hb)
    replace HX5 := Lib.hid (HX5.out.keep hb)
    replace HJ6 := Lib.hid (HJ6.out.keep hb)
    replace HB6 := Lib.hid (below_next HB6.out hb)
    have d0 := HJ5.out.row.cell (i := 2) rfl
    have d1 := HJ6.out.row.cell (i := 0) rfl
    have d2 : w8.cell? ⟨eb6, eo6, none⟩ = _ := HCL6.out w8 HB6.out
    have d3 : (convert 35 9 (.slice ua6 2 uc6)).run Try.prog w8 = .ok (.string ⟨#[97, 98]⟩) w8 := conv_rest (HRU6.out.stays HB6.out)
    clear hb hrm a0 a1 a2
    go_wp2_with fail
    refine (check_law (l := []) (v := .slice none 0 0) (m := 0) (s := 0) (nrests_nil _ _) mild0).mono ?_
    rintro e w9 ⟨rfl, hb⟩
    replace HB := Lib.hid (below_next HB.out hb)
    clear hb
    go_wp2_with fail
    go_ret
    exact ⟨rfl, HB.out⟩
end Go.Proofs.Ytlaaolbdadempaa

/- The laws' few; the reference's SameRecords. -/
namespace Go.Proofs.Ytlaaolbdadempaa
open Go.RowKit

def FwHead (n : Nat) (w : World) (s5 s10 : Value) (wr : World) : Prop := ∃ (k : Nat) (z : Int), k ≤ n ∧ s5 = .int .i64 z ∧ s10 = .int .i64 (k : Int) ∧ wr = w
set_option maxHeartbeats 4000000 in
set_option maxRecDepth 100000 in
theorem jfew_call (l : List (List UInt8)) (v : Value) (a a2 : Option Addr) (n c m c2 : Nat) (lf : Int) (st : Bool) (w : World) (h : NRest w.heap.size w l v) :
    Calls Try.prog 37 #[.agg #[.slice a n c, .slice a2 m c2, .int .i64 lf, .bool st], v] w (SomeBool w) := by
  have HV := Lib.hid h
  obtain ⟨la, cap, rfl, hc1, hc2⟩ := h.shape
  clear h
  obtain ⟨q, hq⟩ : ∃ q, q = l.length := ⟨_, rfl⟩
  rw [← hq] at HV hc2 ⊢
  have HQ := Lib.hid hq
  clear hq
  have HR0 := row_new w 25 [.slice a n c, .slice a2 m c2, .int .i64 lf, .bool st]
  have HB := Lib.hid (Joins.below_alloc1 w (.cells #[.slice a n c, .slice a2 m c2, .int .i64 lf, .bool st] 25))
  go_enter Try.func37, Try.ntmps37
  go_wp2_with fail
  generalize w.alloc (.cells #[.slice a n c, .slice a2 m c2, .int .i64 lf, .bool st] 25) = W1 at HR0 HB ⊢
  have g0 := HR0.cell (i := 0) rfl
  have g1 := HR0.cell (i := 1) rfl
  clear HR0
  go_loopw [5, 10] (fun s5 s10 wr => FwHead q W1 s5 s10 wr) (fun _ s10 _ => q - (intOf s10).toNat)
  case atStart => exact ⟨0, 0, Nat.zero_le _, rfl, rfl, rfl⟩
  case round =>
    obtain ⟨k, z, hk, rfl, rfl, rfl⟩ := hrel
    rcases Nat.lt_or_ge k q with hlt | hge
    · obtain ⟨x, hx⟩ : ∃ x, l[k]? = some x := ⟨_, List.getElem?_eq_getElem (by rw [← HQ.out]; exact hlt)⟩
      obtain ⟨b, off, u, rfl, hbl, hru, hcell⟩ := HV.out.at hx
      have hcu := hcell wr HB.out
      obtain ⟨ua, uc, rfl, _, _⟩ := hru.shape
      have hkm : (k : Int) < (q : Int) := by omega
      have hk0 : (0 : Int) ≤ (k : Int) := by omega
      clear hru hcell hx
      go_wp2_with fail
      exact ⟨⟨k + 1, _, by omega, rfl, by go_num, rfl⟩, by simp [intOf]; omega⟩
    · obtain rfl : k = q := by omega
      by_cases h1 : (n : Int) ≤ 40
      · by_cases h2 : (m : Int) ≤ 40
        · go_wp2_with fail
          go_ret
          exact ⟨_, rfl, HB.out⟩
        · go_wp2_with fail
          go_ret
          exact ⟨_, rfl, HB.out⟩
      · go_wp2_with fail
        go_ret
        exact ⟨_, rfl, HB.out⟩
def SrHead (xs ys : List (List UInt8)) (w : World) (s5 : Value) (wr : World) : Prop := ∃ k q : Nat, k ≤ xs.length ∧ s5 = .int .i64 (k : Int) ∧ xs.take k = ys.take k ∧ wr = w.drewN q
set_option maxHeartbeats 4000000 in
set_option maxRecDepth 100000 in
theorem samerec_call (xs ys : List (List UInt8)) (v u : Value) (w : World) (h : NRest w.heap.size w xs v) (h2 : NRest w.heap.size w ys u) :
    Calls Try.prog 49 #[v, u] w fun e w' => e = .returned (.bool (decide (xs = ys))) ∧ Below w.heap.size w w' := by
  have HV := Lib.hid h
  have HU := Lib.hid h2
  obtain ⟨a, cap, rfl, hc1, hc2⟩ := h.shape
  obtain ⟨a2, cap2, rfl, hc3, hc4⟩ := h2.shape
  clear h h2
  obtain ⟨n, hn⟩ : ∃ n, n = xs.length := ⟨_, rfl⟩
  obtain ⟨m, hm⟩ : ∃ m, m = ys.length := ⟨_, rfl⟩
  rw [← hn] at HV hc2 ⊢
  rw [← hm] at HU hc4 ⊢
  have HN := Lib.hid hn
  have HM := Lib.hid hm
  clear hn hm
  by_cases hnm : n = m
  · subst hnm
    go_enter Try.func49, Try.ntmps49
    go_wp2_with fail
    go_loopw [5] (fun s5 wr => SrHead xs ys w s5 wr) (fun s5 _ => n - (intOf s5).toNat)
    case atStart => exact ⟨0, 0, Nat.zero_le _, rfl, rfl, rfl⟩
    case round =>
      obtain ⟨k, q, hk, rfl, htk, rfl⟩ := hrel
      rw [← HN.out] at hk
      have HTK := Lib.hid htk
      clear htk
      rcases Nat.lt_or_ge k n with hlt | hge
      · obtain ⟨x, hx⟩ : ∃ x, xs[k]? = some x := ⟨_, List.getElem?_eq_getElem (by rw [← HN.out]; exact hlt)⟩
        obtain ⟨y, hy⟩ : ∃ y, ys[k]? = some y := ⟨_, List.getElem?_eq_getElem (by rw [← HM.out]; exact hlt)⟩
        obtain ⟨b, off, xv, rfl, hbl, hrx, hcx⟩ := HV.out.at hx
        obtain ⟨b2, off2, yv, rfl, hbl2, hry, hcy⟩ := HU.out.at hy
        have c1 : ∀ q : Nat, (w.drewN q).cell? ⟨b, off + k, none⟩ = some xv := fun q => hcx _ (below_drewN (Below.refl _ _) q)
        have c2 : ∀ q : Nat, (w.drewN q).cell? ⟨b2, off2 + k, none⟩ = some yv := fun q => hcy _ (below_drewN (Below.refl _ _) q)
        obtain ⟨xa, xc, rfl, _, _⟩ := hrx.shape
        obtain ⟨ya, yc, rfl, _, _⟩ := hry.shape
        have v1 : ∀ q : Nat, _ := fun q => conv_rest (hrx.stays (below_drewN (Below.refl w.heap.size w) q))
        have v2 : ∀ q : Nat, _ := fun q => conv_rest (hry.stays (below_drewN (Below.refl w.heap.size w) q))
        have HE : Hid (((ByteArray.mk x.toArray).toList == (ByteArray.mk y.toArray).toList) = decide (x = y)) := Lib.hid (str_eq x y)
        obtain ⟨r, hr⟩ : ∃ r, r = decide (x = y) := ⟨_, rfl⟩
        have hkm : (k : Int) < (n : Int) := by omega
        have hk0 : (0 : Int) ≤ (k : Int) := by omega
        have HNE : Hid (r = false → xs ≠ ys) := Lib.hid (fun h0 e => by
            subst e; rw [hx] at hy; cases hy; rw [h0] at hr; simp at hr)
        have HEQ : Hid (r = true → xs.take (k + 1) = ys.take (k + 1)) := Lib.hid (fun h0 => by
            have e : x = y := by rw [h0] at hr; simpa using hr.symm
            subst e
            obtain ⟨h1, h2⟩ := List.getElem?_eq_some_iff.1 hx
            obtain ⟨h3, h4⟩ := List.getElem?_eq_some_iff.1 hy
            rw [List.take_succ_eq_append_getElem h1, List.take_succ_eq_append_getElem h3, h2, h4, HTK.out])
        rw [← hr] at HE
        clear hrx hry hcx hcy hx hy hr
        generalize x.length = xn at *
        generalize y.length = yn at *
        generalize ByteArray.mk x.toArray = XA at *
        generalize ByteArray.mk y.toArray = YA at *
        go_wp2_with fail
        go_quiet (fail)
        rw [HE.out]
        have hBD := below_drewN (Below.refl w.heap.size w) (q + nq)
        cases r
        · have h9 := HNE.out rfl
          go_wp2_with fail
          go_ret
          exact ⟨ret_bool (by simp [h9]), hBD⟩
        · have h9 := HEQ.out rfl
          go_wp2_with fail
          exact ⟨⟨k + 1, q + nq, by rw [← HN.out]; omega, by go_num, h9, rfl⟩, by simp [intOf]; omega⟩
      · obtain rfl : k = n := by omega
        have HEQ : Hid (xs = ys) := Lib.hid (by have := HTK.out; rwa [List.take_of_length_le (by rw [← HN.out]; exact Nat.le_refl _), List.take_of_length_le (by rw [← HM.out]; exact Nat.le_refl _)] at this)
        go_wp2_with fail
        go_ret
        exact ⟨ret_bool (by simp [HEQ.out]), below_drewN (Below.refl _ _) _⟩
  · have hnm2 : ¬ (n : Int) = (m : Int) := by omega
    have HNE : Hid (xs ≠ ys) := Lib.hid (fun e => hnm (by rw [HN.out, HM.out, e]))
    clear hnm
    go_enter Try.func49, Try.ntmps49
    go_wp2_with fail
    go_ret
    exact ⟨ret_bool (by simp [HNE.out]), Below.refl _ _⟩
end Go.Proofs.Ytlaaolbdadempaa

/- JournalRoom: the walk. -/
namespace Go.Proofs.Ytlaaolbdadempaa
open Go.RowKit

theorem used_app (l : List (List UInt8)) (b : List UInt8) : usedL (l ++ [b]) = usedL l + secsOf b.length := by
  unfold usedL; rw [List.map_append, List.sum_append]; simp
/-- what Room, Append and Check answer, together -/
theorem room_facts (l : List (List UInt8)) (m s : Int) (b : List UInt8) (hok : jokB ⟨l, m, s⟩ = true) :
    (appJ ⟨l, m, s⟩ b = (⟨[], 0, 0⟩, 2) ∧ (0 < roomJ ⟨l, m, s⟩ → roomJ ⟨l, m, s⟩ < (b.length : Int))) ∨
    (appJ ⟨l, m, s⟩ b = (⟨l ++ [b], m, s⟩, 0) ∧ 0 < roomJ ⟨l, m, s⟩ ∧ (b.length : Int) ≤ roomJ ⟨l, m, s⟩ ∧ jokB ⟨l ++ [b], m, s⟩ = true ∧ roomJ ⟨l ++ [b], m, s⟩ < roomJ ⟨l, m, s⟩) := by
  have hr : roomJ ⟨l, m, s⟩ = 112 * (m - usedL l) := by unfold roomJ; rw [if_pos hok]
  have hs1 := secsOf_pos b.length
  have hs2 : b.length ≤ secsOf b.length * 112 := by unfold secsOf; omega
  have hs3 : 1 < secsOf b.length → (secsOf b.length - 1) * 112 < b.length := by unfold secsOf; omega
  by_cases hlt : m - (usedL l : Int) < (secsOf b.length : Int)
  · refine .inl ⟨by unfold appJ; rw [if_pos hok, if_pos hlt]; rfl, fun h0 => ?_⟩
    rw [hr] at h0 ⊢
    omega
  · have hok2 : jokB ⟨l ++ [b], m, s⟩ = true := by
      unfold jokB at hok ⊢
      simp only [used_app, List.length_append, List.length_cons, List.length_nil, decide_eq_true_eq] at hok ⊢
      omega
    have hr2 : roomJ ⟨l ++ [b], m, s⟩ = 112 * (m - usedL (l ++ [b])) := by unfold roomJ; rw [if_pos hok2]
    refine .inr ⟨by unfold appJ; rw [if_pos hok, if_neg hlt], ?_, ?_, hok2, ?_⟩
    · rw [hr]; omega
    · rw [hr]; omega
    · rw [hr, hr2, used_app]; omega

set_option maxHeartbeats 8000000 in
set_option maxRecDepth 100000 in
theorem room_walk (l : List (List UInt8)) (v : Value) (m s : Int) (b : List UInt8) (bv : Value) (w : World) (h : NRest w.heap.size w l v) (hbv : Rest w.heap.size w b bv) (hj : Mild ⟨l, m, s⟩) (hj2 : Mild ⟨l ++ [b], m, s⟩) (hbl : b.length ≤ 1000000000000) :
    Calls Try.prog 14 #[.agg #[v, .int .i64 m, .int .i64 s], bv] w fun e w' => e = .returned (.bool true) ∧ Below w.heap.size w w' := by
  obtain ⟨va, vc, rfl⟩ := nrest_slice h
  obtain ⟨ba, bc, rfl, hbc1, hbc2⟩ := hbv.shape
  have HB := Lib.hid (Joins.below_alloc1 w (.cells #[.slice va l.length vc, .int .i64 m, .int .i64 s] 55))
  have HJ0 := Lib.hid (JBox.new h (row_new w 55 [.slice va l.length vc, .int .i64 m, .int .i64 s]) HB.out)
  have HBV := Lib.hid hbv
  have HMD := Lib.hid hj
  have HMD2 := Lib.hid hj2
  have HBL := Lib.hid hbl
  have HRF := Lib.hid (room_facts l m s b)
  clear h hbv hj hj2 hbl
  obtain ⟨n, hn⟩ : ∃ n, n = l.length := ⟨_, rfl⟩
  obtain ⟨bn, hbn⟩ : ∃ bn, bn = b.length := ⟨_, rfl⟩
  rw [← hn] at HJ0 HB ⊢
  rw [← hbn] at HBV HBL HRF hbc2 ⊢
  have HN := Lib.hid hn
  have HBN := Lib.hid hbn
  clear hn hbn
  go_enter Try.func14, Try.ntmps14
  go_wp2_with fail
  generalize w.alloc (.cells #[.slice va n vc, .int .i64 m, .int .i64 s] 55) = w0 at HB HJ0 ⊢
  refine (jsane_call _).mono ?_
  rintro e wS ⟨rfl, hb⟩
  replace HB := Lib.hid (below_next HB.out hb)
  replace HJ0 := Lib.hid (HJ0.out.keep hb)
  clear hb
  have c0 := HJ0.out.row.cell (i := 0) rfl
  have c1 := HJ0.out.row.cell (i := 1) rfl
  have c2 := HJ0.out.row.cell (i := 2) rfl
  go_wp2_with fail
  refine (jfew_call l _ none none 0 0 0 0 0 false wS HJ0.out.nrest).mono ?_
  rintro e wF ⟨r, rfl, hb⟩
  replace HB := Lib.hid (below_next HB.out hb)
  replace HJ0 := Lib.hid (HJ0.out.keep hb)
  clear hb c0 c1 c2
  have c0 := HJ0.out.row.cell (i := 0) rfl
  have c1 := HJ0.out.row.cell (i := 1) rfl
  have c2 := HJ0.out.row.cell (i := 2) rfl
  cases r
  · go_wp2_with fail
    go_ret
    exact ⟨rfl, HB.out⟩
  by_cases h7 : (70000 : Int) < (bn : Int)
  · go_wp2_with fail
    go_ret
    exact ⟨rfl, HB.out⟩
  go_wp2_with fail
  obtain ⟨ok, hok⟩ : ∃ ok, ok = jokB ⟨l, m, s⟩ := ⟨_, rfl⟩
  have hck := check_law HJ0.out.nrest HMD.out
  rw [← hok] at hck
  rw [← hok] at HRF
  refine hck.mono ?_
  rintro e wC ⟨rfl, hb⟩
  replace HB := Lib.hid (below_next HB.out hb)
  replace HJ0 := Lib.hid (HJ0.out.keep hb)
  clear hb hck hok c0 c1 c2
  cases ok
  · go_wp2_with fail
    go_ret
    exact ⟨rfl, HB.out⟩
  go_wp2_with (first
    | (refine wpList_load_jnl rfl _ rfl _ _ (by rfl) rfl HJ0.out.row ?_))
  have HAB := Lib.hid (show Rest wC.heap.size wC b (.slice ba bn bc) from (HBV.out.stays HB.out).mono HB.out.size)
  have HBC := Lib.hid (Below.refl wC.heap.size wC)
  rcases HRF.out trivial with ⟨hA, hA2⟩ | ⟨hA, hA2, hA3, hA4, hA5⟩
  · have HA := Lib.hid hA
    have HA2 := Lib.hid hA2
    clear hA hA2 HRF
    refine (append_law HJ0.out.nrest HAB.out HMD.out (by rw [← HBN.out]; exact HBL.out) HA.out).mono ?_
    rintro e w5 ⟨jv5, rfl, hn, hb⟩
    replace HB := Lib.hid (below_next HB.out hb)
    replace HJ0 := Lib.hid (HJ0.out.keep hb)
    have HN5 := Lib.hid hn
    obtain ⟨ja5, jc5, rfl⟩ := nrest_slice hn
    clear hn hb
    go_wp2_with (first
      | (refine wpList_store_ags rfl _ _ _ rfl w5.heap.size [.slice ja5 (([] : List (List UInt8))).length jc5, .int .i64 0, .int .i64 0] _ size55 (by rfl) rfl rfl (row_new w5 55 _) (one_alj HN5.out) (Joins.below_alloc1 w5 _) (Nat.le_refl _) ?_; intro v5 hr hb _; replace HB := Lib.hid (below_next HB.out hb); replace HJ0 := Lib.hid (HJ0.out.keep hb); have HJ5 := Lib.hid (JBox.new HN5.out hr hb); clear hr hb HN5)
      | (refine wpList_load_jnl rfl _ rfl _ _ (by rfl) rfl HJ0.out.row ?_))
    have hrm := room_law HJ0.out.nrest HMD.out
    have hA2 := HA2.out
    generalize roomJ ⟨l, m, s⟩ = R at hrm hA2
    refine hrm.mono ?_
    rintro e wR ⟨rfl, hb⟩
    replace HB := Lib.hid (below_next HB.out hb)
    replace HJ0 := Lib.hid (HJ0.out.keep hb)
    replace HJ5 := Lib.hid (HJ5.out.keep hb)
    clear hb hrm
    have d0 := HJ5.out.row.cell (i := 0) rfl
    simp only [List.length_nil] at d0
    by_cases h0 : 0 < R
    · have h2 := hA2 h0
      have h3 : ¬ (bn : Int) ≤ R := by omega
      clear hA2
      go_wp2_with fail
      go_ret
      exact ⟨rfl, HB.out⟩
    · clear hA2
      go_wp2_with fail
      go_ret
      exact ⟨rfl, HB.out⟩
  · have HA := Lib.hid hA
    have HA4 := Lib.hid hA4
    clear hA hA4 HRF
    refine (append_law HJ0.out.nrest HAB.out HMD.out (by rw [← HBN.out]; exact HBL.out) HA.out).mono ?_
    rintro e w5 ⟨jv5, rfl, hn, hb⟩
    replace HB := Lib.hid (below_next HB.out hb)
    replace HJ0 := Lib.hid (HJ0.out.keep hb)
    have HN5 := Lib.hid hn
    obtain ⟨ja5, jc5, rfl⟩ := nrest_slice hn
    clear hn hb
    obtain ⟨n1, hn1⟩ : ∃ n1, n1 = (l ++ [b]).length := ⟨_, rfl⟩
    rw [← hn1] at HN5 ⊢
    replace hn1 : n1 = n + 1 := by rw [hn1, List.length_append, HN.out]; rfl
    have HN1 := Lib.hid hn1
    have hlx : (l ++ [b])[n]? = some b := by rw [HN.out]; simp
    have hjn : n1 ≤ jc5 := by obtain ⟨_, _, he, h1, _⟩ := HN5.out; injection he with _ h2 h3; rw [h3, h2]; exact h1
    obtain ⟨eb, eo, eu, hja, _, heu, hcl⟩ := HN5.out.at hlx
    have HJA := Lib.hid hja
    obtain ⟨ua, uc, rfl, _, _⟩ := heu.shape
    have HEU := Lib.hid heu
    have HCL := Lib.hid hcl
    have HJN := Lib.hid hjn
    have HB5 := Lib.hid (Below.refl w5.heap.size w5)
    clear heu hcl hlx hja hn1 hjn
    go_wp2_with (first
      | (refine wpList_store_ags rfl _ _ _ rfl w5.heap.size [.slice ja5 n1 jc5, .int .i64 m, .int .i64 s] _ size55 (by rfl) rfl rfl (row_new w5 55 _) (one_alj HN5.out) (Joins.below_alloc1 w5 _) (Nat.le_refl _) ?_; intro v5 hr hb _; replace HB := Lib.hid (below_next HB.out hb); replace HB5 := Lib.hid (below_next HB5.out hb); replace HJ0 := Lib.hid (HJ0.out.keep hb); have HJ5 := Lib.hid (JBox.new HN5.out hr hb); clear hr hb HN5)
      | (refine wpList_load_jnl rfl _ rfl _ _ (by rfl) rfl HJ0.out.row ?_))
    have hrm := room_law HJ0.out.nrest HMD.out
    have hrm2 : ∀ W, Below _ _ W → _ := fun W (hW : Below v5.heap.size v5 W) => room_law (HJ5.out.keep hW).nrest HMD2.out
    generalize roomJ ⟨l, m, s⟩ = R at hrm hA2 hA3 hA5
    generalize roomJ ⟨l ++ [b], m, s⟩ = R2 at hrm2 hA5
    refine hrm.mono ?_
    rintro e wR ⟨rfl, hb⟩
    have HRM2 : Hid (∀ W, Below wR.heap.size wR W → Calls Try.prog 45 #[.agg #[.slice ja5 n1 jc5, .int .i64 m, .int .i64 s]] W fun e w' => e = .returned (.int .i64 R2) ∧ Below W.heap.size W w') := Lib.hid (fun W hW => hrm2 W (below_next hb hW))
    have HB5R := Lib.hid (below_next HB5.out hb)
    replace HB := Lib.hid (below_next HB.out hb)
    replace HJ0 := Lib.hid (HJ0.out.keep hb)
    replace HJ5 := Lib.hid (HJ5.out.keep hb)
    clear hb hrm hrm2
    have e0 := HJ0.out.row.cell (i := 0) rfl
    go_upto_region 11 with (fail)
    go_cut [8] (fun s8 wx => s8 = .int .i64 (n : Int) ∧ wx = wR)
    case first =>
      go_wp2_with fail
      go_meet
      case rel => exact ⟨rfl, rfl⟩
    case rest =>
     obtain ⟨rfl, hwx⟩ := hcut
     replace hwx := hwx.symm
     subst hwx
     go_upto_region 12 with (fail)
     have HA5 := Lib.hid hA5
     obtain ⟨XB, hXB⟩ : ∃ XB, XB = ByteArray.mk b.toArray := ⟨_, rfl⟩
     have HXB := Lib.hid hXB
     clear hXB
     clear e0 hA2 hA3 hA5
     refine' cut1 (F := fun W => Below wR.heap.size wR W) _ ?r12 ?k12
     case r12 =>
       intro K
       have HK := Lib.hid K
       clear K
       have hd5 : decide (R2 < R) = true := decide_eq_true HA5.out
       have hn1 := HN1.out
       have hjn : (n : Int) ≤ (jc5 : Int) := by have := HJN.out; omega
       have hni : (n : Int) < (n1 : Int) := by omega
       have hn0 : (0 : Int) ≤ (n : Int) := by omega
       have hw1 : IntKind.i64.wrap ((n : Int) + 1) = (n1 : Int) := by
         have h1 := usedL_ge l
         have h2 := HMD.out.used
         simp only at h2
         have h3 := HN.out
         rw [IntKind.wrap_i64]; omega
       clear hn1
       have c0 : ∀ W, Below wR.heap.size wR W → W.cell? ⟨w.heap.size, 0, none⟩ = some (.slice va n vc) := fun W hW => HJ0.out.row.later hW (i := 0) rfl
       have c1 : ∀ W, Below wR.heap.size wR W → W.cell? ⟨w.heap.size, 1, none⟩ = some (.int .i64 m) := fun W hW => HJ0.out.row.later hW (i := 1) rfl
       have c2 : ∀ W, Below wR.heap.size wR W → W.cell? ⟨w.heap.size, 2, none⟩ = some (.int .i64 s) := fun W hW => HJ0.out.row.later hW (i := 2) rfl
       have d0 : ∀ W, Below wR.heap.size wR W → W.cell? ⟨w5.heap.size, 0, none⟩ = some (.slice (some ⟨eb, eo, none⟩) n1 jc5) := fun W hW => by rw [← HJA.out]; exact HJ5.out.row.later hW (i := 0) rfl
       have d1 : ∀ W, Below wR.heap.size wR W → W.cell? ⟨w5.heap.size, 1, none⟩ = some (.int .i64 m) := fun W hW => HJ5.out.row.later hW (i := 1) rfl
       have d2 : ∀ W, Below wR.heap.size wR W → W.cell? ⟨w5.heap.size, 2, none⟩ = some (.int .i64 s) := fun W hW => HJ5.out.row.later hW (i := 2) rfl
       have d3 : ∀ W, Below wR.heap.size wR W → W.cell? ⟨eb, eo + n, none⟩ = some (.slice ua b.length uc) := fun W hW => HCL.out W (below_next HB5R.out hW)
       have v1 : ∀ W, Below wR.heap.size wR W → (convert 35 9 (.slice ua bn uc)).run Try.prog W = .ok (.string XB) W := fun W hW => by rw [HXB.out, HBN.out]; exact conv_rest (HEU.out.stays (below_next HB5R.out hW))
       have v2 : ∀ W, Below wR.heap.size wR W → (convert 35 9 (.slice ba bn bc)).run Try.prog W = .ok (.string XB) W := fun W hW => by rw [HXB.out]; exact conv_rest (HBV.out.stays (below_next HB.out hW))
       rw [← HBN.out] at d3
       have KP3 : Hid (∀ {W : World}, Below wR.heap.size wR W → (Below wR.heap.size wR W ∧ (convert 35 9 (.slice ua bn uc)).run Try.prog W = .ok (.string XB) W ∧ (convert 35 9 (.slice ba bn bc)).run Try.prog W = .ok (.string XB) W)) := Lib.hid (fun h => ⟨h, v1 _ h, v2 _ h⟩)
       clear v1 v2
       have HCK : Hid (∀ W, Below wR.heap.size wR W → Calls Try.prog 43 #[.agg #[.slice (some ⟨eb, eo, none⟩) n1 jc5, .int .i64 m, .int .i64 s]] W fun e w' => e = .returned (.int .i64 0) ∧ Below W.heap.size W w') := Lib.hid (fun W hW => by
         rw [← HJA.out]
         have h := check_law (HJ5.out.keep hW).nrest HMD2.out
         rw [HA4.out] at h
         exact h)
       have HSR : Hid (∀ W, Below wR.heap.size wR W → Calls Try.prog 49 #[.slice (some ⟨eb, eo, none⟩) n jc5, .slice va n vc] W fun e w' => e = .returned (.bool true) ∧ Below W.heap.size W w') := Lib.hid (fun W hW => by
         rw [← HJA.out]
         have h := samerec_call ((l ++ [b]).take n) l _ _ W (nrest_take (HJ5.out.keep hW).nrest n (by have := HN1.out; omega)) (HJ0.out.keep hW).nrest
         rw [show decide ((l ++ [b]).take n = l) = true from by rw [HN.out]; simp] at h
         exact h)
       have HRM3 : Hid (∀ W, Below wR.heap.size wR W → Calls Try.prog 45 #[.agg #[.slice (some ⟨eb, eo, none⟩) n1 jc5, .int .i64 m, .int .i64 s]] W fun e w' => e = .returned (.int .i64 R2) ∧ Below W.heap.size W w') := Lib.hid (fun W hW => by
         rw [← HJA.out]
         exact HRM2.out W hW)
       go_region_held3 (fun W => Below wR.heap.size wR W ∧ (convert 35 9 (.slice ua bn uc)).run Try.prog W = .ok (.string XB) W ∧ (convert 35 9 (.slice ba bn bc)).run Try.prog W = .ok (.string XB) W) (first | assumption | exact KP3.out (below_drew (Below.refl _ _)) | exact KP3.out (by assumption)) (first
         | (go_at_call 43; refine (HCK.out _ (by first | assumption | exact below_drew (Below.refl _ _))).mono ?_; rintro e w43 ⟨rfl, hb43⟩; have hB43 : Below wR.heap.size wR w43 := below_next (by first | assumption | exact below_drew (Below.refl _ _)) hb43)
         | (go_at_call 49; refine (HSR.out _ (by first | assumption | exact below_drew (Below.refl _ _))).mono ?_; rintro e w49 ⟨rfl, hb49⟩; have hB49 : Below wR.heap.size wR w49 := below_next (by first | assumption | exact below_drew (Below.refl _ _)) hb49)
         | (go_at_call 45; refine (HRM3.out _ (by first | assumption | exact below_drew (Below.refl _ _))).mono ?_; rintro e w45 ⟨rfl, hb45⟩; have hB45 : Below wR.heap.size wR w45 := below_next (by first | assumption | exact below_drew (Below.refl _ _)) hb45))
       all_goals exact HK.out _ (by assumption)
     case k12 =>
       intro W hW
       replace HB := Lib.hid (below_next HB.out hW)
       go_wp2_with fail
       go_ret
       exact ⟨rfl, HB.out⟩
end Go.Proofs.Ytlaaolbdadempaa
