/- The examples of the chapter: the law's function. -/
import Derived.Lib.SlBytesConst
import Derived.BigQuiet
import Derived.Deep.DeepCutAuto
import Derived.Test.YtlaaolbdadempaaZe22
import Derived.Test.YtlaaolbdadempaaZe19
namespace Go.Proofs.Ytlaaolbdadempaa
open Go.RowKit

theorem jbox_first {w w' : World} {o : Obj} (hb : Below ((w.alloc (.cells #[.slice none 0 0, .int .i64 0, .int .i64 0] 55)).alloc o).drew.heap.size ((w.alloc (.cells #[.slice none 0 0, .int .i64 0, .int .i64 0] 55)).alloc o).drew w') : Row w' w.heap.size 55 [.slice none 0 0, .int .i64 0, .int .i64 0] :=
  ((row_new w 55 [.slice none 0 0, .int .i64 0, .int .i64 0]).keep (Joins.below_alloc1 _ _)).keep (below_undrew hb)
theorem jbox_second {w w' : World} {o : Obj} (hb : Below ((w.alloc o).alloc (.cells #[.slice none 0 0, .int .i64 0, .int .i64 0] 55)).drew.heap.size ((w.alloc o).alloc (.cells #[.slice none 0 0, .int .i64 0, .int .i64 0] 55)).drew w') : Row w' (w.heap.size + 1) 55 [.slice none 0 0, .int .i64 0, .int .i64 0] := by
  have h := row_new (w.alloc o) 55 [.slice none 0 0, .int .i64 0, .int .i64 0]
  rw [World.size_alloc] at h
  exact h.keep (below_undrew hb)
theorem below3 {B : Nat} {w0 w : World} (h : Below B w0 w) (g : Nat) (a b c : Value) (hg : B ≤ g) : Below B w0 (((w.setCell ⟨g, 0, none⟩ a).setCell ⟨g, 1, none⟩ b).setCell ⟨g, 2, none⟩ c) :=
  below_setCell (below_setCell (below_setCell h _ 0 _ hg) _ 1 _ hg) _ 2 _ hg
theorem rest_lit {W W4 : World} (h : W4 = W.alloc (.cells #[.int .u8 97, .int .u8 98] 5 (2, 3))) : Rest W4.heap.size W4 [97, 98] (.slice (some ⟨W.heap.size, 0, none⟩) 2 2) := by
  have hrow : W4.heap[W.heap.size]? = some (.cells #[.int .u8 97, .int .u8 98] 5 (2, 3)) := by rw [h]; exact heap_alloc_new W _
  refine ⟨some ⟨W.heap.size, 0, none⟩, 2, rfl, by simp, by simp [maxLen], (fun h => by cases h), .inr ⟨W.heap.size, 0, rfl, (Array.getElem?_eq_some_iff.1 hrow).1, fun i hi => ?_⟩⟩
  rw [Nat.zero_add, cell_of_row W4 W.heap.size _ _ _ _ hrow]
  have hi2 : i = 0 ∨ i = 1 := by simp at hi; omega
  rcases hi2 with rfl | rfl <;> rfl
theorem cut5v {F : Value → Value → Option Addr → Nat → World → Prop} (G : Value → Value → Option Addr → Nat → World → Prop) {R : Prop} (rest : (∀ a b c d e, F a b c d e → G a b c d e) → R) (kk : ∀ a b c d e, F a b c d e → G a b c d e) : R := rest kk

set_option maxHeartbeats 8000000 in
set_option maxRecDepth 100000 in
theorem jsane_call (w : World) :
    Calls Try.prog 36 #[] w fun e w' => e = .returned (.bool true) ∧ Below w.heap.size w w' := by
  have HB := Lib.hid (Below.refl w.heap.size w)
  go_enter Try.func36, Try.ntmps36
  go_wp2_with fail
  refine (new_law 1 jnew1).mono ?_
  rintro e w1 ⟨s1, p1, l1, b1, rfl, hd, hb⟩
  replace HB := Lib.hid (below_next HB.out hb)
  have HD1 := Lib.hid hd
  clear hd hb
  unfold dv at *
  go_wp2_with (first
    | (refine wpList_store_ags rfl _ _ _ rfl w1.heap.size [s1, p1, .int .i64 l1, .bool b1] _ size25 (by rfl) rfl rfl (row_new w1 25 _) (one_all HD1.out) (Joins.below_alloc1 w1 _) (Nat.le_refl _) ?_; intro v1 hr hb _; replace HB := Lib.hid (below_next HB.out hb); have HX1 := Lib.hid (Box.new HD1.out hr hb); clear hr hb)
    | (refine wpList_load_dsk rfl _ rfl _ _ (by rfl) rfl HX1.out.row ?_))
  refine (open_law HX1.out.drest jop1).mono ?_
  rintro e w2 ⟨jv2, rfl, hn, hb⟩
  replace HB := Lib.hid (below_next HB.out hb)
  replace HX1 := Lib.hid (HX1.out.keep hb)
  have HN2 := Lib.hid hn
  obtain ⟨ja2, jc2, rfl⟩ := nrest_slice hn
  clear hn hb
  go_wp2_with (first
    | (refine wpList_store_ags rfl _ _ _ rfl w2.heap.size [.slice ja2 (([] : List (List UInt8))).length jc2, .int .i64 1, .int .i64 0] _ size55 (by rfl) rfl rfl (row_new w2 55 _) (one_alj HN2.out) (Joins.below_alloc1 w2 _) (Nat.le_refl _) ?_; intro v2 hr hb _; replace HB := Lib.hid (below_next HB.out hb); replace HX1 := Lib.hid (HX1.out.keep hb); have HJ2 := Lib.hid (JBox.new HN2.out hr hb); clear hr hb HN2))
  simp only [List.length_nil] at HJ2 ⊢
  obtain ⟨ZB, hZB⟩ : ∃ ZB, ZB = (cellsOf (List.replicate 113 0)).toArray := ⟨_, rfl⟩
  have HZB := Lib.hid hZB
  have HMK : Hid (∀ W : World, (Instr.makeSlice 35 (.int .i64 113) (.int .i64 113)).run Try.prog W = .ok (.slice (some ⟨W.heap.size, 0, none⟩) 113 113) (W.alloc (.cells ZB 5))) := Lib.hid (by rw [hZB]; exact mk_bytes 113 (by omega))
  clear hZB
  have c0 := HJ2.out.row.cell (i := 0) rfl
  have c1 := HJ2.out.row.cell (i := 1) rfl
  have c2 := HJ2.out.row.cell (i := 2) rfl
  have hmk := HMK.out
  have hlt2 := HJ2.out.lt
  have HWR : Hid (∀ (W : World) gz, Below v2.heap.size v2 W → W.heap[gz]? = some (.cells ZB 5 (0, 0)) → Calls Try.prog 41 #[.agg #[.slice ja2 0 jc2, .int .i64 1, .int .i64 0], .slice (some ⟨gz, 0, none⟩) 113 113] W (NewJ W [] 0 0 2)) :=
    Lib.hid (fun W gz hb hz => append_law (HJ2.out.keep hb).nrest (row_rest (g := gz) (xs := List.replicate 113 0) (n := 113) (by unfold Row; rw [hz, HZB.out]) (by simp) (by omega)) mild0 (by simp) jap1)
  refine' cut5v (F := fun _ _ _ _ W9 => Below v2.heap.size v2 W9) _ ?rest3 ?kk3
  case rest3 =>
    intro K
    go_region_law (go_simp; go_at_call 41; refine (HWR.out _ _ (by first | exact below_drew (Joins.below_alloc1 v2 _) | exact below_drew (below_two v2 _ _)) (by first | exact heap_alloc_new v2 _ | exact (Joins.below_alloc1 (v2.alloc (.cells ZB 5)) _).block v2.heap.size (by simp) |>.trans (heap_alloc_new v2 _) | (have h9 := heap_alloc_new (v2.alloc (.cells #[.slice none 0 0, .int .i64 0, .int .i64 0] 55)) (.cells ZB 5); rw [World.size_alloc] at h9; exact h9))).mono ?_; rintro e w5 ⟨v5, rfl, hn5, hb5⟩; obtain ⟨ja5, jc5, rfl⟩ := nrest_slice hn5; simp only [List.length_nil]; (first | (have r0 := jbox_first hb5; have q0 := r0.cell (i := 0) rfl; have q1 := r0.cell (i := 1) rfl; have q2 := r0.cell (i := 2) rfl; have k0 := r0.free 0; have k1 := r0.free 1; have k2 := r0.free 2) | (have r0 := jbox_second hb5; have q0 := r0.cell (i := 0) rfl; have q1 := r0.cell (i := 1) rfl; have q2 := r0.cell (i := 2) rfl; have k0 := r0.free 0; have k1 := r0.free 1; have k2 := r0.free 2) | skip))
    · have hF : Below v2.heap.size v2 (w5.alloc (.cells #[.slice ja5 0 jc5, .int .i64 0, .int .i64 0] 55)) := below_next ((Joins.below_alloc1 v2 _).trans ((below_undrew hb5).mono (by simp))) (Joins.below_alloc1 w5 _)
      generalize (Value.slice (some ⟨v2.heap.size, 0, none⟩) 113 113) = vz
      generalize (Value.pointer (some ⟨w5.heap.size, 0, none⟩)) = vp
      generalize w5.alloc (.cells #[.slice ja5 0 jc5, .int .i64 0, .int .i64 0] 55) = W9 at hF ⊢
      exact K vz vp ja5 jc5 W9 hF
    all_goals
      refine K _ _ _ _ _ ?_
      first
        | exact below_next ((Joins.below_alloc1 v2 _).trans ((below_undrew hb5).mono (by simp))) (Joins.below_alloc1 w5 _)
        | exact below3 ((Joins.below_alloc1 v2 _).trans ((below_undrew hb5).mono (by simp))) _ _ _ _ (by simp)
        | exact below3 ((below_two v2 _ _).trans ((below_undrew hb5).mono (by simp; omega))) _ _ _ _ (by simp)
  case kk3 =>
    intro vz3 vp3 ja3 jc3 W3 hF
    replace HB := Lib.hid (below_next HB.out hF)
    replace HX1 := Lib.hid (HX1.out.keep hF)
    replace HJ2 := Lib.hid (HJ2.out.keep hF)
    clear hF HMK HWR hmk c0 c1 c2 hlt2 HZB
    have hcv := fun (w : World) (C : Array Value) (n c : Nat) => Lib.run_convert_bytes_const (P := Try.prog) w 35 5 C n c Try.underlying35 Try.underlying5
    go_wp2_with (first
      | (refine wpList_load_jnl rfl _ rfl _ _ (by rfl) rfl HJ2.out.row ?_))
    obtain ⟨W4, hW4⟩ : ∃ W4, W4 = W3.alloc (.cells #[.int .u8 97, .int .u8 98] 5 (2, 3)) := ⟨_, rfl⟩
    have hb : Below W3.heap.size W3 W4 := by rw [hW4]; exact Joins.below_alloc1 W3 _
    have hrow := rest_lit hW4
    rw [← hW4]
    replace HB := Lib.hid (below_next HB.out hb)
    replace HX1 := Lib.hid (HX1.out.keep hb)
    replace HJ2 := Lib.hid (HJ2.out.keep hb)
    have HROW := Lib.hid hrow
    clear hW4 hb hrow hcv
    refine (append_law HJ2.out.nrest HROW.out mild0 (by simp) jap2).mono ?_
    rintro e w4 ⟨jv4, rfl, hn, hb⟩
    replace HB := Lib.hid (below_next HB.out hb)
    replace HX1 := Lib.hid (HX1.out.keep hb)
    replace HJ2 := Lib.hid (HJ2.out.keep hb)
    have HN4 := Lib.hid hn
    obtain ⟨ja4, jc4, rfl⟩ := nrest_slice hn
    clear hn hb
    go_wp2_with (first
      | (refine wpList_store_ags rfl _ _ _ rfl w4.heap.size [.slice ja4 (([[97, 98]] : List (List UInt8))).length jc4, .int .i64 1, .int .i64 0] _ size55 (by rfl) rfl rfl (row_new w4 55 _) (one_alj HN4.out) (Joins.below_alloc1 w4 _) (Nat.le_refl _) ?_; intro v4 hr hb _; replace HB := Lib.hid (below_next HB.out hb); replace HX1 := Lib.hid (HX1.out.keep hb); replace HJ2 := Lib.hid (HJ2.out.keep hb); have HJ4 := Lib.hid (JBox.new HN4.out hr hb); clear hr hb HN4)
      | (refine wpList_load_jnl rfl _ rfl _ _ (by rfl) rfl HJ4.out.row ?_)
      | (refine wpList_load_dsk rfl _ rfl _ _ (by rfl) rfl HX1.out.row ?_))
    refine (jsync_law HJ4.out.nrest mild1 HX1.out.drest jsy1).mono ?_
    rintro e w5 ⟨jv5, ds5, dp5, dl5, db5, rfl, hn, hd, hb⟩
    replace HB := Lib.hid (below_next HB.out hb)
    replace HX1 := Lib.hid (HX1.out.keep hb)
    replace HJ2 := Lib.hid (HJ2.out.keep hb)
    replace HJ4 := Lib.hid (HJ4.out.keep hb)
    have hb5 := hb
    have HN5 := Lib.hid hn
    have HD5 := Lib.hid hd
    obtain ⟨ja5, jc5, rfl⟩ := nrest_slice hn
    clear hn hd hb
    have rA := Lib.hid ((row_new w5 55 [.slice none 0 0, .int .i64 0, .int .i64 0]).keep (Joins.below_alloc1 _ (.cells #[.slice none 0 0, .slice none 0 0, .int .i64 0, .bool false] 25)))
    have rB := row_new (w5.alloc (.cells #[.slice none 0 0, .int .i64 0, .int .i64 0] 55)) 25 [.slice none 0 0, .slice none 0 0, .int .i64 0, .bool false]
    rw [World.size_alloc] at rB
    replace rB := Lib.hid rB
    have bAB := Lib.hid (below_two w5 (.cells #[.slice none 0 0, .int .i64 0, .int .i64 0] 55) (.cells #[.slice none 0 0, .slice none 0 0, .int .i64 0, .bool false] 25))
    go_wp2_with (first
      | (refine wpList_store_ags rfl 55 _ _ rfl w5.heap.size [.slice ja5 (([[97, 98]] : List (List UInt8))).length jc5, .int .i64 1, .int .i64 1] _ size55 (by rfl) rfl rfl rA.out (one_alj HN5.out) bAB.out (Nat.le_refl _) ?_; intro vA hr hb hf; have rA2 := Lib.hid hr; replace rB := Lib.hid (rB.out.same (hf _ (by omega))); replace bAB := Lib.hid hb; clear hr hb hf rA)
      | (refine wpList_store_ags rfl 25 _ _ rfl (w5.heap.size + 1) [ds5, dp5, .int .i64 dl5, .bool db5] _ size25 (by rfl) rfl rfl rB.out (one_all HD5.out) bAB.out (by omega) ?_; intro v5 hr hb hf; replace HB := Lib.hid (below_next HB.out hb); replace HX1 := Lib.hid (HX1.out.keep hb); replace HJ2 := Lib.hid (HJ2.out.keep hb); replace HJ4 := Lib.hid (HJ4.out.keep hb); have HJ5 := Lib.hid (JBox.mk (rA2.out.same (hf _ (by omega))) (HN5.out.stays hb)); have HX5 := Lib.hid (Box.mk hr ((HD5.out.stays hb).mono (Nat.le_succ _))); clear hr hb hf rA2 rB bAB HN5 HD5)
      | (refine wpList_load_dsk rfl _ rfl _ _ (by rfl) rfl HX5.out.row ?_))
    refine (open_law HX5.out.drest jop2).mono ?_
    rintro e w6 ⟨jv6, rfl, hn, hb⟩
    replace HB := Lib.hid (below_next HB.out hb)
    replace HX1 := Lib.hid (HX1.out.keep hb)
    replace HJ2 := Lib.hid (HJ2.out.keep hb)
    replace HJ4 := Lib.hid (HJ4.out.keep hb)
    replace HJ5 := Lib.hid (HJ5.out.keep hb)
    replace HX5 := Lib.hid (HX5.out.keep hb)
    have HN6 := Lib.hid hn
    obtain ⟨ja6, jc6, rfl⟩ := nrest_slice hn
    clear hn hb
    obtain ⟨eb6, eo6, eu6, rfl, hbl6, hru6, hcl6⟩ := HN6.out.at (k := 0) (x := [97, 98]) rfl
    obtain ⟨ua6, uc6, rfl, _, _⟩ := hru6.shape
    have HRU6 := Lib.hid hru6
    have HCL6 := Lib.hid hcl6
    have HB6 := Lib.hid (Below.refl w6.heap.size w6)
    clear hbl6 hru6 hcl6
    go_wp2_with (first
      | (refine wpList_store_ags rfl _ _ _ rfl w6.heap.size [.slice (some ⟨eb6, eo6, none⟩) (([[97, 98]] : List (List UInt8))).length jc6, .int .i64 1, .int .i64 1] _ size55 (by rfl) rfl rfl (row_new w6 55 _) (one_alj HN6.out) (Joins.below_alloc1 w6 _) (Nat.le_refl _) ?_; intro v6 hr hb _; replace HB := Lib.hid (below_next HB.out hb); replace HB6 := Lib.hid (below_next HB6.out hb); replace HX1 := Lib.hid (HX1.out.keep hb); replace HJ2 := Lib.hid (HJ2.out.keep hb); replace HJ4 := Lib.hid (HJ4.out.keep hb); replace HJ5 := Lib.hid (HJ5.out.keep hb); replace HX5 := Lib.hid (HX5.out.keep hb); have HJ6 := Lib.hid (JBox.new HN6.out hr hb); clear hr hb HN6)
      | (refine wpList_load_jnl rfl _ rfl _ _ (by rfl) rfl HJ4.out.row ?_)
      | (refine wpList_load_dsk rfl _ rfl _ _ (by rfl) rfl HX5.out.row ?_))
    refine (jsync_law HJ4.out.nrest mild1 HX5.out.drest jsy2).mono ?_
    rintro e w7 ⟨jv7, ds7, dp7, dl7, db7, rfl, hn, hd, hb⟩
    replace HB := Lib.hid (below_next HB.out hb)
    replace HX1 := Lib.hid (HX1.out.keep hb)
    replace HJ2 := Lib.hid (HJ2.out.keep hb)
    replace HJ4 := Lib.hid (HJ4.out.keep hb)
    replace HJ5 := Lib.hid (HJ5.out.keep hb)
    replace HX5 := Lib.hid (HX5.out.keep hb)
    replace HJ6 := Lib.hid (HJ6.out.keep hb)
    have hb7 := hb
    have HN7 := Lib.hid hn
    have HD7 := Lib.hid hd
    obtain ⟨ja7, jc7, rfl⟩ := nrest_slice hn
    clear hn hd hb
    have rA := Lib.hid ((row_new w7 55 [.slice none 0 0, .int .i64 0, .int .i64 0]).keep (Joins.below_alloc1 _ (.cells #[.slice none 0 0, .slice none 0 0, .int .i64 0, .bool false] 25)))
    have rB := row_new (w7.alloc (.cells #[.slice none 0 0, .int .i64 0, .int .i64 0] 55)) 25 [.slice none 0 0, .slice none 0 0, .int .i64 0, .bool false]
    rw [World.size_alloc] at rB
    replace rB := Lib.hid rB
    have bAB := Lib.hid (below_two w7 (.cells #[.slice none 0 0, .int .i64 0, .int .i64 0] 55) (.cells #[.slice none 0 0, .slice none 0 0, .int .i64 0, .bool false] 25))
    replace HB6 := Lib.hid (below_next HB6.out hb7)
    go_wp2_with (first
      | (refine wpList_store_ags rfl 55 _ _ rfl w7.heap.size [.slice ja7 (([] : List (List UInt8))).length jc7, .int .i64 0, .int .i64 0] _ size55 (by rfl) rfl rfl rA.out (one_alj HN7.out) bAB.out (Nat.le_refl _) ?_; intro vA hr hb hf; have rA2 := Lib.hid hr; replace rB := Lib.hid (rB.out.same (hf _ (by omega))); replace bAB := Lib.hid hb; clear hr hb hf rA)
      | (refine wpList_store_ags rfl 25 _ _ rfl (w7.heap.size + 1) [ds7, dp7, .int .i64 dl7, .bool db7] _ size25 (by rfl) rfl rfl rB.out (one_all HD7.out) bAB.out (by omega) ?_; intro v7 hr hb hf; replace HB := Lib.hid (below_next HB.out hb); replace HX1 := Lib.hid (HX1.out.keep hb); replace HJ2 := Lib.hid (HJ2.out.keep hb); replace HJ4 := Lib.hid (HJ4.out.keep hb); replace HJ5 := Lib.hid (HJ5.out.keep hb); replace HX5 := Lib.hid (HX5.out.keep hb); replace HJ6 := Lib.hid (HJ6.out.keep hb); have hb9 := hb; clear hr hb hf rA2 rB bAB HN7 HD7; replace HB6 := Lib.hid (below_next HB6.out hb9); have a0 := HJ2.out.row.cell (i := 0) rfl; have a1 := HJ2.out.row.cell (i := 1) rfl; have a2 := HJ2.out.row.cell (i := 2) rfl))
    have hrm := room_law HJ2.out.nrest (s := 0) (m := 1) mild0
    rw [jrm1] at hrm
    refine hrm.mono ?_
    rintro e w8 ⟨rfl, hb⟩
    replace HB := Lib.hid (below_next HB.out hb)
    replace HX1 := Lib.hid (HX1.out.keep hb)
    replace HJ2 := Lib.hid (HJ2.out.keep hb)
    replace HJ4 := Lib.hid (HJ4.out.keep hb)
    replace HJ5 := Lib.hid (HJ5.out.keep hb)
    replace HX5 := Lib.hid (HX5.out.keep hb)
    replace HJ6 := Lib.hid (HJ6.out.keep hb)
    replace HB6 := Lib.hid (below_next HB6.out hb)
    have d0 := HJ5.out.row.cell (i := 2) rfl
    have d1 := HJ6.out.row.cell (i := 0) rfl
    have d2 : w8.cell? ⟨eb6, eo6, none⟩ = _ := HCL6.out w8 HB6.out
    have d3 : (convert 35 9 (.slice ua6 2 uc6)).run Try.prog w8 = .ok (.string ⟨#[97, 98]⟩) w8 := conv_rest (HRU6.out.stays HB6.out)
    clear hb hrm a0 a1 a2
    go_wp2_with fail
    refine (check_law (l := []) (v := .slice none 0 0) (m := 0) (s := 0) (nrests_nil _ _) mild0).mono ?_
    rintro e w9 ⟨rfl, hb⟩
    replace HB := Lib.hid (below_next HB.out hb)
    clear hb
    go_wp2_with fail
    go_ret
    exact ⟨rfl, HB.out⟩
end Go.Proofs.Ytlaaolbdadempaa

/- The laws' few; the reference's SameRecords. -/
namespace Go.Proofs.Ytlaaolbdadempaa
open Go.RowKit

def FwHead (n : Nat) (w : World) (s5 s10 : Value) (wr : World) : Prop := ∃ (k : Nat) (z : Int), k ≤ n ∧ s5 = .int .i64 z ∧ s10 = .int .i64 (k : Int) ∧ wr = w
set_option maxHeartbeats 4000000 in
set_option maxRecDepth 100000 in
theorem jfew_call (l : List (List UInt8)) (v : Value) (a a2 : Option Addr) (n c m c2 : Nat) (lf : Int) (st : Bool) (w : World) (h : NRest w.heap.size w l v) :
    Calls Try.prog 37 #[.agg #[.slice a n c, .slice a2 m c2, .int .i64 lf, .bool st], v] w (SomeBool w) := by
  have HV := Lib.hid h
  obtain ⟨la, cap, rfl, hc1, hc2⟩ := h.shape
  clear h
  obtain ⟨q, hq⟩ : ∃ q, q = l.length := ⟨_, rfl⟩
  rw [← hq] at HV hc2 ⊢
  have HQ := Lib.hid hq
  clear hq
  have HR0 := row_new w 25 [.slice a n c, .slice a2 m c2, .int .i64 lf, .bool st]
  have HB := Lib.hid (Joins.below_alloc1 w (.cells #[.slice a n c, .slice a2 m c2, .int .i64 lf, .bool st] 25))
  go_enter Try.func37, Try.ntmps37
  go_wp2_with fail
  generalize w.alloc (.cells #[.slice a n c, .slice a2 m c2, .int .i64 lf, .bool st] 25) = W1 at HR0 HB ⊢
  have g0 := HR0.cell (i := 0) rfl
  have g1 := HR0.cell (i := 1) rfl
  clear HR0
  go_loopw [5, 10] (fun s5 s10 wr => FwHead q W1 s5 s10 wr) (fun _ s10 _ => q - (intOf s10).toNat)
  case atStart => exact ⟨0, 0, Nat.zero_le _, rfl, rfl, rfl⟩
  case round =>
    obtain ⟨k, z, hk, rfl, rfl, rfl⟩ := hrel
    rcases Nat.lt_or_ge k q with hlt | hge
    · obtain ⟨x, hx⟩ : ∃ x, l[k]? = some x := ⟨_, List.getElem?_eq_getElem (by rw [← HQ.out]; exact hlt)⟩
      obtain ⟨b, off, u, rfl, hbl, hru, hcell⟩ := HV.out.at hx
      have hcu := hcell wr HB.out
      obtain ⟨ua, uc, rfl, _, _⟩ := hru.shape
      have hkm : (k : Int) < (q : Int) := by omega
      have hk0 : (0 : Int) ≤ (k : Int) := by omega
      clear hru hcell hx
      go_wp2_with fail
      exact ⟨⟨k + 1, _, by omega, rfl, by go_num, rfl⟩, by simp [intOf]; omega⟩
    · obtain rfl : k = q := by omega
      by_cases h1 : (n : Int) ≤ 40
      · by_cases h2 : (m : Int) ≤ 40
        · go_wp2_with fail
          go_ret
          exact ⟨_, rfl, HB.out⟩
        · go_wp2_with fail
          go_ret
          exact ⟨_, rfl, HB.out⟩
      · go_wp2_with fail
        go_ret
        exact ⟨_, rfl, HB.out⟩
def SrHead (xs ys : List (List UInt8)) (w : World) (s5 : Value) (wr : World) : Prop := ∃ k q : Nat, k ≤ xs.length ∧ s5 = .int .i64 (k : Int) ∧ xs.take k = ys.take k ∧ wr = w.drewN q
set_option maxHeartbeats 4000000 in
set_option maxRecDepth 100000 in
theorem samerec_call (xs ys : List (List UInt8)) (v u : Value) (w : World) (h : NRest w.heap.size w xs v) (h2 : NRest w.heap.size w ys u) :
    Calls Try.prog 49 #[v, u] w fun e w' => e = .returned (.bool (decide (xs = ys))) ∧ Below w.heap.size w w' := by
  have HV := Lib.hid h
  have HU := Lib.hid h2
  obtain ⟨a, cap, rfl, hc1, hc2⟩ := h.shape
  obtain ⟨a2, cap2, rfl, hc3, hc4⟩ := h2.shape
  clear h h2
  obtain ⟨n, hn⟩ : ∃ n, n = xs.length := ⟨_, rfl⟩
  obtain ⟨m, hm⟩ : ∃ m, m = ys.length := ⟨_, rfl⟩
  rw [← hn] at HV hc2 ⊢
  rw [← hm] at HU hc4 ⊢
  have HN := Lib.hid hn
  have HM := Lib.hid hm
  clear hn hm
  by_cases hnm : n = m
  · subst hnm
    go_enter Try.func49, Try.ntmps49
    go_wp2_with fail
    go_loopw [5] (fun s5 wr => SrHead xs ys w s5 wr) (fun s5 _ => n - (intOf s5).toNat)
    case atStart => exact ⟨0, 0, Nat.zero_le _, rfl, rfl, rfl⟩
    case round =>
      obtain ⟨k, q, hk, rfl, htk, rfl⟩ := hrel
      rw [← HN.out] at hk
      have HTK := Lib.hid htk
      clear htk
      rcases Nat.lt_or_ge k n with hlt | hge
      · obtain ⟨x, hx⟩ : ∃ x, xs[k]? = some x := ⟨_, List.getElem?_eq_getElem (by rw [← HN.out]; exact hlt)⟩
        obtain ⟨y, hy⟩ : ∃ y, ys[k]? = some y := ⟨_, List.getElem?_eq_getElem (by rw [← HM.out]; exact hlt)⟩
        obtain ⟨b, off, xv, rfl, hbl, hrx, hcx⟩ := HV.out.at hx
        obtain ⟨b2, off2, yv, rfl, hbl2, hry, hcy⟩ := HU.out.at hy
        have c1 : ∀ q : Nat, (w.drewN q).cell? ⟨b, off + k, none⟩ = some xv := fun q => hcx _ (below_drewN (Below.refl _ _) q)
        have c2 : ∀ q : Nat, (w.drewN q).cell? ⟨b2, off2 + k, none⟩ = some yv := fun q => hcy _ (below_drewN (Below.refl _ _) q)
        obtain ⟨xa, xc, rfl, _, _⟩ := hrx.shape
        obtain ⟨ya, yc, rfl, _, _⟩ := hry.shape
        have v1 : ∀ q : Nat, _ := fun q => conv_rest (hrx.stays (below_drewN (Below.refl w.heap.size w) q))
        have v2 : ∀ q : Nat, _ := fun q => conv_rest (hry.stays (below_drewN (Below.refl w.heap.size w) q))
        have HE : Hid (((ByteArray.mk x.toArray).toList == (ByteArray.mk y.toArray).toList) = decide (x = y)) := Lib.hid (str_eq x y)
        obtain ⟨r, hr⟩ : ∃ r, r = decide (x = y) := ⟨_, rfl⟩
        have hkm : (k : Int) < (n : Int) := by omega
        have hk0 : (0 : Int) ≤ (k : Int) := by omega
        have HNE : Hid (r = false → xs ≠ ys) := Lib.hid (fun h0 e => by
            subst e; rw [hx] at hy; cases hy; rw [h0] at hr; simp at hr)
        have HEQ : Hid (r = true → xs.take (k + 1) = ys.take (k + 1)) := Lib.hid (fun h0 => by
            have e : x = y := by rw [h0] at hr; simpa using hr.symm
            subst e
            obtain ⟨h1, h2⟩ := List.getElem?_eq_some_iff.1 hx
            obtain ⟨h3, h4⟩ := List.getElem?_eq_some_iff.1 hy
            rw [List.take_succ_eq_append_getElem h1, List.take_succ_eq_append_getElem h3, h2, h4, HTK.out])
        rw [← hr] at HE
        clear hrx hry hcx hcy hx hy hr
        generalize x.length = xn at *
        generalize y.length = yn at *
        generalize ByteArray.mk x.toArray = XA at *
        generalize ByteArray.mk y.toArray = YA at *
        go_wp2_with fail
        go_quiet (fail)
        rw [HE.out]
        have hBD := below_drewN (Below.refl w.heap.size w) (q + nq)
        cases r
        · have h9 := HNE.out rfl
          go_wp2_with fail
          go_ret
          exact ⟨ret_bool (by simp), hBD⟩
        · have h9 := HEQ.out rfl
          go_wp2_with fail
          exact ⟨⟨k + 1, q + nq, by rw [← HN.out]; omega, by go_num, h9, rfl⟩, by simp [intOf]; omega⟩
      · obtain rfl : k = n := by omega
        have HEQ : Hid (xs = ys) := Lib.hid (by have := HTK.out; rwa [List.take_of_length_le (by rw [← HN.out]; exact Nat.le_refl _), List.take_of_length_le (by rw [← HM.out]; exact Nat.le_refl _)] at this)
        go_wp2_with fail
        go_ret
        exact ⟨ret_bool (by simp [HEQ.out]), below_drewN (Below.refl _ _) _⟩
  · have hnm2 : ¬ (n : Int) = (m : Int) := by omega
    have HNE : Hid (xs ≠ ys) := Lib.hid (fun e => hnm (by rw [HN.out, HM.out, e]))
    clear hnm
    go_enter Try.func49, Try.ntmps49
    go_wp2_with fail
    go_ret
    exact ⟨ret_bool (by simp [HNE.out]), Below.refl _ _⟩
end Go.Proofs.Ytlaaolbdadempaa

/- The reference's number and checksum. -/
namespace Go.Proofs.Ytlaaolbdadempaa
open Go.RowKit

def numR (l : List UInt8) : Nat := l.foldl (fun n c => 256 * n + c.toNat) 0
theorem numR_snoc (l : List UInt8) (c : UInt8) : numR (l ++ [c]) = 256 * numR l + c.toNat := by simp [numR]
theorem numR_take {l : List UInt8} {k : Nat} {c : UInt8} (h : l[k]? = some c) : numR (l.take (k + 1)) = 256 * numR (l.take k) + c.toNat := by
  obtain ⟨h1, h2⟩ := List.getElem?_eq_some_iff.1 h
  rw [List.take_succ_eq_append_getElem h1, h2, numR_snoc]
theorem numR_lt (l : List UInt8) : ∀ k, numR (l.take k) < 256 ^ k
  | 0 => by simp [numR]
  | k + 1 => by
    have ih := numR_lt l k
    rcases Nat.lt_or_ge k l.length with h | h
    · rw [numR_take (List.getElem?_eq_getElem h), Nat.pow_succ]
      have := (l[k]).toNat_lt
      omega
    · rw [List.take_of_length_le (by omega)]
      rw [List.take_of_length_le (by omega)] at ih
      rw [Nat.pow_succ]; omega
theorem ret_u64 {a b : Int} (h : a = b) : Ending.returned (.int .u64 a) = .returned (.int .u64 b) := by rw [h]
def NrHead (l : List UInt8) (w : World) (s3 s4 : Value) (wr : World) : Prop := ∃ k : Nat, k ≤ l.length ∧ s3 = .int .u64 (numR (l.take k) : Int) ∧ s4 = .int .i64 (k : Int) ∧ wr = w
set_option maxHeartbeats 2000000 in
set_option maxRecDepth 100000 in
theorem refnumber_call (xs : List UInt8) (v : Value) (B : Nat) (w : World) (h : Rest B w xs v) (h4 : xs.length ≤ 7) :
    Calls Try.prog 83 #[v] w fun e w' => e = .returned (.int .u64 (numR xs : Int)) ∧ w' = w := by
  obtain ⟨a, cap, rfl, hl, hm, _, hc⟩ := h
  have HC : Hid (∀ i x, xs[i]? = some x → ∃ b off, a = some ⟨b, off, none⟩ ∧ w.cell? ⟨b, off + i, none⟩ = some (.int .u8 (x.toNat : Int))) := Lib.hid (fun i x hi => by
    obtain ⟨h1, rfl⟩ := List.getElem?_eq_some_iff.1 hi
    rcases hc with hc | ⟨b, off, rfl, _, hc⟩
    · omega
    · exact ⟨b, off, rfl, hc i h1⟩)
  unfold maxLen at hm
  obtain ⟨m, hm2⟩ : ∃ m, m = xs.length := ⟨_, rfl⟩
  have HM := Lib.hid hm2
  rw [← hm2] at hl h4 ⊢
  clear hc hm2
  go_enter Try.func83, Try.ntmps83
  go_wp2_with fail
  go_loopw [3, 4] (fun s3 s4 wr => NrHead xs w s3 s4 wr) (fun _ s4 _ => m - (intOf s4).toNat)
  case atStart => exact ⟨0, Nat.zero_le _, rfl, rfl, rfl⟩
  case round =>
    obtain ⟨k, hk, rfl, rfl, rfl⟩ := hrel
    rw [← HM.out] at hk
    rcases Nat.lt_or_ge k m with hlt | hge
    · obtain ⟨x, hx⟩ : ∃ x, xs[k]? = some x := ⟨_, List.getElem?_eq_getElem (by rw [← HM.out]; exact hlt)⟩
      obtain ⟨b, off, rfl, hcu⟩ := HC.out k x hx
      have HS := Lib.hid (numR_take hx)
      have hxl := x.toNat_lt
      have hz : numR (xs.take k) < 281474976710656 := Nat.lt_of_lt_of_le (numR_lt xs k) (by rw [show (281474976710656 : Nat) = 256 ^ 6 from rfl]; exact Nat.pow_le_pow_right (by omega) (by omega))
      generalize numR (xs.take k) = z at *
      generalize x.toNat = c at *
      have hki : (k : Int) < (m : Int) := by omega
      have hw1 : IntKind.u64.wrap (256 * (z : Int)) = 256 * (z : Int) := by rw [IntKind.wrap_u64]; omega
      have hw2 : IntKind.u64.wrap (256 * (z : Int) + (c : Int)) = 256 * (z : Int) + (c : Int) := by rw [IntKind.wrap_u64]; omega
      have hw3 : IntKind.u64.wrap (c : Int) = (c : Int) := by rw [IntKind.wrap_u64]; omega
      clear hx
      go_wp2_with fail
      exact ⟨⟨k + 1, by rw [← HM.out]; omega, by rw [HS.out]; first | rfl | (congr 1; omega) | simp, by go_num, rfl⟩, by simp [intOf]; omega⟩
    · obtain rfl : k = m := by omega
      go_wp2_with fail
      go_ret
      exact ⟨ret_u64 (by rw [HM.out, List.take_length]), rfl⟩
def CkHead (l : List UInt8) (w : World) (s3 s4 : Value) (wr : World) : Prop := ∃ k : Nat, k ≤ l.length ∧ s3 = .int .u32 (crcK l k : Int) ∧ s4 = .int .i64 (k : Int) ∧ wr = w
def CkIn (x : Nat) (w : World) (s3 s5 : Value) (wr : World) : Prop := ∃ j : Nat, j ≤ 8 ∧ s3 = .int .u32 (crcBits j x : Int) ∧ s5 = .int .i64 (j : Int) ∧ wr = w
set_option maxHeartbeats 2000000 in
set_option maxRecDepth 100000 in
theorem refcrc_call (xs : List UInt8) (v : Value) (B : Nat) (w : World) (h : Rest B w xs v) :
    Calls Try.prog 91 #[v] w fun e w' => e = .returned (.int .u32 (crc xs : Int)) ∧ w' = w := by
  obtain ⟨a, cap, rfl, hl, hm, _, hc⟩ := h
  have HC : Hid (∀ i x, xs[i]? = some x → ∃ b off, a = some ⟨b, off, none⟩ ∧ w.cell? ⟨b, off + i, none⟩ = some (.int .u8 (x.toNat : Int))) := Lib.hid (fun i x hi => by
    obtain ⟨h1, rfl⟩ := List.getElem?_eq_some_iff.1 hi
    rcases hc with hc | ⟨b, off, rfl, _, hc⟩
    · omega
    · exact ⟨b, off, rfl, hc i h1⟩)
  have HX : Hid (∀ k, k = xs.length → crc xs = crcK xs k ^^^ 4294967295) := Lib.hid (fun k hk => by rw [hk]; unfold crcK crc crcFold; rw [List.take_length])
  unfold maxLen at hm
  obtain ⟨m, hm2⟩ : ∃ m, m = xs.length := ⟨_, rfl⟩
  have HM := Lib.hid hm2
  rw [← hm2] at HX hl ⊢
  clear hc hm2
  go_enter Try.func91, Try.ntmps91
  go_wp2_with fail
  go_loopw [3, 4] (fun s3 s4 wr => CkHead xs w s3 s4 wr) (fun _ s4 _ => m - (intOf s4).toNat)
  case atStart => exact ⟨0, by omega, rfl, rfl, rfl⟩
  case round =>
    obtain ⟨k, hk, rfl, rfl, rfl⟩ := hrel
    rw [← HM.out] at hk
    rcases Nat.lt_or_ge k m with hlt | hge
    · obtain ⟨x, hx⟩ : ∃ x, xs[k]? = some x := ⟨_, List.getElem?_eq_getElem (by rw [← HM.out]; exact hlt)⟩
      obtain ⟨b, off, rfl, hcu⟩ := HC.out k x hx
      have HS := Lib.hid (crcK_succ hx)
      have hxl := x.toNat_lt
      have hn := crcK_lt xs k
      obtain ⟨y, hy⟩ : ∃ y, y = crcK xs k ^^^ x.toNat := ⟨_, rfl⟩
      have hyl : y < 4294967296 := by rw [hy]; exact xor_lt hn (by omega)
      have hxor : bits .xor .u32 (crcK xs k : Int) ((x.toNat : Int) % 4294967296) = (y : Int) := by
        rw [show (x.toNat : Int) % 4294967296 = ((x.toNat : Nat) : Int) by omega, u32_xor_nat _ _ hn (by omega), hy]
      rw [← hy] at HS
      have hxor2 : bits .xor .u32 (crcK xs k : Int) (x.toNat : Int) = (y : Int) := by
        rw [u32_xor_nat _ _ hn (by omega), hy]
      have HX2 := Lib.hid hxor2
      have hki : (k : Int) < (m : Int) := by omega
      clear hx hy
      go_wp2_with fail
      obtain ⟨wo, rfl⟩ : ∃ wo : World, wo = wr := ⟨_, rfl⟩
      clear hcu hxor hxor2 hn hxl
      go_loopw [3, 5] (fun s3 s5 wr => CkIn y wo s3 s5 wr) (fun _ s5 _ => 8 - (intOf s5).toNat)
      case atStart => exact ⟨0, by omega, by first | rfl | rw [HX2.out]; rfl, rfl, rfl⟩
      case round =>
        obtain ⟨j, hj, rfl, rfl, rfl⟩ := hrel
        rcases Nat.lt_or_ge j 8 with hlt8 | hge8
        · have hzl := crcBits_lt j hyl
          have HB : Hid (crcBits (j + 1) y = crcBit (crcBits j y)) := Lib.hid rfl
          generalize crcBits j y = z at *
          have hmod : (z : Int).tmod 2 = ((z % 2 : Nat) : Int) := by rw [Int.tmod_eq_emod_of_nonneg (by omega)]; omega
          have hji : (j : Int) < 8 := by omega
          by_cases hz : z % 2 = 1
          · have hcb : Hid (crcBit z = z / 2 ^^^ 3988292384) := Lib.hid (by unfold crcBit; rw [if_pos hz])
            have hx2 : bits .xor .u32 ((z : Int) / 2) 3988292384 = ((z / 2 ^^^ 3988292384 : Nat) : Int) := by
              have h := u32_xor_nat (z / 2) 3988292384 (by omega) (by omega); rw [show ((z / 2 : Nat) : Int) = (z : Int) / 2 by omega] at h; exact h
            rw [hz] at hmod
            go_wp2_with fail
            exact ⟨⟨j + 1, by omega, by rw [HB.out, hcb.out], by go_num, rfl⟩, by simp [intOf]; omega⟩
          · have hcb : Hid (crcBit z = z / 2) := Lib.hid (by unfold crcBit; rw [if_neg hz])
            have hz0 : z % 2 = 0 := by omega
            rw [hz0] at hmod
            go_wp2_with fail
            exact ⟨⟨j + 1, by omega, by rw [HB.out, hcb.out]; simp, by go_num, rfl⟩, by simp [intOf]; omega⟩
        · obtain rfl : j = 8 := by omega
          go_wp2_with fail
          exact ⟨⟨k + 1, by rw [← HM.out]; omega, by rw [HS.out], by go_num, rfl⟩, by simp [intOf]; omega⟩
    · obtain rfl : k = m := by omega
      have hxe : bits .xor .u32 (crcK xs k : Int) 4294967295 = ((crcK xs k ^^^ 4294967295 : Nat) : Int) := u32_xor_nat _ 4294967295 (crcK_lt xs k) (by omega)
      have HXE := HX.out k rfl
      go_wp2_with fail
      go_ret
      exact ⟨ret_u32 (by rw [HXE]), rfl⟩
end Go.Proofs.Ytlaaolbdadempaa

/- What the reference calls good is what the program reads. -/
namespace Go.Proofs.Ytlaaolbdadempaa
open Go.RowKit

def tailZ (b : List UInt8) (n : Nat) : Bool := @decide (∀ i, i < 124 → (i < 12 + n ∨ b.getD i 0 = 0)) (Nat.decidableBallLT 124 fun i _ => i < 12 + n ∨ b.getD i 0 = 0)
/-- the reference's test -/
def rgood (b : List UInt8) (k : Nat) : Bool :=
  decide (numR (b.take 4) ≠ 0) && (decide (numR (b.take 4) = numR (b.drop 124)) && (decide (numR ((b.drop 4).take 4) = crc ((b.drop 8).take 116)) && (decide (numR ((b.drop 8).take 2) = k) && (decide ((b.getD 10 0).toNat ≤ 3) &&
  (decide ((b.getD 11 0).toNat ≤ 112) && ((decide (2 ≤ (b.getD 10 0).toNat) || decide ((b.getD 11 0).toNat = 112)) && ((decide ((b.getD 10 0).toNat % 2 = 1) || decide ((b.getD 11 0).toNat ≠ 0)) && tailZ b (b.getD 11 0).toNat)))))))
def val4 (a b c d : UInt8) : Nat := ((a.toNat * 256 + b.toNat) * 256 + c.toNat) * 256 + d.toNat
theorem numR4 (a b c d : UInt8) : numR [a, b, c, d] = val4 a b c d := by simp [numR, val4]; omega
theorem val4_lt (a b c d : UInt8) : val4 a b c d < 4294967296 := by
  have := a.toNat_lt; have := b.toNat_lt; have := c.toNat_lt; have := d.toNat_lt
  unfold val4; omega
theorem ofNat_eq {n : Nat} {a : UInt8} (h : n % 256 = a.toNat) : UInt8.ofNat n = a := by
  apply UInt8.toNat_inj.1; rw [UInt8.toNat_ofNat', ← h]
theorem digs_val (a b c d : UInt8) : digs (val4 a b c d) = [a, b, c, d] := by
  have := a.toNat_lt; have := b.toNat_lt; have := c.toNat_lt; have := d.toNat_lt
  unfold digs val4
  rw [ofNat_eq (a := a) (by omega), ofNat_eq (a := b) (by omega), ofNat_eq (a := c) (by omega), ofNat_eq (a := d) (by omega)]
theorem digs_inj {x y : Nat} (hx : x < 4294967296) (hy : y < 4294967296) (h : digs x = digs y) : x = y := by
  unfold digs at h
  injection h with h1 h
  injection h with h2 h
  injection h with h3 h
  injection h with h4 _
  have e1 := congrArg UInt8.toNat h1
  have e2 := congrArg UInt8.toNat h2
  have e3 := congrArg UInt8.toNat h3
  have e4 := congrArg UInt8.toNat h4
  simp only [UInt8.toNat_ofNat'] at e1 e2 e3 e4
  omega
theorem cut128 (b : List UInt8) (hb : b.length = 128) : ∃ a0 a1 a2 a3 c0 c1 c2 c3 x8 x9 m n g0 g1 g2 g3 : UInt8, ∃ d : List UInt8, d.length = 112 ∧ b = a0 :: a1 :: a2 :: a3 :: c0 :: c1 :: c2 :: c3 :: x8 :: x9 :: m :: n :: (d ++ [g0, g1, g2, g3]) := by
  match b, hb with
  | a0 :: a1 :: a2 :: a3 :: c0 :: c1 :: c2 :: c3 :: x8 :: x9 :: m :: n :: r, hb =>
    have hr : r.length = 116 := by simpa using hb
    have h4 : (r.drop 112).length = 4 := by rw [List.length_drop, hr]
    match hq : r.drop 112, h4 with
    | [g0, g1, g2, g3], _ => exact ⟨a0, a1, a2, a3, c0, c1, c2, c3, x8, x9, m, n, g0, g1, g2, g3, r.take 112, by rw [List.length_take, hr]; rfl, by rw [← hq, List.take_append_drop]⟩
theorem zeros_iff (d : List UInt8) (n : Nat) (hd : d.length = 112) (hn : n ≤ 112) : d.take n ++ List.replicate (112 - n) 0 = d ↔ ∀ i, i < 112 → n ≤ i → d.getD i 0 = 0 := by
  constructor
  · intro h i hi hni
    rw [← h, List.getD_eq_getElem?_getD, List.getElem?_append_right (by rw [List.length_take]; omega)]
    rw [List.getElem?_replicate]
    split <;> rfl
  · intro h
    apply List.ext_getElem
    · rw [List.length_append, List.length_take, List.length_replicate]; omega
    · intro i h1 h2
      rcases Nat.lt_or_ge i n with hi | hi
      · rw [List.getElem_append_left (by rw [List.length_take]; omega), List.getElem_take]
      · rw [List.getElem_append_right (by rw [List.length_take]; omega), List.getElem_replicate]
        have := h i (by omega) hi
        rw [List.getD_eq_getElem?_getD, List.getElem?_eq_getElem h2] at this
        simpa using this.symm
theorem rgood_good (b : List UInt8) (hb : b.length = 128) (k : Nat) (hk : k < 65536) : rgood b k = goodB b k := by
  obtain ⟨a0, a1, a2, a3, c0, c1, c2, c3, x8, x9, m, n, g0, g1, g2, g3, d, hd, rfl⟩ := cut128 b hb
  have hn := n.toNat_lt
  have hm := m.toNat_lt
  have t4 : (a0 :: a1 :: a2 :: a3 :: c0 :: c1 :: c2 :: c3 :: x8 :: x9 :: m :: n :: (d ++ [g0, g1, g2, g3])).drop 124 = [g0, g1, g2, g3] := by
    simp only [List.drop_succ_cons]
    rw [List.drop_append_of_le_length (by omega), List.drop_of_length_le (by omega)]; rfl
  have t8 : ((a0 :: a1 :: a2 :: a3 :: c0 :: c1 :: c2 :: c3 :: x8 :: x9 :: m :: n :: (d ++ [g0, g1, g2, g3])).drop 8).take 116 = [x8, x9, m, n] ++ d := by
    simp only [List.drop_succ_cons, List.drop_zero, List.take_succ_cons]
    rw [List.take_append_of_le_length (by omega), List.take_of_length_le (by omega)]; rfl
  have t12 : ((a0 :: a1 :: a2 :: a3 :: c0 :: c1 :: c2 :: c3 :: x8 :: x9 :: m :: n :: (d ++ [g0, g1, g2, g3])).drop 12) = d ++ [g0, g1, g2, g3] := rfl
  have tz : ∀ i, (a0 :: a1 :: a2 :: a3 :: c0 :: c1 :: c2 :: c3 :: x8 :: x9 :: m :: n :: (d ++ [g0, g1, g2, g3])).getD (12 + i) 0 = (d ++ [g0, g1, g2, g3]).getD i 0 := fun i => by
    rw [Nat.add_comm]; rfl
  have hk2 : numR [x8, x9] = k ↔ UInt8.ofNat (k / 256) = x8 ∧ UInt8.ofNat k = x9 := by
    have := x8.toNat_lt; have := x9.toNat_lt
    have e : numR [x8, x9] = x8.toNat * 256 + x9.toNat := by simp [numR]; omega
    rw [e]
    constructor
    · intro h; exact ⟨ofNat_eq (by omega), ofNat_eq (by omega)⟩
    · rintro ⟨h1, h2⟩
      have e1 := congrArg UInt8.toNat h1
      have e2 := congrArg UInt8.toNat h2
      simp only [UInt8.toNat_ofNat'] at e1 e2
      omega
  have hg : numR [a0, a1, a2, a3] = numR [g0, g1, g2, g3] ↔ digs (val4 a0 a1 a2 a3) = [g0, g1, g2, g3] := by
    rw [numR4, numR4]
    constructor
    · intro h; rw [h, digs_val]
    · intro h; rw [← digs_val g0 g1 g2 g3] at h; exact digs_inj (val4_lt _ _ _ _) (val4_lt _ _ _ _) h
  have hcr : ∀ X, X < 4294967296 → (numR [c0, c1, c2, c3] = X ↔ digs X = [c0, c1, c2, c3]) := fun X hX => by
    rw [numR4]
    constructor
    · intro h; rw [← h, digs_val]
    · intro h; rw [← digs_val c0 c1 c2 c3] at h; exact (digs_inj hX (val4_lt _ _ _ _) h).symm
  have hnum : num4 (a0 :: a1 :: a2 :: a3 :: c0 :: c1 :: c2 :: c3 :: x8 :: x9 :: m :: n :: (d ++ [g0, g1, g2, g3])) = val4 a0 a1 a2 a3 := rfl
  have h10 : (a0 :: a1 :: a2 :: a3 :: c0 :: c1 :: c2 :: c3 :: x8 :: x9 :: m :: n :: (d ++ [g0, g1, g2, g3])).getD 10 0 = m := rfl
  have h11 : (a0 :: a1 :: a2 :: a3 :: c0 :: c1 :: c2 :: c3 :: x8 :: x9 :: m :: n :: (d ++ [g0, g1, g2, g3])).getD 11 0 = n := rfl
  have hta : (a0 :: a1 :: a2 :: a3 :: c0 :: c1 :: c2 :: c3 :: x8 :: x9 :: m :: n :: (d ++ [g0, g1, g2, g3])).take 4 = [a0, a1, a2, a3] := rfl
  have htc : ((a0 :: a1 :: a2 :: a3 :: c0 :: c1 :: c2 :: c3 :: x8 :: x9 :: m :: n :: (d ++ [g0, g1, g2, g3])).drop 4).take 4 = [c0, c1, c2, c3] := rfl
  have htk : ((a0 :: a1 :: a2 :: a3 :: c0 :: c1 :: c2 :: c3 :: x8 :: x9 :: m :: n :: (d ++ [g0, g1, g2, g3])).drop 8).take 2 = [x8, x9] := rfl
  by_cases hnn : n.toNat ≤ 112
  · have hpd : (d ++ [g0, g1, g2, g3]).take n.toNat = d.take n.toNat := List.take_append_of_le_length (by omega)
    have hdl : (d.take n.toNat).length = n.toNat := by rw [List.length_take]; omega
    have hzz : tailZ (a0 :: a1 :: a2 :: a3 :: c0 :: c1 :: c2 :: c3 :: x8 :: x9 :: m :: n :: (d ++ [g0, g1, g2, g3])) n.toNat = decide (d.take n.toNat ++ List.replicate (112 - n.toNat) 0 = d) := by
      unfold tailZ
      apply decide_eq_decide.2
      rw [zeros_iff d n.toNat hd hnn]
      constructor
      · intro h i hi hni
        have h1 := (h (12 + i) (by omega)).resolve_left (by omega)
        rw [tz, List.getD_eq_getElem?_getD, List.getElem?_append_left (by omega), ← List.getD_eq_getElem?_getD] at h1
        exact h1
      · intro h i hi
        rcases Nat.lt_or_ge i (12 + n.toNat) with hni | hni
        · exact .inl hni
        right
        obtain ⟨j, rfl⟩ : ∃ j, i = 12 + j := ⟨i - 12, by omega⟩
        rw [tz, List.getD_eq_getElem?_getD, List.getElem?_append_left (by omega), ← List.getD_eq_getElem?_getD]
        exact h j (by omega) (by omega)
    have hsec : secP ⟨val4 a0 a1 a2 a3, m, d.take n.toNat⟩ k = a0 :: a1 :: a2 :: a3 :: c0 :: c1 :: c2 :: c3 :: x8 :: x9 :: m :: n :: (d ++ [g0, g1, g2, g3]) ↔
        (digs (val4 a0 a1 a2 a3) = [g0, g1, g2, g3] ∧ digs (crc ([x8, x9, m, n] ++ d)) = [c0, c1, c2, c3] ∧ (UInt8.ofNat (k / 256) = x8 ∧ UInt8.ofNat k = x9) ∧ d.take n.toNat ++ List.replicate (112 - n.toNat) 0 = d) := by
      have hbody : bodyP ⟨val4 a0 a1 a2 a3, m, d.take n.toNat⟩ k = [UInt8.ofNat (k / 256), UInt8.ofNat k, m, n] ++ (d.take n.toNat ++ List.replicate (112 - n.toNat) 0) := by
        unfold bodyP
        simp only [hdl]
        rw [show UInt8.ofNat n.toNat = n from UInt8.ofNat_toNat]
      have e : ∀ (X Y Z V : List UInt8), X.length = 4 → Y.length = 4 → (X ++ (Y ++ (Z ++ V)) = a0 :: a1 :: a2 :: a3 :: c0 :: c1 :: c2 :: c3 :: x8 :: x9 :: m :: n :: (d ++ [g0, g1, g2, g3]) ↔ (X = [a0, a1, a2, a3] ∧ Y = [c0, c1, c2, c3] ∧ Z ++ V = [x8, x9, m, n] ++ (d ++ [g0, g1, g2, g3]))) := fun X Y Z V hX hY => by
        match X, hX, Y, hY with
        | [p0, p1, p2, p3], _, [q0, q1, q2, q3], _ => simp [and_assoc]
      unfold secP
      rw [hbody, e _ _ _ _ (digs_len _) (digs_len _), digs_val]
      constructor
      · rintro ⟨_, h2, h3⟩
        simp only [List.cons_append, List.nil_append, List.cons.injEq] at h3
        obtain ⟨h31, h32, _, _, h33⟩ := h3
        have h34 := List.append_inj h33 (by rw [List.length_append, hdl, List.length_replicate]; omega)
        refine ⟨h34.2, ?_, ⟨h31, h32⟩, h34.1⟩
        rw [h31, h32, h34.1] at h2
        exact h2
      · rintro ⟨h1, h2, ⟨h3, h4⟩, h5⟩
        rw [h3, h4, h5]
        refine ⟨rfl, h2, ?_⟩
        rw [← h1, List.append_assoc]
    unfold rgood goodB pceOf fitB begB endB
    rw [hta, t4, htc, t8, htk, h10, h11, hnum, t12, hpd]
    simp only [hdl, hzz]
    rw [numR4]
    rw [Bool.eq_iff_iff]
    simp only [Bool.and_eq_true, Bool.or_eq_true, decide_eq_true_eq, hsec]
    rw [hcr _ (crc_lt _), hk2, ← numR4, hg, numR4]
    constructor
    · rintro ⟨h1, h2, h3, h4, h5, h6, h7, h8, h9⟩
      refine ⟨⟨h6, ⟨⟨h1, h5⟩, ?_⟩, ?_⟩, h2, h3, h4, h9⟩
      · rcases h7 with h7 | h7
        · left; omega
        · right; exact h7
      · rcases h8 with h8 | h8
        · left; exact h8
        · right; omega
    · rintro ⟨⟨h6, ⟨⟨h1, h5⟩, h7⟩, h8⟩, h2, h3, h4, h9⟩
      refine ⟨h1, h2, h3, h4, h5, h6, ?_, ?_, h9⟩
      · rcases h7 with h7 | h7
        · left; omega
        · right; exact h7
      · rcases h8 with h8 | h8
        · left; exact h8
        · right; omega
  · have e1 : goodB (a0 :: a1 :: a2 :: a3 :: c0 :: c1 :: c2 :: c3 :: x8 :: x9 :: m :: n :: (d ++ [g0, g1, g2, g3])) k = false := by
      unfold goodB; rw [h11, decide_eq_false hnn]; rfl
    rw [e1]
    unfold rgood
    rw [h11, decide_eq_false hnn]
    simp
end Go.Proofs.Ytlaaolbdadempaa

/- The reference's good, walked. -/
namespace Go.Proofs.Ytlaaolbdadempaa
open Go.RowKit

/-- the tests ahead of the last one -/
def rhead (r0 r1 r2 cc r3 k m n : Nat) : Bool :=
  decide (r0 ≠ 0) && (decide (r0 = r1) && (decide (r2 = cc) && (decide (r3 = k) && (decide (m ≤ 3) && (decide (n ≤ 112) && ((decide (2 ≤ m) || decide (n = 112)) && (decide (m % 2 = 1) || decide (n ≠ 0))))))))
def GdHead (b : List UInt8) (n : Nat) (w : World) (s6 : Value) (wr : World) : Prop := ∃ i q : Nat, i ≤ 124 ∧ 12 + n ≤ i ∧ s6 = .int .i64 (i : Int) ∧ (∀ j, j < i → (j < 12 + n ∨ b.getD j 0 = 0)) ∧ wr = w.drewN q
set_option maxHeartbeats 80000000 in
set_option maxRecDepth 100000 in
theorem refgood_call (b : List UInt8) (hb : b.length = 128) (k : Nat) (hk : k < 65536) (v : Value) (B : Nat) (w : World) (h : Rest B w b v) :
    Calls Try.prog 98 #[v, .int .i64 (k : Int)] w fun e w' => e = .returned (.bool (goodB b k)) ∧ ∃ q, w' = w.drewN q := by
  have hBB : ∀ q : Nat, Rest B (w.drewN q) b v := fun q => RestS.keep (S := fun b => b < B) h (fun _ _ _ => rfl)
  obtain ⟨a, cap, rfl, hl, hm9, _, hc⟩ := h
  rcases hc with hc | ⟨bb, off, rfl, _, hc⟩
  · omega
  unfold maxLen at hm9
  have hl2 : 128 ≤ cap := by omega
  have hcap : (124 : Int) ≤ (cap : Int) := by omega
  have hcap4 : (4 : Int) ≤ (cap : Int) := by omega
  have hcap8 : (8 : Int) ≤ (cap : Int) := by omega
  have hcap10 : (10 : Int) ≤ (cap : Int) := by omega
  have hn1 : ¬ cap = 124 := by omega
  have hn2 : ¬ cap = 4 := by omega
  have hn3 : ¬ cap = 8 := by omega
  have H0 : Hid (∀ q, Calls Try.prog 83 #[.slice (some ⟨bb, off, none⟩) 4 cap] (w.drewN q) fun e w' => e = .returned (.int .u64 (numR (b.take 4) : Int)) ∧ w' = w.drewN q) := Lib.hid (fun q => by
    have := refnumber_call ((b.drop 0).take 4) (.slice (some ⟨bb, off + 0, none⟩) 4 cap) B _ (rest_part (hBB q) 0 4 cap (by omega) (by omega) (by omega)) (by rw [List.length_take]; omega)
    rwa [List.drop_zero, Nat.add_zero] at this)
  have H1 : Hid (∀ q, Calls Try.prog 83 #[.slice (some ⟨bb, off + 124, none⟩) 4 (cap - 124)] (w.drewN q) fun e w' => e = .returned (.int .u64 (numR (b.drop 124) : Int)) ∧ w' = w.drewN q) := Lib.hid (fun q => by
    have := refnumber_call ((b.drop 124).take 4) _ B _ (rest_part (hBB q) 124 4 (cap - 124) (by omega) (by omega) (by omega)) (by rw [List.length_take]; omega)
    rwa [List.take_of_length_le (by rw [List.length_drop]; omega)] at this)
  have H2 : Hid (∀ q, Calls Try.prog 83 #[.slice (some ⟨bb, off + 4, none⟩) 4 (cap - 4)] (w.drewN q) fun e w' => e = .returned (.int .u64 (numR ((b.drop 4).take 4) : Int)) ∧ w' = w.drewN q) := Lib.hid (fun q =>
    refnumber_call ((b.drop 4).take 4) _ B _ (rest_part (hBB q) 4 4 (cap - 4) (by omega) (by omega) (by omega)) (by rw [List.length_take]; omega))
  have H3 : Hid (∀ q, Calls Try.prog 83 #[.slice (some ⟨bb, off + 8, none⟩) 2 (cap - 8)] (w.drewN q) fun e w' => e = .returned (.int .u64 (numR ((b.drop 8).take 2) : Int)) ∧ w' = w.drewN q) := Lib.hid (fun q =>
    refnumber_call ((b.drop 8).take 2) _ B _ (rest_part (hBB q) 8 2 (cap - 8) (by omega) (by omega) (by omega)) (by rw [List.length_take]; omega))
  have HC : Hid (∀ q, Calls Try.prog 91 #[.slice (some ⟨bb, off + 8, none⟩) 116 (cap - 8)] (w.drewN q) fun e w' => e = .returned (.int .u32 (crc ((b.drop 8).take 116) : Int)) ∧ w' = w.drewN q) := Lib.hid (fun q =>
    refcrc_call ((b.drop 8).take 116) _ B _ (rest_part (hBB q) 8 116 (cap - 8) (by omega) (by omega) (by omega)))
  have HCE : Hid (∀ i, i < 128 → ∀ q : Nat, (w.drewN q).cell? ⟨bb, off + i, none⟩ = some (.int .u8 ((b.getD i 0).toNat : Int))) := Lib.hid (fun i hi q => by
    rw [show (w.drewN q).cell? ⟨bb, off + i, none⟩ = w.cell? ⟨bb, off + i, none⟩ from rfl, hc i (by omega), List.getD_eq_getElem?_getD, List.getElem?_eq_getElem (by omega)]; rfl)
  have HPS : Hid (goodB b k = (rhead (numR (b.take 4)) (numR (b.drop 124)) (numR ((b.drop 4).take 4)) (crc ((b.drop 8).take 116)) (numR ((b.drop 8).take 2)) k (b.getD 10 0).toNat (b.getD 11 0).toNat && tailZ b (b.getD 11 0).toNat)) := Lib.hid (by
    rw [← rgood_good b hb k hk]; unfold rgood rhead; simp only [Bool.and_assoc])
  have hr2 : numR ((b.drop 4).take 4) < 4294967296 := numR_lt (b.drop 4) 4
  have hm := (b.getD 10 0).toNat_lt
  have hn := (b.getD 11 0).toNat_lt
  have b10 := HCE.out 10 (by omega)
  have b11 := HCE.out 11 (by omega)
  have b11' := b11 0
  rw [show w.drewN 0 = w from rfl] at b11'
  have HBD := Lib.hid hb
  rw [hb]
  clear hc hb hBB hl
  generalize numR (b.take 4) = r0 at *
  generalize numR (b.drop 124) = r1 at *
  generalize numR ((b.drop 4).take 4) = r2 at *
  generalize numR ((b.drop 8).take 2) = r3 at *
  generalize crc ((b.drop 8).take 116) = cc at *
  generalize goodB b k = res at *
  obtain ⟨m, hmm⟩ : ∃ m, m = (b.getD 10 0).toNat := ⟨_, rfl⟩
  obtain ⟨n, hnn⟩ : ∃ n, n = (b.getD 11 0).toNat := ⟨_, rfl⟩
  rw [← hmm] at HPS hm b10
  rw [← hnn] at HPS hn b11 b11'
  clear hmm hnn
  have w2 : IntKind.u32.wrap (r2 : Int) = (r2 : Int) := by rw [IntKind.wrap_u32]; omega
  have wk : IntKind.u64.wrap (k : Int) = (k : Int) := by rw [IntKind.wrap_u64]; omega
  have wn : IntKind.i64.wrap (n : Int) = (n : Int) := by rw [IntKind.wrap_i64]; omega
  have wn2 : IntKind.i64.wrap (12 + (n : Int)) = 12 + (n : Int) := by rw [IntKind.wrap_i64]; omega
  have tm : (m : Int).tmod 2 = ((m % 2 : Nat) : Int) := by rw [Int.tmod_eq_emod_of_nonneg (by omega)]; omega
  go_enter Try.func98, Try.ntmps98
  go_upto_region 2 with (fail)
  go_cut [72] (fun s72 wx => s72 = .bool (!rhead r0 r1 r2 cc r3 k m n) ∧ ∃ q, wx = w.drewN q)
  case first =>
    by_cases h1 : r0 = 0
    · skip
      have e1 : (((r0) : Int) == (0)) = true := by simp; omega
      have e1b : (((r0) : Int) != (0)) = false := by simp; omega
      have e1d : decide (((r0) : Int) = (0)) = true := by simp; omega
      have hps : rhead r0 r1 r2 cc r3 k m n = false := by unfold rhead; simp; omega
      go_quiet ((first | (go_at_call 83; first | (with_reducible exact Calls.quiet_of_same (H0.out _)) | (with_reducible exact Calls.quiet_of_same (H1.out _)) | (with_reducible exact Calls.quiet_of_same (H2.out _)) | (with_reducible exact Calls.quiet_of_same (H3.out _))) | (go_at_call 91; exact Calls.quiet_of_same (HC.out _))))
      go_wp2_with fail
      go_meet
      case rel => exact ⟨by rw [hps]; rfl, _, rfl⟩
    · skip
      have e1 : (((r0) : Int) == (0)) = false := by simp; omega
      have e1b : (((r0) : Int) != (0)) = true := by simp; omega
      have e1d : decide (((r0) : Int) = (0)) = false := by simp; omega
      by_cases h2 : ¬ r0 = r1
      · skip
        have e2 : (((r0) : Int) == (r1)) = false := by simp; omega
        have e2b : (((r0) : Int) != (r1)) = true := by simp; omega
        have e2d : decide (((r0) : Int) = (r1)) = false := by simp; omega
        have hps : rhead r0 r1 r2 cc r3 k m n = false := by unfold rhead; simp; omega
        go_quiet ((first | (go_at_call 83; first | (with_reducible exact Calls.quiet_of_same (H0.out _)) | (with_reducible exact Calls.quiet_of_same (H1.out _)) | (with_reducible exact Calls.quiet_of_same (H2.out _)) | (with_reducible exact Calls.quiet_of_same (H3.out _))) | (go_at_call 91; exact Calls.quiet_of_same (HC.out _))))
        go_wp2_with fail
        go_meet
        case rel => exact ⟨by rw [hps]; rfl, _, rfl⟩
      · skip
        have e2 : (((r0) : Int) == (r1)) = true := by simp; omega
        have e2b : (((r0) : Int) != (r1)) = false := by simp; omega
        have e2d : decide (((r0) : Int) = (r1)) = true := by simp; omega
        by_cases h3 : ¬ r2 = cc
        · skip
          have e3 : (((r2) : Int) == (cc)) = false := by simp; omega
          have e3b : (((r2) : Int) != (cc)) = true := by simp; omega
          have e3d : decide (((r2) : Int) = (cc)) = false := by simp; omega
          have hps : rhead r0 r1 r2 cc r3 k m n = false := by unfold rhead; simp; omega
          go_quiet ((first | (go_at_call 83; first | (with_reducible exact Calls.quiet_of_same (H0.out _)) | (with_reducible exact Calls.quiet_of_same (H1.out _)) | (with_reducible exact Calls.quiet_of_same (H2.out _)) | (with_reducible exact Calls.quiet_of_same (H3.out _))) | (go_at_call 91; exact Calls.quiet_of_same (HC.out _))))
          go_wp2_with fail
          go_meet
          case rel => exact ⟨by rw [hps]; rfl, _, rfl⟩
        · skip
          have e3 : (((r2) : Int) == (cc)) = true := by simp; omega
          have e3b : (((r2) : Int) != (cc)) = false := by simp; omega
          have e3d : decide (((r2) : Int) = (cc)) = true := by simp; omega
          by_cases h4 : ¬ r3 = k
          · skip
            have e4 : (((r3) : Int) == (k)) = false := by simp; omega
            have e4b : (((r3) : Int) != (k)) = true := by simp; omega
            have e4d : decide (((r3) : Int) = (k)) = false := by simp; omega
            have hps : rhead r0 r1 r2 cc r3 k m n = false := by unfold rhead; simp; omega
            go_quiet ((first | (go_at_call 83; first | (with_reducible exact Calls.quiet_of_same (H0.out _)) | (with_reducible exact Calls.quiet_of_same (H1.out _)) | (with_reducible exact Calls.quiet_of_same (H2.out _)) | (with_reducible exact Calls.quiet_of_same (H3.out _))) | (go_at_call 91; exact Calls.quiet_of_same (HC.out _))))
            go_wp2_with fail
            go_meet
            case rel => exact ⟨by rw [hps]; rfl, _, rfl⟩
          · skip
            have e4 : (((r3) : Int) == (k)) = true := by simp; omega
            have e4b : (((r3) : Int) != (k)) = false := by simp; omega
            have e4d : decide (((r3) : Int) = (k)) = true := by simp; omega
            by_cases h5 : 3 < m
            · skip
              have e5 : decide ((3 : Int) < (m : Int)) = true := by simp; omega
              have hps : rhead r0 r1 r2 cc r3 k m n = false := by unfold rhead; simp; omega
              go_quiet ((first | (go_at_call 83; first | (with_reducible exact Calls.quiet_of_same (H0.out _)) | (with_reducible exact Calls.quiet_of_same (H1.out _)) | (with_reducible exact Calls.quiet_of_same (H2.out _)) | (with_reducible exact Calls.quiet_of_same (H3.out _))) | (go_at_call 91; exact Calls.quiet_of_same (HC.out _))))
              go_wp2_with fail
              go_meet
              case rel => exact ⟨by rw [hps]; rfl, _, rfl⟩
            · skip
              have e5 : decide ((3 : Int) < (m : Int)) = false := by simp; omega
              by_cases h6 : 112 < n
              · skip
                have e6 : decide ((112 : Int) < (n : Int)) = true := by simp; omega
                have hps : rhead r0 r1 r2 cc r3 k m n = false := by unfold rhead; simp; omega
                go_quiet ((first | (go_at_call 83; first | (with_reducible exact Calls.quiet_of_same (H0.out _)) | (with_reducible exact Calls.quiet_of_same (H1.out _)) | (with_reducible exact Calls.quiet_of_same (H2.out _)) | (with_reducible exact Calls.quiet_of_same (H3.out _))) | (go_at_call 91; exact Calls.quiet_of_same (HC.out _))))
                go_wp2_with fail
                go_meet
                case rel => exact ⟨by rw [hps]; rfl, _, rfl⟩
              · skip
                have e6 : decide ((112 : Int) < (n : Int)) = false := by simp; omega
                by_cases h7 : m < 2
                · skip
                  have e7 : decide ((m : Int) < 2) = true := by simp; omega
                  by_cases h7b : ¬ n = 112
                  · skip
                    have e7b : (((n) : Int) == (112)) = false := by simp; omega
                    have e7bb : (((n) : Int) != (112)) = true := by simp; omega
                    have e7bd : decide (((n) : Int) = (112)) = false := by simp; omega
                    have hps : rhead r0 r1 r2 cc r3 k m n = false := by unfold rhead; simp; omega
                    go_quiet ((first | (go_at_call 83; first | (with_reducible exact Calls.quiet_of_same (H0.out _)) | (with_reducible exact Calls.quiet_of_same (H1.out _)) | (with_reducible exact Calls.quiet_of_same (H2.out _)) | (with_reducible exact Calls.quiet_of_same (H3.out _))) | (go_at_call 91; exact Calls.quiet_of_same (HC.out _))))
                    go_wp2_with fail
                    go_meet
                    case rel => exact ⟨by rw [hps]; rfl, _, rfl⟩
                  · skip
                    have e7b : (((n) : Int) == (112)) = true := by simp; omega
                    have e7bb : (((n) : Int) != (112)) = false := by simp; omega
                    have e7bd : decide (((n) : Int) = (112)) = true := by simp; omega
                    by_cases h8 : m % 2 = 0
                    · skip
                      have e8 : ((((m : Int) % 2) : Int) == (0)) = true := by simp; omega
                      have e8b : ((((m : Int) % 2) : Int) != (0)) = false := by simp; omega
                      have e8d : decide ((((m : Int) % 2) : Int) = (0)) = true := by simp; omega
                      by_cases h8b : n = 0
                      · skip
                        have e8b : (((n) : Int) == (0)) = true := by simp; omega
                        have e8bb : (((n) : Int) != (0)) = false := by simp; omega
                        have e8bd : decide (((n) : Int) = (0)) = true := by simp; omega
                        have hps : rhead r0 r1 r2 cc r3 k m n = false := by unfold rhead; simp; omega
                        go_quiet ((first | (go_at_call 83; first | (with_reducible exact Calls.quiet_of_same (H0.out _)) | (with_reducible exact Calls.quiet_of_same (H1.out _)) | (with_reducible exact Calls.quiet_of_same (H2.out _)) | (with_reducible exact Calls.quiet_of_same (H3.out _))) | (go_at_call 91; exact Calls.quiet_of_same (HC.out _))))
                        go_wp2_with fail
                        go_meet
                        case rel => exact ⟨by rw [hps]; rfl, _, rfl⟩
                      · skip
                        have e8b : (((n) : Int) == (0)) = false := by simp; omega
                        have e8bb : (((n) : Int) != (0)) = true := by simp; omega
                        have e8bd : decide (((n) : Int) = (0)) = false := by simp; omega
                        have hps : rhead r0 r1 r2 cc r3 k m n = true := by unfold rhead; simp; omega
                        go_quiet ((first | (go_at_call 83; first | (with_reducible exact Calls.quiet_of_same (H0.out _)) | (with_reducible exact Calls.quiet_of_same (H1.out _)) | (with_reducible exact Calls.quiet_of_same (H2.out _)) | (with_reducible exact Calls.quiet_of_same (H3.out _))) | (go_at_call 91; exact Calls.quiet_of_same (HC.out _))))
                        go_wp2_with fail
                        go_meet
                        case rel => exact ⟨by rw [hps]; rfl, _, rfl⟩
                    · skip
                      have e8 : ((((m : Int) % 2) : Int) == (0)) = false := by simp; omega
                      have e8b : ((((m : Int) % 2) : Int) != (0)) = true := by simp; omega
                      have e8d : decide ((((m : Int) % 2) : Int) = (0)) = false := by simp; omega
                      have hps : rhead r0 r1 r2 cc r3 k m n = true := by unfold rhead; simp; omega
                      go_quiet ((first | (go_at_call 83; first | (with_reducible exact Calls.quiet_of_same (H0.out _)) | (with_reducible exact Calls.quiet_of_same (H1.out _)) | (with_reducible exact Calls.quiet_of_same (H2.out _)) | (with_reducible exact Calls.quiet_of_same (H3.out _))) | (go_at_call 91; exact Calls.quiet_of_same (HC.out _))))
                      go_wp2_with fail
                      go_meet
                      case rel => exact ⟨by rw [hps]; rfl, _, rfl⟩
                · skip
                  have e7 : decide ((m : Int) < 2) = false := by simp; omega
                  by_cases h8 : m % 2 = 0
                  · skip
                    have e8 : ((((m : Int) % 2) : Int) == (0)) = true := by simp; omega
                    have e8b : ((((m : Int) % 2) : Int) != (0)) = false := by simp; omega
                    have e8d : decide ((((m : Int) % 2) : Int) = (0)) = true := by simp; omega
                    by_cases h8b : n = 0
                    · skip
                      have e8b : (((n) : Int) == (0)) = true := by simp; omega
                      have e8bb : (((n) : Int) != (0)) = false := by simp; omega
                      have e8bd : decide (((n) : Int) = (0)) = true := by simp; omega
                      have hps : rhead r0 r1 r2 cc r3 k m n = false := by unfold rhead; simp; omega
                      go_quiet ((first | (go_at_call 83; first | (with_reducible exact Calls.quiet_of_same (H0.out _)) | (with_reducible exact Calls.quiet_of_same (H1.out _)) | (with_reducible exact Calls.quiet_of_same (H2.out _)) | (with_reducible exact Calls.quiet_of_same (H3.out _))) | (go_at_call 91; exact Calls.quiet_of_same (HC.out _))))
                      go_wp2_with fail
                      go_meet
                      case rel => exact ⟨by rw [hps]; rfl, _, rfl⟩
                    · skip
                      have e8b : (((n) : Int) == (0)) = false := by simp; omega
                      have e8bb : (((n) : Int) != (0)) = true := by simp; omega
                      have e8bd : decide (((n) : Int) = (0)) = false := by simp; omega
                      have hps : rhead r0 r1 r2 cc r3 k m n = true := by unfold rhead; simp; omega
                      go_quiet ((first | (go_at_call 83; first | (with_reducible exact Calls.quiet_of_same (H0.out _)) | (with_reducible exact Calls.quiet_of_same (H1.out _)) | (with_reducible exact Calls.quiet_of_same (H2.out _)) | (with_reducible exact Calls.quiet_of_same (H3.out _))) | (go_at_call 91; exact Calls.quiet_of_same (HC.out _))))
                      go_wp2_with fail
                      go_meet
                      case rel => exact ⟨by rw [hps]; rfl, _, rfl⟩
                  · skip
                    have e8 : ((((m : Int) % 2) : Int) == (0)) = false := by simp; omega
                    have e8b : ((((m : Int) % 2) : Int) != (0)) = true := by simp; omega
                    have e8d : decide ((((m : Int) % 2) : Int) = (0)) = false := by simp; omega
                    have hps : rhead r0 r1 r2 cc r3 k m n = true := by unfold rhead; simp; omega
                    go_quiet ((first | (go_at_call 83; first | (with_reducible exact Calls.quiet_of_same (H0.out _)) | (with_reducible exact Calls.quiet_of_same (H1.out _)) | (with_reducible exact Calls.quiet_of_same (H2.out _)) | (with_reducible exact Calls.quiet_of_same (H3.out _))) | (go_at_call 91; exact Calls.quiet_of_same (HC.out _))))
                    go_wp2_with fail
                    go_meet
                    case rel => exact ⟨by rw [hps]; rfl, _, rfl⟩
  case rest =>
    obtain ⟨rfl, q0, rfl⟩ := hcut
    cases hrh : rhead r0 r1 r2 cc r3 k m n with
    | false =>
      rw [hrh] at HPS
      go_wp2_with fail
      go_ret
      exact ⟨ret_bool (by rw [HPS.out]; rfl), q0, rfl⟩
    | true =>
      rw [hrh] at HPS
      have hn112 : n ≤ 112 := by
        unfold rhead at hrh
        simp at hrh
        exact hrh.2.2.2.2.2.1
      clear hrh b10 b11 b11' H0 H1 H2 H3 HC
      go_wp2_with fail
      go_loopw [6] (fun s6 wr => GdHead b n w s6 wr) (fun s6 _ => 124 - (intOf s6).toNat)
      case atStart => exact ⟨12 + n, q0, by omega, Nat.le_refl _, by go_num, fun j hj => .inl hj, rfl⟩
      case round =>
        obtain ⟨i, q, hi, hi2, rfl, hz, rfl⟩ := hrel
        have HZ := Lib.hid hz
        clear hz
        rcases Nat.lt_or_ge i 124 with hlt | hge
        · have hcu := HCE.out i (by omega) q
          have hii : (i : Int) < 124 := by omega
          have hi0 : (0 : Int) ≤ (i : Int) := by omega
          have hi128 : (i : Int) < 128 := by omega
          obtain ⟨x, hx⟩ : ∃ x, x = b.getD i 0 := ⟨_, rfl⟩
          have HX := Lib.hid hx
          rw [← hx] at hcu
          clear hx
          by_cases hx0 : x = 0
          · subst hx0
            have hz2 : ∀ j, j < i + 1 → (j < 12 + n ∨ b.getD j 0 = 0) := fun j hj => by
              rcases Nat.lt_or_ge j i with h9 | h9
              · exact HZ.out j h9
              · obtain rfl : j = i := by omega
                exact .inr HX.out.symm
            have HZ2 := Lib.hid hz2
            clear hz2
            go_wp2_with fail
            exact ⟨⟨i + 1, q, by omega, by omega, by go_num, HZ2.out, rfl⟩, by simp [intOf]; omega⟩
          · have hx1 : ¬ ((x.toNat : Int) = 0) := fun h => hx0 (UInt8.toNat_inj.1 (by simpa using h))
            have HF : Hid (tailZ b n = false) := Lib.hid (by
              unfold tailZ
              exact decide_eq_false (fun h => by
                rcases h i hlt with h | h
                · omega
                · exact hx0 (by rw [HX.out, h])))
            go_wp2_with fail
            go_ret
            exact ⟨ret_bool (by rw [HPS.out, HF.out]; rfl), q, rfl⟩
        · obtain rfl : i = 124 := by omega
          have HF : Hid (tailZ b n = true) := Lib.hid (by
            unfold tailZ
            exact decide_eq_true (fun j hj => HZ.out j hj))
          go_wp2_with fail
          go_ret
          exact ⟨ret_bool (by rw [HPS.out, HF.out]; rfl), q, rfl⟩
end Go.Proofs.Ytlaaolbdadempaa

/- The reference's Sectors, Used, Check, Room. -/
namespace Go.Proofs.Ytlaaolbdadempaa
open Go.RowKit

set_option maxHeartbeats 1000000 in
set_option maxRecDepth 100000 in
theorem refsectors_call (n : Nat) (hn : n ≤ 1000000000000) (w : World) : Calls Try.prog 66 #[.int .i64 (n : Int)] w fun e w' => e = .returned (.int .i64 (secsOf n : Int)) ∧ w' = w := by
  unfold secsOf
  have hw : IntKind.i64.wrap ((n : Int) + 112) = (n : Int) + 112 := by rw [IntKind.wrap_i64]; omega
  have hw2 : IntKind.i64.wrap ((n : Int) + 112 - 1) = (n : Int) + 111 := by rw [IntKind.wrap_i64]; omega
  go_enter Try.func66, Try.ntmps66
  go_wp2_with fail
  all_goals
    go_ret
    exact ⟨ret_int (by omega), rfl⟩
def UsHead (l : List (List UInt8)) (w : World) (s3 s4 : Value) (wr : World) : Prop := ∃ k : Nat, k ≤ l.length ∧ s3 = .int .i64 (usedL (l.take k) : Int) ∧ s4 = .int .i64 (k : Int) ∧ wr = w
set_option maxHeartbeats 2000000 in
set_option maxRecDepth 100000 in
theorem refused_call (l : List (List UInt8)) (v : Value) (w : World) (B : Nat) (h : NRest B w l v) (hu : usedL l ≤ 1000000000000) (hlen : ∀ x ∈ l, x.length ≤ 1000000000000) :
    Calls Try.prog 67 #[v] w fun e w' => e = .returned (.int .i64 (usedL l : Int)) ∧ w' = w := by
  have HV := Lib.hid h
  obtain ⟨a, cap, rfl, hc1, hc2⟩ := h.shape
  clear h
  obtain ⟨m, hm⟩ : ∃ m, m = l.length := ⟨_, rfl⟩
  rw [← hm] at HV hc2 ⊢
  have HM := Lib.hid hm
  have HU : Hid (∀ k, usedL (l.take k) ≤ 1000000000000) := Lib.hid (fun k => Nat.le_trans (usedL_take l k) hu)
  have HL := Lib.hid hlen
  clear hm hu hlen
  go_enter Try.func67, Try.ntmps67
  go_wp2_with fail
  go_loopw [3, 4] (fun s3 s4 wr => UsHead l w s3 s4 wr) (fun _ s4 _ => m - (intOf s4).toNat)
  case atStart => exact ⟨0, Nat.zero_le _, rfl, rfl, rfl⟩
  case round =>
    obtain ⟨k, hk, rfl, rfl, rfl⟩ := hrel
    rw [← HM.out] at hk
    rcases Nat.lt_or_ge k m with hlt | hge
    · obtain ⟨x, hx⟩ : ∃ x, l[k]? = some x := ⟨_, List.getElem?_eq_getElem (by rw [← HM.out]; exact hlt)⟩
      obtain ⟨b, off, u, rfl, hbl, hru, hcell⟩ := HV.out.at hx
      have hcu : wr.cell? ⟨b, off + k, none⟩ = some u := hcell wr (Below.refl _ _)
      obtain ⟨ua, uc, rfl, _, _⟩ := hru.shape
      have HS := Lib.hid (usedL_snoc hx)
      have hkm : (k : Int) < (m : Int) := by omega
      have hk0 : (0 : Int) ≤ (k : Int) := by omega
      have h1 := HU.out k
      have h2 := HU.out (k + 1)
      have HX : Hid (x.length ≤ 1000000000000) := Lib.hid (HL.out x (List.mem_of_getElem? hx))
      rw [HS.out] at h2
      generalize usedL (l.take k) = u1 at *
      generalize x.length = n at *
      generalize hsn : secsOf n = sn at *
      have hwr : IntKind.i64.wrap ((u1 : Int) + (sn : Int)) = (u1 : Int) + (sn : Int) := by rw [IntKind.wrap_i64]; omega
      have HC : Hid (∀ W, Calls Try.prog 66 #[.int .i64 (n : Int)] W fun e w' => e = .returned (.int .i64 (sn : Int)) ∧ w' = W) := Lib.hid (fun W => by rw [← hsn]; exact refsectors_call n HX.out W)
      clear hru hcell hx hsn h1 h2
      go_wp2_with (go_at_call 66; refine (HC.out _).mono ?_; rintro e w6 ⟨rfl, rfl⟩)
      exact ⟨⟨k + 1, by rw [← HM.out]; omega, by rw [HS.out]; simp, by go_num, rfl⟩, by simp [intOf]; omega⟩
    · obtain rfl : k = m := by omega
      go_wp2_with fail
      go_ret
      exact ⟨ret_int (by rw [HM.out, List.take_length]), rfl⟩
set_option maxHeartbeats 8000000 in
set_option maxRecDepth 100000 in
theorem jrefcheck_call (j : Jnl) (v : Value) (w : World) (h : NRest w.heap.size w j.recs v) (hj : Mild j) :
    Calls Try.prog 44 #[jv v j.many j.synced] w fun e w' => e = .returned (.int .i64 (if jokB j then 0 else 1)) ∧ Below w.heap.size w w' := by
  have HC : Hid (∀ W, Below w.heap.size w W → Calls Try.prog 67 #[v] W fun e w' => e = .returned (.int .i64 (usedL j.recs : Int)) ∧ w' = W) := Lib.hid (fun W hW => refused_call j.recs v W _ (h.stays hW) hj.used hj.len)
  obtain ⟨a, cap, rfl, hc1, hc2⟩ := h.shape
  have HV : Hid (jokB j = decide (1 ≤ j.many ∧ j.many ≤ 4096 ∧ 0 ≤ j.synced ∧ j.synced ≤ (j.recs.length : Int) ∧ (usedL j.recs : Int) ≤ j.many)) := Lib.hid rfl
  generalize jokB j = r at *
  clear h hj
  unfold jv at *
  generalize usedL j.recs = u at *
  generalize j.recs.length = n at *
  generalize j.many = m at *
  generalize j.synced = s at *
  have HR := row_new w 55 [.slice a n cap, .int .i64 m, .int .i64 s]
  have HB := Lib.hid (Joins.below_alloc1 w (.cells #[.slice a n cap, .int .i64 m, .int .i64 s] 55))
  have c0 : ∀ q : Nat, ((w.alloc (.cells #[.slice a n cap, .int .i64 m, .int .i64 s] 55)).drewN q).cell? ⟨w.heap.size, 0, none⟩ = some (.slice a n cap) := fun q => HR.later (below_drewN (Below.refl _ _) q) (i := 0) rfl
  have c1 : ∀ q : Nat, ((w.alloc (.cells #[.slice a n cap, .int .i64 m, .int .i64 s] 55)).drewN q).cell? ⟨w.heap.size, 1, none⟩ = some (.int .i64 m) := fun q => HR.later (below_drewN (Below.refl _ _) q) (i := 1) rfl
  have c2 : ∀ q : Nat, ((w.alloc (.cells #[.slice a n cap, .int .i64 m, .int .i64 s] 55)).drewN q).cell? ⟨w.heap.size, 2, none⟩ = some (.int .i64 s) := fun q => HR.later (below_drewN (Below.refl _ _) q) (i := 2) rfl
  clear HR
  have HQ : Hid (∀ q : Nat, Below w.heap.size w ((w.alloc (.cells #[.slice a n cap, .int .i64 m, .int .i64 s] 55)).drewN q)) := Lib.hid (fun q => below_drewN HB.out q)
  by_cases h1 : m < 1
  · obtain rfl : r = false := by rw [HV.out]; simp; omega
    have t1 : decide (m < 1) = true := decide_eq_true h1
    go_enter Try.func44, Try.ntmps44
    go_wp2_with fail
    go_quiet (fail)
    go_wp2_with fail
    go_ret
    exact ⟨ret_int (by simp), HQ.out _⟩
  have f1 : decide (m < 1) = false := decide_eq_false h1
  by_cases h2 : 4096 < m
  · obtain rfl : r = false := by rw [HV.out]; simp; omega
    have t1 : decide (4096 < m) = true := decide_eq_true h2
    go_enter Try.func44, Try.ntmps44
    go_wp2_with fail
    go_quiet (fail)
    go_wp2_with fail
    go_ret
    exact ⟨ret_int (by simp), HQ.out _⟩
  have f2 : decide (4096 < m) = false := decide_eq_false h2
  by_cases h3 : s < 0
  · obtain rfl : r = false := by rw [HV.out]; simp; omega
    have t1 : decide (s < 0) = true := decide_eq_true h3
    go_enter Try.func44, Try.ntmps44
    go_wp2_with fail
    go_quiet (fail)
    go_wp2_with fail
    go_ret
    exact ⟨ret_int (by simp), HQ.out _⟩
  have f3 : decide (s < 0) = false := decide_eq_false h3
  by_cases h4 : (n : Int) < s
  · obtain rfl : r = false := by rw [HV.out]; simp; omega
    have t1 : decide ((n : Int) < s) = true := decide_eq_true h4
    go_enter Try.func44, Try.ntmps44
    go_wp2_with fail
    go_quiet (fail)
    go_wp2_with fail
    go_ret
    exact ⟨ret_int (by simp), HQ.out _⟩
  have f4 : decide ((n : Int) < s) = false := decide_eq_false h4
  by_cases h5 : m < (u : Int)
  · obtain rfl : r = false := by rw [HV.out]; simp; omega
    have t1 : decide (m < (u : Int)) = true := decide_eq_true h5
    go_enter Try.func44, Try.ntmps44
    go_wp2_with fail
    go_quiet ((go_at_call 67; exact Calls.quiet_of_same (HC.out _ (HQ.out _))))
    go_wp2_with fail
    go_ret
    exact ⟨ret_int (by simp), HQ.out _⟩
  have f5 : decide (m < (u : Int)) = false := decide_eq_false h5
  obtain rfl : r = true := by rw [HV.out]; simp; omega
  go_enter Try.func44, Try.ntmps44
  go_wp2_with fail
  go_quiet ((go_at_call 67; exact Calls.quiet_of_same (HC.out _ (HQ.out _))))
  go_wp2_with fail
  go_ret
  exact ⟨ret_int (by simp), HQ.out _⟩
end Go.Proofs.Ytlaaolbdadempaa

/- The reference's Room and Same. -/
namespace Go.Proofs.Ytlaaolbdadempaa
open Go.RowKit

set_option maxHeartbeats 8000000 in
set_option maxRecDepth 100000 in
theorem jrefroom_call (j : Jnl) (v : Value) (w : World) (h : NRest w.heap.size w j.recs v) (hj : Mild j) :
    Calls Try.prog 46 #[jv v j.many j.synced] w fun e w' => e = .returned (.int .i64 (roomJ j)) ∧ Below w.heap.size w w' := by
  have HC1 : Hid (∀ W, Below w.heap.size w W → Calls Try.prog 44 #[jv v j.many j.synced] W fun e w' => e = .returned (.int .i64 (if jokB j then 0 else 1)) ∧ Below W.heap.size W w') := Lib.hid (fun W hW => jrefcheck_call j v W (h.keep hW) hj)
  have HC : Hid (∀ W, Below w.heap.size w W → Calls Try.prog 67 #[v] W fun e w' => e = .returned (.int .i64 (usedL j.recs : Int)) ∧ w' = W) := Lib.hid (fun W hW => refused_call j.recs v W _ (h.stays hW) hj.used hj.len)
  obtain ⟨a, cap, rfl, hc1, hc2⟩ := h.shape
  have HV : Hid (roomJ j = if jokB j then 112 * (j.many - usedL j.recs) else 0) := Lib.hid rfl
  have hwr : jokB j = true → IntKind.i64.wrap (112 * (j.many - (usedL j.recs : Int))) = 112 * (j.many - (usedL j.recs : Int)) ∧ IntKind.i64.wrap (j.many - (usedL j.recs : Int)) = j.many - (usedL j.recs : Int) := fun h1 => by
    have h2 : 1 ≤ j.many ∧ j.many ≤ 4096 := by unfold jokB at h1; simp at h1; omega
    have h3 := hj.used
    rw [IntKind.wrap_i64, IntKind.wrap_i64]; omega
  generalize roomJ j = z at *
  generalize jokB j = r at *
  clear h hj
  unfold jv at *
  generalize usedL j.recs = u at *
  generalize j.recs.length = n at *
  generalize j.many = m at *
  generalize j.synced = s at *
  have HR := Lib.hid (row_new w 55 [.slice a n cap, .int .i64 m, .int .i64 s])
  have HB := Lib.hid (Joins.below_alloc1 w (.cells #[.slice a n cap, .int .i64 m, .int .i64 s] 55))
  cases r
  · clear hwr
    go_enter Try.func46, Try.ntmps46
    go_wp2_with (first
      | (go_at_call 44; refine (HC1.out _ HB.out).mono ?_; rintro e w2 ⟨rfl, hb⟩; have HB := Lib.hid (below_next HB.out hb); clear hb))
    go_ret
    exact ⟨ret_int (by rw [HV.out]; simp), HB.out⟩
  · obtain ⟨hwr2, hwr3⟩ := hwr rfl
    clear hwr
    go_enter Try.func46, Try.ntmps46
    go_wp2_with (first
      | (go_at_call 44; refine (HC1.out _ HB.out).mono ?_; rintro e w2 ⟨rfl, hb⟩; have HR2 := Lib.hid (HR.out.keep hb); replace HB := Lib.hid (below_next HB.out hb); clear hb; have d0 : ∀ q : Nat, (w2.drewN q).cell? ⟨w.heap.size, 0, none⟩ = some (.slice a n cap) := fun q => HR2.out.later (below_drewN (Below.refl _ _) q) (i := 0) rfl; have d1 : ∀ q : Nat, (w2.drewN q).cell? ⟨w.heap.size, 1, none⟩ = some (.int .i64 m) := fun q => HR2.out.later (below_drewN (Below.refl _ _) q) (i := 1) rfl)
      | go_quiet ((go_at_call 67; exact Calls.quiet_of_same (HC.out _ (below_drewN HB.out _)))))
    go_ret
    exact ⟨ret_int (by rw [HV.out]; simp), below_drewN HB.out _⟩
set_option maxHeartbeats 8000000 in
set_option maxRecDepth 100000 in
theorem jrefsame_call (l l2 : List (List UInt8)) (v v2 : Value) (m s m2 s2 : Int) (w : World) (h : NRest w.heap.size w l v) (h2 : NRest w.heap.size w l2 v2) :
    Calls Try.prog 40 #[.agg #[v, .int .i64 m, .int .i64 s], .agg #[v2, .int .i64 m2, .int .i64 s2]] w fun e w' => e = .returned (.bool (decide (m = m2 ∧ s = s2 ∧ l = l2))) ∧ Below w.heap.size w w' := by
  have HC : Hid (∀ W, Below w.heap.size w W → Calls Try.prog 49 #[v, v2] W fun e w' => e = .returned (.bool (decide (l = l2))) ∧ Below W.heap.size W w') := Lib.hid (fun W hW => samerec_call l l2 v v2 W (h.keep hW) (h2.keep hW))
  obtain ⟨a, c, rfl⟩ := nrest_slice h
  obtain ⟨a2, c2, rfl⟩ := nrest_slice h2
  clear h h2
  have HR := (row_new w 55 [.slice a l.length c, .int .i64 m, .int .i64 s]).keep (Joins.below_alloc1 _ (.cells #[.slice a2 l2.length c2, .int .i64 m2, .int .i64 s2] 55))
  have HR2 := row_new (w.alloc (.cells #[.slice a l.length c, .int .i64 m, .int .i64 s] 55)) 55 [.slice a2 l2.length c2, .int .i64 m2, .int .i64 s2]
  rw [World.size_alloc] at HR2
  have HB := Lib.hid (below_two w (.cells #[.slice a l.length c, .int .i64 m, .int .i64 s] 55) (.cells #[.slice a2 l2.length c2, .int .i64 m2, .int .i64 s2] 55))
  obtain ⟨r, hr⟩ : ∃ r, r = decide (l = l2) := ⟨_, rfl⟩
  have HRR : Hid (decide (m = m2 ∧ s = s2 ∧ l = l2) = (decide (m = m2) && (decide (s = s2) && r))) := Lib.hid (by rw [hr, Bool.decide_and, Bool.decide_and])
  rw [← hr] at HC
  clear hr
  generalize decide (m = m2 ∧ s = s2 ∧ l = l2) = z at HRR ⊢
  generalize l.length = n at *
  generalize l2.length = n2 at *
  clear HR HR2
  by_cases hm : m = m2
  · by_cases hs : s = s2
    · subst hm hs
      go_enter Try.func40, Try.ntmps40
      go_wp2_with fail
      refine (HC.out _ HB.out).mono ?_
      rintro e w1 ⟨rfl, hb⟩
      go_wp2_with fail
      go_ret
      exact ⟨ret_bool (by rw [HRR.out]; simp), below_next HB.out hb⟩
    · subst hm
      have hs2 : (s == s2) = false := by simpa using hs
      go_enter Try.func40, Try.ntmps40
      go_wp2_with fail
      go_ret
      exact ⟨ret_bool (by rw [HRR.out]; simp [hs]), HB.out⟩
  · have hm2 : (m == m2) = false := by simpa using hm
    go_enter Try.func40, Try.ntmps40
    go_wp2_with fail
    go_ret
    exact ⟨ret_bool (by rw [HRR.out]; simp [hm]), HB.out⟩
end Go.Proofs.Ytlaaolbdadempaa

/- The reference's Append. -/
namespace Go.Proofs.Ytlaaolbdadempaa
open Go.RowKit

/-- values appended to a slice of slices of the call's own -/
theorem wpList_append_ns {w : World} {ops : Array Oper} {rest : List Oper} {o : Oper} {a : Act} {Q : Exit → Act → World → Prop} (hgd : o.guard = none) (s x : Operand) (ho : o.op = .call { callee := .builtin .append, args := #[s, x], argTypes := #[22, 22] })
    (base : Nat) (v : Value) (n : Nat) (old : List Value) (hs : a.eval s = v) (hown : w.ownsRow base 35 1 v n old) (ao : Option Addr) (m cap : Nat) (vs : List Value) (hx : a.eval x = .slice ao m cap) (hnone : ao = none → m = 0 ∧ cap = 0) (hul : vs.length = m * 1)
    (hold : ∀ b, ao = some b → ∀ (j : Nat) u, vs[j]? = some u → w.cell? (b.add j) = some u) (h1 : ∀ u ∈ vs, u.oneCell' = true) (hlen : n + m ≤ 2000000000000) (hbase : base ≤ w.heap.size)
    (h : ∀ v' w', w'.ownsRow base 35 1 v' (n + m) (old ++ vs) → w.grownBy w' v.ownBlock → wpList Try.prog ops Q rest (a.put o.dst v') w') : wpList Try.prog ops Q (o :: rest) a w := by
  obtain ⟨i0, hi, hz0, hz1, hz2⟩ := info_parts Try.info35
  cases ao with
  | none =>
    obtain ⟨h6, rfl⟩ := hnone rfl
    subst h6
    have hp : vs = [] := List.eq_nil_of_length_eq_zero (by omega)
    exact wpList_append_own_none hgd s x 22 ho base 35 i0 1 Try.underlying22 hi v n _ hs hown hx (h v w (by rw [hp]; simpa using hown) ⟨rfl, rfl, rfl, Nat.le_refl _, fun _ _ _ => rfl⟩)
  | some ad =>
    exact wpList_append_own w hgd s x 22 ho base 35 i0 _ 1 24 Try.underlying22 hi hz0 hz1 hz2 rfl (by decide) v n _ hs hown ad m cap vs hx hul (hold ad rfl) h1 (by unfold maxLen; omega) (by omega) hbase fun v' w' h6 h7 _ => h v' w' h6 h7
set_option maxHeartbeats 16000000 in
set_option maxRecDepth 100000 in
theorem jrefappend_call (l : List (List UInt8)) (v : Value) (m s : Int) (b : List UInt8) (bv : Value) (w : World) (h : NRest w.heap.size w l v) (hb : Rest w.heap.size w b bv) (hj : Mild ⟨l, m, s⟩) (hbl : b.length ≤ 1000000000000)
    (l' : List (List UInt8)) (m' s' k : Int) (hr : appJ ⟨l, m, s⟩ b = (⟨l', m', s'⟩, k)) :
    Calls Try.prog 42 #[.agg #[v, .int .i64 m, .int .i64 s], bv] w (NewJ w l' m' s' k) := by
  have HV := Lib.hid h
  have HBV := Lib.hid hb
  have HC1 : Hid (∀ W, Below w.heap.size w W → Calls Try.prog 44 #[.agg #[v, .int .i64 m, .int .i64 s]] W fun e w' => e = .returned (.int .i64 (if jokB ⟨l, m, s⟩ then 0 else 1)) ∧ Below W.heap.size W w') := Lib.hid (fun W hW => jrefcheck_call ⟨l, m, s⟩ v W (h.keep hW) hj)
  have HC : Hid (∀ W, Below w.heap.size w W → Calls Try.prog 67 #[v] W fun e w' => e = .returned (.int .i64 (usedL l : Int)) ∧ w' = W) := Lib.hid (fun W hW => refused_call l v W _ (h.stays hW) hj.used hj.len)
  have HSO : Hid (∀ W, Calls Try.prog 66 #[.int .i64 (b.length : Int)] W fun e w' => e = .returned (.int .i64 (secsOf b.length : Int)) ∧ w' = W) := Lib.hid (fun W => refsectors_call _ hbl W)
  have hng := usedL_ge l
  have hn12 : l.length ≤ 1000000000000 := by have := hj.used; simp only at this; omega
  have hu12 : usedL l ≤ 1000000000000 := hj.used
  obtain ⟨vs, hvl, hvc, hv1, hvx, hvel⟩ : ∃ vs : List Value, vs.length = l.length * 1 ∧ (∀ b, (match v with | .slice a _ _ => a | _ => none) = some b → ∀ (j : Nat) u, vs[j]? = some u → w.cell? (b.add j) = some u) ∧ (∀ u ∈ vs, u.oneCell' = true) ∧ vs.length = l.length ∧ ∀ (i : Nat) x u, l[i]? = some x → vs[i]? = some u → RestS (fun b => b < w.heap.size) w x u := by
    obtain ⟨a, c, rfl⟩ := nrest_slice h
    exact (NRestS.olds (S := fun b => b < w.heap.size) h)
  obtain ⟨va, vc, rfl, hn1, hn2, hn3⟩ : ∃ a cap, v = .slice a l.length cap ∧ cap ≤ 9223372036854775807 ∧ l.length ≤ cap ∧ (a = none → l.length = 0 ∧ cap = 0) := by
    obtain ⟨a, cap, h1, h2, h3, h4, _⟩ := h; exact ⟨a, cap, h1, h3, h2, h4⟩
  simp only at hvc
  obtain ⟨ba, bc, rfl, hb1, hb2⟩ := hb.shape
  have HAJ : Hid (appJ ⟨l, m, s⟩ b = if jokB ⟨l, m, s⟩ then if m - usedL l < secsOf b.length then (zeroJ, 2) else (⟨l ++ [b], m, s⟩, 0) else (zeroJ, 1)) := Lib.hid rfl
  have HRE := Lib.hid hr
  have HVL := Lib.hid hvl
  have HVC := Lib.hid hvc
  have HV1 := Lib.hid hv1
  have HVX := Lib.hid hvx
  have HVE := Lib.hid hvel
  have HN3 := Lib.hid hn3
  clear h hb hj hng hr hvl hvc hv1 hvx hvel hn3
  obtain ⟨n, hn⟩ : ∃ n, n = l.length := ⟨_, rfl⟩
  obtain ⟨bn, hbn⟩ : ∃ bn, bn = b.length := ⟨_, rfl⟩
  rw [← hn] at HV HC1 HC HVL HVX hn12 hn2 HN3 ⊢
  rw [← hbn] at HBV HSO HAJ hb2 hbl ⊢
  have HN := Lib.hid hn
  have HBN := Lib.hid hbn
  clear hn hbn
  have HR2 := Lib.hid ((row_new w 55 [.slice va n vc, .int .i64 m, .int .i64 s]).keep (Joins.below_alloc1 _ (.cells #[.slice none 0 0, .int .i64 0, .int .i64 0] 55)))
  have HR4 := row_new (w.alloc (.cells #[.slice va n vc, .int .i64 m, .int .i64 s] 55)) 55 [.slice none 0 0, .int .i64 0, .int .i64 0]
  rw [World.size_alloc] at HR4
  replace HR4 := Lib.hid HR4
  have HB := Lib.hid (below_two w (.cells #[.slice va n vc, .int .i64 m, .int .i64 s] 55) (.cells #[.slice none 0 0, .int .i64 0, .int .i64 0] 55))
  have hmb : jokB ⟨l, m, s⟩ = true → 1 ≤ m ∧ m ≤ 4096 := fun h1 => by unfold jokB at h1; simp at h1; omega
  generalize jokB ⟨l, m, s⟩ = r at *
  cases r
  · clear hmb
    have HRR := Lib.hid (show ((⟨l', m', s'⟩ : Jnl), k) = (zeroJ, 1) from by rw [← HRE.out, HAJ.out]; rfl)
    go_enter Try.func42, Try.ntmps42
    go_wp2_with (first
      | (go_at_call 44; refine (HC1.out _ HB.out).mono ?_; rintro e w2 ⟨rfl, hb⟩; replace HR4 := Lib.hid (HR4.out.keep hb); replace HB := Lib.hid (below_next HB.out hb); clear hb)
      | (refine wpList_store_ags rfl 55 (.tmp 4) (.tmp 11) rfl (w.heap.size + 1) [.slice none 0 0, .int .i64 0, .int .i64 0] _ size55 (by rfl) rfl rfl HR4.out (by rfl) HB.out (by omega) ?_; intro w9 hr hb hf))
    refine bodyPost_ret (results_jn Try.results42 _ w9 (w.heap.size + 1) _ rfl rfl _ rfl hr) rfl ?_
    have h9 := HRR.out
    unfold zeroJ at h9
    injection h9 with h9 h10
    injection h9 with h91 h92 h93
    subst h91 h92 h93 h10
    exact ⟨_, rfl, nrests_nil _ _, hb⟩
  · obtain ⟨hmb1, hmb2⟩ := hmb rfl
    clear hmb
    have hwr : IntKind.i64.wrap (m - (usedL l : Int)) = m - (usedL l : Int) := by rw [IntKind.wrap_i64]; omega
    by_cases hgt : m - (usedL l : Int) < (secsOf bn : Int)
    · have HRR := Lib.hid (show ((⟨l', m', s'⟩ : Jnl), k) = (zeroJ, 2) from by rw [← HRE.out, HAJ.out, if_pos rfl, if_pos hgt])
      go_enter Try.func42, Try.ntmps42
      go_wp2_with (first
        | (go_at_call 44; refine (HC1.out _ HB.out).mono ?_; rintro e w2 ⟨rfl, hb⟩; replace HR2 := Lib.hid (HR2.out.keep hb); replace HR4 := Lib.hid (HR4.out.keep hb); replace HB := Lib.hid (below_next HB.out hb); clear hb; have d0 : ∀ q : Nat, (w2.drewN q).cell? ⟨w.heap.size, 0, none⟩ = some (.slice va n vc) := fun q => HR2.out.later (below_drewN (Below.refl _ _) q) (i := 0) rfl; have d1 : ∀ q : Nat, (w2.drewN q).cell? ⟨w.heap.size, 1, none⟩ = some (.int .i64 m) := fun q => HR2.out.later (below_drewN (Below.refl _ _) q) (i := 1) rfl)
        | go_quiet ((first | (go_at_call 66; exact Calls.quiet_of_same (HSO.out _)) | (go_at_call 67; exact Calls.quiet_of_same (HC.out _ (below_drewN HB.out _)))))
        | (refine wpList_store_ags rfl 55 (.tmp 4) (.tmp 23) rfl (w.heap.size + 1) [.slice none 0 0, .int .i64 0, .int .i64 0] _ size55 (by rfl) rfl rfl (HR4.out.keep (below_drewN (Below.refl _ _) nq)) (by rfl) (below_drewN HB.out nq) (by omega) ?_; intro w9 hr hb hf))
      refine bodyPost_ret (results_jn Try.results42 _ w9 (w.heap.size + 1) _ rfl rfl _ rfl hr) rfl ?_
      have h9 := HRR.out
      unfold zeroJ at h9
      injection h9 with h9 h10
      injection h9 with h91 h92 h93
      subst h91 h92 h93 h10
      exact ⟨_, rfl, nrests_nil _ _, hb⟩
    · have HRR := Lib.hid (show ((⟨l', m', s'⟩ : Jnl), k) = (⟨l ++ [b], m, s⟩, 0) from by rw [← HRE.out, HAJ.out, if_pos rfl, if_neg hgt])
      go_enter Try.func42, Try.ntmps42
      go_upto_region 6 with ((first
        | (go_at_call 44; refine (HC1.out _ HB.out).mono ?_; rintro e w2 ⟨rfl, hb⟩; replace HR2 := Lib.hid (HR2.out.keep hb); replace HR4 := Lib.hid (HR4.out.keep hb); replace HB := Lib.hid (below_next HB.out hb); clear hb; have d0 : ∀ q : Nat, (w2.drewN q).cell? ⟨w.heap.size, 0, none⟩ = some (.slice va n vc) := fun q => HR2.out.later (below_drewN (Below.refl _ _) q) (i := 0) rfl; have d1 : ∀ q : Nat, (w2.drewN q).cell? ⟨w.heap.size, 1, none⟩ = some (.int .i64 m) := fun q => HR2.out.later (below_drewN (Below.refl _ _) q) (i := 1) rfl)
        | go_quiet ((first | (go_at_call 66; exact Calls.quiet_of_same (HSO.out _)) | (go_at_call 67; exact Calls.quiet_of_same (HC.out _ (below_drewN HB.out _)))))))
      have HB9 := Lib.hid (below_drewN HB.out nq)
      have HR29 : Hid (Row (w2.drewN nq) _ _ _) := Lib.hid (HR2.out.keep (below_drewN (Below.refl _ _) nq))
      have HR49 : Hid (Row (w2.drewN nq) _ _ _) := Lib.hid (HR4.out.keep (below_drewN (Below.refl _ _) nq))
      generalize w2.drewN nq = W9 at HB9 HR29 HR49 ⊢
      clear d0 d1 HB HR2 HR4
      have hlt := HR49.out.lt
      have HMADE : Hid ((W9.alloc (.cells #[] 35)).ownsRow (w.heap.size + 2) 35 1 (.slice (some ⟨W9.heap.size, 0, none⟩) 0 0) 0 []) := Lib.hid (World.ownsRow_made W9 #[] 0 (by omega) (by unfold maxLen; omega) rfl)
      have e0 := (HR29.out.keep (Joins.below_alloc1 W9 (.cells #[] 35))).cell (i := 0) rfl
      have HVC9 : Hid (∀ b, va = some b → ∀ (j : Nat) u, vs[j]? = some u → (W9.alloc (.cells #[] 35)).cell? (b.add j) = some u) := Lib.hid (fun b hb j u hu => by
        have h9 := HVC.out b hb j u hu
        have hlt9 := World.block_lt_of_cell? w _ h9
        rw [((HB9.out.trans ((Joins.below_alloc1 W9 _).mono HB9.out.size))).cell hlt9]; exact h9)
      go_wp2_with (first
        | (refine wpList_append_ns rfl (.tmp 24) (.tmp 26) rfl (w.heap.size + 2) (.slice (some ⟨W9.heap.size, 0, none⟩) 0 0) 0 [] rfl HMADE.out va n vc vs rfl HN3.out HVL.out HVC9.out HV1.out (by omega) (by rw [World.size_alloc]; omega) ?_; intro v27 w27 hown hgrow; rw [Nat.zero_add, List.nil_append] at hown; obtain ⟨a27, c27, rfl, q1, q2⟩ := own_shape hown; have HN27 := Lib.hid hown; have HG27 := Lib.hid hgrow; have hs27 : W9.heap.size + 1 ≤ w27.heap.size := (by have := hgrow.size; rwa [World.size_alloc] at this); have HB27 := Lib.hid ((below_next HB9.out (Joins.below_alloc1 W9 _)).trans (below_grewn HMADE.out hgrow (by rw [World.size_alloc]; omega) (by omega))); have HR27 := Lib.hid ((row_grew (HR29.out.keep (Joins.below_alloc1 W9 _)) HMADE.out hgrow (by omega)).keep (Joins.below_alloc1 w27 (.cells #[.slice ba bn bc] 35))); have HS27 := Lib.hid ((row_grew (HR49.out.keep (Joins.below_alloc1 W9 _)) HMADE.out hgrow (by omega)).keep (Joins.below_alloc1 w27 (.cells #[.slice ba bn bc] 35))); have HO27 : Hid ((w27.alloc (.cells #[.slice ba bn bc] 35)).ownsRow (w.heap.size + 2) 35 1 (.slice a27 n c27) n vs) := Lib.hid (hown.alloc _); clear hown hgrow e0)
        | (refine wpList_append_ns rfl (.tmp 27) (.tmp 29) rfl (w.heap.size + 2) (.slice a27 n c27) n vs rfl HO27.out (some ⟨w27.heap.size, 0, none⟩) 1 1 [.slice ba bn bc] rfl (fun h => by cases h) rfl (fun b hb j u hu => by injection hb with hb; subst hb; rw [Addr.add_lit, Nat.zero_add]; exact (row_new w27 35 [.slice ba bn bc]).cell hu) (by intro u hu; simp at hu; subst hu; rfl) (by omega) (by rw [World.size_alloc]; omega) ?_; intro v30 w30 hown hgrow; obtain ⟨a30, c30, rfl, q3, q4⟩ := own_shape hown; have HN30 := Lib.hid hown; have HG30 := Lib.hid hgrow; have hRB := row_grew HR27.out HO27.out hgrow (by omega); have e30 := hRB.cell (i := 0) rfl; have f30 := hRB.free 0; have HRX := Lib.hid (hRB.set (cs' := [.slice a30 (n + 1) c30, .int .i64 m, .int .i64 s]) 0 (.slice a30 (n + 1) c30) rfl); have HRY := Lib.hid ((row_grew HS27.out HO27.out hgrow (by omega)).setFar (g' := w.heap.size) 0 (.slice a30 (n + 1) c30) (by omega)); have HBX := Lib.hid (below_setCell ((below_next HB27.out (Joins.below_alloc1 w27 _)).trans (below_grewn HO27.out hgrow (by rw [World.size_alloc]; omega) (by omega))) w.heap.size 0 (.slice a30 (n + 1) c30) (Nat.le_refl _)); clear hown hgrow hRB)
        | (refine wpList_load_jnl rfl (.tmp 2) rfl w.heap.size _ (by rfl) rfl HRX.out ?_)
        | (refine wpList_store_ags rfl 55 (.tmp 4) (.tmp 32) rfl (w.heap.size + 1) [.slice a30 (n + 1) c30, .int .i64 m, .int .i64 s] _ size55 (by rfl) rfl rfl HRY.out (by rfl) HBX.out (by omega) ?_; intro w9 hr hb hf))
      have hfar : ∀ g', w.heap.size + 2 ≤ g' → w9.heap[g']? = w30.heap[g']? := fun g' hg' => (hf g' (by omega)).trans (heap_setCell_other w30 ⟨w.heap.size, 0, none⟩ g' (.slice a30 (n + 1) c30) (by show g' ≠ w.heap.size; omega))
      have h30 := owns_heap HN30.out hfar
      have hn9 : NRestS (fun _ => True) w9 (l ++ [b]) (.slice a30 (n + 1) c30) := nrests_of_owns h30 (by rw [List.length_append, ← HN.out]; rfl) (by rw [List.length_append, List.length_append, HVX.out, HN.out]; rfl) (fun g hg => trivial) (fun i x u hx hu => by
        rcases Nat.lt_or_ge i n with hi | hi
        · rw [List.getElem?_append_left (by rw [← HN.out]; exact hi)] at hx
          rw [List.getElem?_append_left (by rw [HVX.out]; exact hi)] at hu
          exact ((HVE.out i x u hx hu).later hb).weak (fun _ _ _ => trivial)
        · rw [List.getElem?_append_right (by rw [← HN.out]; exact hi)] at hx
          rw [List.getElem?_append_right (by rw [HVX.out]; exact hi)] at hu
          rw [← HN.out] at hx
          rw [HVX.out] at hu
          have hi0 : i - n = 0 := by
            rcases Nat.eq_zero_or_pos (i - n) with h9 | h9
            · exact h9
            · rw [List.getElem?_eq_none (by simp; omega)] at hx; cases hx
          rw [hi0] at hx hu
          injection hx with hx
          injection hu with hu
          subst hx hu
          have h9 := (HBV.out.stays hb).mono hb.size
          rw [HBN.out] at h9 ⊢
          exact RestS.weak (RestS.of h9) (fun _ _ _ => trivial))
      have h9 := HRR.out
      injection h9 with h9 h10
      injection h9 with h91 h92 h93
      subst h91 h92 h93 h10
      exact bodyPost_ret (results_jn Try.results42 _ w9 (w.heap.size + 1) _ rfl rfl _ rfl hr) rfl ⟨_, rfl, hn9.rest, hb⟩
end Go.Proofs.Ytlaaolbdadempaa
