/- The examples of the chapter hold. -/
import Derived.Test.YtlaaolbdadempaaSa
import Derived.Test.YtlaaolbdadempaaNr
namespace Go.Proofs.Ytlaaolbdadempaa
open Go.RowKit

set_option maxHeartbeats 8000000 in
set_option maxRecDepth 100000 in
theorem sane_call (w : World) : Calls Try.prog 17 #[] w fun e w' => e = .returned (.bool true) ∧ Below w.heap.size w w' := by
  have HB := Lib.hid (Below.refl w.heap.size w)
  go_enter Try.func17, Try.ntmps17
  go_wp2_with fail
  refine (new_law 0 new0).mono ?_
  rintro e w0 ⟨s0, p0, l0, b0, rfl, hd, hb⟩
  have HB := Lib.hid (below_next HB.out hb)
  have HD0 := Lib.hid hd
  clear hd hb
  unfold dv at *
  go_wp2_with (first
    | (refine wpList_store_ags rfl _ _ _ rfl w0.heap.size [s0, p0, .int .i64 l0, .bool b0] _ size25 (by rfl) rfl rfl (row_new w0 25 _) (one_all HD0.out) (Joins.below_alloc1 w0 _) (Nat.le_refl _) ?_; intro v0 hr hb _; have HB := Lib.hid (below_next HB.out hb); have HX0 := Lib.hid (Box.new HD0.out hr hb); clear hr hb))
  refine (new_law 2 new2).mono ?_
  rintro e w1 ⟨s1, p1, l1, b1, rfl, hd, hb⟩
  have HB := Lib.hid (below_next HB.out hb)
  have HD1 := Lib.hid hd
  clear hd hb
  unfold dv at *
  go_wp2_with (first
    | (refine wpList_store_ags rfl _ _ _ rfl w1.heap.size [s1, p1, .int .i64 l1, .bool b1] _ size25 (by rfl) rfl rfl (row_new w1 25 _) (one_all HD1.out) (Joins.below_alloc1 w1 _) (Nat.le_refl _) ?_; intro v1 hr hb _; have HB := Lib.hid (below_next HB.out hb); have HX1 := Lib.hid (Box.new HD1.out hr hb); clear hr hb)
    | (refine wpList_load_dsk rfl _ rfl _ _ (by rfl) rfl HX1.out.row ?_))
  obtain ⟨W3, hW3⟩ : ∃ W3, W3 = v1.alloc (.cells #[.int .u8 7] 5) := ⟨_, rfl⟩
  have hba : Below v1.heap.size v1 W3 := by rw [hW3]; exact Joins.below_alloc1 v1 _
  have hrow : Row W3 v1.heap.size 5 (cellsOf [7]) := by rw [hW3]; exact row_new v1 5 _
  rw [← hW3]
  have HB := Lib.hid (below_next HB.out hba)
  replace HX1 := Lib.hid (HX1.out.keep hba)
  have HROW := Lib.hid (row_rest hrow (n := 1) rfl (by omega))
  clear hW3 hba hrow
  refine (write_law HX1.out.drest 1 HROW.out fw1).mono ?_
  rintro e w2 ⟨s2, p2, l2, b2, rfl, hd, hb⟩
  have HB := Lib.hid (below_next HB.out hb)
  replace HX1 := Lib.hid (HX1.out.keep hb)
  have HD2 := Lib.hid hd
  clear hd hb
  unfold dv at *
  go_wp2_with (first
    | (refine wpList_store_ags rfl _ _ _ rfl w2.heap.size [s2, p2, .int .i64 l2, .bool b2] _ size25 (by rfl) rfl rfl (row_new w2 25 _) (one_all HD2.out) (Joins.below_alloc1 w2 _) (Nat.le_refl _) ?_; intro v2 hr hb _; have HB := Lib.hid (below_next HB.out hb); replace HX1 := Lib.hid (HX1.out.keep hb); have HX2 := Lib.hid (Box.new HD2.out hr hb); clear hr hb)
    | (refine wpList_load_dsk rfl _ rfl _ _ (by rfl) rfl HX2.out.row ?_))
  refine (read_law HX2.out.drest 1 runsW.1 runsW.2 rfl).mono ?_
  rintro e w3 ⟨g3, rfl, hr, _, hb⟩
  have HB := Lib.hid (below_next HB.out hb)
  replace HX1 := Lib.hid (HX1.out.keep hb)
  replace HX2 := Lib.hid (HX2.out.keep hb)
  have HR3 := Lib.hid hr
  clear hr hb
  go_wp2_with (first
    | (refine wpList_load_dsk rfl _ rfl _ _ (by rfl) rfl HX1.out.row ?_))
  refine (read_none HX1.out.drest 2 (.inr hasn)).mono ?_
  rintro e w4 ⟨rfl, hb⟩
  have HB := Lib.hid (below_next HB.out hb)
  replace HX1 := Lib.hid (HX1.out.keep hb)
  replace HX2 := Lib.hid (HX2.out.keep hb)
  replace HR3 := Lib.hid (HR3.out.keep hb)
  clear hb
  obtain ⟨ZB, hZB⟩ : ∃ ZB, ZB = (cellsOf (List.replicate 129 0)).toArray := ⟨_, rfl⟩
  have HZB := Lib.hid hZB
  have HMK : Hid (∀ W : World, (Instr.makeSlice 35 (.int .i64 129) (.int .i64 129)).run Try.prog W = .ok (.slice (some ⟨W.heap.size, 0, none⟩) 129 129) (W.alloc (.cells ZB 5))) := Lib.hid (by rw [hZB]; exact mk_bytes 129 (by omega))
  clear hZB
  go_wp2_with fail
  have c0 := HX1.out.row.cell (i := 0) rfl
  have c1 := HX1.out.row.cell (i := 1) rfl
  have c2 := HX1.out.row.cell (i := 2) rfl
  have c3 := HX1.out.row.cell (i := 3) rfl
  have hmk := HMK.out
  have hlt1 := HX1.out.lt
  have HWR : Hid (∀ (W : World) gz, Below w4.heap.size w4 W → W.heap[gz]? = some (.cells ZB 5 (0, 0)) → Calls Try.prog 26 #[.agg #[s1, p1, .int .i64 l1, .bool b1], .int .i64 0, .slice (some ⟨gz, 0, none⟩) 129 129] W (NewD W zeroD 1)) :=
    Lib.hid (fun W gz hb hz => write_law (HX1.out.drest.keep hb) 0 (row_rest (g := gz) (xs := List.replicate 129 0) (n := 129) (by unfold Row; rw [hz, HZB.out]) (by simp) (by omega)) fw2)
  refine' cutB (F := fun _ _ _ _ _ _ _ _ _ _ W9 => Below w4.heap.size w4 W9) _ ?rest6 ?kk6
  case rest6 =>
    intro K
    go_region_law (go_simp; go_at_call 26; refine (HWR.out _ _ (by first | exact below_drew (Joins.below_alloc1 w4 _) | exact below_drew (below_two w4 _ _)) (by first | exact heap_alloc_new w4 _ | exact (Joins.below_alloc1 (w4.alloc (.cells ZB 5)) _).block w4.heap.size (by simp) |>.trans (heap_alloc_new w4 _) | (have h9 := heap_alloc_new (w4.alloc (.cells #[.slice none 0 0, .slice none 0 0, .int .i64 0, .bool false] 25)) (.cells ZB 5); rw [World.size_alloc] at h9; exact h9))).mono ?_; rintro e w5 ⟨s5, p5, l5, b5, rfl, hd5, hb5⟩; obtain ⟨⟨sa, sn, sc, rfl⟩, ⟨pa, pn, pc, rfl⟩⟩ := slices_of hd5; unfold dv; (first | (have r0 := box_first hb5; have q0 := r0.cell (i := 0) rfl; have q1 := r0.cell (i := 1) rfl; have q2 := r0.cell (i := 2) rfl; have q3 := r0.cell (i := 3) rfl; have k0 := r0.free 0; have k1 := r0.free 1; have k2 := r0.free 2; have k3 := r0.free 3) | (have r0 := box_second hb5; have q0 := r0.cell (i := 0) rfl; have q1 := r0.cell (i := 1) rfl; have q2 := r0.cell (i := 2) rfl; have q3 := r0.cell (i := 3) rfl; have k0 := r0.free 0; have k1 := r0.free 1; have k2 := r0.free 2; have k3 := r0.free 3) | skip))
    · have hF : Below w4.heap.size w4 (w5.alloc (.cells #[.slice sa sn sc, .slice pa pn pc, .int .i64 l5, .bool b5] 25)) := below_next ((Joins.below_alloc1 w4 _).trans ((below_undrew hb5).mono (by simp))) (Joins.below_alloc1 w5 _)
      generalize (Value.slice (some ⟨w4.heap.size, 0, none⟩) 129 129) = vz
      generalize (Value.pointer (some ⟨w5.heap.size, 0, none⟩)) = vp
      generalize w5.alloc (.cells #[.slice sa sn sc, .slice pa pn pc, .int .i64 l5, .bool b5] 25) = W9 at hF ⊢
      exact K vz vp sa sn sc pa pn pc l5 b5 W9 hF
    all_goals
      refine K _ _ _ _ _ _ _ _ _ _ _ ?_
      first
        | exact below_next ((Joins.below_alloc1 w4 _).trans ((below_undrew hb5).mono (by simp))) (Joins.below_alloc1 w5 _)
        | exact below4 ((Joins.below_alloc1 w4 _).trans ((below_undrew hb5).mono (by simp))) _ _ _ _ _ (by simp)
        | exact below4 ((below_two w4 _ _).trans ((below_undrew hb5).mono (by simp; omega))) _ _ _ _ _ (by simp)
  case kk6 =>
    intro vz6 vp6 sa6 sn6 sc6 pa6 pn6 pc6 l6 b6 W9 hF
    have HB := Lib.hid (below_next HB.out hF)
    replace HX2 := Lib.hid (HX2.out.keep hF)
    replace HR3 := Lib.hid (HR3.out.keep hF)
    clear hF HX1 HMK HWR hmk c0 c1 c2 c3 hlt1 HZB
    go_wp2_with (first
      | (refine wpList_load_dsk rfl _ rfl _ _ (by rfl) rfl HX2.out.row ?_))
    refine (stop_law HX2.out.drest 1 st1).mono ?_
    rintro e w7 ⟨s7, p7, l7, b7, rfl, hd, hb⟩
    have HB := Lib.hid (below_next HB.out hb)
    replace HX2 := Lib.hid (HX2.out.keep hb)
    replace HR3 := Lib.hid (HR3.out.keep hb)
    have HD7 := Lib.hid hd
    clear hd hb
    unfold dv at *
    have hg3 := HR3.out.lt
    have hg2 := HX2.out.lt
    have HB7 := Lib.hid HB.out
    go_wp2_with (first
      | (refine wpList_store_ags rfl _ _ _ rfl w7.heap.size [s7, p7, .int .i64 l7, .bool b7] _ size25 (by rfl) rfl rfl (row_new w7 25 _) (one_all HD7.out) (Joins.below_alloc1 w7 _) (Nat.le_refl _) ?_; intro v7 hr hb _; have HB := Lib.hid (below_next HB.out hb); replace HX2 := Lib.hid (HX2.out.keep hb); replace HR3 := Lib.hid (HR3.out.keep hb); have HX7 := Lib.hid (Box.new HD7.out hr hb); clear hr hb))
    have c0 := HX7.out.row.cell (i := 0) rfl
    have c1 := HX7.out.row.cell (i := 1) rfl
    have c2 := HX7.out.row.cell (i := 2) rfl
    have c3 := HX7.out.row.cell (i := 3) rfl
    have hlt7 := HX7.out.lt
    have hge7 := HB7.out.size
    have HDBL : Hid (∀ W : World, Calls Try.prog 34 #[.int .u8 8] W fun e w' => ∃ g, e = .returned (.slice (some ⟨g, 0, none⟩) 128 128) ∧ W.heap.size ≤ g ∧ Row w' g 5 (cellsOf (dbl 8)) ∧ Below W.heap.size W w') := Lib.hid (fun W => double_call 8 W)
    have HWR : Hid (∀ (W : World) gz, Below v7.heap.size v7 W → Row W gz 5 (cellsOf (dbl 8)) → Calls Try.prog 26 #[.agg #[s7, p7, .int .i64 l7, .bool b7], .int .i64 0, .slice (some ⟨gz, 0, none⟩) 128 128] W (NewDS (fun b => b < w7.heap.size) W sDT 0)) :=
      Lib.hid (fun W gz hb hz => write_lawS (S := fun b => b < w7.heap.size) ((HX7.out.keep hb).rest) 0 (row_rest hz (n := 128) (dbl_len 8) (by omega)) fw3)
    refine' cutB (F := fun _ _ sa sn sc pa pn pc l8 b8 W9 => Row W9 w7.heap.size 25 [.slice sa sn sc, .slice pa pn pc, .int .i64 l8, .bool b8] ∧ DRest W9.heap.size W9 sDT (dv (.slice sa sn sc) (.slice pa pn pc) l8 b8) ∧ Below w7.heap.size v7 W9) _ ?rest8 ?kk8
    case rest8 =>
      intro K
      obtain ⟨vq, _⟩ : ∃ v : Value, v = undef := ⟨_, rfl⟩
      go_region_law (go_simp; first | (go_at_call 34; refine (HDBL.out _).mono ?_; rintro e wA ⟨gA, rfl, hgA, hrA, hbA⟩; have hbA := below_undrew hbA; have rA := (HX7.out.keep hbA).row; have c0 := rA.cell (i := 0) rfl; have c1 := rA.cell (i := 1) rfl; have c2 := rA.cell (i := 2) rfl; have c3 := rA.cell (i := 3) rfl) | (go_at_call 26; refine (HWR.out _ _ hbA hrA).mono ?_; rintro e wB ⟨sB, pB, l8, b8, rfl, hdB, hbB⟩; obtain ⟨⟨sa, sn, sc, rfl⟩, ⟨pa, pn, pc, rfl⟩⟩ := slices_of hdB.rest; unfold dv; have rB := ((HX7.out.keep hbA).keep hbB).row; have q0 := rB.cell (i := 0) rfl; have q1 := rB.cell (i := 1) rfl; have q2 := rB.cell (i := 2) rfl; have q3 := rB.cell (i := 3) rfl; have k0 := rB.free 0; have k1 := rB.free 1; have k2 := rB.free 2; have k3 := rB.free 3))
      · have hF := box_over rB (by have := hbA.size; omega) hdB ((hbA.trans (hbB.mono hbA.size)).mono (Nat.le_of_lt hlt7))
        generalize ((((wB.setCell ⟨w7.heap.size, 0, none⟩ (.slice sa sn sc)).setCell ⟨w7.heap.size, 1, none⟩ (.slice pa pn pc)).setCell ⟨w7.heap.size, 2, none⟩ (.int .i64 l8)).setCell ⟨w7.heap.size, 3, none⟩ (.bool b8)) = W9 at hF ⊢
        generalize (Value.slice (some ⟨gA, 0, none⟩) 128 128) = vz
        exact K vz vq sa sn sc pa pn pc l8 b8 W9 hF
      all_goals
        exact K _ vq _ _ _ _ _ _ _ _ _ (box_over rB (by have := hbA.size; omega) hdB ((hbA.trans (hbB.mono hbA.size)).mono (Nat.le_of_lt hlt7)))
    case kk8 =>
      rintro vz8 vq8 sa8 sn8 sc8 pa8 pn8 pc8 l8 b8 W8 ⟨hr8, hd8, hb8⟩
      have HB := Lib.hid (HB.out.trans (hb8.mono hge7))
      replace HX2 := Lib.hid (HX2.out.stays hb8 hg2)
      replace HR3 := Lib.hid (HR3.out.stays hb8 hg3)
      have HR8 := Lib.hid hr8
      have HD8 := Lib.hid hd8
      clear hr8 hd8 hb8 HX7 HDBL HWR c0 c1 c2 c3 hlt7
      unfold dv at *
      go_wp2_with (first
        | (refine wpList_load_dsk rfl _ rfl _ _ (by rfl) rfl HR8.out ?_))
      refine (sync_law HD8.out sy1).mono ?_
      rintro e w9 ⟨s9, p9, l9, b9, rfl, hd, hb⟩
      have HB := Lib.hid (below_next HB.out hb)
      replace HX2 := Lib.hid (HX2.out.keep hb)
      replace HR3 := Lib.hid (HR3.out.keep hb)
      have HD9 := Lib.hid hd
      clear hd hb
      unfold dv at *
      have HS9 : Hid (b9 = true) := Lib.hid (drest_left HD9.out).2.1
      have hg32 := HR3.out.lt
      have hg22 := HX2.out.lt
      have HB9 := Lib.hid HB.out
      go_wp2_with (first
        | (refine wpList_store_ags rfl _ _ _ rfl w9.heap.size [s9, p9, .int .i64 l9, .bool b9] _ size25 (by rfl) rfl rfl (row_new w9 25 _) (one_all HD9.out) (Joins.below_alloc1 w9 _) (Nat.le_refl _) ?_; intro v9 hr hb _; have HB := Lib.hid (below_next HB.out hb); replace HX2 := Lib.hid (HX2.out.keep hb); replace HR3 := Lib.hid (HR3.out.keep hb); have HX9 := Lib.hid (Box.new HD9.out hr hb); have d3 := HX9.out.row.cell (i := 3) rfl; rw [HS9.out] at d3; clear hr hb)
        | (refine wpList_load_dsk rfl _ rfl _ _ (by rfl) rfl HX9.out.row ?_))
      refine (restart_lawS (S := fun b => b < w9.heap.size) HX9.out.rest (d' := sR) rfl).mono ?_
      rintro e w12 ⟨s12, p12, l12, b12, rfl, hd, hb⟩
      have hge9 := HB9.out.size
      have hltv := HX9.out.lt
      replace HX9 := Lib.hid (HX9.out.keep hb)
      have HB := Lib.hid (below_next HB.out hb)
      replace HX2 := Lib.hid (HX2.out.keep hb)
      replace HR3 := Lib.hid (HR3.out.keep hb)
      have hlt9 := HX9.out.lt
      have hgr : ∀ v : World, (∀ b, b ≠ w9.heap.size → v.heap[b]? = w12.heap[b]?) → DRestS (Ext (fun b => b < w9.heap.size) v9.heap.size) v sR (dv s12 p12 l12 b12) := fun v hf => hd.keep (.far w9.heap.size (fun h => by rcases h with h | h <;> omega) hf)
      have HD12 := Lib.hid hd
      clear hd hb d3
      unfold dv at *
      go_wp2_with (first
        | (refine wpList_store_ags rfl _ _ _ rfl w9.heap.size [s12, p12, .int .i64 l12, .bool b12] _ size25 (by rfl) rfl rfl HX9.out.row (one_all HD12.out.rest) (Below.refl w9.heap.size w12) (Nat.le_refl _) ?_; intro v12 hr hb hf; have HB := Lib.hid (HB.out.trans (hb.mono hge9)); replace HX2 := Lib.hid (HX2.out.stays hb hg22); replace HR3 := Lib.hid (HR3.out.stays hb hg32); have HR12 := Lib.hid hr; have HD := Lib.hid ((hgr v12 hf).rest); clear hr hb hf hgr)
        | (refine wpList_load_dsk rfl _ rfl _ _ (by rfl) rfl HR12.out ?_))
      refine (read_law HD.out 1 runsR.1 runsR.2.1 rfl).mono ?_
      rintro e w13 ⟨g13, rfl, hr, _, hb⟩
      have HB := Lib.hid (below_next HB.out hb)
      replace HX2 := Lib.hid (HX2.out.keep hb)
      replace HR3 := Lib.hid (HR3.out.keep hb)
      replace HR12 := Lib.hid (HR12.out.keep hb)
      replace HD := Lib.hid (HD.out.keep hb)
      have HR13 := Lib.hid hr
      clear hr hb
      go_wp2_with (first
        | (refine wpList_load_dsk rfl _ rfl _ _ (by rfl) rfl HR12.out ?_))
      refine (read_law HD.out 0 runsR.1 runsR.2.2 rfl).mono ?_
      rintro e w14 ⟨g14, rfl, hr, _, hb⟩
      have HB := Lib.hid (below_next HB.out hb)
      replace HX2 := Lib.hid (HX2.out.keep hb)
      replace HR3 := Lib.hid (HR3.out.keep hb)
      replace HR12 := Lib.hid (HR12.out.keep hb)
      replace HD := Lib.hid (HD.out.keep hb)
      replace HR13 := Lib.hid (HR13.out.keep hb)
      have HR14 := Lib.hid hr
      clear hr hb
      go_wp2_with (first
        | (refine wpList_load_dsk rfl _ rfl _ _ (by rfl) rfl HX2.out.row ?_))
      refine (restart_law HX2.out.drest (d' := sQ) rfl).mono ?_
      rintro e w15 ⟨s15, p15, l15, b15, rfl, hd, hb⟩
      have HB := Lib.hid (below_next HB.out hb)
      replace HX2 := Lib.hid (HX2.out.keep hb)
      replace HR3 := Lib.hid (HR3.out.keep hb)
      replace HR13 := Lib.hid (HR13.out.keep hb)
      replace HR14 := Lib.hid (HR14.out.keep hb)
      have HD15 := Lib.hid hd
      clear hd hb
      unfold dv at *
      go_wp2_with fail
      refine (read_law HD15.out 1 runsQ.1 runsQ.2 rfl).mono ?_
      rintro e w16 ⟨g16, rfl, hr, _, hb⟩
      have HB := Lib.hid (below_next HB.out hb)
      replace HX2 := Lib.hid (HX2.out.keep hb)
      replace HR3 := Lib.hid (HR3.out.keep hb)
      replace HR13 := Lib.hid (HR13.out.keep hb)
      replace HR14 := Lib.hid (HR14.out.keep hb)
      have HR16 := Lib.hid hr
      clear hr hb
      have e1 := read_cell HR3.out rdW
      have e2 := read_cell HR13.out rdR1
      have e3 := read_cell HR14.out rdR0.1
      have e4 := read_cell HR14.out rdR0.2
      have e5 := read_cell HR16.out rdQ
      go_wp2_with fail
      refine (show Calls Try.prog 22 _ w16 (fun e w' => e = .returned (.int .i64 40) ∧ Below w16.heap.size w16 w') from by have := check_call zeroD _ w16 (drest_zero _ _); rwa [valz, if_neg (by decide)] at this).mono ?_
      rintro e w17 ⟨rfl, hb⟩
      have HB := Lib.hid (below_next HB.out hb)
      clear hb e1 e2 e3 e4 e5
      go_wp2_with fail
      refine (restart_law (s := .slice none 0 0) (p := .slice none 0 0) (l := 0) (b := false) (W := w17) (drest_zero _ _) (d' := restartD zeroD) rfl).mono ?_
      rintro e w18 ⟨s18, p18, l18, b18, rfl, hd, hb⟩
      have hl : l18 = -1 := (drest_left hd).1
      subst hl
      have HB := Lib.hid (below_next HB.out hb)
      clear hb hd
      have hfd := fld2 s18 p18 (-1) b18 w18
      unfold dv at *
      go_wp2_with fail
      go_ret
      exact ⟨rfl, HB.out⟩
end Go.Proofs.Ytlaaolbdadempaa
