/- After a stop nothing but Restart changes a disk. -/
import Derived.Test.YtlaaolbdadempaaUb
namespace Go.Proofs.Ytlaaolbdadempaa
open Go.RowKit
def stopped (d : Dsk) : Dsk := ⟨d.secs, d.pend, d.left, true⟩
theorem stopped_runs (d : Dsk) : runsB (stopped d) = false := by unfold runsB stopped; simp
theorem stopped_write (d : Dsk) (at' : Int) (bs : List UInt8) : writeD (stopped d) at' bs = (zeroD, 40) := by unfold writeD; rw [stopped_runs]; rfl
theorem stopped_sync (d : Dsk) : syncD (stopped d) = (zeroD, 40) := by unfold syncD; rw [stopped_runs]; rfl
theorem stopped_stop (d : Dsk) (l : Int) : stopD (stopped d) l = (zeroD, 40) := by unfold stopD; rw [stopped_runs]; rfl
theorem restart_twice (d : Dsk) : restartD (restartD d) = restartD d := rfl
theorem Box.halt {w : World} {g : Nat} {d : Dsk} {s p : Value} {l : Int} {b : Bool} (h : Box w g d s p l b) : Box (w.setCell ⟨g, 3, none⟩ (.bool true)) g (stopped d) s p l true :=
  ⟨h.row.set 3 (.bool true) rfl, by
    have h1 := h.rest.stays (below_setCell (Below.refl g w) g 3 (.bool true) (Nat.le_refl _))
    obtain ⟨s', p', he, h2, h3⟩ := h1
    unfold dv dskOf dskCells at he
    simp at he
    obtain ⟨rfl, rfl, rfl, rfl⟩ := he
    exact ⟨_, _, rfl, h2, h3⟩⟩
def StHead (n : Nat) (W : World) (s11 : Value) (wr : World) : Prop := ∃ k : Nat, k ≤ n ∧ s11 = .int .i64 (k : Int) ∧ Below W.heap.size W wr

set_option maxHeartbeats 8000000 in
set_option maxRecDepth 100000 in
theorem stopped_walk (d : Dsk) (v : Value) (at' left : Int) (bs : List UInt8) (bv : Value) (w : World) (h : DRest w.heap.size w d v) (hbv : Rest w.heap.size w bs bv) :
    Calls Try.prog 9 #[v, .int .i64 at', .int .i64 left, bv] w fun e w' => e = .returned (.bool true) ∧ Below w.heap.size w w' := by
  have HBV0 := Lib.hid hbv
  obtain ⟨s, p, rfl, hs, hp⟩ := h
  have HD := Lib.hid (show DRest w.heap.size w d (dv s p d.left d.stop) from ⟨s, p, rfl, hs, hp⟩)
  obtain ⟨a, cap, rfl, hc1, hc2⟩ := hs.shape
  obtain ⟨a2, cap2, rfl, hc3, hc4⟩ := hp.shape
  clear hs hp
  have HX0 := Lib.hid (Box.new HD.out (row_new w 25 [.slice a d.secs.length cap, .slice a2 d.pend.length cap2, .int .i64 d.left, .bool d.stop]) (Joins.below_alloc1 w _))
  have HB := Lib.hid (Joins.below_alloc1 w (.cells #[.slice a d.secs.length cap, .slice a2 d.pend.length cap2, .int .i64 d.left, .bool d.stop] 25))
  unfold dskOf dskCells
  have HBV := Lib.hid (hbv.keep HB.out)
  obtain ⟨ba, bc, rfl, hb1, hb2⟩ := hbv.shape
  clear hbv
  obtain ⟨n, hn⟩ : ∃ n, n = bs.length := ⟨_, rfl⟩
  rw [← hn] at HBV HBV0 hb2 ⊢
  clear hn
  go_enter Try.func9, Try.ntmps9
  go_wp2_with fail
  refine (sane_call _).mono ?_
  rintro e wS ⟨rfl, hb⟩
  replace HB := Lib.hid (below_next HB.out hb)
  replace HX0 := Lib.hid (HX0.out.keep hb)
  replace HBV := Lib.hid (HBV.out.keep hb)
  clear hb
  go_wp2_with (first
    | (refine wpList_load_dsk rfl _ rfl _ _ (by rfl) rfl HX0.out.row ?_))
  refine (few_call d _ wS HX0.out.drest).mono ?_
  rintro e wF ⟨r, rfl, hb⟩
  replace HB := Lib.hid (below_next HB.out hb)
  replace HX0 := Lib.hid (HX0.out.keep hb)
  replace HBV := Lib.hid (HBV.out.keep hb)
  clear hb
  cases r
  · go_wp2_with fail
    go_ret
    exact ⟨rfl, HB.out⟩
  by_cases hlen : (1000 : Int) < (n : Int)
  · go_wp2_with fail
    go_ret
    exact ⟨rfl, HB.out⟩
  go_wp2_with (first
    | (refine wpList_load_dsk rfl _ rfl _ _ (by rfl) rfl HX0.out.row ?_))
  refine (restart_law HX0.out.drest rfl).mono ?_
  rintro e w9 ⟨s9, p9, l9, b9, rfl, hd, hb⟩
  replace HB := Lib.hid (below_next HB.out hb)
  replace HX0 := Lib.hid (HX0.out.keep hb)
  replace HBV := Lib.hid (HBV.out.keep hb)
  have HD9 := Lib.hid hd
  clear hd hb
  unfold dv at *
  go_wp2_with (first
    | (refine wpList_store_ags rfl _ _ _ rfl w9.heap.size [s9, p9, .int .i64 l9, .bool b9] _ size25 (by rfl) rfl rfl (row_new w9 25 _) (one_all HD9.out) (Joins.below_alloc1 w9 _) (Nat.le_refl _) ?_; intro v9 hr hb _; have HB := Lib.hid (below_next HB.out hb); replace HX0 := Lib.hid (HX0.out.keep hb); replace HBV := Lib.hid (HBV.out.keep hb); have HX9 := Lib.hid (Box.new HD9.out hr hb); clear hr hb)
    | (refine wpList_load_dsk rfl _ rfl _ _ (by rfl) rfl HX9.out.row ?_))
  refine (restart_law HX9.out.drest rfl).mono ?_
  rintro e w10 ⟨s10, p10, l10, b10, rfl, hd, hb⟩
  replace HB := Lib.hid (below_next HB.out hb)
  replace HX0 := Lib.hid (HX0.out.keep hb)
  replace HBV := Lib.hid (HBV.out.keep hb)
  replace HX9 := Lib.hid (HX9.out.keep hb)
  have HD10 := Lib.hid hd
  clear hd hb
  unfold dv at *
  have HS9 := Lib.hid (drest_left HX9.out.rest)
  go_wp2_with (first
    | (refine wpList_store_ags rfl _ _ _ rfl w10.heap.size [s10, p10, .int .i64 l10, .bool b10] _ size25 (by rfl) rfl rfl (row_new w10 25 _) (one_all HD10.out) (Joins.below_alloc1 w10 _) (Nat.le_refl _) ?_; intro v10 hr hb _; have HB := Lib.hid (below_next HB.out hb); replace HX0 := Lib.hid (HX0.out.keep hb); replace HBV := Lib.hid (HBV.out.keep hb); replace HX9 := Lib.hid (HX9.out.keep hb); have HX10 := Lib.hid (Box.new HD10.out hr hb); obtain ⟨hl9, hb9, ⟨a9, c9, hs9⟩, ⟨a9', c9', hp9⟩⟩ := HS9.out; simp only [restartD, List.length_nil] at hl9 hb9 hs9 hp9; have HV9 : Hid (DRest v10.heap.size v10 (restartD d) (dv (.slice a9 d.secs.length c9) (.slice a9' 0 c9') (-1) false)) := Lib.hid (by have := HX9.out.drest; rw [hs9, hp9, hl9, hb9] at this; exact this); have HR9 : Hid (Row v10 w9.heap.size 25 [.slice a9 d.secs.length c9, .slice a9' 0 c9', .int .i64 (-1), .bool false]) := Lib.hid (by have := HX9.out.row; rw [hs9, hp9, hl9, hb9] at this; exact this); have x0 := HR9.out.cell (i := 0) rfl; have x1 := HR9.out.cell (i := 1) rfl; have x2 := HR9.out.cell (i := 2) rfl; have x3 := HR9.out.cell (i := 3) rfl; have y0 := HX0.out.row.cell (i := 0) rfl; have u0 := HX10.out.row.cell (i := 0) rfl; have u1 := HX10.out.row.cell (i := 1) rfl; have u2 := HX10.out.row.cell (i := 2) rfl; have u3 := HX10.out.row.cell (i := 3) rfl; clear hl9 hb9 hs9 hp9 hr hb)
    | (refine wpList_load_dsk rfl _ rfl _ _ (by rfl) rfl HX9.out.row ?_)
    | (refine wpList_load_dsk rfl _ rfl _ _ (by rfl) rfl HX10.out.row ?_))
  have hsm := same_law (d := restartD d) HV9.out HX10.out.drest
  unfold dv at hsm
  refine hsm.mono ?_
  rintro e w11 ⟨rfl, hb⟩
  replace HB := Lib.hid (below_next HB.out hb)
  replace HX0 := Lib.hid (HX0.out.keep hb)
  replace HBV := Lib.hid (HBV.out.keep hb)
  replace HV9 := Lib.hid (HV9.out.keep hb)
  replace HR9 := Lib.hid (HR9.out.keep hb)
  clear hb hsm x0 x1 x2 x3 y0 u0 u1 u2 u3 HX10 HX9
  have x0 := HR9.out.cell (i := 0) rfl
  have y0 := HX0.out.row.cell (i := 0) rfl
  go_wp2_with fail
  clear x0 y0
  have HN9 : Hid (NRest w11.heap.size w11 d.secs (.slice a9 d.secs.length c9)) := Lib.hid (by
    obtain ⟨s', p', he, h1, _⟩ := HV9.out
    unfold dv dskOf dskCells at he
    simp at he
    rw [← he.1] at h1; exact h1)
  have HN0 : Hid (NRest w11.heap.size w11 d.secs (.slice a d.secs.length cap)) := Lib.hid (by
    obtain ⟨s', p', he, h1, _⟩ := HX0.out.drest
    unfold dv dskOf dskCells at he
    simp at he
    rw [← he.1] at h1; exact h1)
  have HSL := Lib.hid (rfl : d.secs.length = d.secs.length)
  generalize hm : d.secs.length = m at *
  have HM := Lib.hid hm
  clear hm HSL
  go_loopw [11] (fun s11 wr => StHead m w11 s11 wr) (fun s11 _ => m - (intOf s11).toNat)
  case atStart => exact ⟨0, Nat.zero_le _, rfl, Below.refl _ _⟩
  case round =>
    obtain ⟨k, hk, rfl, hb⟩ := hrel
    have HBR := Lib.hid hb
    have c0 := HR9.out.later hb (i := 0) rfl
    have e0 := HX0.out.row.later hb (i := 0) rfl
    clear hb
    rcases Nat.lt_or_ge k m with hlt | hge
    · obtain ⟨x, hx⟩ : ∃ x, d.secs[k]? = some x := ⟨_, List.getElem?_eq_getElem (by rw [HM.out]; exact hlt)⟩
      obtain ⟨b1, off1, u1, rfl, hbl, hru, hcell⟩ := HN9.out.at hx
      obtain ⟨b2, off2, u2, rfl, hbl', hru', hcell'⟩ := HN0.out.at hx
      obtain ⟨ua, uc, rfl, -, -⟩ := hru.shape
      obtain ⟨ua', uc', rfl, -, -⟩ := hru'.shape
      have hcx := hcell wr HBR.out
      have hcx' := hcell' wr HBR.out
      have hv1 : ∀ q : Nat, _ := fun q => conv_rest (hru.stays (below_drewN HBR.out q))
      have hv1' : ∀ q : Nat, _ := fun q => conv_rest (hru'.stays (below_drewN HBR.out q))
      have hkn : (k : Int) < (m : Int) := by omega
      have hk0 : (0 : Int) ≤ (k : Int) := by omega
      generalize x.length = l at hcx hcx' hv1 hv1'
      generalize (⟨x.toArray⟩ : ByteArray) = X at hv1 hv1'
      clear hru hru' hcell hcell' hx
      go_wp2_with fail
      go_quiet (fail)
      go_wp2_with fail
      exact ⟨⟨k + 1, hlt, by go_num, below_drewN HBR.out _⟩, by simp [intOf]; omega⟩
    · obtain rfl : k = m := by omega
      replace HB := Lib.hid (below_next HB.out HBR.out)
      replace HX0 := Lib.hid (HX0.out.keep HBR.out)
      have HBV2 := Lib.hid ((HBV0.out.stays (below_setCell HB.out w.heap.size 3 (.bool true) (Nat.le_refl _))).mono (below_setCell HB.out w.heap.size 3 (.bool true) (Nat.le_refl _)).size)
      have HX1 := Lib.hid HX0.out.halt
      have y3 := HX0.out.row.cell (i := 3) rfl
      have f3 := HX0.out.row.free 3
      replace HB := Lib.hid (below_setCell HB.out w.heap.size 3 (.bool true) (Nat.le_refl _))
      clear c0
      go_wp2_with (first
        | (refine wpList_load_dsk rfl _ rfl _ _ (by rfl) rfl HX1.out.row ?_))
      clear e0 y3 f3
      generalize wr.setCell ⟨w.heap.size, 3, none⟩ (.bool true) = W1 at *
      refine (read_none HX1.out.drest at' (.inl (stopped_runs d))).mono ?_
      rintro e w13 ⟨rfl, hb⟩
      replace HB := Lib.hid (below_next HB.out hb)
      replace HX1 := Lib.hid (HX1.out.keep hb)
      replace HBV2 := Lib.hid (HBV2.out.keep hb)
      clear hb
      go_wp2_with (first
        | (refine wpList_load_dsk rfl _ rfl _ _ (by rfl) rfl HX1.out.row ?_))
      refine (write_law HX1.out.drest at' HBV2.out (stopped_write d at' bs)).mono ?_
      rintro e w15 ⟨s15, p15, l15, b15, rfl, hd, hb⟩
      replace HB := Lib.hid (below_next HB.out hb)
      replace HX1 := Lib.hid (HX1.out.keep hb)
      replace HBV2 := Lib.hid (HBV2.out.keep hb)
      have HD15 := Lib.hid hd
      clear hd hb
      unfold dv at *
      go_wp2_with (first
        | (refine wpList_store_ags rfl _ _ _ rfl w15.heap.size [s15, p15, .int .i64 l15, .bool b15] _ size25 (by rfl) rfl rfl (row_new w15 25 _) (one_all HD15.out) (Joins.below_alloc1 w15 _) (Nat.le_refl _) ?_; intro v15 hr hb _; replace HB := Lib.hid (below_next HB.out hb); replace HX1 := Lib.hid (HX1.out.keep hb); replace HBV2 := Lib.hid (HBV2.out.keep hb); have HX15 := Lib.hid (Box.new HD15.out hr hb); clear hr hb)
        | (refine wpList_load_dsk rfl _ rfl _ _ (by rfl) rfl HX1.out.row ?_))
      refine (sync_law HX1.out.drest (stopped_sync d)).mono ?_
      rintro e w17 ⟨s17, p17, l17, b17, rfl, hd, hb⟩
      replace HB := Lib.hid (below_next HB.out hb)
      replace HX1 := Lib.hid (HX1.out.keep hb)
      replace HX15 := Lib.hid (HX15.out.keep hb)
      have HD17 := Lib.hid hd
      clear hd hb
      unfold dv at *
      go_wp2_with (first
        | (refine wpList_store_ags rfl _ _ _ rfl w17.heap.size [s17, p17, .int .i64 l17, .bool b17] _ size25 (by rfl) rfl rfl (row_new w17 25 _) (one_all HD17.out) (Joins.below_alloc1 w17 _) (Nat.le_refl _) ?_; intro v17 hr hb _; replace HB := Lib.hid (below_next HB.out hb); replace HX1 := Lib.hid (HX1.out.keep hb); replace HX15 := Lib.hid (HX15.out.keep hb); have HX17 := Lib.hid (Box.new HD17.out hr hb); clear hr hb)
        | (refine wpList_load_dsk rfl _ rfl _ _ (by rfl) rfl HX1.out.row ?_))
      refine (stop_law HX1.out.drest left (stopped_stop d left)).mono ?_
      rintro e w19 ⟨s19, p19, l19, b19, rfl, hd, hb⟩
      replace HB := Lib.hid (below_next HB.out hb)
      replace HX1 := Lib.hid (HX1.out.keep hb)
      replace HX15 := Lib.hid (HX15.out.keep hb)
      replace HX17 := Lib.hid (HX17.out.keep hb)
      have HD19 := Lib.hid hd
      clear hd hb
      unfold dv at *
      go_wp2_with (first
        | (refine wpList_store_ags rfl _ _ _ rfl w19.heap.size [s19, p19, .int .i64 l19, .bool b19] _ size25 (by rfl) rfl rfl (row_new w19 25 _) (one_all HD19.out) (Joins.below_alloc1 w19 _) (Nat.le_refl _) ?_; intro v19 hr hb _; replace HB := Lib.hid (below_next HB.out hb); replace HX1 := Lib.hid (HX1.out.keep hb); replace HX15 := Lib.hid (HX15.out.keep hb); replace HX17 := Lib.hid (HX17.out.keep hb); have HX19 := Lib.hid (Box.new HD19.out hr hb); clear hr hb))
      go_ret
      exact ⟨rfl, HB.out⟩
end Go.Proofs.Ytlaaolbdadempaa
