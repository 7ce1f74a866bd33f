/- Read and Write against the reference. -/
import Derived.Test.YtlaaolbdadempaaUb
namespace Go.Proofs.Ytlaaolbdadempaa
open Go.RowKit

set_option maxHeartbeats 8000000 in
set_option maxRecDepth 100000 in
theorem writespec_walk (d : Dsk) (v : Value) (at' : Int) (bs : List UInt8) (bv : Value) (w : World) (h : DRest w.heap.size w d v) (hbv : Rest w.heap.size w bs bv) :
    Calls Try.prog 4 #[v, .int .i64 at', bv] w fun e w' => e = .returned (.bool true) ∧ Below w.heap.size w w' := by
  obtain ⟨s, p, rfl, hs, hp⟩ := h
  have HD := Lib.hid (show DRest w.heap.size w d (dv s p d.left d.stop) from ⟨s, p, rfl, hs, hp⟩)
  obtain ⟨a, cap, rfl, hc1, hc2⟩ := hs.shape
  obtain ⟨a2, cap2, rfl, hc3, hc4⟩ := hp.shape
  clear hs hp
  have HX0 := Lib.hid (Box.new HD.out (row_new w 25 [.slice a d.secs.length cap, .slice a2 d.pend.length cap2, .int .i64 d.left, .bool d.stop]) (Joins.below_alloc1 w _))
  have HB := Lib.hid (Joins.below_alloc1 w (.cells #[.slice a d.secs.length cap, .slice a2 d.pend.length cap2, .int .i64 d.left, .bool d.stop] 25))
  unfold dskOf dskCells
  have HBV := Lib.hid (hbv.keep HB.out)
  obtain ⟨ba, bc, rfl, hb1, hb2⟩ := hbv.shape
  clear hbv
  obtain ⟨⟨d1, k1⟩, hw⟩ : ∃ r, writeD d at' bs = r := ⟨_, rfl⟩
  have HW := Lib.hid hw
  clear hw
  obtain ⟨n, hn⟩ : ∃ n, n = bs.length := ⟨_, rfl⟩
  rw [← hn] at HBV hb2 ⊢
  clear hn
  go_enter Try.func4, Try.ntmps4
  go_wp2_with fail
  refine (sane_call _).mono ?_
  rintro e wS ⟨rfl, hb⟩
  have HB := Lib.hid (below_next HB.out hb)
  replace HX0 := Lib.hid (HX0.out.keep hb)
  replace HBV := Lib.hid (HBV.out.keep hb)
  clear hb
  go_wp2_with (first
    | (refine wpList_load_dsk rfl _ rfl _ _ (by rfl) rfl HX0.out.row ?_))
  refine (few_call d _ wS HX0.out.drest).mono ?_
  rintro e wF ⟨r, rfl, hb⟩
  have HB := Lib.hid (below_next HB.out hb)
  replace HX0 := Lib.hid (HX0.out.keep hb)
  replace HBV := Lib.hid (HBV.out.keep hb)
  clear hb
  cases r
  · go_wp2_with fail
    go_ret
    exact ⟨rfl, HB.out⟩
  by_cases hlen : (1000 : Int) < (n : Int)
  · go_wp2_with fail
    go_ret
    exact ⟨rfl, HB.out⟩
  go_wp2_with (first
    | (refine wpList_load_dsk rfl _ rfl _ _ (by rfl) rfl HX0.out.row ?_))
  refine (write_law HX0.out.drest at' HBV.out HW.out).mono ?_
  rintro e w7 ⟨s7, p7, l7, b7, rfl, hd, hb⟩
  have HB := Lib.hid (below_next HB.out hb)
  replace HX0 := Lib.hid (HX0.out.keep hb)
  replace HBV := Lib.hid (HBV.out.keep hb)
  have HD7 := Lib.hid hd
  clear hd hb
  unfold dv at *
  go_wp2_with (first
    | (refine wpList_store_ags rfl _ _ _ rfl w7.heap.size [s7, p7, .int .i64 l7, .bool b7] _ size25 (by rfl) rfl rfl (row_new w7 25 _) (one_all HD7.out) (Joins.below_alloc1 w7 _) (Nat.le_refl _) ?_; intro v7 hr hb _; have HB := Lib.hid (below_next HB.out hb); replace HX0 := Lib.hid (HX0.out.keep hb); replace HBV := Lib.hid (HBV.out.keep hb); have HX7 := Lib.hid (Box.new HD7.out hr hb); clear hr hb)
    | (refine wpList_load_dsk rfl _ rfl _ _ (by rfl) rfl HX0.out.row ?_))
  refine (refwrite_law HX0.out.drest at' HBV.out HW.out).mono ?_
  rintro e w9 ⟨s9, p9, l9, b9, rfl, hd, hb⟩
  have HB := Lib.hid (below_next HB.out hb)
  replace HX0 := Lib.hid (HX0.out.keep hb)
  replace HBV := Lib.hid (HBV.out.keep hb)
  replace HX7 := Lib.hid (HX7.out.keep hb)
  have HD9 := Lib.hid hd
  clear hd hb
  unfold dv at *
  by_cases hok : runsB d = true ∧ hasB d.secs.length at' = true
  · obtain ⟨hr, hh⟩ := hok
    have HR := Lib.hid hr
    have HH := Lib.hid hh
    clear hr hh
    go_wp2_with (first
      | (refine wpList_store_ags rfl _ _ _ rfl w9.heap.size [s9, p9, .int .i64 l9, .bool b9] _ size25 (by rfl) rfl rfl (row_new w9 25 _) (one_all HD9.out) (Joins.below_alloc1 w9 _) (Nat.le_refl _) ?_; intro v9 hr hb _; have HB := Lib.hid (below_next HB.out hb); replace HX0 := Lib.hid (HX0.out.keep hb); replace HBV := Lib.hid (HBV.out.keep hb); replace HX7 := Lib.hid (HX7.out.keep hb); have HX9 := Lib.hid (Box.new HD9.out hr hb); clear hr hb)
      | (refine wpList_load_dsk rfl _ rfl _ _ (by rfl) rfl HX0.out.row ?_))
    refine (read_law HX0.out.drest at' HR.out HH.out rfl).mono ?_
    rintro e w11 ⟨g11, rfl, hr, _, hb⟩
    have HB := Lib.hid (below_next HB.out hb)
    replace HX0 := Lib.hid (HX0.out.keep hb)
    replace HBV := Lib.hid (HBV.out.keep hb)
    replace HX7 := Lib.hid (HX7.out.keep hb)
    replace HX9 := Lib.hid (HX9.out.keep hb)
    have HR11 := Lib.hid hr
    clear hr hb
    go_wp2_with (first
      | (refine wpList_load_dsk rfl _ rfl _ _ (by rfl) rfl HX0.out.row ?_))
    refine (refread_law HX0.out.drest at' HR.out HH.out rfl).mono ?_
    rintro e w13 ⟨a13, c13, rfl, hr13, hb⟩
    have HB := Lib.hid (below_next HB.out hb)
    replace HX0 := Lib.hid (HX0.out.keep hb)
    replace HBV := Lib.hid (HBV.out.keep hb)
    replace HX7 := Lib.hid (HX7.out.keep hb)
    replace HX9 := Lib.hid (HX9.out.keep hb)
    replace HR11 := Lib.hid (HR11.out.keep hb)
    have hl13 := readF_len HR.out HH.out
    have HV13 := Lib.hid hr13
    clear hb hr13
    have hx : (sectorL [readF d at']).length = 128 := sectorL_len _
    have HV11 := Lib.hid (row_rest HR11.out (n := 128) hx (by omega))
    rw [sector_one hl13] at HV11
    obtain ⟨data, hdata⟩ : ∃ x, x = readF d at' := ⟨_, rfl⟩
    rw [← hdata] at HV11 HV13 hl13 ⊢
    clear hdata hx
    rw [hl13] at HV13 ⊢
    clear hl13
    generalize hX : (⟨data.toArray⟩ : ByteArray) = X
    have HXX := Lib.hid hX
    clear hX
    go_wp2_with (first
      | (refine wpList_load_dsk rfl _ rfl _ _ (by rfl) rfl HX7.out.row ?_)
      | (refine wpList_load_dsk rfl _ rfl _ _ (by rfl) rfl HX9.out.row ?_))
    refine (same_law HX7.out.drest HX9.out.drest).mono ?_
    rintro e w14 ⟨rfl, hb⟩
    have hc13 : (convert 35 9 (.slice a13 128 c13)).run Try.prog w14 = .ok (.string X) w14 := by rw [← HXX.out]; exact conv_rest (HV13.out.keep hb)
    have hc11 : (convert 35 9 (.slice (some ⟨g11, 0, none⟩) 128 128)).run Try.prog w14 = .ok (.string X) w14 := by rw [← HXX.out]; exact conv_rest (HV11.out.keep hb)
    have HB := Lib.hid (below_next HB.out hb)
    clear hb
    go_wp2_with fail
    go_ret
    exact ⟨rfl, HB.out⟩
  · have HNO : Hid (runsB d = false ∨ hasB d.secs.length at' = false) := Lib.hid (by cases h1 : runsB d <;> cases h2 : hasB d.secs.length at' <;> simp_all)
    clear hok
    go_wp2_with (first
      | (refine wpList_store_ags rfl _ _ _ rfl w9.heap.size [s9, p9, .int .i64 l9, .bool b9] _ size25 (by rfl) rfl rfl (row_new w9 25 _) (one_all HD9.out) (Joins.below_alloc1 w9 _) (Nat.le_refl _) ?_; intro v9 hr hb _; have HB := Lib.hid (below_next HB.out hb); replace HX0 := Lib.hid (HX0.out.keep hb); replace HBV := Lib.hid (HBV.out.keep hb); replace HX7 := Lib.hid (HX7.out.keep hb); have HX9 := Lib.hid (Box.new HD9.out hr hb); clear hr hb)
      | (refine wpList_load_dsk rfl _ rfl _ _ (by rfl) rfl HX0.out.row ?_))
    refine (read_none HX0.out.drest at' HNO.out).mono ?_
    rintro e w11 ⟨rfl, hb⟩
    have HB := Lib.hid (below_next HB.out hb)
    replace HX0 := Lib.hid (HX0.out.keep hb)
    replace HBV := Lib.hid (HBV.out.keep hb)
    replace HX7 := Lib.hid (HX7.out.keep hb)
    replace HX9 := Lib.hid (HX9.out.keep hb)
    clear hb
    go_wp2_with (first
      | (refine wpList_load_dsk rfl _ rfl _ _ (by rfl) rfl HX0.out.row ?_))
    refine (refread_none HX0.out.drest at' HNO.out).mono ?_
    rintro e w13 ⟨rfl, hb⟩
    have HB := Lib.hid (below_next HB.out hb)
    replace HX0 := Lib.hid (HX0.out.keep hb)
    replace HBV := Lib.hid (HBV.out.keep hb)
    replace HX7 := Lib.hid (HX7.out.keep hb)
    replace HX9 := Lib.hid (HX9.out.keep hb)
    clear hb
    go_wp2_with (first
      | (refine wpList_load_dsk rfl _ rfl _ _ (by rfl) rfl HX7.out.row ?_)
      | (refine wpList_load_dsk rfl _ rfl _ _ (by rfl) rfl HX9.out.row ?_))
    refine (same_law HX7.out.drest HX9.out.drest).mono ?_
    rintro e w14 ⟨rfl, hb⟩
    have hc0 : (convert 35 9 (.slice none 0 0)).run Try.prog w14 = .ok (.string ⟨#[]⟩) w14 := conv_rest (rest_nil w14.heap.size w14)
    have HB := Lib.hid (below_next HB.out hb)
    clear hb
    go_wp2_with fail
    go_ret
    exact ⟨rfl, HB.out⟩
end Go.Proofs.Ytlaaolbdadempaa
