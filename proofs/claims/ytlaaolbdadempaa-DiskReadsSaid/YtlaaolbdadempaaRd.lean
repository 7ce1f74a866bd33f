/- What was written last is read. -/
import Derived.Test.YtlaaolbdadempaaMa
namespace Go.Proofs.Ytlaaolbdadempaa
open Go.RowKit
theorem part_conv {B : Nat} {W : World} {xs bs : List UInt8} {g n : Nat} (h : Row W g 5 (cellsOf xs)) (hx : xs.length = 128) (hn : n ≤ 128) (he : xs.take n = bs) (hB : g < B) : (convert 35 9 (.slice (some ⟨g, 0, none⟩) n 128)).run Try.prog W = .ok (.string ⟨bs.toArray⟩) W := by
  have h1 : Rest W.heap.size W xs (.slice (some ⟨g, 0, none⟩) 128 128) := row_rest h hx (by omega)
  have h2 := rest_part (B := W.heap.size) (bs := xs) (b := g) (off := 0) (cap := 128) (by rw [hx]; exact h1) 0 n 128 (by omega) hn (Nat.le_refl _)
  rw [List.drop_zero, he] at h2
  exact conv_rest h2
theorem row_conv {W : World} {xs : List UInt8} {g : Nat} (h : Row W g 5 (cellsOf xs)) (hx : xs.length = 128) : (convert 35 9 (.slice (some ⟨g, 0, none⟩) 128 128)).run Try.prog W = .ok (.string ⟨xs.toArray⟩) W := conv_rest (row_rest h hx (by omega))
def RdsHead (n : Nat) (W : World) (s23 : Value) (wr : World) : Prop := ∃ k : Nat, k ≤ n ∧ s23 = .int .i64 (k : Int) ∧ Below W.heap.size W wr
set_option maxHeartbeats 8000000 in
set_option maxRecDepth 100000 in
theorem reads_walk (d : Dsk) (v : Value) (at' other : Int) (bs cs : List UInt8) (bv cv : Value) (w : World) (h : DRest w.heap.size w d v) (hbv : Rest w.heap.size w bs bv) (hcv : Rest w.heap.size w cs cv) :
    Calls Try.prog 7 #[v, .int .i64 at', .int .i64 other, bv, cv] w fun e w' => e = .returned (.bool true) ∧ Below w.heap.size w w' := by
  have HBV0 := Lib.hid hbv
  have HCV0 := Lib.hid hcv
  obtain ⟨s, p, rfl, hs, hp⟩ := h
  have HD := Lib.hid (show DRest w.heap.size w d (dv s p d.left d.stop) from ⟨s, p, rfl, hs, hp⟩)
  obtain ⟨a, cap, rfl, hc1, hc2⟩ := hs.shape
  obtain ⟨a2, cap2, rfl, hc3, hc4⟩ := hp.shape
  clear hs hp
  have HX0 := Lib.hid (Box.new HD.out (row_new w 25 [.slice a d.secs.length cap, .slice a2 d.pend.length cap2, .int .i64 d.left, .bool d.stop]) (Joins.below_alloc1 w _))
  have HB := Lib.hid (Joins.below_alloc1 w (.cells #[.slice a d.secs.length cap, .slice a2 d.pend.length cap2, .int .i64 d.left, .bool d.stop] 25))
  unfold dskOf dskCells
  obtain ⟨ba, bc, rfl, hb1, hb2⟩ := hbv.shape
  obtain ⟨ca, cc, rfl, hc5, hc6⟩ := hcv.shape
  clear hbv hcv
  obtain ⟨nb, hnb⟩ : ∃ n, n = bs.length := ⟨_, rfl⟩
  obtain ⟨nc, hnc⟩ : ∃ n, n = cs.length := ⟨_, rfl⟩
  have HNB := Lib.hid hnb
  have HNC := Lib.hid hnc
  rw [← hnb] at HBV0 hb2 ⊢
  rw [← hnc] at HCV0 hc6 ⊢
  clear hnb hnc
  go_enter Try.func7, Try.ntmps7
  go_wp2_with fail
  refine (sane_call _).mono ?_
  rintro e wS ⟨rfl, hb⟩
  replace HB := Lib.hid (below_next HB.out hb)
  replace HX0 := Lib.hid (HX0.out.keep hb)
  clear hb
  go_wp2_with (first
    | (refine wpList_load_dsk rfl _ rfl _ _ (by rfl) rfl HX0.out.row ?_))
  refine (few_call d _ wS HX0.out.drest).mono ?_
  rintro e wF ⟨r, rfl, hb⟩
  replace HB := Lib.hid (below_next HB.out hb)
  replace HX0 := Lib.hid (HX0.out.keep hb)
  clear hb
  cases r
  · go_wp2_with fail
    go_ret
    exact ⟨rfl, HB.out⟩
  by_cases hlb : (128 : Int) < (nb : Int)
  · go_wp2_with fail
    go_ret
    exact ⟨rfl, HB.out⟩
  by_cases hlc : (128 : Int) < (nc : Int)
  · go_wp2_with fail
    go_ret
    exact ⟨rfl, HB.out⟩
  go_wp2_with (first
    | (refine wpList_load_dsk rfl _ rfl _ _ (by rfl) rfl HX0.out.row ?_))
  obtain ⟨⟨d1, k1⟩, hw1⟩ : ∃ r, writeD d at' bs = r := ⟨_, rfl⟩
  have HW1 := Lib.hid hw1
  clear hw1
  by_cases hok : runsB d = true ∧ hasB d.secs.length other = true
  · skip
    obtain ⟨hr, hh⟩ := hok
    have HR := Lib.hid hr
    have HH := Lib.hid hh
    clear hr hh
    refine (read_law HX0.out.drest other HR.out HH.out rfl).mono ?_
    rintro e w11 ⟨g11, rfl, hr, _, hb⟩
    replace HB := Lib.hid (below_next HB.out hb)
    replace HX0 := Lib.hid (HX0.out.keep hb)
    have HR11 := Lib.hid hr
    clear hr hb
    go_wp2_with (first
      | (refine wpList_load_dsk rfl _ rfl _ _ (by rfl) rfl HX0.out.row ?_))
    refine (write_law HX0.out.drest at' ((HBV0.out.stays HB.out).mono HB.out.size) HW1.out).mono ?_
    rintro e w13 ⟨s13, p13, l13, b13, rfl, hd, hb⟩
    replace HB := Lib.hid (below_next HB.out hb)
    replace HX0 := Lib.hid (HX0.out.keep hb)
    replace HR11 := Lib.hid (HR11.out.keep hb)
    have HD13 := Lib.hid hd
    clear hd hb
    unfold dv at *
    by_cases hk1 : k1 = 0
    · subst hk1
      obtain ⟨hruns, hat, _, hfew, hd1⟩ := write_ok HW1.out
      subst hd1
      have HRUN := Lib.hid hruns
      have HRW := Lib.hid (hruns.written hat bs hfew)
      have HAT := Lib.hid hat
      clear hruns hat hfew
      go_wp2_with (first
        | (refine wpList_store_ags rfl _ _ _ rfl w13.heap.size [s13, p13, .int .i64 l13, .bool b13] _ size25 (by rfl) rfl rfl (row_new w13 25 _) (one_all HD13.out) (Joins.below_alloc1 w13 _) (Nat.le_refl _) ?_; intro v13 hr hb _; replace HB := Lib.hid (below_next HB.out hb); replace HX0 := Lib.hid (HX0.out.keep hb); replace HR11 := Lib.hid (HR11.out.keep hb); have HX13 := Lib.hid (Box.new HD13.out hr hb); clear hr hb)
        | (refine wpList_load_dsk rfl _ rfl _ _ (by rfl) rfl HX13.out.row ?_))
      refine (read_law HX13.out.drest other HRW.out.runs HH.out rfl).mono ?_
      rintro e w15 ⟨g15, rfl, hr, _, hb⟩
      replace HB := Lib.hid (below_next HB.out hb)
      replace HX0 := Lib.hid (HX0.out.keep hb)
      replace HR11 := Lib.hid (HR11.out.keep hb)
      replace HX13 := Lib.hid (HX13.out.keep hb)
      have HR15 := Lib.hid hr
      clear hr hb
      go_wp2_with (first
        | (refine wpList_load_dsk rfl _ rfl _ _ (by rfl) rfl HX13.out.row ?_))
      refine (read_law HX13.out.drest at' HRW.out.runs HAT.out rfl).mono ?_
      rintro e w17 ⟨g17, rfl, hr, _, hb⟩
      replace HB := Lib.hid (below_next HB.out hb)
      replace HX0 := Lib.hid (HX0.out.keep hb)
      replace HR11 := Lib.hid (HR11.out.keep hb)
      replace HX13 := Lib.hid (HX13.out.keep hb)
      replace HR15 := Lib.hid (HR15.out.keep hb)
      have HR17 := Lib.hid hr
      clear hr hb
      go_wp2_with fail
      have hnb : nb ≤ 128 := by omega
      have hn0 : (0 : Int) ≤ (nb : Int) := by omega
      have hn1 : (nb : Int) ≤ 128 := by omega
      have HTK : Hid ((sectorL [readF (written d at' bs) at']).take nb = bs) := Lib.hid (by
        have hl := readF_len HRW.out.runs (at' := at') HAT.out
        rw [sector_one hl, readF_written, if_pos rfl, sectorL_pad bs (by rw [← HNB.out]; omega), HNB.out, List.take_left'] ; rfl)
      have hvb : ∀ q : Nat, (convert 35 9 (.slice ba nb bc)).run Try.prog (w17.drewN q) = .ok (.string ⟨bs.toArray⟩) (w17.drewN q) := fun q => conv_rest (HBV0.out.stays (below_drewN HB.out q))
      have hvm : ∀ q : Nat, (convert 35 9 (.slice (some ⟨g17, 0, none⟩) nb 128)).run Try.prog (w17.drewN q) = .ok (.string ⟨bs.toArray⟩) (w17.drewN q) := fun q => part_conv (W := w17.drewN q) (B := g17 + 1) HR17.out (sectorL_len _) hnb HTK.out (by omega)
      generalize (⟨bs.toArray⟩ : ByteArray) = XB at hvb hvm
      by_cases hao : at' = other
      · have hne : (at' != other) = false := by simp [hao]
        clear hao
        go_quiet (fail)
        generalize hW2 : World.drewN w17 _ = W2
        have hb : Below w17.heap.size w17 W2 := hW2 ▸ below_drewN (Below.refl _ _) _
        clear hW2
        replace HB := Lib.hid (below_next HB.out hb)
        replace HX0 := Lib.hid (HX0.out.keep hb)
        replace HR11 := Lib.hid (HR11.out.keep hb)
        replace HX13 := Lib.hid (HX13.out.keep hb)
        replace HR15 := Lib.hid (HR15.out.keep hb)
        replace HR17 := Lib.hid (HR17.out.keep hb)
        clear hb hvb hvm hnb hn0 hn1 HR11 HR15 HR17
        go_wp2_with (first
          | (refine wpList_load_dsk rfl _ rfl _ _ (by rfl) rfl HX13.out.row ?_))
        obtain ⟨⟨d2, k2⟩, hw2⟩ : ∃ r, writeD (written d at' bs) other cs = r := ⟨_, rfl⟩
        have HW2 := Lib.hid hw2
        clear hw2
        refine (write_law HX13.out.drest other ((HCV0.out.stays HB.out).mono HB.out.size) HW2.out).mono ?_
        rintro e w19 ⟨s19, p19, l19, b19, rfl, hd, hb⟩
        replace HB := Lib.hid (below_next HB.out hb)
        replace HX0 := Lib.hid (HX0.out.keep hb)
        replace HX13 := Lib.hid (HX13.out.keep hb)
        have HD19 := Lib.hid hd
        clear hd hb
        unfold dv at *
        have hk2 : k2 = 2 ∨ k2 = 0 := by
          have h1 := HW2.out
          rcases write_some (at' := other) cs HRW.out HH.out (by rw [← HNC.out]; omega) with h2 | ⟨_, h2⟩
          · rw [h2] at h1; injection h1 with _ h1; exact .inl h1.symm
          · rw [h2] at h1; injection h1 with _ h1; exact .inr h1.symm
        rcases hk2 with hk2 | hk2
        · subst hk2
          go_wp2_with (first
            | (refine wpList_store_ags rfl _ _ _ rfl w19.heap.size [s19, p19, .int .i64 l19, .bool b19] _ size25 (by rfl) rfl rfl (row_new w19 25 _) (one_all HD19.out) (Joins.below_alloc1 w19 _) (Nat.le_refl _) ?_; intro v19 hr hb _; replace HB := Lib.hid (below_next HB.out hb); replace HX0 := Lib.hid (HX0.out.keep hb); replace HX13 := Lib.hid (HX13.out.keep hb); have HX19 := Lib.hid (Box.new HD19.out hr hb); clear hr hb))
          go_ret
          exact ⟨rfl, HB.out⟩
        · subst hk2
          obtain ⟨_, _, _, hfew2, hd2⟩ := write_ok HW2.out
          subst hd2
          have HRY := Lib.hid (HRW.out.written HH.out cs hfew2)
          clear hfew2
          go_wp2_with (first
            | (refine wpList_store_ags rfl _ _ _ rfl w19.heap.size [s19, p19, .int .i64 l19, .bool b19] _ size25 (by rfl) rfl rfl (row_new w19 25 _) (one_all HD19.out) (Joins.below_alloc1 w19 _) (Nat.le_refl _) ?_; intro v19 hr hb _; replace HB := Lib.hid (below_next HB.out hb); replace HX0 := Lib.hid (HX0.out.keep hb); replace HX13 := Lib.hid (HX13.out.keep hb); have HX19 := Lib.hid (Box.new HD19.out hr hb); clear hr hb)
            | (refine wpList_load_dsk rfl _ rfl _ _ (by rfl) rfl HX19.out.row ?_))
          rcases sync_cases HRY.out with ⟨_, _, hs3⟩ | ⟨_, hs3, hr3⟩
          · have HS3 := Lib.hid hs3
            clear hs3
            refine (sync_law HX19.out.drest HS3.out).mono ?_
            rintro e w21 ⟨s21, p21, l21, b21, rfl, hd, hb⟩
            replace HB := Lib.hid (below_next HB.out hb)
            replace HX0 := Lib.hid (HX0.out.keep hb)
            replace HX13 := Lib.hid (HX13.out.keep hb)
            replace HX19 := Lib.hid (HX19.out.keep hb)
            have HD21 := Lib.hid hd
            clear hd hb
            unfold dv at *
            have HST := Lib.hid (drest_left HD21.out).2.1
            go_wp2_with (first
              | (refine wpList_store_ags rfl _ _ _ rfl w21.heap.size [s21, p21, .int .i64 l21, .bool b21] _ size25 (by rfl) rfl rfl (row_new w21 25 _) (one_all HD21.out) (Joins.below_alloc1 w21 _) (Nat.le_refl _) ?_; intro v21 hr hb _; replace HB := Lib.hid (below_next HB.out hb); replace HX0 := Lib.hid (HX0.out.keep hb); replace HX13 := Lib.hid (HX13.out.keep hb); replace HX19 := Lib.hid (HX19.out.keep hb); have HX21 := Lib.hid (Box.new HD21.out hr hb); have d3 := HX21.out.row.cell (i := 3) rfl; rw [HST.out] at d3; unfold haltD at d3; clear hr hb))
            go_ret
            exact ⟨rfl, HB.out⟩
          · have HS3 := Lib.hid hs3
            have HRZ := Lib.hid hr3
            clear hs3 hr3
            refine (sync_law HX19.out.drest HS3.out).mono ?_
            rintro e w21 ⟨s21, p21, l21, b21, rfl, hd, hb⟩
            replace HB := Lib.hid (below_next HB.out hb)
            replace HX0 := Lib.hid (HX0.out.keep hb)
            replace HX13 := Lib.hid (HX13.out.keep hb)
            replace HX19 := Lib.hid (HX19.out.keep hb)
            have HD21 := Lib.hid hd
            clear hd hb
            unfold dv at *
            go_wp2_with (first
              | (refine wpList_store_ags rfl _ _ _ rfl w21.heap.size [s21, p21, .int .i64 l21, .bool b21] _ size25 (by rfl) rfl rfl (row_new w21 25 _) (one_all HD21.out) (Joins.below_alloc1 w21 _) (Nat.le_refl _) ?_; intro v21 hr hb _; replace HB := Lib.hid (below_next HB.out hb); replace HX0 := Lib.hid (HX0.out.keep hb); replace HX13 := Lib.hid (HX13.out.keep hb); replace HX19 := Lib.hid (HX19.out.keep hb); have HX21 := Lib.hid (Box.new HD21.out hr hb); clear hr hb))
            go_loopw [23] (fun s23 wr => RdsHead d.secs.length v21 s23 wr) (fun s23 _ => d.secs.length - (intOf s23).toNat)
            case atStart => exact ⟨0, Nat.zero_le _, rfl, Below.refl _ _⟩
            case round =>
              obtain ⟨k, hk, rfl, hb⟩ := hrel
              have HBR := Lib.hid hb
              clear hb
              have HB2 := Lib.hid (below_next HB.out HBR.out)
              have HY := Lib.hid (HX19.out.keep HBR.out)
              have HZ := Lib.hid (HX21.out.keep HBR.out)
              have HO := Lib.hid (HX0.out.keep HBR.out)
              have c0 := HO.out.row.cell (i := 0) rfl
              rcases Nat.lt_or_ge k d.secs.length with hlt | hge
              · have hkn : (k : Int) < (d.secs.length : Int) := by omega
                have hk0 : (0 : Int) ≤ (k : Int) := by omega
                have HKH : Hid (hasB d.secs.length (k : Int) = true) := Lib.hid (has_nat hlt)
                go_wp2_with (refine wpList_load_dsk rfl _ rfl _ _ (by rfl) rfl HY.out.row ?_)
                refine (read_law HY.out.drest (k : Int) HRY.out.runs HKH.out rfl).mono ?_
                rintro e w24 ⟨g24, rfl, hr, _, hb⟩
                have HB4 := Lib.hid (below_next HBR.out hb)
                replace HZ := Lib.hid (HZ.out.keep hb)
                have HR24 := Lib.hid hr
                clear hr hb c0
                go_wp2_with (refine wpList_load_dsk rfl _ rfl _ _ (by rfl) rfl HZ.out.row ?_)
                refine (read_law HZ.out.drest (k : Int) HRZ.out.runs (by show hasB (performL d.secs _).length _ = true; rw [performL_len]; exact HKH.out) (synced_reads HRY.out k)).mono ?_
                rintro e w26 ⟨g26, rfl, hr, _, hb⟩
                replace HB4 := Lib.hid (below_next HB4.out hb)
                replace HR24 := Lib.hid (HR24.out.keep hb)
                have hv1 := row_conv HR24.out (sectorL_len _)
                have hv2 := row_conv hr (sectorL_len _)
                generalize (⟨(sectorL [readF (written (written d at' bs) other cs) (k : Int)]).toArray⟩ : ByteArray) = XK at hv1 hv2
                clear hr hb HKH
                go_wp2_with fail
                exact ⟨⟨k + 1, hlt, by go_num, HB4.out⟩, by simp [intOf]; omega⟩
              · obtain rfl : k = d.secs.length := by omega
                have HSH := Lib.hid (drest_left HZ.out.rest).2.2.2
                obtain ⟨pa, pc, hp⟩ := HSH.out
                have x1 := HZ.out.row.cell (i := 1) rfl
                rw [hp] at x1
                simp only [synced, List.length_nil] at x1
                have x0 := HZ.out.row.cell (i := 0) rfl
                have x2 := HZ.out.row.cell (i := 2) rfl
                have x3 := HZ.out.row.cell (i := 3) rfl
                have HCK : Hid (Calls Try.prog 22 #[.agg #[s21, .slice pa 0 pc, .int .i64 l21, .bool b21]] wr fun e w' => e = .returned (.int .i64 0) ∧ Below wr.heap.size wr w') := Lib.hid (by
                  have := check_call _ _ wr HZ.out.drest
                  rw [HRZ.out.valid, if_pos rfl, hp] at this
                  exact this)
                clear hp
                go_wp2_with fail
                refine HCK.out.mono ?_
                rintro e w30 ⟨rfl, hb⟩
                go_wp2_with fail
                go_ret
                exact ⟨rfl, below_next HB2.out hb⟩
      · have hne : (at' != other) = true := by simp [hao]
        have hv1 : ∀ q : Nat, (convert 35 9 (.slice (some ⟨g11, 0, none⟩) 128 128)).run Try.prog (w17.drewN q) = .ok (.string ⟨(sectorL [readF d other]).toArray⟩) (w17.drewN q) := fun q => row_conv (W := w17.drewN q) HR11.out (sectorL_len _)
        have hv2 : ∀ q : Nat, (convert 35 9 (.slice (some ⟨g15, 0, none⟩) 128 128)).run Try.prog (w17.drewN q) = .ok (.string ⟨(sectorL [readF d other]).toArray⟩) (w17.drewN q) := fun q => by
          have h := row_conv (W := w17.drewN q) HR15.out (sectorL_len _)
          rwa [readF_written, if_neg hao] at h
        generalize (⟨(sectorL [readF d other]).toArray⟩ : ByteArray) = XO at hv1 hv2
        clear hao
        go_quiet (fail)
        generalize hW2 : World.drewN w17 _ = W2
        have hb : Below w17.heap.size w17 W2 := hW2 ▸ below_drewN (Below.refl _ _) _
        clear hW2
        replace HB := Lib.hid (below_next HB.out hb)
        replace HX0 := Lib.hid (HX0.out.keep hb)
        replace HR11 := Lib.hid (HR11.out.keep hb)
        replace HX13 := Lib.hid (HX13.out.keep hb)
        replace HR15 := Lib.hid (HR15.out.keep hb)
        replace HR17 := Lib.hid (HR17.out.keep hb)
        clear hb hvb hvm hnb hn0 hn1 HR11 HR15 HR17
        go_wp2_with (first
          | (refine wpList_load_dsk rfl _ rfl _ _ (by rfl) rfl HX13.out.row ?_))
        obtain ⟨⟨d2, k2⟩, hw2⟩ : ∃ r, writeD (written d at' bs) other cs = r := ⟨_, rfl⟩
        have HW2 := Lib.hid hw2
        clear hw2
        refine (write_law HX13.out.drest other ((HCV0.out.stays HB.out).mono HB.out.size) HW2.out).mono ?_
        rintro e w19 ⟨s19, p19, l19, b19, rfl, hd, hb⟩
        replace HB := Lib.hid (below_next HB.out hb)
        replace HX0 := Lib.hid (HX0.out.keep hb)
        replace HX13 := Lib.hid (HX13.out.keep hb)
        have HD19 := Lib.hid hd
        clear hd hb
        unfold dv at *
        have hk2 : k2 = 2 ∨ k2 = 0 := by
          have h1 := HW2.out
          rcases write_some (at' := other) cs HRW.out HH.out (by rw [← HNC.out]; omega) with h2 | ⟨_, h2⟩
          · rw [h2] at h1; injection h1 with _ h1; exact .inl h1.symm
          · rw [h2] at h1; injection h1 with _ h1; exact .inr h1.symm
        rcases hk2 with hk2 | hk2
        · subst hk2
          go_wp2_with (first
            | (refine wpList_store_ags rfl _ _ _ rfl w19.heap.size [s19, p19, .int .i64 l19, .bool b19] _ size25 (by rfl) rfl rfl (row_new w19 25 _) (one_all HD19.out) (Joins.below_alloc1 w19 _) (Nat.le_refl _) ?_; intro v19 hr hb _; replace HB := Lib.hid (below_next HB.out hb); replace HX0 := Lib.hid (HX0.out.keep hb); replace HX13 := Lib.hid (HX13.out.keep hb); have HX19 := Lib.hid (Box.new HD19.out hr hb); clear hr hb))
          go_ret
          exact ⟨rfl, HB.out⟩
        · subst hk2
          obtain ⟨_, _, _, hfew2, hd2⟩ := write_ok HW2.out
          subst hd2
          have HRY := Lib.hid (HRW.out.written HH.out cs hfew2)
          clear hfew2
          go_wp2_with (first
            | (refine wpList_store_ags rfl _ _ _ rfl w19.heap.size [s19, p19, .int .i64 l19, .bool b19] _ size25 (by rfl) rfl rfl (row_new w19 25 _) (one_all HD19.out) (Joins.below_alloc1 w19 _) (Nat.le_refl _) ?_; intro v19 hr hb _; replace HB := Lib.hid (below_next HB.out hb); replace HX0 := Lib.hid (HX0.out.keep hb); replace HX13 := Lib.hid (HX13.out.keep hb); have HX19 := Lib.hid (Box.new HD19.out hr hb); clear hr hb)
            | (refine wpList_load_dsk rfl _ rfl _ _ (by rfl) rfl HX19.out.row ?_))
          rcases sync_cases HRY.out with ⟨_, _, hs3⟩ | ⟨_, hs3, hr3⟩
          · have HS3 := Lib.hid hs3
            clear hs3
            refine (sync_law HX19.out.drest HS3.out).mono ?_
            rintro e w21 ⟨s21, p21, l21, b21, rfl, hd, hb⟩
            replace HB := Lib.hid (below_next HB.out hb)
            replace HX0 := Lib.hid (HX0.out.keep hb)
            replace HX13 := Lib.hid (HX13.out.keep hb)
            replace HX19 := Lib.hid (HX19.out.keep hb)
            have HD21 := Lib.hid hd
            clear hd hb
            unfold dv at *
            have HST := Lib.hid (drest_left HD21.out).2.1
            go_wp2_with (first
              | (refine wpList_store_ags rfl _ _ _ rfl w21.heap.size [s21, p21, .int .i64 l21, .bool b21] _ size25 (by rfl) rfl rfl (row_new w21 25 _) (one_all HD21.out) (Joins.below_alloc1 w21 _) (Nat.le_refl _) ?_; intro v21 hr hb _; replace HB := Lib.hid (below_next HB.out hb); replace HX0 := Lib.hid (HX0.out.keep hb); replace HX13 := Lib.hid (HX13.out.keep hb); replace HX19 := Lib.hid (HX19.out.keep hb); have HX21 := Lib.hid (Box.new HD21.out hr hb); have d3 := HX21.out.row.cell (i := 3) rfl; rw [HST.out] at d3; unfold haltD at d3; clear hr hb))
            go_ret
            exact ⟨rfl, HB.out⟩
          · have HS3 := Lib.hid hs3
            have HRZ := Lib.hid hr3
            clear hs3 hr3
            refine (sync_law HX19.out.drest HS3.out).mono ?_
            rintro e w21 ⟨s21, p21, l21, b21, rfl, hd, hb⟩
            replace HB := Lib.hid (below_next HB.out hb)
            replace HX0 := Lib.hid (HX0.out.keep hb)
            replace HX13 := Lib.hid (HX13.out.keep hb)
            replace HX19 := Lib.hid (HX19.out.keep hb)
            have HD21 := Lib.hid hd
            clear hd hb
            unfold dv at *
            go_wp2_with (first
              | (refine wpList_store_ags rfl _ _ _ rfl w21.heap.size [s21, p21, .int .i64 l21, .bool b21] _ size25 (by rfl) rfl rfl (row_new w21 25 _) (one_all HD21.out) (Joins.below_alloc1 w21 _) (Nat.le_refl _) ?_; intro v21 hr hb _; replace HB := Lib.hid (below_next HB.out hb); replace HX0 := Lib.hid (HX0.out.keep hb); replace HX13 := Lib.hid (HX13.out.keep hb); replace HX19 := Lib.hid (HX19.out.keep hb); have HX21 := Lib.hid (Box.new HD21.out hr hb); clear hr hb))
            go_loopw [23] (fun s23 wr => RdsHead d.secs.length v21 s23 wr) (fun s23 _ => d.secs.length - (intOf s23).toNat)
            case atStart => exact ⟨0, Nat.zero_le _, rfl, Below.refl _ _⟩
            case round =>
              obtain ⟨k, hk, rfl, hb⟩ := hrel
              have HBR := Lib.hid hb
              clear hb
              have HB2 := Lib.hid (below_next HB.out HBR.out)
              have HY := Lib.hid (HX19.out.keep HBR.out)
              have HZ := Lib.hid (HX21.out.keep HBR.out)
              have HO := Lib.hid (HX0.out.keep HBR.out)
              have c0 := HO.out.row.cell (i := 0) rfl
              rcases Nat.lt_or_ge k d.secs.length with hlt | hge
              · have hkn : (k : Int) < (d.secs.length : Int) := by omega
                have hk0 : (0 : Int) ≤ (k : Int) := by omega
                have HKH : Hid (hasB d.secs.length (k : Int) = true) := Lib.hid (has_nat hlt)
                go_wp2_with (refine wpList_load_dsk rfl _ rfl _ _ (by rfl) rfl HY.out.row ?_)
                refine (read_law HY.out.drest (k : Int) HRY.out.runs HKH.out rfl).mono ?_
                rintro e w24 ⟨g24, rfl, hr, _, hb⟩
                have HB4 := Lib.hid (below_next HBR.out hb)
                replace HZ := Lib.hid (HZ.out.keep hb)
                have HR24 := Lib.hid hr
                clear hr hb c0
                go_wp2_with (refine wpList_load_dsk rfl _ rfl _ _ (by rfl) rfl HZ.out.row ?_)
                refine (read_law HZ.out.drest (k : Int) HRZ.out.runs (by show hasB (performL d.secs _).length _ = true; rw [performL_len]; exact HKH.out) (synced_reads HRY.out k)).mono ?_
                rintro e w26 ⟨g26, rfl, hr, _, hb⟩
                replace HB4 := Lib.hid (below_next HB4.out hb)
                replace HR24 := Lib.hid (HR24.out.keep hb)
                have hv1 := row_conv HR24.out (sectorL_len _)
                have hv2 := row_conv hr (sectorL_len _)
                generalize (⟨(sectorL [readF (written (written d at' bs) other cs) (k : Int)]).toArray⟩ : ByteArray) = XK at hv1 hv2
                clear hr hb HKH
                go_wp2_with fail
                exact ⟨⟨k + 1, hlt, by go_num, HB4.out⟩, by simp [intOf]; omega⟩
              · obtain rfl : k = d.secs.length := by omega
                have HSH := Lib.hid (drest_left HZ.out.rest).2.2.2
                obtain ⟨pa, pc, hp⟩ := HSH.out
                have x1 := HZ.out.row.cell (i := 1) rfl
                rw [hp] at x1
                simp only [synced, List.length_nil] at x1
                have x0 := HZ.out.row.cell (i := 0) rfl
                have x2 := HZ.out.row.cell (i := 2) rfl
                have x3 := HZ.out.row.cell (i := 3) rfl
                have HCK : Hid (Calls Try.prog 22 #[.agg #[s21, .slice pa 0 pc, .int .i64 l21, .bool b21]] wr fun e w' => e = .returned (.int .i64 0) ∧ Below wr.heap.size wr w') := Lib.hid (by
                  have := check_call _ _ wr HZ.out.drest
                  rw [HRZ.out.valid, if_pos rfl, hp] at this
                  exact this)
                clear hp
                go_wp2_with fail
                refine HCK.out.mono ?_
                rintro e w30 ⟨rfl, hb⟩
                go_wp2_with fail
                go_ret
                exact ⟨rfl, below_next HB2.out hb⟩
    · skip
      have hkb : (k1 != 0) = true := by simp [hk1]
      go_wp2_with (first
        | (refine wpList_store_ags rfl _ _ _ rfl w13.heap.size [s13, p13, .int .i64 l13, .bool b13] _ size25 (by rfl) rfl rfl (row_new w13 25 _) (one_all HD13.out) (Joins.below_alloc1 w13 _) (Nat.le_refl _) ?_; intro v13 hr hb _; replace HB := Lib.hid (below_next HB.out hb); replace HX0 := Lib.hid (HX0.out.keep hb); replace HR11 := Lib.hid (HR11.out.keep hb); have HX13 := Lib.hid (Box.new HD13.out hr hb); clear hr hb))
      go_ret
      exact ⟨rfl, HB.out⟩
  · have HNO : Hid (runsB d = false ∨ hasB d.secs.length other = false) := Lib.hid (by cases h1 : runsB d <;> cases h2 : hasB d.secs.length other <;> simp_all)
    clear hok
    refine (read_none HX0.out.drest other HNO.out).mono ?_
    rintro e w11 ⟨rfl, hb⟩
    replace HB := Lib.hid (below_next HB.out hb)
    replace HX0 := Lib.hid (HX0.out.keep hb)
    clear hb
    go_wp2_with (first
      | (refine wpList_load_dsk rfl _ rfl _ _ (by rfl) rfl HX0.out.row ?_))
    refine (write_law HX0.out.drest at' ((HBV0.out.stays HB.out).mono HB.out.size) HW1.out).mono ?_
    rintro e w13 ⟨s13, p13, l13, b13, rfl, hd, hb⟩
    replace HB := Lib.hid (below_next HB.out hb)
    replace HX0 := Lib.hid (HX0.out.keep hb)
    have HD13 := Lib.hid hd
    clear hd hb
    unfold dv at *
    go_wp2_with (first
      | (refine wpList_store_ags rfl _ _ _ rfl w13.heap.size [s13, p13, .int .i64 l13, .bool b13] _ size25 (by rfl) rfl rfl (row_new w13 25 _) (one_all HD13.out) (Joins.below_alloc1 w13 _) (Nat.le_refl _) ?_; intro v13 hr hb _; replace HB := Lib.hid (below_next HB.out hb); replace HX0 := Lib.hid (HX0.out.keep hb); have HX13 := Lib.hid (Box.new HD13.out hr hb); clear hr hb))
    go_ret
    exact ⟨rfl, HB.out⟩
end Go.Proofs.Ytlaaolbdadempaa
