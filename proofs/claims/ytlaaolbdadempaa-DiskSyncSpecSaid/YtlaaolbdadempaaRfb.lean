/- The reference's Sync, case b. -/
import Derived.Test.YtlaaolbdadempaaRs
namespace Go.Proofs.Ytlaaolbdadempaa
open Go.RowKit

set_option maxHeartbeats 8000000 in
set_option maxRecDepth 100000 in
theorem refsync_b (d : Dsk) (v : Value) (w : World) (h : DRest w.heap.size w d v) (hr : Runs d) (hl : (d.pend.length : Int) ≤ d.left) :
    Calls Try.prog 31 #[v] w (NewD w (synced d) 0) := by
  obtain ⟨s, p, rfl, hs, hp⟩ := h
  have HRUN := Lib.hid hr
  have HS := Lib.hid hs
  have HP := Lib.hid hp
  have HV : Hid (∀ W, Below w.heap.size w W → Calls Try.prog 23 #[dskOf s p d] W fun e w' => e = .returned (.int .i64 0) ∧ Below W.heap.size W w') := Lib.hid (fun W hW => by have := refcheck_call d _ W ⟨s, p, rfl, hs.keep hW, hp.keep hW⟩; rwa [hr.valid, if_pos rfl] at this)
  obtain ⟨a, cap, rfl, hc1, hc2⟩ := hs.shape
  obtain ⟨a2, cap2, rfl, hc3, hc4⟩ := hp.shape
  have hst := hr.stop
  unfold dskOf dskCells at *
  rw [hst] at HV ⊢
  clear hr hs hp hst
  have HRB := Lib.hid ((row_new w 25 [.slice a d.secs.length cap, .slice a2 d.pend.length cap2, .int .i64 d.left, .bool false]).keep (Joins.below_alloc1 _ (.cells #[.slice none 0 0, .slice none 0 0, .int .i64 0, .bool false] 25)))
  have HRR := Lib.hid (row_new (w.alloc (.cells #[.slice a d.secs.length cap, .slice a2 d.pend.length cap2, .int .i64 d.left, .bool false] 25)) 25 [.slice none 0 0, .slice none 0 0, .int .i64 0, .bool false])
  have HB0 := Lib.hid (below_two w (.cells #[.slice a d.secs.length cap, .slice a2 d.pend.length cap2, .int .i64 d.left, .bool false] 25) (.cells #[.slice none 0 0, .slice none 0 0, .int .i64 0, .bool false] 25))
  rw [World.size_alloc] at HRR
  have hpos := HRUN.out.pos
  have hmost := HRUN.out.most
  have hfew := HRUN.out.few
  obtain ⟨m, hm⟩ : ∃ m, m = d.pend.length := ⟨_, rfl⟩
  obtain ⟨n, hn⟩ : ∃ n, n = d.secs.length := ⟨_, rfl⟩
  have HM := Lib.hid hm
  have HN := Lib.hid hn
  rw [← hm] at HV HP HRB HRR HB0 hc4 hfew ⊢
  rw [← hm] at hl
  rw [← hn] at HV HS HRB HRR HB0 hc2 hpos hmost ⊢
  clear hm hn
  generalize hle : d.left = left at HV HRB HRR HB0 hl ⊢
  have HL := Lib.hid hle
  clear hle
  have hl0 : 0 ≤ left := by omega
  have hl1 : ¬ left < (m : Int) := by omega
  have hl1d : decide (left < (m : Int)) = false := by simpa using hl1
  have hl7 : left ≤ 65536 := by rw [← HL.out]; exact HRUN.out.left.2
  go_enter Try.func31, Try.ntmps31
  go_wp2_with fail
  refine (HV.out _ HB0.out).mono ?_
  rintro e w1 ⟨rfl, hb⟩
  have HB1 := Lib.hid (below_next HB0.out hb)
  have HRB1 := Lib.hid (HRB.out.keep hb)
  have HRR1 := Lib.hid (HRR.out.keep hb)
  have c0 := HRB1.out.cell (i := 0) rfl
  have c1 := HRB1.out.cell (i := 1) rfl
  have c2 := HRB1.out.cell (i := 2) rfl
  have c3 := HRB1.out.cell (i := 3) rfl
  have hw1 := HRR1.out.lt
  clear hb HRB HRR HB0
  go_upto_region 7 with (fail)
  obtain ⟨vb, voff, vs, rfl, hvb, hvlt, hvl, hvc, hvel⟩ := (NRestS.of HS.out).vals (by have := HN.out; omega)
  have HVL := Lib.hid hvl
  have HVEL : Hid (∀ (i : Nat) x, d.secs[i]? = some x → ∃ u, vs[i]? = some u ∧ Rest w.heap.size w x u) := Lib.hid (fun i x hi => by
    obtain ⟨u, e1, e2⟩ := hvel i x hi
    exact ⟨u, e1, e2.rest⟩)
  have HONE : Hid (∀ u ∈ vs, u.oneCell' = true) := Lib.hid (fun u hu => by obtain ⟨j, hj⟩ := List.getElem?_of_mem hu; exact (hvc j u hj).2)
  have HOLD : Hid (∀ W, Below w1.heap.size w1 W → ∀ (j : Nat) u, vs[j]? = some u → W.cell? ((⟨vb, voff, none⟩ : Addr).add j) = some u) := Lib.hid (fun W hW j u hj => by
    rw [Addr.add_lit]; exact ((below_next HB1.out hW).cell (p := ⟨vb, voff + j, none⟩) hvb).trans (hvc j u hj).1)
  obtain ⟨i0, hi, hz0, hz1, hz2⟩ := info_parts Try.info35
  have HI := Lib.hid hi
  have HZ0 := Lib.hid hz0
  have HZ1 := Lib.hid hz1
  have HZ2 := Lib.hid hz2
  have OA : Hid (((w1.alloc (.cells #[] 35)).drew).ownsRow (w.heap.size + 2) 35 1 (.slice (some ⟨w1.heap.size, 0, none⟩) 0 0) 0 []) := Lib.hid (World.ownsRow_made w1 #[] 0 (by omega) (by unfold maxLen; omega) rfl)
  have OB : Hid ((((w1.alloc (.cells #[] 35)).alloc (.cells #[.slice none 0 0, .slice none 0 0, .int .i64 0, .bool false] 25)).drew).ownsRow (w.heap.size + 2) 35 1 (.slice (some ⟨w1.heap.size, 0, none⟩) 0 0) 0 []) := Lib.hid (World.ownsRow.alloc OA.out _)
  have OC : Hid ((((w1.alloc (.cells #[.slice none 0 0, .slice none 0 0, .int .i64 0, .bool false] 25)).alloc (.cells #[] 35)).drew).ownsRow (w.heap.size + 2) 35 1 (.slice (some ⟨w1.heap.size + 1, 0, none⟩) 0 0) 0 []) := Lib.hid (by
    have := World.ownsRow_made (base := w.heap.size + 2) (e := 35) (size := 1) (w1.alloc (.cells #[.slice none 0 0, .slice none 0 0, .int .i64 0, .bool false] 25)) #[] 0 (by rw [World.size_alloc]; omega) (by unfold maxLen; omega) rfl
    rw [World.size_alloc] at this
    exact this)
  have SA : Hid (∀ w4 : World, ((w1.alloc (.cells #[] 35)).drew).grownBy w4 (Value.slice (some ⟨w1.heap.size, 0, none⟩) 0 0).ownBlock → Below w1.heap.size w1 w4) := Lib.hid (fun w4 h => (Joins.below_alloc1 w1 _).trans (below_grew (w := w1.alloc (.cells #[] 35)) h (by simp) (fun g' e => by cases e; exact Nat.le_refl _)))
  have SB : Hid (∀ w4 : World, (((w1.alloc (.cells #[] 35)).alloc (.cells #[.slice none 0 0, .slice none 0 0, .int .i64 0, .bool false] 25)).drew).grownBy w4 (Value.slice (some ⟨w1.heap.size, 0, none⟩) 0 0).ownBlock → Below w1.heap.size w1 w4 ∧ Row w4 (w1.heap.size + 1) 25 [.slice none 0 0, .slice none 0 0, .int .i64 0, .bool false]) := Lib.hid (fun w4 h => ⟨(below_two w1 _ _).trans (below_grew (w := (w1.alloc (.cells #[] 35)).alloc (.cells #[.slice none 0 0, .slice none 0 0, .int .i64 0, .bool false] 25)) h (by simp; omega) (fun g' e => by cases e; first | exact Nat.le_refl _ | exact Nat.le_succ _)), by
    have hr := row_new (w1.alloc (.cells #[] 35)) 25 [.slice none 0 0, .slice none 0 0, .int .i64 0, .bool false]
    rw [World.size_alloc] at hr
    exact row_grown hr h (by simp [Value.ownBlock])⟩)
  have SC : Hid (∀ w4 : World, (((w1.alloc (.cells #[.slice none 0 0, .slice none 0 0, .int .i64 0, .bool false] 25)).alloc (.cells #[] 35)).drew).grownBy w4 (Value.slice (some ⟨w1.heap.size + 1, 0, none⟩) 0 0).ownBlock → Below w1.heap.size w1 w4 ∧ Row w4 w1.heap.size 25 [.slice none 0 0, .slice none 0 0, .int .i64 0, .bool false]) := Lib.hid (fun w4 h => ⟨(below_two w1 _ _).trans (below_grew (w := (w1.alloc (.cells #[.slice none 0 0, .slice none 0 0, .int .i64 0, .bool false] 25)).alloc (.cells #[] 35)) h (by simp; omega) (fun g' e => by cases e; first | exact Nat.le_refl _ | exact Nat.le_succ _)), row_grown ((row_new w1 25 [.slice none 0 0, .slice none 0 0, .int .i64 0, .bool false]).keep (Joins.below_alloc1 _ _)) h (by simp [Value.ownBlock])⟩)
  clear hvb hvlt hvl hvc hvel hi hz0 hz1 hz2 c0 c1 c2 c3
  go_cut [6] (fun s6 wx => RsCut w [.slice (some ⟨vb, voff, none⟩) n cap, .slice a2 m cap2, .int .i64 left, .bool false] d.secs left s6 wx)
  case first =>
    have c0 : ∀ W, Below w1.heap.size w1 W → W.cell? ⟨w.heap.size, 0, none⟩ = some (.slice (some ⟨vb, voff, none⟩) n cap) := fun W hW => HRB1.out.later hW (i := 0) rfl
    have c2 : ∀ W, Below w1.heap.size w1 W → W.cell? ⟨w.heap.size, 2, none⟩ = some (.int .i64 left) := fun W hW => HRB1.out.later hW (i := 2) rfl
    go_region_held3 (fun W => Below w1.heap.size w1 W) (first | assumption | exact below_drew (Below.refl _ _) | exact below_next (by assumption) (Joins.below_alloc1 _ _) | exact below4 (by assumption) _ _ _ _ _ (by omega)) (first
      | ((have hchk : Below w1.heap.size w1 ((w1.alloc (.cells #[] 35)).drew) := by with_reducible assumption); refine step_append_lies _ rfl (.tmp 32) (.tmp 34) 22 rfl (w.heap.size + 2) 35 i0 _ 1 24 Try.underlying22 HI.out HZ0.out HZ1.out HZ2.out rfl (by decide) (.slice (some ⟨w1.heap.size, 0, none⟩) 0 0) 0 [] rfl OA.out ⟨vb, voff, none⟩ n cap vs rfl (by rw [HVL.out, ← HN.out, Nat.mul_one]) (HOLD.out _ (by assumption)) HONE.out (by omega) (by unfold maxLen; omega) (by omega) (by simp; omega) _ rfl ?_; intro g4 c4 w4 hown hgrow hat hlt4; rw [Nat.zero_add, List.nil_append] at hown; have hS4 := SA.out w4 hgrow)
      | ((have hchk : Below w1.heap.size w1 (((w1.alloc (.cells #[] 35)).alloc (.cells #[.slice none 0 0, .slice none 0 0, .int .i64 0, .bool false] 25)).drew) := by with_reducible assumption); refine step_append_lies _ rfl (.tmp 32) (.tmp 34) 22 rfl (w.heap.size + 2) 35 i0 _ 1 24 Try.underlying22 HI.out HZ0.out HZ1.out HZ2.out rfl (by decide) (.slice (some ⟨w1.heap.size, 0, none⟩) 0 0) 0 [] rfl OB.out ⟨vb, voff, none⟩ n cap vs rfl (by rw [HVL.out, ← HN.out, Nat.mul_one]) (HOLD.out _ (by assumption)) HONE.out (by omega) (by unfold maxLen; omega) (by omega) (by simp; omega) _ rfl ?_; intro g4 c4 w4 hown hgrow hat hlt4; rw [Nat.zero_add, List.nil_append] at hown; obtain ⟨hS4, hbx⟩ := SB.out w4 hgrow; have q0 := hbx.cell (i := 0) rfl; have k0 := hbx.free 0; have q1 := hbx.cell (i := 1) rfl; have k1 := hbx.free 1; have q2 := hbx.cell (i := 2) rfl; have k2 := hbx.free 2; have q3 := hbx.cell (i := 3) rfl; have k3 := hbx.free 3)
      | ((have hchk : Below w1.heap.size w1 (((w1.alloc (.cells #[.slice none 0 0, .slice none 0 0, .int .i64 0, .bool false] 25)).alloc (.cells #[] 35)).drew) := by with_reducible assumption); refine step_append_lies _ rfl (.tmp 32) (.tmp 34) 22 rfl (w.heap.size + 2) 35 i0 _ 1 24 Try.underlying22 HI.out HZ0.out HZ1.out HZ2.out rfl (by decide) (.slice (some ⟨w1.heap.size + 1, 0, none⟩) 0 0) 0 [] rfl OC.out ⟨vb, voff, none⟩ n cap vs rfl (by rw [HVL.out, ← HN.out, Nat.mul_one]) (HOLD.out _ (by assumption)) HONE.out (by omega) (by unfold maxLen; omega) (by omega) (by simp; omega) _ rfl ?_; intro g4 c4 w4 hown hgrow hat hlt4; rw [Nat.zero_add, List.nil_append] at hown; obtain ⟨hS4, hbx⟩ := SC.out w4 hgrow; have q0 := hbx.cell (i := 0) rfl; have k0 := hbx.free 0; have q1 := hbx.cell (i := 1) rfl; have k1 := hbx.free 1; have q2 := hbx.cell (i := 2) rfl; have k2 := hbx.free 2; have q3 := hbx.cell (i := 3) rfl; have k3 := hbx.free 3))
    all_goals
      go_wp2_with fail
      go_meet
      case rel =>
        first
          | with_reducible exact rs_new hown HN.out (HVL.out) HVEL.out (below_next HB1.out hS4) (HRB1.out.keep hS4) (HRR1.out.keep hS4)
          | with_reducible exact rs_old hown HN.out (HVL.out) HVEL.out (below_next HB1.out hS4) (HRB1.out.keep hS4) (HRR1.out.keep hS4) hbx (by omega) (own_apart hown hbx (by decide))
  case rest =>
    obtain ⟨g, gs, cp, rfl, hx⟩ := hcut
    have HX7 := Lib.hid hx
    clear hx
    go_wp2_with fail
    go_loopw [7] (fun s7 wr => RsLoop w [.slice (some ⟨vb, voff, none⟩) n cap, .slice a2 m cap2, .int .i64 left, .bool false] d left m g gs cp s7 wr) (fun s7 _ => m - (intOf s7).toNat)
    case atStart => exact ⟨0, Nat.zero_le _, rfl, HX7.out⟩
    case round =>
      obtain ⟨j, hj, rfl, hx⟩ := hrel
      have HX := Lib.hid hx
      obtain ⟨us, h1, h2, h3, h4, hrx, htab, hrb, hrr, hbl⟩ := hx
      have HBL := Lib.hid hbl
      have HTAB := Lib.hid htab
      have HRX := Lib.hid hrx
      have HRR := Lib.hid hrr
      have hlen : (performL d.secs (d.pend.take j)).length = n := by rw [performL_len]; exact HN.out.symm
      rw [hlen] at hrx
      have c1 := hrb.cell (i := 1) rfl
      have x0 := hrx.cell (i := 0) rfl
      have x2 := hrx.cell (i := 2) rfl
      have y2 := hrx.free 2
      have y3 := hrx.free 3
      have x3 := hrx.cell (i := 3) rfl
      clear hrx htab hrb hrr hbl
      rcases Nat.lt_or_ge j m with hlt | hge
      · obtain ⟨p, hp⟩ : ∃ p, d.pend[j]? = some p := ⟨_, List.getElem?_eq_getElem (by have := HM.out; omega)⟩
        have hpm := HRUN.out.pend p (List.mem_of_getElem? hp)
        obtain ⟨b, off, u, rfl, hbb, hru, hcell⟩ := HP.out.at hp
        obtain ⟨ua, uc, rfl, -, -⟩ := hru.shape
        obtain ⟨c5, c6⟩ := hcell wr HBL.out
        have HU := Lib.hid (HX.out.low hru)
        have HPT : Hid (performL d.secs (d.pend.take (j + 1)) = (performL d.secs (d.pend.take j)).set p.1.toNat p.2) := Lib.hid (by
          rw [performL_step hp, put1_set (performL_secs HRUN.out.secs) (by rw [performL_len]; exact hpm.1) hpm.2])
        have hpi : 0 ≤ p.1 ∧ p.1 < (n : Int) := by have h := hpm.1; rw [← HN.out] at h; unfold hasB at h; simpa using h
        obtain ⟨at', data⟩ := p
        obtain ⟨i, rfl⟩ : ∃ i : Nat, at' = i := ⟨at'.toNat, by have := hpi.1; simp only at this; omega⟩
        simp only [Int.toNat_natCast] at c5 c6 HU HPT hpi
        have hin : i < n := by omega
        obtain ⟨x, hxi⟩ : ∃ x, (performL d.secs (d.pend.take j))[i]? = some x := ⟨_, List.getElem?_eq_getElem (by rw [hlen]; exact hin)⟩
        obtain ⟨u0, hu0, _⟩ := HTAB.out.el i x hxi
        have t0 := HTAB.out.cell hu0
        have t1 := HTAB.out.free i
        have hjm : (j : Int) < (m : Int) := by omega
        have hjm2 : (j : Int) < (m : Int) := by omega
        have hj0 : (0 : Int) ≤ (j : Int) := by omega
        have hin2 : (i : Int) < (n : Int) := by omega
        have HHL := Lib.hid hlen
        clear hp hpm hru hcell hxi hu0 hlen hpi x2 y2 x3 y3
        go_wp2_with fail
        go_still_tail 15, (by kernel_rfl)
        go_wp2_with fail
        exact ⟨⟨j + 1, hlt, by go_num, by rw [HPT.out]; exact HX.out.drew1.put (by rw [HHL.out]; exact hin) HU.out.drew1⟩, by simp [intOf]; omega⟩

      · obtain rfl : j = m := by omega
        rw [hlen] at HRX
        have HTL : Hid (performL d.secs (d.pend.take j) = performL d.secs d.pend) := Lib.hid (by rw [HM.out, List.take_length])
        have HHL := Lib.hid hlen
        clear c1 x0 x3 y3
        have HX2 := Lib.hid (HX.out.left' (left - (j : Int)))
        obtain ⟨us2, _, _, _, _, hrx2, _, _, hrr2, hbl2⟩ := HX2.out
        rw [hlen] at hrx2
        have HRX2 := Lib.hid hrx2
        have HRR2 := Lib.hid hrr2
        have HBL2 := Lib.hid hbl2
        have hl6 : 0 ≤ left - (j : Int) := by omega
        clear hrx2 hrr2 hbl2
        go_wp2_with (first
          | (refine wpList_load_dsk rfl _ rfl _ _ (by rfl) rfl HRX2.out ?_)
          | (refine wpList_store_ags rfl _ _ _ rfl (w.heap.size + 1) [.slice (some ⟨gs, 0, none⟩) n cp, .slice none 0 0, .int .i64 (left - (j : Int)), .bool false] _ size25 (by rfl) rfl rfl HRR2.out (by rfl) HBL2.out (by omega) ?_; intro w9 hr hb hf))
        have hd := HX2.out.done HHL.out.symm hb hf
        rw [HTL.out] at hd
        exact bodyPost_ret (results_dsk Try.results31 _ w9 (w.heap.size + 1) _ rfl rfl _ rfl hr) rfl ⟨_, _, _, _, rfl, by unfold synced; rw [if_neg (by rw [HL.out]; omega), HL.out, ← HM.out]; exact hd, hb⟩
end Go.Proofs.Ytlaaolbdadempaa
