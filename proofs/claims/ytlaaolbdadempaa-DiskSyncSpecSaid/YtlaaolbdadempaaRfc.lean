/- The reference's Sync, case c. -/
import Derived.Test.YtlaaolbdadempaaRs
import Derived.Deep.RegionLaw
import Derived.Deep.RegionHeld
import Derived.BigRegion
namespace Go.Proofs.Ytlaaolbdadempaa
open Go.RowKit

set_option maxHeartbeats 8000000 in
set_option maxRecDepth 100000 in
theorem refsync_c (d : Dsk) (v : Value) (w : World) (h : DRest w.heap.size w d v) (hr : Runs d) (k : Nat) (q : Int × List UInt8) (hl : d.left = (k : Int)) (hkm : k < d.pend.length) (hq : d.pend[k]? = some q) :
    Calls Try.prog 31 #[v] w (NewD w (haltD d k q) 40) := by
  obtain ⟨s, p, rfl, hs, hp⟩ := h
  have HRUN := Lib.hid hr
  have HS := Lib.hid hs
  have HP := Lib.hid hp
  have HV : Hid (∀ W, Below w.heap.size w W → Calls Try.prog 23 #[dskOf s p d] W fun e w' => e = .returned (.int .i64 0) ∧ Below W.heap.size W w') := Lib.hid (fun W hW => by have := refcheck_call d _ W ⟨s, p, rfl, hs.keep hW, hp.keep hW⟩; rwa [hr.valid, if_pos rfl] at this)
  obtain ⟨a, cap, rfl, hc1, hc2⟩ := hs.shape
  obtain ⟨a2, cap2, rfl, hc3, hc4⟩ := hp.shape
  have hst := hr.stop
  unfold dskOf dskCells at *
  rw [hst] at HV ⊢
  clear hr hs hp hst
  have HRB := Lib.hid ((row_new w 25 [.slice a d.secs.length cap, .slice a2 d.pend.length cap2, .int .i64 d.left, .bool false]).keep (Joins.below_alloc1 _ (.cells #[.slice none 0 0, .slice none 0 0, .int .i64 0, .bool false] 25)))
  have HRR := Lib.hid (row_new (w.alloc (.cells #[.slice a d.secs.length cap, .slice a2 d.pend.length cap2, .int .i64 d.left, .bool false] 25)) 25 [.slice none 0 0, .slice none 0 0, .int .i64 0, .bool false])
  have HB0 := Lib.hid (below_two w (.cells #[.slice a d.secs.length cap, .slice a2 d.pend.length cap2, .int .i64 d.left, .bool false] 25) (.cells #[.slice none 0 0, .slice none 0 0, .int .i64 0, .bool false] 25))
  rw [World.size_alloc] at HRR
  have hpos := HRUN.out.pos
  have hmost := HRUN.out.most
  have hfew := HRUN.out.few
  obtain ⟨m, hm⟩ : ∃ m, m = d.pend.length := ⟨_, rfl⟩
  obtain ⟨n, hn⟩ : ∃ n, n = d.secs.length := ⟨_, rfl⟩
  have HM := Lib.hid hm
  have HN := Lib.hid hn
  rw [← hm] at HV HP HRB HRR HB0 hc4 hfew ⊢
  rw [← hm] at hkm
  rw [← hn] at HV HS HRB HRR HB0 hc2 hpos hmost ⊢
  clear hm hn
  rw [hl] at HV HRB HRR HB0 ⊢
  have HL := Lib.hid hl
  have HQ := Lib.hid hq
  clear hl hq
  have hl1 : (k : Int) < (m : Int) := by omega
  have hl0 : (0 : Int) ≤ (k : Int) := by omega
  have hl1d : decide ((k : Int) < (m : Int)) = true := by simpa using hl1
  go_enter Try.func31, Try.ntmps31
  go_wp2_with fail
  refine (HV.out _ HB0.out).mono ?_
  rintro e w1 ⟨rfl, hb⟩
  have HB1 := Lib.hid (below_next HB0.out hb)
  have HRB1 := Lib.hid (HRB.out.keep hb)
  have HRR1 := Lib.hid (HRR.out.keep hb)
  have c0 := HRB1.out.cell (i := 0) rfl
  have c1 := HRB1.out.cell (i := 1) rfl
  have c2 := HRB1.out.cell (i := 2) rfl
  have c3 := HRB1.out.cell (i := 3) rfl
  have hw1 := HRR1.out.lt
  clear hb HRB HRR HB0
  go_upto_region 7 with (fail)
  obtain ⟨vb, voff, vs, rfl, hvb, hvlt, hvl, hvc, hvel⟩ := (NRestS.of HS.out).vals (by have := HN.out; omega)
  have HVL := Lib.hid hvl
  have HVEL : Hid (∀ (i : Nat) x, d.secs[i]? = some x → ∃ u, vs[i]? = some u ∧ Rest w.heap.size w x u) := Lib.hid (fun i x hi => by
    obtain ⟨u, e1, e2⟩ := hvel i x hi
    exact ⟨u, e1, e2.rest⟩)
  have HONE : Hid (∀ u ∈ vs, u.oneCell' = true) := Lib.hid (fun u hu => by obtain ⟨j, hj⟩ := List.getElem?_of_mem hu; exact (hvc j u hj).2)
  have HOLD : Hid (∀ W, Below w1.heap.size w1 W → ∀ (j : Nat) u, vs[j]? = some u → W.cell? ((⟨vb, voff, none⟩ : Addr).add j) = some u) := Lib.hid (fun W hW j u hj => by
    rw [Addr.add_lit]; exact ((below_next HB1.out hW).cell (p := ⟨vb, voff + j, none⟩) hvb).trans (hvc j u hj).1)
  obtain ⟨i0, hi, hz0, hz1, hz2⟩ := info_parts Try.info35
  have HI := Lib.hid hi
  have HZ0 := Lib.hid hz0
  have HZ1 := Lib.hid hz1
  have HZ2 := Lib.hid hz2
  have OA : Hid (((w1.alloc (.cells #[] 35)).drew).ownsRow (w.heap.size + 2) 35 1 (.slice (some ⟨w1.heap.size, 0, none⟩) 0 0) 0 []) := Lib.hid (World.ownsRow_made w1 #[] 0 (by omega) (by unfold maxLen; omega) rfl)
  have OB : Hid ((((w1.alloc (.cells #[] 35)).alloc (.cells #[.slice none 0 0, .slice none 0 0, .int .i64 0, .bool false] 25)).drew).ownsRow (w.heap.size + 2) 35 1 (.slice (some ⟨w1.heap.size, 0, none⟩) 0 0) 0 []) := Lib.hid (World.ownsRow.alloc OA.out _)
  have OC : Hid ((((w1.alloc (.cells #[.slice none 0 0, .slice none 0 0, .int .i64 0, .bool false] 25)).alloc (.cells #[] 35)).drew).ownsRow (w.heap.size + 2) 35 1 (.slice (some ⟨w1.heap.size + 1, 0, none⟩) 0 0) 0 []) := Lib.hid (by
    have := World.ownsRow_made (base := w.heap.size + 2) (e := 35) (size := 1) (w1.alloc (.cells #[.slice none 0 0, .slice none 0 0, .int .i64 0, .bool false] 25)) #[] 0 (by rw [World.size_alloc]; omega) (by unfold maxLen; omega) rfl
    rw [World.size_alloc] at this
    exact this)
  have SA : Hid (∀ w4 : World, ((w1.alloc (.cells #[] 35)).drew).grownBy w4 (Value.slice (some ⟨w1.heap.size, 0, none⟩) 0 0).ownBlock → Below w1.heap.size w1 w4) := Lib.hid (fun w4 h => (Joins.below_alloc1 w1 _).trans (below_grew (w := w1.alloc (.cells #[] 35)) h (by simp) (fun g' e => by cases e; exact Nat.le_refl _)))
  have SB : Hid (∀ w4 : World, (((w1.alloc (.cells #[] 35)).alloc (.cells #[.slice none 0 0, .slice none 0 0, .int .i64 0, .bool false] 25)).drew).grownBy w4 (Value.slice (some ⟨w1.heap.size, 0, none⟩) 0 0).ownBlock → Below w1.heap.size w1 w4 ∧ Row w4 (w1.heap.size + 1) 25 [.slice none 0 0, .slice none 0 0, .int .i64 0, .bool false]) := Lib.hid (fun w4 h => ⟨(below_two w1 _ _).trans (below_grew (w := (w1.alloc (.cells #[] 35)).alloc (.cells #[.slice none 0 0, .slice none 0 0, .int .i64 0, .bool false] 25)) h (by simp; omega) (fun g' e => by cases e; first | exact Nat.le_refl _ | exact Nat.le_succ _)), by
    have hr := row_new (w1.alloc (.cells #[] 35)) 25 [.slice none 0 0, .slice none 0 0, .int .i64 0, .bool false]
    rw [World.size_alloc] at hr
    exact row_grown hr h (by simp [Value.ownBlock])⟩)
  have SC : Hid (∀ w4 : World, (((w1.alloc (.cells #[.slice none 0 0, .slice none 0 0, .int .i64 0, .bool false] 25)).alloc (.cells #[] 35)).drew).grownBy w4 (Value.slice (some ⟨w1.heap.size + 1, 0, none⟩) 0 0).ownBlock → Below w1.heap.size w1 w4 ∧ Row w4 w1.heap.size 25 [.slice none 0 0, .slice none 0 0, .int .i64 0, .bool false]) := Lib.hid (fun w4 h => ⟨(below_two w1 _ _).trans (below_grew (w := (w1.alloc (.cells #[.slice none 0 0, .slice none 0 0, .int .i64 0, .bool false] 25)).alloc (.cells #[] 35)) h (by simp; omega) (fun g' e => by cases e; first | exact Nat.le_refl _ | exact Nat.le_succ _)), row_grown ((row_new w1 25 [.slice none 0 0, .slice none 0 0, .int .i64 0, .bool false]).keep (Joins.below_alloc1 _ _)) h (by simp [Value.ownBlock])⟩)
  clear hvb hvlt hvl hvc hvel hi hz0 hz1 hz2 c0 c1 c2 c3
  go_cut [6] (fun s6 wx => RsCut w [.slice (some ⟨vb, voff, none⟩) n cap, .slice a2 m cap2, .int .i64 (k : Int), .bool false] d.secs (k : Int) s6 wx)
  case first =>
    have c0 : ∀ W, Below w1.heap.size w1 W → W.cell? ⟨w.heap.size, 0, none⟩ = some (.slice (some ⟨vb, voff, none⟩) n cap) := fun W hW => HRB1.out.later hW (i := 0) rfl
    have c2 : ∀ W, Below w1.heap.size w1 W → W.cell? ⟨w.heap.size, 2, none⟩ = some (.int .i64 (k : Int)) := fun W hW => HRB1.out.later hW (i := 2) rfl
    go_region_held3 (fun W => Below w1.heap.size w1 W) (first | assumption | exact below_drew (Below.refl _ _) | exact below_next (by assumption) (Joins.below_alloc1 _ _) | exact below4 (by assumption) _ _ _ _ _ (by omega)) (first
      | ((have hchk : Below w1.heap.size w1 ((w1.alloc (.cells #[] 35)).drew) := by with_reducible assumption); refine step_append_lies _ rfl (.tmp 32) (.tmp 34) 22 rfl (w.heap.size + 2) 35 i0 _ 1 24 Try.underlying22 HI.out HZ0.out HZ1.out HZ2.out rfl (by decide) (.slice (some ⟨w1.heap.size, 0, none⟩) 0 0) 0 [] rfl OA.out ⟨vb, voff, none⟩ n cap vs rfl (by rw [HVL.out, ← HN.out, Nat.mul_one]) (HOLD.out _ (by assumption)) HONE.out (by omega) (by unfold maxLen; omega) (by omega) (by simp; omega) _ rfl ?_; intro g4 c4 w4 hown hgrow hat hlt4; rw [Nat.zero_add, List.nil_append] at hown; have hS4 := SA.out w4 hgrow)
      | ((have hchk : Below w1.heap.size w1 (((w1.alloc (.cells #[] 35)).alloc (.cells #[.slice none 0 0, .slice none 0 0, .int .i64 0, .bool false] 25)).drew) := by with_reducible assumption); refine step_append_lies _ rfl (.tmp 32) (.tmp 34) 22 rfl (w.heap.size + 2) 35 i0 _ 1 24 Try.underlying22 HI.out HZ0.out HZ1.out HZ2.out rfl (by decide) (.slice (some ⟨w1.heap.size, 0, none⟩) 0 0) 0 [] rfl OB.out ⟨vb, voff, none⟩ n cap vs rfl (by rw [HVL.out, ← HN.out, Nat.mul_one]) (HOLD.out _ (by assumption)) HONE.out (by omega) (by unfold maxLen; omega) (by omega) (by simp; omega) _ rfl ?_; intro g4 c4 w4 hown hgrow hat hlt4; rw [Nat.zero_add, List.nil_append] at hown; obtain ⟨hS4, hbx⟩ := SB.out w4 hgrow; have q0 := hbx.cell (i := 0) rfl; have k0 := hbx.free 0; have q1 := hbx.cell (i := 1) rfl; have k1 := hbx.free 1; have q2 := hbx.cell (i := 2) rfl; have k2 := hbx.free 2; have q3 := hbx.cell (i := 3) rfl; have k3 := hbx.free 3)
      | ((have hchk : Below w1.heap.size w1 (((w1.alloc (.cells #[.slice none 0 0, .slice none 0 0, .int .i64 0, .bool false] 25)).alloc (.cells #[] 35)).drew) := by with_reducible assumption); refine step_append_lies _ rfl (.tmp 32) (.tmp 34) 22 rfl (w.heap.size + 2) 35 i0 _ 1 24 Try.underlying22 HI.out HZ0.out HZ1.out HZ2.out rfl (by decide) (.slice (some ⟨w1.heap.size + 1, 0, none⟩) 0 0) 0 [] rfl OC.out ⟨vb, voff, none⟩ n cap vs rfl (by rw [HVL.out, ← HN.out, Nat.mul_one]) (HOLD.out _ (by assumption)) HONE.out (by omega) (by unfold maxLen; omega) (by omega) (by simp; omega) _ rfl ?_; intro g4 c4 w4 hown hgrow hat hlt4; rw [Nat.zero_add, List.nil_append] at hown; obtain ⟨hS4, hbx⟩ := SC.out w4 hgrow; have q0 := hbx.cell (i := 0) rfl; have k0 := hbx.free 0; have q1 := hbx.cell (i := 1) rfl; have k1 := hbx.free 1; have q2 := hbx.cell (i := 2) rfl; have k2 := hbx.free 2; have q3 := hbx.cell (i := 3) rfl; have k3 := hbx.free 3))
    all_goals
      go_wp2_with fail
      go_meet
      case rel =>
        first
          | with_reducible exact rs_new hown HN.out (HVL.out) HVEL.out (below_next HB1.out hS4) (HRB1.out.keep hS4) (HRR1.out.keep hS4)
          | with_reducible exact rs_old hown HN.out (HVL.out) HVEL.out (below_next HB1.out hS4) (HRB1.out.keep hS4) (HRR1.out.keep hS4) hbx (by omega) (own_apart hown hbx (by decide))
  case rest =>
    obtain ⟨g, gs, cp, rfl, hx⟩ := hcut
    have HX7 := Lib.hid hx
    clear hx
    go_wp2_with fail
    go_loopw [7] (fun s7 wr => RsLoop w [.slice (some ⟨vb, voff, none⟩) n cap, .slice a2 m cap2, .int .i64 (k : Int), .bool false] d (k : Int) k g gs cp s7 wr) (fun s7 _ => k - (intOf s7).toNat)
    case atStart => exact ⟨0, Nat.zero_le _, rfl, HX7.out⟩
    case round =>
      obtain ⟨j, hj, rfl, hx⟩ := hrel
      have HX := Lib.hid hx
      obtain ⟨us, h1, h2, h3, h4, hrx, htab, hrb, hrr, hbl⟩ := hx
      have HBL := Lib.hid hbl
      have HTAB := Lib.hid htab
      have HRX := Lib.hid hrx
      have HRR := Lib.hid hrr
      have hlen : (performL d.secs (d.pend.take j)).length = n := by rw [performL_len]; exact HN.out.symm
      rw [hlen] at hrx
      have c1 := hrb.cell (i := 1) rfl
      have x0 := hrx.cell (i := 0) rfl
      have x2 := hrx.cell (i := 2) rfl
      have y2 := hrx.free 2
      have y3 := hrx.free 3
      have x3 := hrx.cell (i := 3) rfl
      clear hrx htab hrb hrr hbl
      rcases Nat.lt_or_ge j k with hlt | hge
      · obtain ⟨p, hp⟩ : ∃ p, d.pend[j]? = some p := ⟨_, List.getElem?_eq_getElem (by have := HM.out; omega)⟩
        have hpm := HRUN.out.pend p (List.mem_of_getElem? hp)
        obtain ⟨b, off, u, rfl, hbb, hru, hcell⟩ := HP.out.at hp
        obtain ⟨ua, uc, rfl, -, -⟩ := hru.shape
        obtain ⟨c5, c6⟩ := hcell wr HBL.out
        have HU := Lib.hid (HX.out.low hru)
        have HPT : Hid (performL d.secs (d.pend.take (j + 1)) = (performL d.secs (d.pend.take j)).set p.1.toNat p.2) := Lib.hid (by
          rw [performL_step hp, put1_set (performL_secs HRUN.out.secs) (by rw [performL_len]; exact hpm.1) hpm.2])
        have hpi : 0 ≤ p.1 ∧ p.1 < (n : Int) := by have h := hpm.1; rw [← HN.out] at h; unfold hasB at h; simpa using h
        obtain ⟨at', data⟩ := p
        obtain ⟨i, rfl⟩ : ∃ i : Nat, at' = i := ⟨at'.toNat, by have := hpi.1; simp only at this; omega⟩
        simp only [Int.toNat_natCast] at c5 c6 HU HPT hpi
        have hin : i < n := by omega
        obtain ⟨x, hxi⟩ : ∃ x, (performL d.secs (d.pend.take j))[i]? = some x := ⟨_, List.getElem?_eq_getElem (by rw [hlen]; exact hin)⟩
        obtain ⟨u0, hu0, _⟩ := HTAB.out.el i x hxi
        have t0 := HTAB.out.cell hu0
        have t1 := HTAB.out.free i
        have hjm : (j : Int) < (k : Int) := by omega
        have hjm2 : (j : Int) < (m : Int) := by omega
        have hj0 : (0 : Int) ≤ (j : Int) := by omega
        have hin2 : (i : Int) < (n : Int) := by omega
        have HHL := Lib.hid hlen
        clear hp hpm hru hcell hxi hu0 hlen hpi x2 y2 x3 y3
        go_wp2_with fail
        go_still_tail 15, (by kernel_rfl)
        go_wp2_with fail
        exact ⟨⟨j + 1, hlt, by go_num, by rw [HPT.out]; exact HX.out.drew1.put (by rw [HHL.out]; exact hin) HU.out.drew1⟩, by simp [intOf]; omega⟩

      · obtain rfl : j = k := by omega
        rw [hlen] at HRX
        have HHL := Lib.hid hlen
        clear x2 y2 y3 x3
        have hqm := HRUN.out.pend q (List.mem_of_getElem? HQ.out)
        obtain ⟨b, off, u, rfl, hbb, hru, hcell⟩ := HP.out.at HQ.out
        obtain ⟨ua, uc, rfl, huc1, huc2⟩ := hru.shape
        have HC := Lib.hid (hcell wr HBL.out)
        have hpi : 0 ≤ q.1 ∧ q.1 < (n : Int) := by have h := hqm.1; rw [← HN.out] at h; unfold hasB at h; simpa using h
        have hdl : q.2.length = 128 := hqm.2
        have HHALT := Lib.hid (halt_secs HRUN.out HQ.out)
        obtain ⟨at', data⟩ := q
        obtain ⟨i, rfl⟩ : ∃ i : Nat, at' = i := ⟨at'.toNat, by have := hpi.1; simp only at this; omega⟩
        simp only [Int.toNat_natCast] at HC hpi hdl hru huc1 huc2 HHALT
        have hin : i < n := by omega
        obtain ⟨x, hxi⟩ : ∃ x, (performL d.secs (d.pend.take j))[i]? = some x := ⟨_, List.getElem?_eq_getElem (by rw [hlen]; exact hin)⟩
        have hxl : x.length = 128 := performL_secs HRUN.out.secs x (List.mem_of_getElem? hxi)
        have HXD : Hid ((performL d.secs (d.pend.take j)).getD i [] = x) := Lib.hid (by simp [List.getD, hxi])
        obtain ⟨u0, hu0, hur⟩ := HTAB.out.el i x hxi
        obtain ⟨xa, xc, rfl, hxc1, hxc2⟩ := hur.rest.shape
        have t0 := HTAB.out.cell hu0
        have t1 := HTAB.out.free i
        rw [hdl] at hru huc2 HC
        rw [hxl] at hxc2 t0 hu0 hur
        obtain ⟨ub, uo, rfl, hub, hucell⟩ : ∃ ub uo, ua = some ⟨ub, uo, none⟩ ∧ ub < w.heap.size ∧ ∀ (z : Nat) y, (cellsOf (data.take 64))[z]? = some y → wr.cell? ⟨ub, uo + z, none⟩ = some y := by
          obtain ⟨a3, c3, he, _, _, _, h5⟩ := hru.stays HBL.out
          injection he with he1 he2 he3
          subst he1
          rcases h5 with h5 | ⟨b3, o3, rfl, h6, h7⟩
          · omega
          · refine ⟨b3, o3, rfl, h6, fun z y hz => ?_⟩
            simp only [cellsOf, List.getElem?_map, Option.map_eq_some_iff] at hz
            obtain ⟨c, hz, rfl⟩ := hz
            obtain ⟨h8, rfl⟩ := List.getElem?_eq_some_iff.1 (take_get hz)
            exact h7 z h8
        obtain ⟨xb, xo, rfl, hxb, hxcell⟩ : ∃ xb xo, xa = some ⟨xb, xo, none⟩ ∧ (Free3 gs g (w.heap.size + 1) xb ∧ xb < wr.heap.size) ∧ ∀ (z : Nat) y, (cellsOf (x.drop 64))[z]? = some y → wr.cell? ⟨xb, xo + 64 + z, none⟩ = some y := by
          obtain ⟨a3, c3, he, _, _, _, h5⟩ := hur
          injection he with he1 he2 he3
          subst he1
          rcases h5 with h5 | ⟨b3, o3, rfl, h6, h7⟩
          · omega
          · refine ⟨b3, o3, rfl, ⟨h6, lt_of_cell (h7 0 (by omega))⟩, fun z y hz => ?_⟩
            simp only [cellsOf, List.getElem?_map, Option.map_eq_some_iff, List.getElem?_drop] at hz
            obtain ⟨c, hz, rfl⟩ := hz
            obtain ⟨h8, rfl⟩ := List.getElem?_eq_some_iff.1 hz
            rw [Nat.add_assoc]
            exact h7 (64 + z) h8
        have hgslt := HTAB.out.lt
        have hggs : g ≠ gs := h3
        have hglt := HRX.out.lt
        have hwlt := HBL.out.size
        have HUC := Lib.hid hucell
        have HXC := Lib.hid hxcell
        have HDL := Lib.hid hdl
        have HXL := Lib.hid hxl
        have hj0 : (0 : Int) ≤ (j : Int) := by omega
        have hu0' := hu0
        clear hru hur hxi hcell hucell hxcell hdl hxl hqm hpi
        go_wp2_with (refine wpList_load_wr rfl (.tmp 63) rfl b (off + j * 2) (i : Int) (.slice (some ⟨ub, uo, none⟩) 128 uc) rfl HC.out ?_; unfold wrOf)
        obtain ⟨W8, hW8⟩ : ∃ W8, W8 = wr.alloc (.cells #[.int .i64 (i : Int), .slice (some ⟨ub, uo, none⟩) 128 uc] 76) := ⟨_, rfl⟩
        have hb8 : Below wr.heap.size wr W8 := by rw [hW8]; exact Joins.below_alloc1 wr _
        have hr8 : Row W8 wr.heap.size 76 [.int .i64 (i : Int), .slice (some ⟨ub, uo, none⟩) 128 uc] := by rw [hW8]; exact row_new wr 76 _
        have hs8 : wr.heap.size < W8.heap.size := by rw [hW8, World.size_alloc]; omega
        rw [← hW8]
        have HB8 := Lib.hid hb8
        have HR8 := Lib.hid hr8
        have HX8 := Lib.hid (HX.out.grow hb8)
        have HRX8 := Lib.hid (HRX.out.keep hb8)
        have g0 := (HTAB.out.keep hb8).cell hu0'
        have g1 := (HTAB.out.keep hb8).free i
        have HG0 := Lib.hid g0
        have HG1 := Lib.hid g1
        clear hW8 hb8 hr8 c1 x0 t0 t1
        have hsz0 : SS W8 gs W8.drew := fun _ _ _ => rfl
        have e0 : ∀ W, SS W8 gs W → W.cell? ⟨g, 0, none⟩ = some (.slice (some ⟨gs, 0, none⟩) n cp) := fun W hW => (hW.cell (by omega) hggs).trans (HRX8.out.cell (i := 0) rfl)
        have e1 : ∀ W, SS W8 gs W → W.cell? ⟨wr.heap.size, 0, none⟩ = some (.int .i64 (i : Int)) := fun W hW => (hW.cell (by omega) (by omega)).trans (HR8.out.cell (i := 0) rfl)
        have e2 : ∀ W, SS W8 gs W → W.cell? ⟨wr.heap.size, 1, none⟩ = some (.slice (some ⟨ub, uo, none⟩) 128 uc) := fun W hW => (hW.cell (by omega) (by omega)).trans (HR8.out.cell (i := 1) rfl)
        have HUA : Hid (∀ W, SS W8 gs W → ∀ (z : Nat) y, (cellsOf (data.take 64))[z]? = some y → W.cell? ((⟨ub, uo, none⟩ : Addr).add z) = some y) := Lib.hid (fun W hW z y hz => by
          rw [Addr.add_lit]
          exact (hW.cell (by omega) (by omega)).trans ((HB8.out.cell (p := ⟨ub, uo + z, none⟩) (by show ub < wr.heap.size; omega)).trans (HUC.out z y hz)))
        have hxgs : xb ≠ gs := hxb.1.1
        have hxlt : xb < wr.heap.size := hxb.2
        have HXA : Hid (∀ W, SS W8 gs W → ∀ (z : Nat) y, (cellsOf (x.drop 64))[z]? = some y → W.cell? ((⟨xb, xo + 64, none⟩ : Addr).add z) = some y) := Lib.hid (fun W hW z y hz => by
          rw [Addr.add_lit]
          exact (hW.cell (by omega) hxgs).trans ((HB8.out.cell (p := ⟨xb, xo + 64 + z, none⟩) hxlt).trans (HXC.out z y hz)))
        obtain ⟨i5, hi5, hz50, hz51, hz52⟩ := info_parts Try.info5
        have HI5 := Lib.hid hi5
        have HZ50 := Lib.hid hz50
        have HZ51 := Lib.hid hz51
        have HZ52 := Lib.hid hz52
        have OA : Hid (((W8.alloc (.cells #[] 5)).drew).ownsRow W8.heap.size 5 1 (.slice (some ⟨W8.heap.size, 0, none⟩) 0 0) 0 []) := Lib.hid (World.ownsRow_made W8 #[] 0 (Nat.le_refl _) (by unfold maxLen; omega) rfl)
        have HLD : Hid ((cellsOf (data.take 64)).length = 64 * 1) := Lib.hid (by rw [cellsOf_len, List.length_take, HDL.out]; rfl)
        have HLX : Hid ((cellsOf (x.drop 64)).length = 64 * 1) := Lib.hid (by rw [cellsOf_len, List.length_drop, HXL.out])
        have HLA : Hid ((data.take 64).length = 64) := Lib.hid (by rw [List.length_take, HDL.out]; rfl)
        have HLB : Hid ((x.drop 64).length = 64) := Lib.hid (by rw [List.length_drop, HXL.out])
        have hgs8 : gs < W8.heap.size := by omega
        have hu64 : (64 : Int) ≤ (uc : Int) := by omega
        have hx64 : (64 : Int) ≤ (xc : Int) := by omega
        have hx128 : (128 : Int) ≤ (xc : Int) := by omega
        have hxne : ¬ xc = 64 := by omega
        have hin2 : (i : Int) < (n : Int) := by omega
        have hii0 : (0 : Int) ≤ (i : Int) := by omega
        have hxa : (xc : Int) ≤ 9223372036854775807 := by omega
        clear hi5 hz50 hz51 hz52 hsz0
        go_cut [] (fun wx => RsX w [.slice (some ⟨vb, voff, none⟩) n cap, .slice (some ⟨b, off, none⟩) m cap2, .int .i64 (j : Int), .bool false] ((performL d.secs (d.pend.take j)).set i (data.take 64 ++ x.drop 64)) (j : Int) false g gs cp wx)
        case first =>
          (refine wp_region_held_drew (S := fun W => SS W8 gs W) (by kernel_rfl) (fun _ _ _ => rfl) (fun hHeld => ?_); have HB0 := Lib.hid hHeld; clear hHeld)
          refine wpAnyH_take (i := 0) (oi := { dst := some 65, op := Op.fieldAddr 25 (Operand.tmp 6) 0, type := 0, pos := "ref.go:87", after := #[], guard := none }) (v := ?_) rfl (by kernel_rfl) (by kernel_rfl) (by kernel_rfl) (fun _ _ _ h => h) (Or.inl ⟨by rfl, ?_⟩) HB0.out ?_
          rotate_left
          · (intro w hSw; (try dsimp only at hSw); go_simp; with_reducible rfl)
          try simp only [Act.put, List.setIfInBounds_toArray, List.set_cons_zero, List.set_cons_succ]
          refine wpAnyH_take (i := 1) (oi := { dst := some 66, op := Op.load 22 (Operand.tmp 65), type := 22, pos := "ref.go:87", after := #[{ on := 0, ground := Ground.data }], guard := none }) (v := ?_) rfl (by kernel_rfl) (by kernel_rfl) (by kernel_rfl) (fun _ _ _ h => h) (Or.inl ⟨by rfl, ?_⟩) HB0.out ?_
          rotate_left
          · (intro w hSw; (try dsimp only at hSw); go_simp; with_reducible rfl)
          try simp only [Act.put, List.setIfInBounds_toArray, List.set_cons_zero, List.set_cons_succ]
          refine wpAnyH_take (i := 2) (oi := { dst := some 67, op := Op.fieldAddr 76 (Operand.tmp 8) 0, type := 0, pos := "ref.go:87", after := #[], guard := none }) (v := ?_) rfl (by kernel_rfl) (by kernel_rfl) (by kernel_rfl) (fun _ _ _ h => h) (Or.inl ⟨by rfl, ?_⟩) HB0.out ?_
          rotate_left
          · (intro w hSw; (try dsimp only at hSw); go_simp; with_reducible rfl)
          try simp only [Act.put, List.setIfInBounds_toArray, List.set_cons_zero, List.set_cons_succ]
          refine wpAnyH_take (i := 3) (oi := { dst := some 68, op := Op.load 3 (Operand.tmp 67), type := 3, pos := "ref.go:87", after := #[{ on := 2, ground := Ground.data }], guard := none }) (v := ?_) rfl (by kernel_rfl) (by kernel_rfl) (by kernel_rfl) (fun _ _ _ h => h) (Or.inl ⟨by rfl, ?_⟩) HB0.out ?_
          rotate_left
          · (intro w hSw; (try dsimp only at hSw); go_simp; with_reducible rfl)
          try simp only [Act.put, List.setIfInBounds_toArray, List.set_cons_zero, List.set_cons_succ]
          refine wpAnyH_take (i := 5) (oi := { dst := some 70, op := Op.fieldAddr 76 (Operand.tmp 8) 1, type := 0, pos := "ref.go:87", after := #[], guard := none }) (v := ?_) rfl (by kernel_rfl) (by kernel_rfl) (by kernel_rfl) (fun _ _ _ h => h) (Or.inl ⟨by rfl, ?_⟩) HB0.out ?_
          rotate_left
          · (intro w hSw; (try dsimp only at hSw); go_simp; with_reducible rfl)
          try simp only [Act.put, List.setIfInBounds_toArray, List.set_cons_zero, List.set_cons_succ]
          refine wpAnyH_take (i := 6) (oi := { dst := some 71, op := Op.load 35 (Operand.tmp 70), type := 35, pos := "ref.go:87", after := #[{ on := 5, ground := Ground.data }], guard := none }) (v := ?_) rfl (by kernel_rfl) (by kernel_rfl) (by kernel_rfl) (fun _ _ _ h => h) (Or.inl ⟨by rfl, ?_⟩) HB0.out ?_
          rotate_left
          · (intro w hSw; (try dsimp only at hSw); go_simp; with_reducible rfl)
          try simp only [Act.put, List.setIfInBounds_toArray, List.set_cons_zero, List.set_cons_succ]
          refine wpAnyH_take (i := 7) (oi := { dst := some 72, op := Op.slice 35 (Operand.tmp 71) none (some (Operand.const (Value.int IntKind.i64 64))) none, type := 35, pos := "ref.go:87", after := #[{ on := 6, ground := Ground.data }], guard := none }) (v := ?_) rfl (by kernel_rfl) (by kernel_rfl) (by kernel_rfl) (fun _ _ _ h => h) (Or.inl ⟨by rfl, ?_⟩) HB0.out ?_
          rotate_left
          · (intro w hSw; (try dsimp only at hSw); go_simp; with_reducible rfl)
          try simp only [Act.put, List.setIfInBounds_toArray, List.set_cons_zero, List.set_cons_succ]
          refine wpAnyH_take (i := 9) (oi := { dst := some 74, op := Op.fieldAddr 25 (Operand.tmp 6) 0, type := 0, pos := "ref.go:87", after := #[], guard := none }) (v := ?_) rfl (by kernel_rfl) (by kernel_rfl) (by kernel_rfl) (fun _ _ _ h => h) (Or.inl ⟨by rfl, ?_⟩) HB0.out ?_
          rotate_left
          · (intro w hSw; (try dsimp only at hSw); go_simp; with_reducible rfl)
          try simp only [Act.put, List.setIfInBounds_toArray, List.set_cons_zero, List.set_cons_succ]
          refine wpAnyH_take (i := 10) (oi := { dst := some 75, op := Op.load 22 (Operand.tmp 74), type := 22, pos := "ref.go:87", after := #[{ on := 9, ground := Ground.data }], guard := none }) (v := ?_) rfl (by kernel_rfl) (by kernel_rfl) (by kernel_rfl) (fun _ _ _ h => h) (Or.inl ⟨by rfl, ?_⟩) HB0.out ?_
          rotate_left
          · (intro w hSw; (try dsimp only at hSw); go_simp; with_reducible rfl)
          try simp only [Act.put, List.setIfInBounds_toArray, List.set_cons_zero, List.set_cons_succ]
          refine wpAnyH_take (i := 11) (oi := { dst := some 76, op := Op.fieldAddr 76 (Operand.tmp 8) 0, type := 0, pos := "ref.go:87", after := #[], guard := none }) (v := ?_) rfl (by kernel_rfl) (by kernel_rfl) (by kernel_rfl) (fun _ _ _ h => h) (Or.inl ⟨by rfl, ?_⟩) HB0.out ?_
          rotate_left
          · (intro w hSw; (try dsimp only at hSw); go_simp; with_reducible rfl)
          try simp only [Act.put, List.setIfInBounds_toArray, List.set_cons_zero, List.set_cons_succ]
          refine wpAnyH_take (i := 12) (oi := { dst := some 77, op := Op.load 3 (Operand.tmp 76), type := 3, pos := "ref.go:87", after := #[{ on := 11, ground := Ground.data }], guard := none }) (v := ?_) rfl (by kernel_rfl) (by kernel_rfl) (by kernel_rfl) (fun _ _ _ h => h) (Or.inl ⟨by rfl, ?_⟩) HB0.out ?_
          rotate_left
          · (intro w hSw; (try dsimp only at hSw); go_simp; with_reducible rfl)
          try simp only [Act.put, List.setIfInBounds_toArray, List.set_cons_zero, List.set_cons_succ]
          refine wpAnyH_take (i := 13) (oi := { dst := some 78, op := Op.indexAddr 22 (Operand.tmp 75) (Operand.tmp 77), type := 0, pos := "ref.go:87", after := #[{ on := 10, ground := Ground.data }, { on := 12, ground := Ground.data }], guard := none }) (v := ?_) rfl (by kernel_rfl) (by kernel_rfl) (by kernel_rfl) (fun _ _ _ h => h) (Or.inl ⟨by rfl, ?_⟩) HB0.out ?_
          rotate_left
          · (intro w hSw; (try dsimp only at hSw); go_simp; with_reducible rfl)
          try simp only [Act.put, List.setIfInBounds_toArray, List.set_cons_zero, List.set_cons_succ]
          refine wpAnyH_ready (rs := [4, 14]) (by kernel_rfl) (by simp) ?_
          refine AllReadyH.cons (o := { dst := some 69, op := Op.buildSlice 35 0 #[], type := 35, pos := "ref.go:87", after := #[], guard := none }) rfl (fun K hK => ?_) ?_
          · rw [if_pos (by rfl)]
            go_simp
            refine hK.out _ _ ?_ (fun hHeld => ?_)
            · (try dsimp only); ((first | with_reducible exact HB0.out | with_reducible exact SS.put (SS.below hB5) | with_reducible exact SS.below hB5 | with_reducible exact SS.below hB4 | with_reducible exact SS.below (below_drew (Joins.below_alloc1 _ _))))
            clear hK K
            have HB0 := Lib.hid hHeld
            clear hHeld
            try simp only [Act.put, List.setIfInBounds_toArray, List.set_cons_zero, List.set_cons_succ]
            refine wpAnyH_ready (rs := [8, 14]) (by kernel_rfl) (by simp) ?_
            refine AllReadyH.cons (o := { dst := some 73, op := Op.call { callee := Callee.builtin Builtin.append, args := #[Operand.tmp 69, Operand.tmp 72], argTypes := #[35, 35] }, type := 35, pos := "ref.go:87", after := #[{ on := 4, ground := Ground.data }, { on := 7, ground := Ground.data }], guard := none }) rfl (fun K hK => ?_) ?_
            · rw [if_pos (by rfl)]
              ((refine wp_append_lies _ (.tmp 69) (.tmp 72) 35 rfl W8.heap.size 5 i5 _ 1 1 Try.underlying35 HI5.out HZ50.out HZ51.out HZ52.out rfl (by decide) (.slice (some ⟨W8.heap.size, 0, none⟩) 0 0) 0 [] rfl OA.out ⟨ub, uo, none⟩ 64 uc (cellsOf (data.take 64)) rfl HLD.out (HUA.out _ HB0.out) (cells_one _) (by omega) (by unfold maxLen; omega) (by omega) (by simp) _ rfl ?_; intro g4 c4 w4 hown4 hgrow4 hat4 hlt4; rw [Nat.zero_add, List.nil_append] at hown4; have hB4 : Below W8.heap.size W8 w4 := (Joins.below_alloc1 W8 _).trans (below_grew (w := W8.alloc (.cells #[] 5)) hgrow4 (by simp) (fun g' e => by cases e; exact Nat.le_refl _)); have g0 := (hB4.cell (p := ⟨gs, i, none⟩) hgs8).trans g0; have g1 := (hB4.frozen (p := ⟨gs, i, none⟩) hgs8).trans g1))
              refine hK.out _ _ ?_ (fun hHeld => ?_)
              · (try dsimp only); ((first | with_reducible exact HB0.out | with_reducible exact SS.put (SS.below hB5) | with_reducible exact SS.below hB5 | with_reducible exact SS.below hB4 | with_reducible exact SS.below (below_drew (Joins.below_alloc1 _ _))))
              clear hK K
              have HB0 := Lib.hid hHeld
              clear hHeld
              try simp only [Act.put, List.setIfInBounds_toArray, List.set_cons_zero, List.set_cons_succ]
              refine wpAnyH_ready (rs := [14]) (by kernel_rfl) (by simp) ?_
              refine AllReadyH.cons (o := { dst := some 79, op := Op.load 35 (Operand.tmp 78), type := 35, pos := "ref.go:87", after := #[{ on := 13, ground := Ground.data }], guard := none }) rfl (fun K hK => ?_) ?_
              · rw [if_pos (by rfl)]
                go_simp
                refine hK.out _ _ ?_ (fun hHeld => ?_)
                · (try dsimp only); ((first | with_reducible exact HB0.out | with_reducible exact SS.put (SS.below hB5) | with_reducible exact SS.below hB5 | with_reducible exact SS.below hB4 | with_reducible exact SS.below (below_drew (Joins.below_alloc1 _ _))))
                clear hK K
                have HB0 := Lib.hid hHeld
                clear hHeld
                try simp only [Act.put, List.setIfInBounds_toArray, List.set_cons_zero, List.set_cons_succ]
                refine wpAnyH_take (i := 15) (oi := { dst := some 80, op := Op.slice 35 (Operand.tmp 79) (some (Operand.const (Value.int IntKind.i64 64))) none none, type := 35, pos := "ref.go:87", after := #[{ on := 14, ground := Ground.data }], guard := none }) (v := ?_) rfl (by kernel_rfl) (by kernel_rfl) (by kernel_rfl) (fun _ _ _ h => h) (Or.inl ⟨by rfl, ?_⟩) HB0.out ?_
                rotate_left
                · (intro w hSw; (try dsimp only at hSw); go_simp; with_reducible rfl)
                try simp only [Act.put, List.setIfInBounds_toArray, List.set_cons_zero, List.set_cons_succ]
                refine wpAnyH_ready (rs := [16]) (by kernel_rfl) (by simp) ?_
                refine AllReadyH.cons (o := { dst := some 81, op := Op.call { callee := Callee.builtin Builtin.append, args := #[Operand.tmp 73, Operand.tmp 80], argTypes := #[35, 35] }, type := 35, pos := "ref.go:87", after := #[{ on := 8, ground := Ground.data }, { on := 15, ground := Ground.data }, { on := 8, ground := Ground.chain }], guard := none }) rfl (fun K hK => ?_) ?_
                · rw [if_pos (by rfl)]
                  ((refine wp_append_lies _ (.tmp 73) (.tmp 80) 35 rfl W8.heap.size 5 i5 _ 1 1 Try.underlying35 HI5.out HZ50.out HZ51.out HZ52.out rfl (by decide) (.slice (some ⟨g4, 0, none⟩) 64 c4) 64 (cellsOf (data.take 64)) rfl hown4 ⟨xb, xo + 64, none⟩ 64 _ (cellsOf (x.drop 64)) rfl HLX.out (HXA.out _ HB0.out) (cells_one _) (by omega) (by unfold maxLen; omega) (by omega) hB4.size _ rfl ?_; intro g5 c5 w5 hown5 hgrow5 hat5 hlt5; have hB5 : Below W8.heap.size W8 w5 := hB4.trans (below_grewn hown4 hgrow5 hB4.size (Nat.le_refl _)); have g0 := (hB5.cell (p := ⟨gs, i, none⟩) hgs8).trans HG0.out; have g1 := (hB5.frozen (p := ⟨gs, i, none⟩) hgs8).trans HG1.out))
                  refine hK.out _ _ ?_ (fun hHeld => ?_)
                  · (try dsimp only); ((first | with_reducible exact HB0.out | with_reducible exact SS.put (SS.below hB5) | with_reducible exact SS.below hB5 | with_reducible exact SS.below hB4 | with_reducible exact SS.below (below_drew (Joins.below_alloc1 _ _))))
                  clear hK K
                  have HB0 := Lib.hid hHeld
                  clear hHeld
                  try simp only [Act.put, List.setIfInBounds_toArray, List.set_cons_zero, List.set_cons_succ]
                  refine wpAnyH_take (i := 17) (oi := { dst := some 82, op := Op.indexAddr 22 (Operand.tmp 66) (Operand.tmp 68), type := 0, pos := "ref.go:87", after := #[{ on := 1, ground := Ground.data }, { on := 3, ground := Ground.data }, { on := 0, ground := Ground.phase }, { on := 1, ground := Ground.phase }, { on := 2, ground := Ground.phase }, { on := 3, ground := Ground.phase }, { on := 4, ground := Ground.phase }, { on := 5, ground := Ground.phase }, { on := 6, ground := Ground.phase }, { on := 7, ground := Ground.phase }, { on := 8, ground := Ground.phase }, { on := 9, ground := Ground.phase }, { on := 10, ground := Ground.phase }, { on := 11, ground := Ground.phase }, { on := 12, ground := Ground.phase }, { on := 13, ground := Ground.phase }, { on := 14, ground := Ground.phase }, { on := 15, ground := Ground.phase }, { on := 16, ground := Ground.phase }], guard := none }) (v := ?_) rfl (by kernel_rfl) (by kernel_rfl) (by kernel_rfl) (fun _ _ _ h => h) (Or.inl ⟨by rfl, ?_⟩) HB0.out ?_
                  rotate_left
                  · (intro w hSw; (try dsimp only at hSw); go_simp; with_reducible rfl)
                  try simp only [Act.put, List.setIfInBounds_toArray, List.set_cons_zero, List.set_cons_succ]
                  refine wpAnyH_ready (rs := [18]) (by kernel_rfl) (by simp) ?_
                  refine AllReadyH.cons (o := { dst := none, op := Op.store 35 (Operand.tmp 82) (Operand.tmp 81), type := 0, pos := "ref.go:87", after := #[{ on := 17, ground := Ground.data }, { on := 16, ground := Ground.data }, { on := 16, ground := Ground.chain }, { on := 0, ground := Ground.phase }, { on := 1, ground := Ground.phase }, { on := 2, ground := Ground.phase }, { on := 3, ground := Ground.phase }, { on := 4, ground := Ground.phase }, { on := 5, ground := Ground.phase }, { on := 6, ground := Ground.phase }, { on := 7, ground := Ground.phase }, { on := 8, ground := Ground.phase }, { on := 9, ground := Ground.phase }, { on := 10, ground := Ground.phase }, { on := 11, ground := Ground.phase }, { on := 12, ground := Ground.phase }, { on := 13, ground := Ground.phase }, { on := 14, ground := Ground.phase }, { on := 15, ground := Ground.phase }, { on := 16, ground := Ground.phase }], guard := none }) rfl (fun K hK => ?_) ?_
                  · rw [if_pos (by rfl)]
                    go_simp
                    refine hK.out _ _ ?_ (fun hHeld => ?_)
                    · (try dsimp only); ((first | with_reducible exact HB0.out | with_reducible exact SS.put (SS.below hB5) | with_reducible exact SS.below hB5 | with_reducible exact SS.below hB4 | with_reducible exact SS.below (below_drew (Joins.below_alloc1 _ _))))
                    clear hK K
                    have HB0 := Lib.hid hHeld
                    clear hHeld
                    try simp only [Act.put, List.setIfInBounds_toArray, List.set_cons_zero, List.set_cons_succ]
                    refine wpAnyH_done (by kernel_rfl) ?_ _
                    (go_wp2_with fail; go_meet; case rel => exact rs_torn HX8.out hB5 hown5 HLA.out HLB.out (by rw [HHL.out]; exact hin))
                  exact AllReadyH.nil
                exact AllReadyH.nil
              exact AllReadyH.nil
            refine AllReadyH.cons (o := { dst := some 79, op := Op.load 35 (Operand.tmp 78), type := 35, pos := "ref.go:87", after := #[{ on := 13, ground := Ground.data }], guard := none }) rfl (fun K hK => ?_) ?_
            · rw [if_pos (by rfl)]
              go_simp
              refine hK.out _ _ ?_ (fun hHeld => ?_)
              · (try dsimp only); ((first | with_reducible exact HB0.out | with_reducible exact SS.put (SS.below hB5) | with_reducible exact SS.below hB5 | with_reducible exact SS.below hB4 | with_reducible exact SS.below (below_drew (Joins.below_alloc1 _ _))))
              clear hK K
              have HB0 := Lib.hid hHeld
              clear hHeld
              try simp only [Act.put, List.setIfInBounds_toArray, List.set_cons_zero, List.set_cons_succ]
              refine wpAnyH_take (i := 15) (oi := { dst := some 80, op := Op.slice 35 (Operand.tmp 79) (some (Operand.const (Value.int IntKind.i64 64))) none none, type := 35, pos := "ref.go:87", after := #[{ on := 14, ground := Ground.data }], guard := none }) (v := ?_) rfl (by kernel_rfl) (by kernel_rfl) (by kernel_rfl) (fun _ _ _ h => h) (Or.inl ⟨by rfl, ?_⟩) HB0.out ?_
              rotate_left
              · (intro w hSw; (try dsimp only at hSw); go_simp; with_reducible rfl)
              try simp only [Act.put, List.setIfInBounds_toArray, List.set_cons_zero, List.set_cons_succ]
              refine wpAnyH_ready (rs := [8]) (by kernel_rfl) (by simp) ?_
              refine AllReadyH.cons (o := { dst := some 73, op := Op.call { callee := Callee.builtin Builtin.append, args := #[Operand.tmp 69, Operand.tmp 72], argTypes := #[35, 35] }, type := 35, pos := "ref.go:87", after := #[{ on := 4, ground := Ground.data }, { on := 7, ground := Ground.data }], guard := none }) rfl (fun K hK => ?_) ?_
              · rw [if_pos (by rfl)]
                ((refine wp_append_lies _ (.tmp 69) (.tmp 72) 35 rfl W8.heap.size 5 i5 _ 1 1 Try.underlying35 HI5.out HZ50.out HZ51.out HZ52.out rfl (by decide) (.slice (some ⟨W8.heap.size, 0, none⟩) 0 0) 0 [] rfl OA.out ⟨ub, uo, none⟩ 64 uc (cellsOf (data.take 64)) rfl HLD.out (HUA.out _ HB0.out) (cells_one _) (by omega) (by unfold maxLen; omega) (by omega) (by simp) _ rfl ?_; intro g4 c4 w4 hown4 hgrow4 hat4 hlt4; rw [Nat.zero_add, List.nil_append] at hown4; have hB4 : Below W8.heap.size W8 w4 := (Joins.below_alloc1 W8 _).trans (below_grew (w := W8.alloc (.cells #[] 5)) hgrow4 (by simp) (fun g' e => by cases e; exact Nat.le_refl _)); have g0 := (hB4.cell (p := ⟨gs, i, none⟩) hgs8).trans g0; have g1 := (hB4.frozen (p := ⟨gs, i, none⟩) hgs8).trans g1))
                refine hK.out _ _ ?_ (fun hHeld => ?_)
                · (try dsimp only); ((first | with_reducible exact HB0.out | with_reducible exact SS.put (SS.below hB5) | with_reducible exact SS.below hB5 | with_reducible exact SS.below hB4 | with_reducible exact SS.below (below_drew (Joins.below_alloc1 _ _))))
                clear hK K
                have HB0 := Lib.hid hHeld
                clear hHeld
                try simp only [Act.put, List.setIfInBounds_toArray, List.set_cons_zero, List.set_cons_succ]
                refine wpAnyH_ready (rs := [16]) (by kernel_rfl) (by simp) ?_
                refine AllReadyH.cons (o := { dst := some 81, op := Op.call { callee := Callee.builtin Builtin.append, args := #[Operand.tmp 73, Operand.tmp 80], argTypes := #[35, 35] }, type := 35, pos := "ref.go:87", after := #[{ on := 8, ground := Ground.data }, { on := 15, ground := Ground.data }, { on := 8, ground := Ground.chain }], guard := none }) rfl (fun K hK => ?_) ?_
                · rw [if_pos (by rfl)]
                  ((refine wp_append_lies _ (.tmp 73) (.tmp 80) 35 rfl W8.heap.size 5 i5 _ 1 1 Try.underlying35 HI5.out HZ50.out HZ51.out HZ52.out rfl (by decide) (.slice (some ⟨g4, 0, none⟩) 64 c4) 64 (cellsOf (data.take 64)) rfl hown4 ⟨xb, xo + 64, none⟩ 64 _ (cellsOf (x.drop 64)) rfl HLX.out (HXA.out _ HB0.out) (cells_one _) (by omega) (by unfold maxLen; omega) (by omega) hB4.size _ rfl ?_; intro g5 c5 w5 hown5 hgrow5 hat5 hlt5; have hB5 : Below W8.heap.size W8 w5 := hB4.trans (below_grewn hown4 hgrow5 hB4.size (Nat.le_refl _)); have g0 := (hB5.cell (p := ⟨gs, i, none⟩) hgs8).trans HG0.out; have g1 := (hB5.frozen (p := ⟨gs, i, none⟩) hgs8).trans HG1.out))
                  refine hK.out _ _ ?_ (fun hHeld => ?_)
                  · (try dsimp only); ((first | with_reducible exact HB0.out | with_reducible exact SS.put (SS.below hB5) | with_reducible exact SS.below hB5 | with_reducible exact SS.below hB4 | with_reducible exact SS.below (below_drew (Joins.below_alloc1 _ _))))
                  clear hK K
                  have HB0 := Lib.hid hHeld
                  clear hHeld
                  try simp only [Act.put, List.setIfInBounds_toArray, List.set_cons_zero, List.set_cons_succ]
                  refine wpAnyH_take (i := 17) (oi := { dst := some 82, op := Op.indexAddr 22 (Operand.tmp 66) (Operand.tmp 68), type := 0, pos := "ref.go:87", after := #[{ on := 1, ground := Ground.data }, { on := 3, ground := Ground.data }, { on := 0, ground := Ground.phase }, { on := 1, ground := Ground.phase }, { on := 2, ground := Ground.phase }, { on := 3, ground := Ground.phase }, { on := 4, ground := Ground.phase }, { on := 5, ground := Ground.phase }, { on := 6, ground := Ground.phase }, { on := 7, ground := Ground.phase }, { on := 8, ground := Ground.phase }, { on := 9, ground := Ground.phase }, { on := 10, ground := Ground.phase }, { on := 11, ground := Ground.phase }, { on := 12, ground := Ground.phase }, { on := 13, ground := Ground.phase }, { on := 14, ground := Ground.phase }, { on := 15, ground := Ground.phase }, { on := 16, ground := Ground.phase }], guard := none }) (v := ?_) rfl (by kernel_rfl) (by kernel_rfl) (by kernel_rfl) (fun _ _ _ h => h) (Or.inl ⟨by rfl, ?_⟩) HB0.out ?_
                  rotate_left
                  · (intro w hSw; (try dsimp only at hSw); go_simp; with_reducible rfl)
                  try simp only [Act.put, List.setIfInBounds_toArray, List.set_cons_zero, List.set_cons_succ]
                  refine wpAnyH_ready (rs := [18]) (by kernel_rfl) (by simp) ?_
                  refine AllReadyH.cons (o := { dst := none, op := Op.store 35 (Operand.tmp 82) (Operand.tmp 81), type := 0, pos := "ref.go:87", after := #[{ on := 17, ground := Ground.data }, { on := 16, ground := Ground.data }, { on := 16, ground := Ground.chain }, { on := 0, ground := Ground.phase }, { on := 1, ground := Ground.phase }, { on := 2, ground := Ground.phase }, { on := 3, ground := Ground.phase }, { on := 4, ground := Ground.phase }, { on := 5, ground := Ground.phase }, { on := 6, ground := Ground.phase }, { on := 7, ground := Ground.phase }, { on := 8, ground := Ground.phase }, { on := 9, ground := Ground.phase }, { on := 10, ground := Ground.phase }, { on := 11, ground := Ground.phase }, { on := 12, ground := Ground.phase }, { on := 13, ground := Ground.phase }, { on := 14, ground := Ground.phase }, { on := 15, ground := Ground.phase }, { on := 16, ground := Ground.phase }], guard := none }) rfl (fun K hK => ?_) ?_
                  · rw [if_pos (by rfl)]
                    go_simp
                    refine hK.out _ _ ?_ (fun hHeld => ?_)
                    · (try dsimp only); ((first | with_reducible exact HB0.out | with_reducible exact SS.put (SS.below hB5) | with_reducible exact SS.below hB5 | with_reducible exact SS.below hB4 | with_reducible exact SS.below (below_drew (Joins.below_alloc1 _ _))))
                    clear hK K
                    have HB0 := Lib.hid hHeld
                    clear hHeld
                    try simp only [Act.put, List.setIfInBounds_toArray, List.set_cons_zero, List.set_cons_succ]
                    refine wpAnyH_done (by kernel_rfl) ?_ _
                    (go_wp2_with fail; go_meet; case rel => exact rs_torn HX8.out hB5 hown5 HLA.out HLB.out (by rw [HHL.out]; exact hin))
                  exact AllReadyH.nil
                exact AllReadyH.nil
              exact AllReadyH.nil
            exact AllReadyH.nil
          refine AllReadyH.cons (o := { dst := some 79, op := Op.load 35 (Operand.tmp 78), type := 35, pos := "ref.go:87", after := #[{ on := 13, ground := Ground.data }], guard := none }) rfl (fun K hK => ?_) ?_
          · rw [if_pos (by rfl)]
            go_simp
            refine hK.out _ _ ?_ (fun hHeld => ?_)
            · (try dsimp only); ((first | with_reducible exact HB0.out | with_reducible exact SS.put (SS.below hB5) | with_reducible exact SS.below hB5 | with_reducible exact SS.below hB4 | with_reducible exact SS.below (below_drew (Joins.below_alloc1 _ _))))
            clear hK K
            have HB0 := Lib.hid hHeld
            clear hHeld
            try simp only [Act.put, List.setIfInBounds_toArray, List.set_cons_zero, List.set_cons_succ]
            refine wpAnyH_take (i := 15) (oi := { dst := some 80, op := Op.slice 35 (Operand.tmp 79) (some (Operand.const (Value.int IntKind.i64 64))) none none, type := 35, pos := "ref.go:87", after := #[{ on := 14, ground := Ground.data }], guard := none }) (v := ?_) rfl (by kernel_rfl) (by kernel_rfl) (by kernel_rfl) (fun _ _ _ h => h) (Or.inl ⟨by rfl, ?_⟩) HB0.out ?_
            rotate_left
            · (intro w hSw; (try dsimp only at hSw); go_simp; with_reducible rfl)
            try simp only [Act.put, List.setIfInBounds_toArray, List.set_cons_zero, List.set_cons_succ]
            refine wpAnyH_ready (rs := [4]) (by kernel_rfl) (by simp) ?_
            refine AllReadyH.cons (o := { dst := some 69, op := Op.buildSlice 35 0 #[], type := 35, pos := "ref.go:87", after := #[], guard := none }) rfl (fun K hK => ?_) ?_
            · rw [if_pos (by rfl)]
              go_simp
              refine hK.out _ _ ?_ (fun hHeld => ?_)
              · (try dsimp only); ((first | with_reducible exact HB0.out | with_reducible exact SS.put (SS.below hB5) | with_reducible exact SS.below hB5 | with_reducible exact SS.below hB4 | with_reducible exact SS.below (below_drew (Joins.below_alloc1 _ _))))
              clear hK K
              have HB0 := Lib.hid hHeld
              clear hHeld
              try simp only [Act.put, List.setIfInBounds_toArray, List.set_cons_zero, List.set_cons_succ]
              refine wpAnyH_ready (rs := [8]) (by kernel_rfl) (by simp) ?_
              refine AllReadyH.cons (o := { dst := some 73, op := Op.call { callee := Callee.builtin Builtin.append, args := #[Operand.tmp 69, Operand.tmp 72], argTypes := #[35, 35] }, type := 35, pos := "ref.go:87", after := #[{ on := 4, ground := Ground.data }, { on := 7, ground := Ground.data }], guard := none }) rfl (fun K hK => ?_) ?_
              · rw [if_pos (by rfl)]
                ((refine wp_append_lies _ (.tmp 69) (.tmp 72) 35 rfl W8.heap.size 5 i5 _ 1 1 Try.underlying35 HI5.out HZ50.out HZ51.out HZ52.out rfl (by decide) (.slice (some ⟨W8.heap.size, 0, none⟩) 0 0) 0 [] rfl OA.out ⟨ub, uo, none⟩ 64 uc (cellsOf (data.take 64)) rfl HLD.out (HUA.out _ HB0.out) (cells_one _) (by omega) (by unfold maxLen; omega) (by omega) (by simp) _ rfl ?_; intro g4 c4 w4 hown4 hgrow4 hat4 hlt4; rw [Nat.zero_add, List.nil_append] at hown4; have hB4 : Below W8.heap.size W8 w4 := (Joins.below_alloc1 W8 _).trans (below_grew (w := W8.alloc (.cells #[] 5)) hgrow4 (by simp) (fun g' e => by cases e; exact Nat.le_refl _)); have g0 := (hB4.cell (p := ⟨gs, i, none⟩) hgs8).trans g0; have g1 := (hB4.frozen (p := ⟨gs, i, none⟩) hgs8).trans g1))
                refine hK.out _ _ ?_ (fun hHeld => ?_)
                · (try dsimp only); ((first | with_reducible exact HB0.out | with_reducible exact SS.put (SS.below hB5) | with_reducible exact SS.below hB5 | with_reducible exact SS.below hB4 | with_reducible exact SS.below (below_drew (Joins.below_alloc1 _ _))))
                clear hK K
                have HB0 := Lib.hid hHeld
                clear hHeld
                try simp only [Act.put, List.setIfInBounds_toArray, List.set_cons_zero, List.set_cons_succ]
                refine wpAnyH_ready (rs := [16]) (by kernel_rfl) (by simp) ?_
                refine AllReadyH.cons (o := { dst := some 81, op := Op.call { callee := Callee.builtin Builtin.append, args := #[Operand.tmp 73, Operand.tmp 80], argTypes := #[35, 35] }, type := 35, pos := "ref.go:87", after := #[{ on := 8, ground := Ground.data }, { on := 15, ground := Ground.data }, { on := 8, ground := Ground.chain }], guard := none }) rfl (fun K hK => ?_) ?_
                · rw [if_pos (by rfl)]
                  ((refine wp_append_lies _ (.tmp 73) (.tmp 80) 35 rfl W8.heap.size 5 i5 _ 1 1 Try.underlying35 HI5.out HZ50.out HZ51.out HZ52.out rfl (by decide) (.slice (some ⟨g4, 0, none⟩) 64 c4) 64 (cellsOf (data.take 64)) rfl hown4 ⟨xb, xo + 64, none⟩ 64 _ (cellsOf (x.drop 64)) rfl HLX.out (HXA.out _ HB0.out) (cells_one _) (by omega) (by unfold maxLen; omega) (by omega) hB4.size _ rfl ?_; intro g5 c5 w5 hown5 hgrow5 hat5 hlt5; have hB5 : Below W8.heap.size W8 w5 := hB4.trans (below_grewn hown4 hgrow5 hB4.size (Nat.le_refl _)); have g0 := (hB5.cell (p := ⟨gs, i, none⟩) hgs8).trans HG0.out; have g1 := (hB5.frozen (p := ⟨gs, i, none⟩) hgs8).trans HG1.out))
                  refine hK.out _ _ ?_ (fun hHeld => ?_)
                  · (try dsimp only); ((first | with_reducible exact HB0.out | with_reducible exact SS.put (SS.below hB5) | with_reducible exact SS.below hB5 | with_reducible exact SS.below hB4 | with_reducible exact SS.below (below_drew (Joins.below_alloc1 _ _))))
                  clear hK K
                  have HB0 := Lib.hid hHeld
                  clear hHeld
                  try simp only [Act.put, List.setIfInBounds_toArray, List.set_cons_zero, List.set_cons_succ]
                  refine wpAnyH_take (i := 17) (oi := { dst := some 82, op := Op.indexAddr 22 (Operand.tmp 66) (Operand.tmp 68), type := 0, pos := "ref.go:87", after := #[{ on := 1, ground := Ground.data }, { on := 3, ground := Ground.data }, { on := 0, ground := Ground.phase }, { on := 1, ground := Ground.phase }, { on := 2, ground := Ground.phase }, { on := 3, ground := Ground.phase }, { on := 4, ground := Ground.phase }, { on := 5, ground := Ground.phase }, { on := 6, ground := Ground.phase }, { on := 7, ground := Ground.phase }, { on := 8, ground := Ground.phase }, { on := 9, ground := Ground.phase }, { on := 10, ground := Ground.phase }, { on := 11, ground := Ground.phase }, { on := 12, ground := Ground.phase }, { on := 13, ground := Ground.phase }, { on := 14, ground := Ground.phase }, { on := 15, ground := Ground.phase }, { on := 16, ground := Ground.phase }], guard := none }) (v := ?_) rfl (by kernel_rfl) (by kernel_rfl) (by kernel_rfl) (fun _ _ _ h => h) (Or.inl ⟨by rfl, ?_⟩) HB0.out ?_
                  rotate_left
                  · (intro w hSw; (try dsimp only at hSw); go_simp; with_reducible rfl)
                  try simp only [Act.put, List.setIfInBounds_toArray, List.set_cons_zero, List.set_cons_succ]
                  refine wpAnyH_ready (rs := [18]) (by kernel_rfl) (by simp) ?_
                  refine AllReadyH.cons (o := { dst := none, op := Op.store 35 (Operand.tmp 82) (Operand.tmp 81), type := 0, pos := "ref.go:87", after := #[{ on := 17, ground := Ground.data }, { on := 16, ground := Ground.data }, { on := 16, ground := Ground.chain }, { on := 0, ground := Ground.phase }, { on := 1, ground := Ground.phase }, { on := 2, ground := Ground.phase }, { on := 3, ground := Ground.phase }, { on := 4, ground := Ground.phase }, { on := 5, ground := Ground.phase }, { on := 6, ground := Ground.phase }, { on := 7, ground := Ground.phase }, { on := 8, ground := Ground.phase }, { on := 9, ground := Ground.phase }, { on := 10, ground := Ground.phase }, { on := 11, ground := Ground.phase }, { on := 12, ground := Ground.phase }, { on := 13, ground := Ground.phase }, { on := 14, ground := Ground.phase }, { on := 15, ground := Ground.phase }, { on := 16, ground := Ground.phase }], guard := none }) rfl (fun K hK => ?_) ?_
                  · rw [if_pos (by rfl)]
                    go_simp
                    refine hK.out _ _ ?_ (fun hHeld => ?_)
                    · (try dsimp only); ((first | with_reducible exact HB0.out | with_reducible exact SS.put (SS.below hB5) | with_reducible exact SS.below hB5 | with_reducible exact SS.below hB4 | with_reducible exact SS.below (below_drew (Joins.below_alloc1 _ _))))
                    clear hK K
                    have HB0 := Lib.hid hHeld
                    clear hHeld
                    try simp only [Act.put, List.setIfInBounds_toArray, List.set_cons_zero, List.set_cons_succ]
                    refine wpAnyH_done (by kernel_rfl) ?_ _
                    (go_wp2_with fail; go_meet; case rel => exact rs_torn HX8.out hB5 hown5 HLA.out HLB.out (by rw [HHL.out]; exact hin))
                  exact AllReadyH.nil
                exact AllReadyH.nil
              exact AllReadyH.nil
            exact AllReadyH.nil
          exact AllReadyH.nil
        case rest =>
          have HX9 := Lib.hid ((hcut.left' 0).stop' true)
          obtain ⟨us9, _, _, _, _, hrx9, _, _, hrr9, hbl9⟩ := hcut
          rw [List.length_set, HHL.out] at hrx9
          obtain ⟨us8, _, _, _, _, hrx8, _, _, hrr8, hbl8⟩ := HX9.out
          rw [List.length_set, HHL.out] at hrx8
          have HRX9 := Lib.hid hrx8
          have HRR9 := Lib.hid hrr8
          have HBL9 := Lib.hid hbl8
          have y2 := hrx9.cell (i := 2) rfl
          have y3 := hrx9.cell (i := 3) rfl
          have y4 := hrx9.free 2
          have y5 := hrx9.free 3
          clear hrx9 hrr9 hbl9 hrx8 hrr8 hbl8 g0 g1 e0 e1 e2
          go_wp2_with (first
            | (refine wpList_load_dsk rfl _ rfl _ _ (by rfl) rfl HRX9.out ?_)
            | (refine wpList_store_ags rfl _ _ _ rfl (w.heap.size + 1) [.slice (some ⟨gs, 0, none⟩) n cp, .slice none 0 0, .int .i64 0, .bool true] _ size25 (by rfl) rfl rfl HRR9.out (by rfl) HBL9.out (by omega) ?_; intro w9 hr hb hf))
          have hd := HX9.out.done (n := n) (by rw [List.length_set]; exact HHL.out.symm) hb hf
          have he : (⟨(performL d.secs (d.pend.take j)).set i (data.take 64 ++ x.drop 64), [], 0, true⟩ : Dsk) = haltD d j ((i : Int), data) := by
            have h1 := HHALT.out
            rw [HXD.out] at h1
            show _ = (⟨(haltD d j ((i : Int), data)).secs, [], 0, true⟩ : Dsk)
            rw [h1]
          rw [he] at hd
          exact bodyPost_ret (results_dsk Try.results31 _ w9 (w.heap.size + 1) _ rfl rfl _ rfl hr) rfl ⟨_, _, _, _, rfl, hd, hb⟩
end Go.Proofs.Ytlaaolbdadempaa
