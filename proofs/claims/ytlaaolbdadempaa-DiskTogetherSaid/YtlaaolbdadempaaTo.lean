/- Syncing one by one and together lead to the same disk. -/
import Derived.Test.YtlaaolbdadempaaTg
namespace Go.Proofs.Ytlaaolbdadempaa
open Go.RowKit

set_option maxHeartbeats 8000000 in
set_option maxRecDepth 100000 in
theorem together_walk (d : Dsk) (v : Value) (xs : List Act3) (av : Value) (w : World) (h : DRest w.heap.size w d v) (ha : ARest w.heap.size w xs av) :
    Calls Try.prog 8 #[v, av] w fun e w' => e = .returned (.bool true) ∧ Below w.heap.size w w' := by
  have HAV := Lib.hid ha
  obtain ⟨s, p, rfl, hs, hp⟩ := h
  have HD := Lib.hid (show DRest w.heap.size w d (dv s p d.left d.stop) from ⟨s, p, rfl, hs, hp⟩)
  obtain ⟨a, cap, rfl, hc1, hc2⟩ := hs.shape
  obtain ⟨a2, cap2, rfl, hc3, hc4⟩ := hp.shape
  clear hs hp
  have HX0 := Lib.hid (Box.new HD.out (row_new w 25 [.slice a d.secs.length cap, .slice a2 d.pend.length cap2, .int .i64 d.left, .bool d.stop]) (Joins.below_alloc1 w _))
  have HB := Lib.hid (Joins.below_alloc1 w (.cells #[.slice a d.secs.length cap, .slice a2 d.pend.length cap2, .int .i64 d.left, .bool d.stop] 25))
  unfold dskOf dskCells
  obtain ⟨n, hn⟩ : ∃ n, n = d.secs.length := ⟨_, rfl⟩
  obtain ⟨m, hm⟩ : ∃ m, m = d.pend.length := ⟨_, rfl⟩
  have HN := Lib.hid hn
  have HM := Lib.hid hm
  rw [← hn, ← hm] at HD HX0 HB ⊢
  clear hn hm hc2 hc4
  obtain ⟨aa, ac, rfl, ha1, ha2⟩ := ha.shape
  clear ha
  obtain ⟨ns, hns⟩ : ∃ n, n = xs.length := ⟨_, rfl⟩
  have HNS := Lib.hid hns
  rw [← hns] at HAV ha2 ⊢
  clear hns
  go_enter Try.func8, Try.ntmps8
  go_wp2_with fail
  refine (sane_call _).mono ?_
  rintro e wS ⟨rfl, hb⟩
  replace HB := Lib.hid (below_next HB.out hb)
  replace HX0 := Lib.hid (HX0.out.keep hb)
  clear hb
  go_wp2_with (first
    | (refine wpList_load_dsk rfl _ rfl _ _ (by rfl) rfl HX0.out.row ?_))
  refine (few_call d _ wS HX0.out.drest).mono ?_
  rintro e wF ⟨r, rfl, hb⟩
  replace HB := Lib.hid (below_next HB.out hb)
  replace HX0 := Lib.hid (HX0.out.keep hb)
  clear hb
  have c0 := HX0.out.row.cell (i := 0) rfl
  have c1 := HX0.out.row.cell (i := 1) rfl
  have c2 := HX0.out.row.cell (i := 2) rfl
  have c3 := HX0.out.row.cell (i := 3) rfl
  cases r
  · go_wp2_with fail
    go_ret
    exact ⟨rfl, HB.out⟩
  by_cases hlen : (20 : Int) < (ns : Int)
  · go_wp2_with fail
    go_ret
    exact ⟨rfl, HB.out⟩
  rcases Nat.eq_zero_or_pos m with hm0 | hpd
  case inr =>
    have hpd2 : (0 : Int) < (m : Int) := by omega
    go_wp2_with fail
    go_ret
    exact ⟨rfl, HB.out⟩
  subst hm0
  have HPD : Hid (d.pend = []) := Lib.hid (List.eq_nil_of_length_eq_zero HM.out.symm)
  rcases Nat.eq_zero_or_pos n with hn0 | hsc
  · subst hn0
    go_wp2_with fail
    go_ret
    exact ⟨rfl, HB.out⟩
  have hsc2 : ((n : Int) == 0) = false := by simp; omega
  have HCK : Hid (Calls Try.prog 22 #[.agg #[.slice a n cap, .slice a2 0 cap2, .int .i64 d.left, .bool d.stop]] wF fun e w' => e = .returned (.int .i64 (if validB d then 0 else 40)) ∧ Below wF.heap.size wF w') := Lib.hid (check_call d _ wF HX0.out.drest)
  cases hvd : validB d
  · rw [hvd, if_neg (by decide)] at HCK
    clear hvd
    go_wp2_with fail
    refine HCK.out.mono ?_
    rintro e w1 ⟨rfl, hb⟩
    replace HB := Lib.hid (below_next HB.out hb)
    replace HX0 := Lib.hid (HX0.out.keep hb)
    clear hb c0 c1 c2 c3
    have c3 := HX0.out.row.cell (i := 3) rfl
    go_wp2_with fail
    go_ret
    exact ⟨rfl, HB.out⟩
  rw [hvd, if_pos rfl] at HCK
  have HVD := Lib.hid hvd
  clear hvd
  go_wp2_with fail
  refine HCK.out.mono ?_
  rintro e w1 ⟨rfl, hb⟩
  replace HB := Lib.hid (below_next HB.out hb)
  replace HX0 := Lib.hid (HX0.out.keep hb)
  clear hb c0 c1 c2 c3
  cases hst : d.stop
  · skip
    rw [hst] at HX0 HD
    have HRUN : Hid (Runs d) := Lib.hid (.of (by unfold runsB; rw [HVD.out, hst]; rfl))
    clear hst HVD HCK
    have c3 := HX0.out.row.cell (i := 3) rfl
    go_upto_region 5 with (fail)
    clear c3
    go_cut [5, 6] (fun s5 s6 wx => TwoBox w1 d s5 s6 wx)
    case first =>
      have c0 : ∀ W, Below w1.heap.size w1 W → W.cell? ⟨w.heap.size, 0, none⟩ = some (.slice a n cap) := fun W hW => HX0.out.row.later hW (i := 0) rfl
      have c1 : ∀ W, Below w1.heap.size w1 W → W.cell? ⟨w.heap.size, 1, none⟩ = some (.slice a2 0 cap2) := fun W hW => HX0.out.row.later hW (i := 1) rfl
      have c2 : ∀ W, Below w1.heap.size w1 W → W.cell? ⟨w.heap.size, 2, none⟩ = some (.int .i64 d.left) := fun W hW => HX0.out.row.later hW (i := 2) rfl
      have c3 : ∀ W, Below w1.heap.size w1 W → W.cell? ⟨w.heap.size, 3, none⟩ = some (.bool false) := fun W hW => HX0.out.row.later hW (i := 3) rfl
      go_region_held3 (fun W => Below w1.heap.size w1 W) (first | assumption | exact below_drew (Below.refl _ _) | exact below_drew (Joins.below_alloc1 _ _) | exact below_drew (below_two _ _ _)) (fail)
      all_goals
        go_wp2_with fail
        go_meet
        case rel =>
          first
            | with_reducible exact two_box1 HX0.out.drest
            | with_reducible exact two_box2 HX0.out.drest
    case rest =>
      obtain ⟨g5, g6, rfl, rfl, hg5, hg6, hg56, ho5, ho6, hb2⟩ := hcut
      have HO5 := Lib.hid ho5
      have HO6 := Lib.hid ho6
      have HB2 := Lib.hid hb2
      have hw0 := HX0.out.lt
      clear ho5 ho6 hb2
      obtain ⟨P, hP⟩ : ∃ P, P = writesOf n xs := ⟨_, rfl⟩
      have HP := Lib.hid hP
      have HPL : Hid (P.length = ns) := Lib.hid (by rw [hP, writesOf_len]; exact HNS.out.symm)
      clear hP
      have hns20 : ns ≤ 20 := by omega
      have hn4 : n ≤ 4096 := by rw [HN.out]; exact HRUN.out.most
      obtain ⟨W9, hW9⟩ : ∃ W9, W9 = wc := ⟨wc, rfl⟩
      clear hW9 W9
      have HE0 : Hid (Each d P 0 d 0) := Lib.hid (.start HRUN.out HPD.out)
      go_wp2_with fail
      go_loopw [7, 8] (fun s7 s8 wr => To1 w1 w d P g5 g6 s7 s8 wr) (fun _ s8 _ => ns - (intOf s8).toNat)
      case atStart => exact ⟨0, d, 0, Nat.zero_le _, rfl, rfl, HE0.out, HO5.out, HO6.out, HB2.out, by have := HB2.out.size; omega⟩
      case round =>
        obtain ⟨i, x, e, hi, rfl, rfl, he, ho5, ho6, hb, hsz⟩ := hrel
        have HE := Lib.hid he
        have H5 := Lib.hid ho5
        have H6 := Lib.hid ho6
        have HBR := Lib.hid hb
        rw [HPL.out] at hi
        have hex : (i < ns ∧ e = 0) ∨ ((e = 40 ∨ i = ns) ∧ (e = 0 ∨ e = 40)) := by
          rcases he with ⟨h1, _⟩ | ⟨h1, _⟩ <;> omega
        have HEX := Lib.hid hex
        clear he ho5 ho6 hb hex
        rcases HEX.out with ⟨hlt, he0⟩ | ⟨hend, hev⟩
        · subst he0
          obtain ⟨y, hy⟩ : ∃ y, xs[i]? = some y := ⟨_, List.getElem?_eq_getElem (by have := HNS.out; omega)⟩
          obtain ⟨ab, aoff, rfl, hab, hac⟩ := HAV.out.at hy
          have HPY : Hid (P[i]? = some (((y.at'.toNat % n : Nat) : Int), sectorL [[y.byte]])) := Lib.hid (by rw [HP.out]; exact writesOf_get hy)
          have hBW := below_next HB.out HBR.out
          obtain ⟨_, a1, a2'⟩ := hac wr hBW
          have HAC := Lib.hid hac
          have hin : (i : Int) < (ns : Int) := by omega
          have hi0 : (0 : Int) ≤ (i : Int) := by omega
          have hn0 : (0 : Int) < (n : Int) := by omega
          have hmodlt : y.at'.toNat % n < n := Nat.mod_lt _ (by omega)
          have hmod : ((y.at'.toNat : Int)).tmod (n : Int) = ((y.at'.toNat % n : Nat) : Int) := rfl
          have hab0 : (0 : Int) ≤ (y.at'.toNat : Int) := by omega
          have hab1 : (y.at'.toNat : Int) < 256 := by have := y.at'.toNat_lt; omega
          generalize hA : y.at'.toNat = A at a1 hmod hmodlt HPY hab0 hab1
          generalize hK : A % n = K at hmod hmodlt HPY
          clear hA hy hac
          have z0 := HX0.out.row.later HBR.out (i := 0) rfl
          go_wp2_with fail
          go_quiet (fail)
          generalize hW2 : World.drewN wr _ = W2
          have hb : Below wr.heap.size wr W2 := hW2 ▸ below_drewN (Below.refl _ _) _
          clear hW2 z0 a1 a2' hmod hab0 hab1 hn0
          have HB2' := Lib.hid (below_next HBR.out hb)
          have H52 := Lib.hid (H5.out.keep hb)
          have H62 := Lib.hid (H6.out.keep hb)
          have hsz2 := hb.size
          clear hb
          obtain ⟨s5, p5, l5, b5, hr5, hd5⟩ := H52.out
          obtain ⟨⟨sa5, sn5, sc5, rfl⟩, ⟨pa5, pn5, pc5, rfl⟩⟩ := slices_of hd5.rest
          have HR5 := Lib.hid hr5
          have HD5 := Lib.hid hd5
          have hlt5 := hr5.lt
          have hlt6 := H62.out.lt
          clear hr5 hd5
          have hhas : Hid (hasB x.secs.length ((K : Nat) : Int) = true) := Lib.hid (by
            rcases HE.out with ⟨_, _, _, h3, _⟩ | ⟨h, _⟩
            · rw [h3, ← HN.out]; exact has_nat hmodlt
            · simp at h)
          have hwr : Hid (writeD x ((K : Nat) : Int) [y.byte] = (written x ((K : Nat) : Int) [y.byte], 0)) := Lib.hid (by
            rcases HE.out with ⟨_, h1, h2, h3, _⟩ | ⟨h, _⟩
            · exact write_runs _ h1 hhas.out (by simp) (by rw [h2]; simp)
            · simp at h)
          go_upto_region 11 with (fail)
          go_cut [10, 11] (fun s10 s11 wx => WrBox W2 (Not2 g5 g6) (written x ((K : Nat) : Int) [y.byte]) s10 s11 wx)
          case first =>
            have c0 : ∀ W, Below W2.heap.size W2 W → W.cell? ⟨g5, 0, none⟩ = some (.slice sa5 sn5 sc5) := fun W hW => HR5.out.later hW (i := 0) rfl
            have c1 : ∀ W, Below W2.heap.size W2 W → W.cell? ⟨g5, 1, none⟩ = some (.slice pa5 pn5 pc5) := fun W hW => HR5.out.later hW (i := 1) rfl
            have c2 : ∀ W, Below W2.heap.size W2 W → W.cell? ⟨g5, 2, none⟩ = some (.int .i64 l5) := fun W hW => HR5.out.later hW (i := 2) rfl
            have c3 : ∀ W, Below W2.heap.size W2 W → W.cell? ⟨g5, 3, none⟩ = some (.bool b5) := fun W hW => HR5.out.later hW (i := 3) rfl
            have c4 : ∀ W, Below W2.heap.size W2 W → W.cell? ⟨ab, aoff + i * 3 + 2, none⟩ = some (.int .u8 (y.byte.toNat : Int)) := fun W hW => (HAC.out W (below_next HB.out (below_next HB2'.out hW))).2.2
            have RA : Hid (Row ((W2.alloc (.cells #[.int .u8 (y.byte.toNat : Int)] 5)).drew) W2.heap.size 5 (cellsOf [y.byte])) := Lib.hid (row_new W2 5 (cellsOf [y.byte]))
            have RB : Hid (Row (((W2.alloc (.cells #[.int .u8 (y.byte.toNat : Int)] 5)).alloc (.cells #[.slice none 0 0, .slice none 0 0, .int .i64 0, .bool false] 25)).drew) W2.heap.size 5 (cellsOf [y.byte])) := Lib.hid ((row_new W2 5 (cellsOf [y.byte])).keep (below_drew (Joins.below_alloc1 _ _)))
            have RC : Hid (Row (((W2.alloc (.cells #[.slice none 0 0, .slice none 0 0, .int .i64 0, .bool false] 25)).alloc (.cells #[.int .u8 (y.byte.toNat : Int)] 5)).drew) (W2.heap.size + 1) 5 (cellsOf [y.byte])) := Lib.hid (by
              have h := row_new (W2.alloc (.cells #[.slice none 0 0, .slice none 0 0, .int .i64 0, .bool false] 25)) 5 (cellsOf [y.byte])
              rw [World.size_alloc] at h
              exact h)
            have HWR : Hid (∀ W gz, Below W2.heap.size W2 W → Row W gz 5 (cellsOf [y.byte]) → Calls Try.prog 26 #[.agg #[.slice sa5 sn5 sc5, .slice pa5 pn5 pc5, .int .i64 l5, .bool b5], .int .i64 ((K : Nat) : Int), .slice (some ⟨gz, 0, none⟩) 1 1] W (NewDS (Cut (Not2 g5 g6) W2.heap.size) W (written x ((K : Nat) : Int) [y.byte]) 0)) :=
              Lib.hid (fun W gz hW hr => write_lawS (HD5.out.later hW) ((K : Nat) : Int) (row_rest hr (n := 1) rfl (by omega)) hwr.out)
            go_region_held3 (fun W => Below W2.heap.size W2 W) (first | assumption | exact below_drew (Below.refl _ _) | exact below_drew (Joins.below_alloc1 _ _) | exact below_drew (below_two _ _ _) | exact below_next (by assumption) (Joins.below_alloc1 _ _) | exact below4 (by assumption) _ _ _ _ _ (by omega)) (first
              | (go_at_call 26; refine (HWR.out _ _ (by assumption) (by first | with_reducible exact RA.out | with_reducible exact RB.out | with_reducible exact RC.out)).mono ?_; rintro e w4 ⟨s4, p4, l4, b4, rfl, hd4, hb4⟩; obtain ⟨⟨sa4, sn4, sc4, rfl⟩, ⟨pa4, pn4, pc4, rfl⟩⟩ := slices_of hd4.rest; unfold dv; have hB4 : Below W2.heap.size W2 w4 := below_next (by assumption) hb4; (first | (have hbx := box_first hb4; have q0 := hbx.cell (i := 0) rfl; have k0 := hbx.free 0; have q1 := hbx.cell (i := 1) rfl; have k1 := hbx.free 1; have q2 := hbx.cell (i := 2) rfl; have k2 := hbx.free 2; have q3 := hbx.cell (i := 3) rfl; have k3 := hbx.free 3) | (have hbx := box_second hb4; have q0 := hbx.cell (i := 0) rfl; have k0 := hbx.free 0; have q1 := hbx.cell (i := 1) rfl; have k1 := hbx.free 1; have q2 := hbx.cell (i := 2) rfl; have k2 := hbx.free 2; have q3 := hbx.cell (i := 3) rfl; have k3 := hbx.free 3) | skip)))
            all_goals
              go_wp2_with fail
              go_meet
              case rel =>
                first
                  | with_reducible exact wrbox_new hd4 (not2_ge (by omega) (by omega)) (by simp <;> omega) hB4
                  | with_reducible exact wrbox_old hd4 (not2_ge (by omega) (by omega)) hB4 hbx (by omega) (by simp <;> omega)
          case rest =>
            obtain ⟨g10, rfl, rfl, hg10, ho10, hb10⟩ := hcut
            have H53 := Lib.hid (H52.out.keep hb10)
            have H63 := Lib.hid (H62.out.keep hb10)
            have HB3 := Lib.hid (below_next HB2'.out hb10)
            obtain ⟨s10, p10, l10, b10, hr10, hd10⟩ := ho10
            obtain ⟨⟨sa10, sn10, sc10, rfl⟩, ⟨pa10, pn10, pc10, rfl⟩⟩ := slices_of hd10.rest
            have HR10 := Lib.hid hr10
            have HD10 := Lib.hid hd10
            have h10lt := hr10.lt
            have hszc := hb10.size
            clear hr10 hd10 hb10
            obtain ⟨⟨x', e'⟩, hs⟩ : ∃ r, syncD (written x ((K : Nat) : Int) [y.byte]) = r := ⟨_, rfl⟩
            have HST := Lib.hid (HE.out.step HPY.out rfl hhas.out x' e' hs)
            have HS := Lib.hid hs
            clear hs
            go_wp2_with (refine wpList_load_dsk rfl _ rfl _ _ (by rfl) rfl HR10.out ?_)
            refine (sync_lawS HD10.out HS.out).mono ?_
            rintro e w14 ⟨s14, p14, l14, b14, rfl, hd14, hb14⟩
            have HD14 := Lib.hid (hd14.weak (S' := Not2 g5 g6) (fun i h _ => ext_not2 (by omega) (by omega) i h))
            have H54 := Lib.hid (H53.out.keep hb14)
            have H64 := Lib.hid (H63.out.keep hb14)
            have HB4 := Lib.hid (below_next HB3.out hb14)
            obtain ⟨q0, q1, q2, q3, hr54, _⟩ := H54.out
            have HR54 := Lib.hid hr54
            have hsz14 := hb14.size
            clear hd14 hb14 hr54
            unfold dv at *
            go_wp2_with (refine wpList_store_ags rfl _ _ _ rfl g5 [s14, p14, .int .i64 l14, .bool b14] _ size25 (by rfl) rfl rfl HR54.out (one_all HD14.out.rest) HB4.out hg5 ?_; intro w15 hr hb hf; have H55 : Hid (OBox (Not2 g5 g6) w15 g5 x') := Lib.hid ⟨s14, p14, l14, b14, hr, HD14.out.keep (.far g5 (fun h => h.1 rfl) hf)⟩; have H65 := Lib.hid (H64.out.far hf (Ne.symm hg56) (fun h => h.1 rfl)); have HB5 := Lib.hid hb; have hsz5 := hb.size; clear hr hb hf)
            exact ⟨⟨i + 1, x', e', by rw [HPL.out]; omega, rfl, by go_num, HST.out.2, H55.out, H65.out, HB5.out, by omega⟩, by simp [intOf]; omega⟩
        · go_upto_region 8 with (fail)
          go_cut [56] (fun s56 wx => s56 = .bool false ∧ wx = wr)
          case first =>
            have hi0 : (0 : Int) ≤ (i : Int) := by omega
            rcases Nat.lt_or_ge i ns with hlt | hge
            · have h40 : e = 40 := by omega
              subst h40
              have hin : (i : Int) < (ns : Int) := by omega
              go_wp2_with fail
              go_meet
              case rel => exact ⟨rfl, rfl⟩
            · have hin : ¬ (i : Int) < (ns : Int) := by omega
              go_wp2_with fail
              go_meet
              case rel => exact ⟨rfl, rfl⟩
          case rest =>
            obtain ⟨rfl, rfl⟩ := hcut
            have HFIN : Hid (syncOf d.secs P d.left = (x, e)) := Lib.hid (HE.out.stop (by rw [HPL.out]; omega))
            have H6Z : Hid (OBox (Not2 g5 g6) wc g6 (allW d P 0)) := Lib.hid (by rw [allW_zero HPD.out]; exact H6.out)
            have HAR : Hid (∀ j, Runs (allW d P j)) := Lib.hid (fun j => by rw [HP.out]; exact allW_runs HRUN.out HN.out (by have := HNS.out; omega) j)
            have HSZ := Lib.hid hsz
            have HEV := Lib.hid hev
            have HXE := Lib.hid (rfl : (x, e) = (x, e))
            clear hsz hev hend
            go_wp2_with fail
            go_loopw [12] (fun s12 wr => To2 w1 d P g5 g6 x s12 wr) (fun s12 _ => ns - (intOf s12).toNat)
            case atStart => exact ⟨0, Nat.zero_le _, rfl, H5.out, H6Z.out, HBR.out⟩
            case round =>
              obtain ⟨j, hj, rfl, ho5, ho6, hb⟩ := hrel
              have G5 := Lib.hid ho5
              have G6 := Lib.hid ho6
              have HBJ := Lib.hid hb
              rw [HPL.out] at hj
              clear ho5 ho6 hb
              have hszj := HBJ.out.size
              rcases Nat.lt_or_ge j ns with hlt | hge
              · skip
                obtain ⟨y, hy⟩ : ∃ y, xs[j]? = some y := ⟨_, List.getElem?_eq_getElem (by have := HNS.out; omega)⟩
                obtain ⟨ab, aoff, rfl, hab, hac⟩ := HAV.out.at hy
                have HPY : Hid (P[j]? = some (((y.at'.toNat % n : Nat) : Int), sectorL [[y.byte]])) := Lib.hid (by rw [HP.out]; exact writesOf_get hy)
                have HAC := Lib.hid hac
                have hin : (j : Int) < (ns : Int) := by omega
                have hi0 : (0 : Int) ≤ (j : Int) := by omega
                have hn0 : (0 : Int) < (n : Int) := by omega
                have hmodlt : y.at'.toNat % n < n := Nat.mod_lt _ (by omega)
                have hmod : ((y.at'.toNat : Int)).tmod (n : Int) = ((y.at'.toNat % n : Nat) : Int) := rfl
                have hab0 : (0 : Int) ≤ (y.at'.toNat : Int) := by omega
                have hab1 : (y.at'.toNat : Int) < 256 := by have := y.at'.toNat_lt; omega
                generalize hA : y.at'.toNat = A at hmod hmodlt HPY hab0 hab1
                have HA := Lib.hid hA
                generalize hK : A % n = K at hmod hmodlt HPY
                have hwrap : IntKind.i64.wrap ((A : Nat) : Int) = ((A : Nat) : Int) := IntWalk.i64_in _ (by omega)
                have hnz : ¬ n = 0 := by omega
                clear hA hy hac
                have hhas : Hid (hasB (allW d P j).secs.length ((K : Nat) : Int) = true) := Lib.hid (by show hasB d.secs.length _ = true; rw [← HN.out]; exact has_nat hmodlt)
                have hwr : Hid (writeD (allW d P j) ((K : Nat) : Int) [y.byte] = (allW d P (j + 1), 0)) := Lib.hid (by
                  rw [write_runs _ (HAR.out j) hhas.out (by simp) (by show (P.take j).length < 4096; rw [List.length_take, HPL.out]; omega), allW_step HPY.out])
                obtain ⟨s5, p5, l5, b5, hr5, hd5⟩ := G6.out
                obtain ⟨⟨sa5, sn5, sc5, rfl⟩, ⟨pa5, pn5, pc5, rfl⟩⟩ := slices_of hd5.rest
                have HR5 := Lib.hid hr5
                have HD5 := Lib.hid hd5
                have hlt5 := hr5.lt
                have hlt6 := G5.out.lt
                clear hr5 hd5
                go_wp2_with fail
                go_upto_region 18 with (fail)
                go_cut [13, 14] (fun s10 s11 wx => WrBox wr (Not2 g5 g6) (allW d P (j + 1)) s10 s11 wx)
                case first =>
                  have c0 : ∀ W, Below wr.heap.size wr W → W.cell? ⟨g6, 0, none⟩ = some (.slice sa5 sn5 sc5) := fun W hW => HR5.out.later hW (i := 0) rfl
                  have c1 : ∀ W, Below wr.heap.size wr W → W.cell? ⟨g6, 1, none⟩ = some (.slice pa5 pn5 pc5) := fun W hW => HR5.out.later hW (i := 1) rfl
                  have c2 : ∀ W, Below wr.heap.size wr W → W.cell? ⟨g6, 2, none⟩ = some (.int .i64 l5) := fun W hW => HR5.out.later hW (i := 2) rfl
                  have c3 : ∀ W, Below wr.heap.size wr W → W.cell? ⟨g6, 3, none⟩ = some (.bool b5) := fun W hW => HR5.out.later hW (i := 3) rfl
                  have c4 : ∀ W, Below wr.heap.size wr W → W.cell? ⟨ab, aoff + j * 3 + 2, none⟩ = some (.int .u8 (y.byte.toNat : Int)) := fun W hW => (HAC.out W (below_next HB.out (below_next HBJ.out hW))).2.2
                  have c5 : ∀ W, Below wr.heap.size wr W → W.cell? ⟨ab, aoff + j * 3 + 1, none⟩ = some (.int .u8 (A : Int)) := fun W hW => by rw [← HA.out]; exact (HAC.out W (below_next HB.out (below_next HBJ.out hW))).2.1
                  have c6 : ∀ W, Below wr.heap.size wr W → W.cell? ⟨w.heap.size, 0, none⟩ = some (.slice a n cap) := fun W hW => (HX0.out.row.keep HBJ.out).later hW (i := 0) rfl
                  have RA : Hid (Row ((wr.alloc (.cells #[.int .u8 (y.byte.toNat : Int)] 5)).drew) wr.heap.size 5 (cellsOf [y.byte])) := Lib.hid (row_new wr 5 (cellsOf [y.byte]))
                  have RB : Hid (Row (((wr.alloc (.cells #[.int .u8 (y.byte.toNat : Int)] 5)).alloc (.cells #[.slice none 0 0, .slice none 0 0, .int .i64 0, .bool false] 25)).drew) wr.heap.size 5 (cellsOf [y.byte])) := Lib.hid ((row_new wr 5 (cellsOf [y.byte])).keep (below_drew (Joins.below_alloc1 _ _)))
                  have RC : Hid (Row (((wr.alloc (.cells #[.slice none 0 0, .slice none 0 0, .int .i64 0, .bool false] 25)).alloc (.cells #[.int .u8 (y.byte.toNat : Int)] 5)).drew) (wr.heap.size + 1) 5 (cellsOf [y.byte])) := Lib.hid (by
                    have h := row_new (wr.alloc (.cells #[.slice none 0 0, .slice none 0 0, .int .i64 0, .bool false] 25)) 5 (cellsOf [y.byte])
                    rw [World.size_alloc] at h
                    exact h)
                  have HWR : Hid (∀ W gz, Below wr.heap.size wr W → Row W gz 5 (cellsOf [y.byte]) → Calls Try.prog 26 #[.agg #[.slice sa5 sn5 sc5, .slice pa5 pn5 pc5, .int .i64 l5, .bool b5], .int .i64 ((K : Nat) : Int), .slice (some ⟨gz, 0, none⟩) 1 1] W (NewDS (Cut (Not2 g5 g6) wr.heap.size) W (allW d P (j + 1)) 0)) :=
                    Lib.hid (fun W gz hW hr => write_lawS (HD5.out.later hW) ((K : Nat) : Int) (row_rest hr (n := 1) rfl (by omega)) hwr.out)
                  go_region_held3 (fun W => Below wr.heap.size wr W) (first | assumption | exact below_drew (Below.refl _ _) | exact below_drew (Joins.below_alloc1 _ _) | exact below_drew (below_two _ _ _) | exact below_next (by assumption) (Joins.below_alloc1 _ _) | exact below4 (by assumption) _ _ _ _ _ (by omega)) (first
                    | (go_at_call 26; refine (HWR.out _ _ (by assumption) (by first | with_reducible exact RA.out | with_reducible exact RB.out | with_reducible exact RC.out)).mono ?_; rintro e w4 ⟨s4, p4, l4, b4, rfl, hd4, hb4⟩; obtain ⟨⟨sa4, sn4, sc4, rfl⟩, ⟨pa4, pn4, pc4, rfl⟩⟩ := slices_of hd4.rest; unfold dv; have hB4 : Below wr.heap.size wr w4 := below_next (by assumption) hb4; (first | (have hbx := box_first hb4; have q0 := hbx.cell (i := 0) rfl; have k0 := hbx.free 0; have q1 := hbx.cell (i := 1) rfl; have k1 := hbx.free 1; have q2 := hbx.cell (i := 2) rfl; have k2 := hbx.free 2; have q3 := hbx.cell (i := 3) rfl; have k3 := hbx.free 3) | (have hbx := box_second hb4; have q0 := hbx.cell (i := 0) rfl; have k0 := hbx.free 0; have q1 := hbx.cell (i := 1) rfl; have k1 := hbx.free 1; have q2 := hbx.cell (i := 2) rfl; have k2 := hbx.free 2; have q3 := hbx.cell (i := 3) rfl; have k3 := hbx.free 3) | skip)))
                  all_goals
                    go_wp2_with fail
                    go_meet
                    case rel =>
                      first
                        | with_reducible exact wrbox_new hd4 (not2_ge (by omega) (by omega)) (by simp <;> omega) hB4
                        | with_reducible exact wrbox_old hd4 (not2_ge (by omega) (by omega)) hB4 hbx (by omega) (by simp <;> omega)
                case rest =>
                  obtain ⟨g10, rfl, rfl, hg10, ho10, hb10⟩ := hcut
                  have G53 := Lib.hid (G5.out.keep hb10)
                  have G63 := Lib.hid (G6.out.keep hb10)
                  have HB3 := Lib.hid (below_next HBJ.out hb10)
                  obtain ⟨s10, p10, l10, b10, hr10, hd10⟩ := ho10
                  obtain ⟨⟨sa10, sn10, sc10, rfl⟩, ⟨pa10, pn10, pc10, rfl⟩⟩ := slices_of hd10.rest
                  have HR10 := Lib.hid hr10
                  have HD10 := Lib.hid hd10
                  obtain ⟨q0, q1, q2, q3, hr63, _⟩ := G63.out
                  have HR63 := Lib.hid hr63
                  clear hr10 hd10 hb10 hr63
                  go_wp2_with (first
                    | (refine wpList_load_dsk rfl _ rfl _ _ (by rfl) rfl HR10.out ?_)
                    | (refine wpList_store_ags rfl _ _ _ rfl g6 [.slice sa10 sn10 sc10, .slice pa10 pn10 pc10, .int .i64 l10, .bool b10] _ size25 (by rfl) rfl rfl HR63.out (by rfl) HB3.out hg6 ?_; intro w15 hr hb hf; have G65 : Hid (OBox (Not2 g5 g6) w15 g6 (allW d P (j + 1))) := Lib.hid ⟨_, _, _, _, hr, HD10.out.keep (.far g6 (fun h => h.2 rfl) hf)⟩; have G55 := Lib.hid (G53.out.far hf hg56 (fun h => h.2 rfl)); have HB5 := Lib.hid hb; clear hr hb hf))
                  exact ⟨⟨j + 1, by rw [HPL.out]; omega, by go_num, G55.out, G65.out, HB5.out⟩, by simp [intOf]; omega⟩
              · obtain rfl : j = ns := by omega
                have HSY : Hid (syncD (allW d P j) = (x, e)) := Lib.hid (by rw [allW_sync (HAR.out j) HPL.out.symm]; exact HFIN.out)
                obtain ⟨s6, p6, l6, b6, hr6, hd6⟩ := G6.out
                have HR6 := Lib.hid hr6
                have HD6 := Lib.hid hd6
                have hlt5 := G5.out.lt
                have hlt6 := hr6.lt
                have hnlt : ¬ (j : Int) < (j : Int) := by omega
                clear hr6 hd6
                go_wp2_with (refine wpList_load_dsk rfl _ rfl _ _ (by rfl) rfl HR6.out ?_)
                refine (sync_lawS HD6.out HSY.out).mono ?_
                rintro e22 w14 ⟨s14, p14, l14, b14, rfl, hd14, hb14⟩
                have HD14 := Lib.hid (hd14.weak (S' := Not2 g5 g6) (fun i h _ => ext_not2 (by omega) (by omega) i h))
                have G54 := Lib.hid (G5.out.keep hb14)
                have HR64 := Lib.hid (HR6.out.keep hb14)
                have HB4 := Lib.hid (below_next HBJ.out hb14)
                clear hd14 hb14
                unfold dv at *
                obtain ⟨⟨sa, sn, sc, rfl⟩, ⟨pa, pn, pc, rfl⟩⟩ := slices_of HD14.out.rest
                obtain ⟨s5, p5, l5, b5, hr5, hd5⟩ := G54.out
                have HR5 := Lib.hid hr5
                have HD5 := Lib.hid hd5
                clear hr5 hd5
                go_wp2_with (refine wpList_store_ags rfl _ _ _ rfl g6 [.slice sa sn sc, .slice pa pn pc, .int .i64 l14, .bool b14] _ size25 (by rfl) rfl rfl HR64.out (by rfl) HB4.out hg6 ?_; intro w15 hr hb hf; have HD15 := Lib.hid ((HD14.out.keep (.far g6 (fun h => h.2 rfl) hf)).rest); have HD55 := Lib.hid ((HD5.out.keep (.far g6 (fun h => h.2 rfl) hf)).rest); have hr5 := (hf g5 hg56).trans HR5.out; have y0 := Row.cell hr5 (i := 0) rfl; have y1 := Row.cell hr5 (i := 1) rfl; have y2 := Row.cell hr5 (i := 2) rfl; have y3 := Row.cell hr5 (i := 3) rfl; have z0 := hr.cell (i := 0) rfl; have z1 := hr.cell (i := 1) rfl; have z2 := hr.cell (i := 2) rfl; have z3 := hr.cell (i := 3) rfl; have HB5 := Lib.hid hb; clear hr hb hf hr5)
                have hsm := same_law HD55.out HD15.out
                unfold dv at hsm
                refine hsm.mono ?_
                rintro e23 w16 ⟨rfl, hb⟩
                go_wp2_with fail
                go_ret
                exact ⟨rfl, below_next (below_next HB.out HB5.out) hb⟩
  · skip
    have c3 := HX0.out.row.cell (i := 3) rfl
    rw [hst] at c3
    go_wp2_with fail
    go_ret
    exact ⟨rfl, HB.out⟩
end Go.Proofs.Ytlaaolbdadempaa
