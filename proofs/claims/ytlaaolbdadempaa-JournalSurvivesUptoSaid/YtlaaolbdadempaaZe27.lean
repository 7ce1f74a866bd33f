/- JournalSurvives: the walk. -/
import Derived.Deep.DeepCutAuto
import Derived.Test.YtlaaolbdadempaaZe25
import Derived.Test.YtlaaolbdadempaaZe20
import Derived.Test.YtlaaolbdadempaaZe23
import Derived.Test.YtlaaolbdadempaaZe26
import Derived.Test.YtlaaolbdadempaaZe14
namespace Go.Proofs.Ytlaaolbdadempaa
open Go.RowKit

theorem jcut1 {A : Type} {F : A → Prop} (G : A → Prop) {R : Prop} (rest : (∀ a, F a → G a) → R) (kk : ∀ a, F a → G a) : R := rest kk
set_option maxHeartbeats 8000000 in
set_option maxRecDepth 100000 in
theorem jsurv_walk (xs : List Crash3) (v : Value) (sec : Nat) (w : World) (h : CRest w.heap.size w xs v) (hlen : ∀ c ∈ xs, ∀ x ∈ c.recs, x.length ≤ 2000000) (hnum : ∀ c ∈ xs, c.recs.length ≤ 2000000) (hs8 : sec < 256) :
    Calls Try.prog 13 #[.int .u8 (sec : Int), v] w fun e w' => e = .returned (.bool true) ∧ Below w.heap.size w w' := by
  obtain ⟨ra, rc, rfl, hrc9, hrc⟩ := h.shape
  have HX := Lib.hid h
  have HB := Lib.hid (Below.refl w.heap.size w)
  have HLEN := Lib.hid hlen
  have HNUM := Lib.hid hnum
  obtain ⟨M, hM⟩ : ∃ M, M = xs.length := ⟨_, rfl⟩
  rw [← hM] at HX hrc ⊢
  have HM := Lib.hid hM
  obtain ⟨n, hn⟩ : ∃ n, n = sec % 30 + 1 := ⟨_, rfl⟩
  have hn1 : 1 ≤ n := by omega
  have hn2 : n ≤ 30 := by omega
  have hrem : ((sec : Int)).tmod 30 = ((n - 1 : Nat) : Int) := by rw [Int.tmod_eq_emod_of_nonneg (by omega)]; omega
  have HNN := Lib.hid hn
  clear h hlen hnum hM hn
  go_enter Try.func13, Try.ntmps13
  go_wp2_with fail
  refine (jsane_call _).mono ?_
  rintro e wS ⟨rfl, hb⟩
  replace HB := Lib.hid (below_next HB.out hb)
  clear hb
  by_cases h8 : 8 < M
  · go_wp2_with fail
    go_ret
    exact ⟨rfl, HB.out⟩
  go_wp2_with fail
  have hsn : ((n - 1 : Nat) : Int) + 1 = (n : Int) := by omega
  rw [hsn, show decide ((8 : Int) < (M : Int)) = false by simp; omega]
  clear hsn hrem
  refine (new_law (n : Int) (new_dN (n := n) (by omega) (by omega))).mono ?_
  rintro e w1 ⟨s1, p1, l1, b1, rfl, hd, hb⟩
  replace HB := Lib.hid (below_next HB.out hb)
  obtain ⟨⟨sa1, sn1, sc1, rfl⟩, ⟨pa1, pn1, pc1, rfl⟩⟩ := slices_of hd
  obtain ⟨rfl, rfl, _, _⟩ := drest_left hd
  have HD1 := Lib.hid hd
  have HW1 : Hid (w.heap.size ≤ w1.heap.size) := Lib.hid HB.out.size
  clear hd hb
  unfold dv at *
  go_upto_region 10 with ((first
    | (refine wpList_store_ags rfl _ _ _ rfl w1.heap.size [.slice sa1 sn1 sc1, .slice pa1 pn1 pc1, .int .i64 (dN n).left, .bool (dN n).stop] _ size25 (by rfl) rfl rfl (row_new w1 25 _) (one_all HD1.out) (Joins.below_alloc1 w1 _) (Nat.le_refl _) ?_; intro v1 hr hb _; replace HB := Lib.hid (below_next HB.out hb); have HX1 := Lib.hid (Box.new HD1.out hr hb); have HDS := Lib.hid (((DRestS.of HD1.out).weak (S' := fun b => b ≠ w1.heap.size) (fun b h1 _ => Nat.ne_of_lt h1)).keep (w' := v1) (fun b _ h2 => hb.block b h2)); clear hr hb HD1)))
  have HS0 : Hid (SvI w w1.heap.size n 0 (dN n) (.slice sa1 sn1 sc1) (.slice pa1 pn1 pc1) (.slice none 0 0) v1) := Lib.hid (svI_new hn1 (by omega) HX1.out HDS.out HW1.out HB.out)
  clear HX1 HDS HB
  go_loopw [7, 40] (fun s7 s40 wr => SvHead w w1.heap.size n M s7 s40 wr) (fun _ s40 _ => M - (intOf s40).toNat)
  case atStart => exact ⟨0, 0, _, _, _, Nat.zero_le _, Nat.le_refl _, rfl, HS0.out⟩
  case round =>
    obtain ⟨k, G, d, s, p, hk, hG, rfl, hi⟩ := hrel
    obtain ⟨⟨sa, sn, sc, rfl⟩, ⟨pa, pn, pc, rfl⟩⟩ := slices_of hi.disk.rest
    obtain ⟨ka, kc, rfl⟩ := nrest_slice hi.kept.rest
    have HI := Lib.hid hi
    have HG := Lib.hid hG
    clear hi hG
    rcases Nat.lt_or_ge k M with hlt | hge
    · obtain ⟨c, hc⟩ : ∃ c, xs[k]? = some c := ⟨_, List.getElem?_eq_getElem (by rw [← HM.out]; exact hlt)⟩
      obtain ⟨cb, coff, u, hcbo, hcb, hru, hcell⟩ := HX.out.at hc
      obtain rfl := hcbo
      obtain ⟨a0, a1, a2⟩ := hcell wr HI.out.bel
      obtain ⟨ua, uc, rfl⟩ := nrest_slice hru
      have HCL : Hid (∀ x ∈ c.recs, x.length ≤ 2000000) := Lib.hid (HLEN.out c (List.mem_of_getElem? hc))
      have HCN : Hid (c.recs.length ≤ 2000000) := Lib.hid (HNUM.out c (List.mem_of_getElem? hc))
      have HRU : Hid (NRest w.heap.size wr c.recs (.slice ua c.recs.length uc)) := Lib.hid (hru.stays HI.out.bel)
      obtain ⟨R, hR⟩ : ∃ R, R = c.recs := ⟨_, rfl⟩
      obtain ⟨sp, hsp⟩ : ∃ b, b = c.stop := ⟨_, rfl⟩
      obtain ⟨lf, hlf⟩ : ∃ b, b = c.left.toNat := ⟨_, rfl⟩
      have hlf8 : lf < 256 := by have := c.left.toNat_lt; omega
      rw [← hR] at HCL HCN HRU a0
      rw [← hsp] at a1
      rw [← hlf] at a2
      obtain ⟨rn, hrn⟩ : ∃ rn, rn = R.length := ⟨_, rfl⟩
      rw [← hrn] at HCN HRU a0
      have HRN := Lib.hid hrn
      clear hc hcell hru hR hsp hlf hrn
      have hki : (k : Int) < (M : Int) := by omega
      have hk0 : (0 : Int) ≤ (k : Int) := by omega
      obtain ⟨W2, hW2⟩ : ∃ W2, W2 = wr.alloc (.cells #[.slice ua rn uc, .bool sp, .int .u8 (lf : Int)] 68) := ⟨_, rfl⟩
      have hb2 : Below wr.heap.size wr W2 := by rw [hW2]; exact Joins.below_alloc1 wr _
      have hr2 : Row W2 wr.heap.size 68 [.slice ua rn uc, .bool sp, .int .u8 (lf : Int)] := by rw [hW2]; exact row_new wr 68 _
      have HI2 := Lib.hid (HI.out.keep hb2)
      have HC2 := Lib.hid hr2
      have HRU2 : Hid (NRest w.heap.size W2 R (.slice ua rn uc)) := Lib.hid (HRU.out.stays (hb2.mono (by have := HI.out.bel.size; omega)))
      have HSZ2 : Hid (w.heap.size ≤ W2.heap.size) := Lib.hid HI2.out.bel.size
      have HW2 := Lib.hid hW2
      have hlt2 := hr2.lt
      clear hb2 hr2 hW2
      go_upto_region 12 with (fail)
      rw [← HW2.out]
      clear a0 a1 a2
      have m0 := HC2.out.cell (i := 0) rfl
      go_wp2_with (first
        | (refine wpList_load_dsk rfl (.tmp 5) rfl w1.heap.size _ (by rfl) rfl HI2.out.row ?_))
      refine (jfew_call R _ _ _ _ _ _ _ _ _ W2 (HRU2.out.mono HSZ2.out)).mono ?_
      rintro e w3 ⟨r, rfl, hb⟩
      replace HI2 := Lib.hid (HI2.out.keep hb)
      replace HC2 := Lib.hid (HC2.out.keep hb)
      replace HRU2 := Lib.hid (HRU2.out.stays (hb.mono HSZ2.out))
      have hs3 := hb.size
      clear hb m0
      cases r
      · go_wp2_with fail
        go_ret
        exact ⟨rfl, HI2.out.bel⟩
      have HOP : Hid (openJ d = (⟨recsL d.secs, d.secs.length, (recsL d.secs).length⟩, 0)) := Lib.hid HI2.out.fine.opens
      have HDL : Hid (d.secs.length = n) := Lib.hid HI2.out.len
      obtain ⟨kn, hkn⟩ : ∃ kn, kn = (recsL d.secs).length := ⟨_, rfl⟩
      have HKN := Lib.hid hkn
      rw [← hkn] at HOP
      rw [HDL.out] at HOP
      rw [← hkn]
      clear hkn
      have HG1 : Hid (w1.heap.size < w3.heap.size) := Lib.hid HI2.out.lt
      have HRI : Hid (RdI w w1.heap.size wr.heap.size n G d (.slice sa sn sc) (.slice pa pn pc) (.slice ka kn kc) R (.slice ua rn uc) sp lf w3) := Lib.hid ⟨by rw [HKN.out]; exact HI2.out, HC2.out, HRU2.out, HI.out.lt⟩
      have HFI : Hid (Fine d G) := Lib.hid HI2.out.fine
      clear HI2 HC2 HRU2 hs3 HSZ2
      go_upto_region 15 with ((first
        | (refine wpList_load_dsk rfl (.tmp 5) rfl w1.heap.size _ (by rfl) rfl HRI.out.sv.row ?_)
        | (go_at_call 38; refine (open_lawS HRI.out.sv.disk HOP.out).mono ?_; rintro e w4 ⟨jv4, rfl, hn, hb⟩; obtain ⟨ja4, jc4, rfl⟩ := nrests_sliceS hn; rw [← HKN.out]; rw [← HKN.out] at hn; have HN4 := Lib.hid (nrests_out hn HG1.out); replace HRI := Lib.hid (HRI.out.keep hb); clear hn hb)
        | (refine wpList_store_ags rfl 55 (.tmp 10) _ rfl w4.heap.size [.slice ja4 kn jc4, .int .i64 (n : Int), .int .i64 (kn : Int)] _ size55 (by rfl) rfl rfl (row_new w4 55 _) (by rfl) (Joins.below_alloc1 w4 _) (Nat.le_refl _) ?_; intro w5 hr hb hf; have HJ := Lib.hid (jnI_new (HRI.out.sv.lt) HN4.out hr hb); have HRI4 := Lib.hid HRI.out; replace HRI := Lib.hid (HRI.out.keep hb); clear hr hb hf HN4)))
      have HSR : Hid (∀ W, Below w5.heap.size w5 W → Calls Try.prog 49 #[.slice ja4 kn jc4, .slice ka kn kc] W fun e w' => e = .returned (.bool true) ∧ Below W.heap.size W w') := Lib.hid (fun W hW => by
        have h1 := HRI.out.sv.kept.rest
        have h4 := samerec_call (recsL d.secs) (recsL d.secs) _ _ W (HJ.out.rest.rest.keep hW) (h1.keep hW)
        rwa [decide_eq_true rfl] at h4)
      have c0 := HJ.out.row.cell (i := 0) rfl
      have c2 := HJ.out.row.cell (i := 2) rfl
      go_wp2_with (first
        | (go_at_call 49; refine (HSR.out _ (Below.refl _ _)).mono ?_; rintro e w6 ⟨rfl, hb6⟩; have m6 := (HRI.out.keep hb6).crash.cell (i := 0) rfl))
      have HJ6 := Lib.hid (HJ.out.keep hb6)
      have hrn6 : (rn : Int) ≤ 2000000 := by have := HCN.out; omega
      clear hb6 m6 c0 c2 HSR HJ HRI
      have HNU : Hid (usedL (recsL d.secs) ≤ n) := Lib.hid (by rw [← HDL.out]; exact used_le _)
      have HKL : Hid (kn = (recsL d.secs).length) := HKN
      have hn2' : n ≤ 30 := hn2
      clear HI
      generalize wr.heap.size = gc at *
      go_loopw [74] (fun s74 wr => SaHead w1.heap.size w4.heap.size w4 n (kn : Int) (recsL d.secs) R rn s74 wr) (fun s74 _ => rn - (intOf s74).toNat)
      case atStart => exact ⟨0, _, by omega, rfl, by rw [List.take_zero]; exact HJ6.out⟩
      case round =>
        obtain ⟨q, vj, hq, rfl, hj⟩ := hrel
        obtain ⟨ja, jc, rfl⟩ := nrests_sliceS hj.rest
        have HJ := Lib.hid hj
        have HRQ := Lib.hid (HRI4.out.keep hj.below)
        clear hj
        rcases Nat.lt_or_ge q rn with hlt2 | hge2
        · obtain ⟨bq, hbq⟩ : ∃ b, R[q]? = some b := ⟨_, List.getElem?_eq_getElem (by rw [← HRN.out]; exact hlt2)⟩
          have HBL : Hid (bq.length ≤ 1000000000000) := Lib.hid (by have := HCL.out bq (List.mem_of_getElem? hbq); omega)
          have HSN := Lib.hid (addsR_snoc (m := n) (r := recsL d.secs) hbq)
          have HUS : Hid (usedL (addsR n (recsL d.secs) (R.take q)) ≤ n) := Lib.hid (addsR_used _ HNU.out)
          have HJK : Hid (jokB ⟨addsR n (recsL d.secs) (R.take q), (n : Int), (kn : Int)⟩ = true) := Lib.hid (jok_of hn1 (by omega) (by omega) (by rw [HKL.out]; have := addsR_len (m := n) (R.take q) (recsL d.secs); omega) HUS.out)
          obtain ⟨rb, ro, ru, hua, hrb, hru, hrc⟩ := HRQ.out.recs.at hbq
          obtain rfl := hua
          have HBV : Hid (Rest wr.heap.size wr bq ru) := Lib.hid (hru.mono HRQ.out.sv.bel.size)
          have m0 := hrc wr (Below.refl _ _)
          obtain ⟨ra3, rc3, rfl⟩ : ∃ a c, ru = .slice a bq.length c := by obtain ⟨a, c, h, _⟩ := hru; exact ⟨a, c, h⟩
          obtain ⟨bl, hbl⟩ : ∃ bl, bl = bq.length := ⟨_, rfl⟩
          rw [← hbl] at m0 HBV
          have hqi : (q : Int) < (rn : Int) := by omega
          have hgj : w4.heap.size < wr.heap.size := HJ.out.lt
          have hgg : w1.heap.size < w4.heap.size := HJ.out.gap
          clear hru hrc hbq hbl
          generalize addsR n (recsL d.secs) (R.take q) = A at *
          obtain ⟨an, han⟩ : ∃ an, an = A.length := ⟨_, rfl⟩
          rw [← han] at HJ
          have HAN := Lib.hid han
          clear han
          rcases add_one HJK.out bq with ⟨hap, had⟩ | ⟨hap, had⟩
          · have HAP := Lib.hid hap
            have HAD := Lib.hid had
            clear hap had
            go_wp2_with (first
              | (refine wpList_load_jnl rfl (.tmp 10) rfl w4.heap.size _ rfl rfl HJ.out.row ?_)
              | (go_at_call 41; refine (append_lawS HJ.out.rest HBV.out (mild_used (by have := HUS.out; omega)) (by have := HBL.out; omega) HAP.out).mono ?_; rintro e w7 ⟨v7, rfl, hn7, hb7⟩; obtain ⟨a7, c7, rfl⟩ := nrests_sliceS hn7; obtain ⟨ln, hln⟩ : ∃ ln, ln = (A ++ [bq]).length := ⟨_, rfl⟩; rw [← hln] at hn7 ⊢; have HJ7 := Lib.hid (HJ.out.keep hb7); have HN7 := Lib.hid (nrests_out2 hn7 hgg hgj); have hs7 := hb7.size; clear hn7 hb7 hln)
              | (refine wpList_store_ags rfl 55 (.tmp 14) _ rfl w7.heap.size [.slice a7 ln c7, .int .i64 (n : Int), .int .i64 (kn : Int)] _ size55 (by rfl) rfl rfl (row_new w7 55 _) (by rfl) (Joins.below_alloc1 w7 _) (Nat.le_refl _) ?_; intro w8 hr8 hb8 hf8; have HR8 := Lib.hid hr8; have HJ8 := Lib.hid (HJ7.out.keep hb8); have HN8 := Lib.hid (HN7.out.keep (.below hb8)); clear hr8 hb8 hf8)
              | (refine wpList_load_jnl rfl (.tmp 14) rfl w7.heap.size _ rfl rfl HR8.out ?_)
              | (refine wpList_store_ags rfl 55 (.tmp 10) _ rfl w4.heap.size [.slice a7 ln c7, .int .i64 (n : Int), .int .i64 (kn : Int)] _ size55 (by rfl) rfl rfl HJ8.out.row (by rfl) (Below.refl w4.heap.size _) (Nat.le_refl _) ?_; intro w9 hr9 hb9 hf9; have HJ9 := Lib.hid (HJ8.out.store HN8.out hr9 hb9 hf9); clear hr9 hb9 hf9))
            first
              | exact ⟨⟨q + 1, _, by omega, by go_num, by rw [HSN.out, HAD.out]; exact HJ9.out⟩, by simp [intOf]; omega⟩
              | (go_roundw; (case rel => exact ⟨q + 1, _, by omega, by go_num, by rw [HSN.out, HAD.out]; exact HJ9.out⟩); (case measure => simp [intOf]; omega))
          · have HAP := Lib.hid hap
            have HAD := Lib.hid had
            clear hap had
            go_wp2_with (first
              | (refine wpList_load_jnl rfl (.tmp 10) rfl w4.heap.size _ rfl rfl HJ.out.row ?_)
              | (go_at_call 41; refine (append_lawS HJ.out.rest HBV.out (mild_used (by have := HUS.out; omega)) (by have := HBL.out; omega) HAP.out).mono ?_; rintro e w7 ⟨v7, rfl, hn7, hb7⟩; obtain ⟨a7, c7, rfl⟩ := nrests_sliceS hn7; have HJ7 := Lib.hid (HJ.out.keep hb7); have hs7 := hb7.size; clear hn7 hb7)
              | (refine wpList_store_ags rfl 55 (.tmp 14) _ rfl w7.heap.size [.slice a7 ([] : List (List UInt8)).length c7, .int .i64 0, .int .i64 0] _ size55 (by rfl) rfl rfl (row_new w7 55 _) (by rfl) (Joins.below_alloc1 w7 _) (Nat.le_refl _) ?_; intro w8 hr8 hb8 hf8; have HJ8 := Lib.hid (HJ7.out.keep hb8); clear hr8 hb8 hf8))
            first
              | exact ⟨⟨q + 1, _, by omega, by go_num, by rw [HSN.out, HAD.out]; exact HJ8.out⟩, by simp [intOf]; omega⟩
              | (go_roundw; (case rel => exact ⟨q + 1, _, by omega, by go_num, by rw [HSN.out, HAD.out]; exact HJ8.out⟩); (case measure => simp [intOf]; omega))
        · obtain rfl : q = rn := by omega
          have HT : Hid (R.take q = R) := Lib.hid (by rw [HRN.out]; exact List.take_length)
          rw [HT.out] at HJ
          obtain ⟨ws, hws⟩ := addsR_pre (m := n) R (recsL d.secs)
          have HWS := Lib.hid hws
          have HAU : Hid (usedL (addsR n (recsL d.secs) R) ≤ n) := Lib.hid (addsR_used _ HNU.out)
          have HAK : Hid (kn ≤ (addsR n (recsL d.secs) R).length) := Lib.hid (by rw [HKL.out]; exact addsR_len _ _)
          have HPH : Hid (PhI w w1.heap.size w4.heap.size gc G d.secs d (.slice sa sn sc) (.slice pa pn pc) (-1) false (addsR n (recsL d.secs) R) n kn (.slice ja (addsR n (recsL d.secs) R).length jc) (.slice ua q uc) sp lf wr) := Lib.hid ⟨dkI_of HRI4.out.sv HJ.out.below, HJ.out.row, HJ.out.rest, HRQ.out.crash, HJ.out.gap, HRQ.out.gap⟩
          clear hws
          generalize addsR n (recsL d.secs) R = A at *
          obtain ⟨al, hal⟩ : ∃ al, al = A.length := ⟨_, rfl⟩
          rw [← hal] at HPH HAK
          have HAL := Lib.hid hal
          have hak := HAK.out
          have hak1 : ¬ (al : Int) < (kn : Int) := by omega
          have hak2 : ¬ al < kn := by omega
          clear hal HJ
          have c0 := HPH.out.row.cell (i := 0) rfl
          have m1 := HPH.out.crash.cell (i := 1) rfl
          have m2 := HPH.out.crash.cell (i := 2) rfl
          obtain ⟨lm, hlm⟩ : ∃ lm, lm = lf % 40 := ⟨_, rfl⟩
          have hlm2 : lm < 40 := by omega
          have hlt40 : ((lf : Int)).tmod 40 = (lm : Int) := by rw [Int.tmod_eq_emod_of_nonneg (by omega)]; omega
          have HST := Lib.hid (fine_stop HFI.out (n := (lm : Int)) (by omega) (by omega))
          clear hlm
          go_upto_if 95 with (fail)
          have hg4 : w4.heap.size < wr.heap.size := HPH.out.row.lt
          have HSL : Hid (d.left = -1) := Lib.hid HRQ.out.sv.left
          go_cut [] (fun wc => ∃ (d1 : Dsk) (s1 p1 : Value) (dl : Int) (db : Bool), PhI w w1.heap.size w4.heap.size gc G d.secs d1 s1 p1 dl db A (n : Int) (kn : Int) (.slice ja al jc) (.slice ua q uc) sp lf wc ∧ (sp = false → d1.left = -1))
          case first =>
            cases sp
            · go_wp2_with fail
              go_meet
              case rel => exact ⟨d, _, _, _, _, HPH.out, fun _ => HSL.out⟩
            · go_wp2_with (first
                | (refine wpList_load_dsk rfl (.tmp 5) rfl w1.heap.size _ (by rfl) rfl HPH.out.dk.row ?_)
                | (go_at_call 32; refine (stops_lawS HPH.out.dk.disk HST.out.1).mono ?_; rintro e w8 ⟨s8, p8, rfl, hd8, hb8⟩; obtain ⟨⟨sa8, sn8, sc8, rfl⟩, ⟨pa8, pn8, pc8, rfl⟩⟩ := slices_of hd8.rest; have HD8 := Lib.hid (drests_out2 hd8 HPH.out.gap hg4); have HP8 := Lib.hid (HPH.out.keep hb8); clear hd8 hb8)
                | (refine wpList_store_ags rfl 25 (.tmp 5) _ rfl w1.heap.size [.slice sa8 sn8 sc8, .slice pa8 pn8 pc8, .int .i64 (lm : Int), .bool d.stop] _ size25 (by rfl) rfl rfl HP8.out.dk.row (by rfl) (Below.refl w1.heap.size _) (Nat.le_refl _) ?_; intro w9 hr9 hb9 hf9; have HP9 := Lib.hid (HP8.out.store HD8.out hr9 hb9 hf9 HST.out.2 rfl); clear hr9 hb9 hf9))
              go_meet
              case rel => exact ⟨_, _, _, _, _, HP9.out, fun h => by cases h⟩
          case rest =>
            obtain ⟨d1, s1, p1, dl, db, hp, hsp⟩ := hcut
            obtain ⟨⟨s1a, s1n, s1c, rfl⟩, ⟨p1a, p1n, p1c, rfl⟩⟩ := slices_of hp.dk.disk.rest
            have HP := Lib.hid hp
            have HSP := Lib.hid hsp
            have hg5 : w4.heap.size < wc.heap.size := hp.row.lt
            have hro := round_ok hp.dk.fine (by have := HG.out; omega) (recs := A) (ws := ws) (by rw [hp.dk.secs]; exact HWS.out) (by rw [hp.dk.secs, HDL.out]; exact HAU.out) (kn : Int) (by rw [hp.dk.secs, ← HKL.out])
            have hds : d1.secs.length = n := by rw [hp.dk.secs, HDL.out]
            have HKK := Lib.hid hlt
            have hp9 : recsL d1.secs = recsL d.secs := by rw [hp.dk.secs]
            clear hp hsp c0 m1 m2 HPH HRQ hak hak1 hak2
            rcases hro with ⟨y, hsy, hfi, hln, hho⟩ | ⟨y, m, hleft, hsy, hfi, hln, hfew, hho⟩
            · rw [hds] at hsy hln
              have HSY := Lib.hid hsy
              have HFY := Lib.hid hfi
              have HLN := Lib.hid hln
              have HHO := Lib.hid hho
              clear hsy hfi hln hho hds
              go_wp2_with (first
                | (refine wpList_load_jnl rfl (.tmp 10) rfl w4.heap.size _ rfl rfl HP.out.row ?_)
                | (refine wpList_load_dsk rfl (.tmp 5) rfl w1.heap.size _ (by rfl) rfl HP.out.dk.row ?_)
                | (go_at_call 47; refine (sync_lawS HP.out.rest (mild_used (by have := HAU.out; omega)) HP.out.dk.disk HSY.out).mono ?_; rintro e w10 ⟨v10, ds10, dp10, dl10, db10, rfl, hn, hd, hb⟩; obtain ⟨a10, c10, rfl⟩ := nrests_sliceS hn; obtain ⟨⟨sa10, sn10, sc10, rfl⟩, ⟨pa10, pn10, pc10, rfl⟩⟩ := slices_of hd.rest; rw [← HAL.out]; rw [← HAL.out] at hn; have HN10 := Lib.hid (nrests_out2 hn HP.out.gap hg5); have HD10 := Lib.hid (drests_out2 hd HP.out.gap hg5); have HP10 := Lib.hid (HP.out.keep hb); clear hn hd hb)
                | (refine wpList_store_ags rfl 55 (.tmp 16) _ rfl w10.heap.size [.slice a10 al c10, .int .i64 (n : Int), .int .i64 (al : Int)] _ size55 (by rfl) rfl rfl ((row_new w10 55 _).keep (Joins.below_alloc1 _ _)) (by rfl) (below_next (Joins.below_alloc1 w10 _) (Joins.below_alloc1 _ _)) (Nat.le_refl _) ?_; intro w11 hr11 hb11 hf11; have HR11 := Lib.hid hr11; have HB11 := Lib.hid hb11; have hr17 : Row w11 (w10.heap.size + 1) 25 [.slice none 0 0, .slice none 0 0, .int .i64 0, .bool false] := (hf11 (w10.heap.size + 1) (by omega)).trans (by have := row_new (w10.alloc (.cells #[.slice none 0 0, .int .i64 0, .int .i64 0] 55)) 25 [.slice none 0 0, .slice none 0 0, .int .i64 0, .bool false]; rwa [World.size_alloc] at this); clear hr11 hb11 hf11)
                | (refine wpList_store_ags rfl 25 (.tmp 17) _ rfl (w10.heap.size + 1) [.slice sa10 sn10 sc10, .slice pa10 pn10 pc10, .int .i64 dl10, .bool db10] _ size25 (by rfl) rfl rfl hr17 (by rfl) HB11.out (by omega) ?_; intro w12 hr12 hb12 hf12; have HR16 : Hid (Row w12 w10.heap.size 55 [.slice a10 al c10, .int .i64 (n : Int), .int .i64 (al : Int)]) := Lib.hid ((hf12 _ (by omega)).trans HR11.out); have HR17 := Lib.hid hr12; have HP12 := Lib.hid (HP10.out.keep hb12); have HN12 := Lib.hid (HN10.out.keep (.below hb12)); have HD12 := Lib.hid (HD10.out.keep (.below hb12)); have e0 := HR16.out.cell (i := 0) rfl; have e2 := HR16.out.cell (i := 2) rfl; have f0 := HP12.out.row.cell (i := 0) rfl; clear hr12 hb12 hf12 hr17))
              refine (show Calls Try.prog 49 #[.slice a10 al c10, .slice ja al jc] w12 fun e w' => e = .returned (.bool true) ∧ Below w12.heap.size w12 w' from by
                have h4 := samerec_call A A _ _ w12 HN12.out.rest HP12.out.rest.rest
                rwa [decide_eq_true rfl] at h4).mono ?_
              rintro e w13 ⟨rfl, hb13⟩
              have HP13 := Lib.hid (HP12.out.keep hb13)
              have HD13 := Lib.hid (HD12.out.keep (.below hb13))
              have HR13 := Lib.hid (HR17.out.keep hb13)
              have f1 := HP13.out.row.cell (i := 0) rfl
              have hg13 : w4.heap.size < w13.heap.size := HP13.out.row.lt
              clear e0 e2 f0 hb13
              go_wp2_with (first
                | (refine wpList_load_dsk rfl (.tmp 17) rfl (w10.heap.size + 1) _ (by rfl) rfl HR13.out ?_)
                | (go_at_call 24; refine (restarts_lawS HD13.out).mono ?_; rintro e w14 ⟨s14, p14, rfl, hd14, hb14⟩; obtain ⟨⟨sa14, sn14, sc14, rfl⟩, ⟨pa14, pn14, pc14, rfl⟩⟩ := slices_of hd14.rest; have HD14 := Lib.hid (drests_out2 hd14 HP13.out.gap hg13); have HP14 := Lib.hid (HP13.out.keep hb14); clear hd14 hb14)
                | (refine wpList_store_ags rfl 25 (.tmp 5) _ rfl w1.heap.size [.slice sa14 sn14 sc14, .slice pa14 pn14 pc14, .int .i64 (-1), .bool false] _ size25 (by rfl) rfl rfl HP14.out.dk.row (by rfl) (Below.refl w1.heap.size _) (Nat.le_refl _) ?_; intro w15 hr15 hb15 hf15; have HI15 := Lib.hid (HP14.out.next (vk := .slice ja al jc) (N := n) (d' := restartD y) HD14.out (by show NRestS _ _ (recsL y.secs) _; rw [HHO.out]; exact HP14.out.rest) hr15 hb15 hf15 rfl HFY.out HLN.out); clear hr15 hb15 hf15))
              first
                | exact ⟨⟨k + 1, G + 1, restartD y, _, _, by have := HKK.out; omega, by have := HG.out; omega, by go_num, HI15.out⟩, by have := HKK.out; simp [intOf]; omega⟩
                | (go_roundw; (case rel => exact ⟨k + 1, G + 1, restartD y, _, _, by have := HKK.out; omega, by have := HG.out; omega, by go_num, HI15.out⟩); (case measure => have := HKK.out; simp [intOf]; omega))
            · rw [hds] at hsy hln
              have HSY : Hid (syncJ ⟨A, (n : Int), (kn : Int)⟩ d1 = (⟨[], 0, 0⟩, y, 40)) := Lib.hid hsy
              have HFY := Lib.hid hfi
              have HLN := Lib.hid hln
              obtain rfl : sp = true := by
                cases sp with
                | false => exact absurd (HSP.out rfl) hleft
                | true => rfl
              rw [hp9] at hho
              have HHO := Lib.hid hho
              have HFW := Lib.hid hfew
              clear hsy hfi hln hho hds hleft hfew
              obtain ⟨zl, hzl⟩ : ∃ zl, zl = (recsL y.secs).length := ⟨_, rfl⟩
              have HZL := Lib.hid hzl
              clear hzl
              go_upto_region 39 with (first
                | (refine wpList_load_jnl rfl (.tmp 10) rfl w4.heap.size _ rfl rfl HP.out.row ?_)
                | (refine wpList_load_dsk rfl (.tmp 5) rfl w1.heap.size _ (by rfl) rfl HP.out.dk.row ?_)
                | (go_at_call 47; refine (sync_lawS HP.out.rest (mild_used (by have := HAU.out; omega)) HP.out.dk.disk HSY.out).mono ?_; rintro e w10 ⟨v10, ds10, dp10, dl10, db10, rfl, hn, hd, hb⟩; obtain ⟨a10, c10, rfl⟩ := nrests_sliceS hn; obtain ⟨⟨sa10, sn10, sc10, rfl⟩, ⟨pa10, pn10, pc10, rfl⟩⟩ := slices_of hd.rest; have HN10 := Lib.hid (nrests_out2 hn HP.out.gap hg5); have HD10 := Lib.hid (drests_out2 hd HP.out.gap hg5); have HP10 := Lib.hid (HP.out.keep hb); clear hn hd hb)
                | (refine wpList_store_ags rfl 55 (.tmp 16) _ rfl w10.heap.size [.slice a10 ([] : List (List UInt8)).length c10, .int .i64 0, .int .i64 0] _ size55 (by rfl) rfl rfl ((row_new w10 55 _).keep (Joins.below_alloc1 _ _)) (by rfl) (below_next (Joins.below_alloc1 w10 _) (Joins.below_alloc1 _ _)) (Nat.le_refl _) ?_; intro w11 hr11 hb11 hf11; have HR11 := Lib.hid hr11; have HB11 := Lib.hid hb11; have hr17 : Row w11 (w10.heap.size + 1) 25 [.slice none 0 0, .slice none 0 0, .int .i64 0, .bool false] := (hf11 (w10.heap.size + 1) (by omega)).trans (by have := row_new (w10.alloc (.cells #[.slice none 0 0, .int .i64 0, .int .i64 0] 55)) 25 [.slice none 0 0, .slice none 0 0, .int .i64 0, .bool false]; rwa [World.size_alloc] at this); clear hr11 hb11 hf11)
                | (refine wpList_store_ags rfl 25 (.tmp 17) _ rfl (w10.heap.size + 1) [.slice sa10 sn10 sc10, .slice pa10 pn10 pc10, .int .i64 dl10, .bool db10] _ size25 (by rfl) rfl rfl hr17 (by rfl) HB11.out (by omega) ?_; intro w12 hr12 hb12 hf12; have HR16 : Hid (Row w12 w10.heap.size 55 [.slice a10 ([] : List (List UInt8)).length c10, .int .i64 0, .int .i64 0]) := Lib.hid ((hf12 _ (by omega)).trans HR11.out); have HR17 := Lib.hid hr12; have HP12 := Lib.hid (HP10.out.keep hb12); have HN12 := Lib.hid (HN10.out.keep (.below hb12)); have HD12 := Lib.hid (HD10.out.keep (.below hb12)); have hg12 : w4.heap.size < w12.heap.size := HP12.out.row.lt; clear hr12 hb12 hf12 hr17)
                | (refine wpList_load_dsk rfl (.tmp 17) rfl (w10.heap.size + 1) _ (by rfl) rfl HR17.out ?_)
                | (go_at_call 24; refine (restarts_lawS HD12.out).mono ?_; rintro e w13 ⟨s13, p13, rfl, hd13, hb13⟩; obtain ⟨⟨sa13, sn13, sc13, rfl⟩, ⟨pa13, pn13, pc13, rfl⟩⟩ := slices_of hd13.rest; have HD13 := Lib.hid (drests_out2 hd13 HP12.out.gap hg12); have HP13 := Lib.hid (HP12.out.keep hb13); have HD12b := Lib.hid (HD12.out.keep (.below hb13)); have HR13 := Lib.hid (HR17.out.keep hb13); have hg13 : w4.heap.size < w13.heap.size := HP13.out.row.lt; clear hd13 hb13)
                | (go_at_call 38; refine (open_lawS HD13.out (opens_restarted HFY.out HLN.out)).mono ?_; rintro e w14 ⟨v14, rfl, hn14, hb14⟩; obtain ⟨a14, c14, rfl⟩ := nrests_sliceS hn14; rw [← HZL.out]; rw [← HZL.out] at hn14; have HN14 := Lib.hid (nrests_out2 hn14 HP13.out.gap hg13); have HP14 := Lib.hid (HP13.out.keep hb14); have HD14 := Lib.hid (HD12b.out.keep (.below hb14)); have HR14 := Lib.hid (HR13.out.keep hb14); clear hn14 hb14)
                | (refine wpList_store_ags rfl 55 (.tmp 19) _ rfl w14.heap.size [.slice a14 zl c14, .int .i64 (n : Int), .int .i64 (zl : Int)] _ size55 (by rfl) rfl rfl (row_new w14 55 _) (by rfl) (Joins.below_alloc1 w14 _) (Nat.le_refl _) ?_; intro w15 hr15 hb15 hf15; have HR15 := Lib.hid hr15; have HP15 := Lib.hid (HP14.out.keep hb15); have HD15 := Lib.hid (HD14.out.keep (.below hb15)); have HN15 := Lib.hid (HN14.out.keep (.below hb15)); have HRD15 := Lib.hid (HR14.out.keep hb15); clear hr15 hb15 hf15))
              have f0 : ∀ W, Below w15.heap.size w15 W → W.cell? ⟨gc, 1, none⟩ = some (.bool true) := fun W hW => (HP15.out.crash.keep hW).cell (i := 1) rfl
              have f1 : ∀ W, Below w15.heap.size w15 W → W.cell? ⟨w14.heap.size, 0, none⟩ = some (.slice a14 zl c14) := fun W hW => (HR15.out.keep hW).cell (i := 0) rfl
              have f2 : ∀ W, Below w15.heap.size w15 W → W.cell? ⟨w4.heap.size, 0, none⟩ = some (.slice ja al jc) := fun W hW => (HP15.out.row.keep hW).cell (i := 0) rfl
              have hzk : kn ≤ zl := by rw [HZL.out, HHO.out, HKL.out, List.length_append]; omega
              have hza : zl ≤ al := by rw [HZL.out, HHO.out, HAL.out, HWS.out, List.length_append, List.length_append, List.length_take]; omega
              have hajc : al ≤ jc := by
                obtain ⟨_, c9, h9, h10, _⟩ := HP15.out.rest
                injection h9 with _ h11 h12
                omega
              have HTK : Hid (A.take zl = recsL y.secs) := Lib.hid (by rw [HZL.out, HHO.out, HWS.out]; exact take_kept HFW.out)
              have HSR : Hid (∀ W, Below w15.heap.size w15 W → Calls Try.prog 49 #[.slice a14 zl c14, .slice ja zl jc] W fun e w' => e = .returned (.bool true) ∧ Below W.heap.size W w') := Lib.hid (fun W hW => by
                have h1 := nrest_take HP15.out.rest.rest zl hza
                rw [HTK.out] at h1
                have h4 := samerec_call (recsL y.secs) (recsL y.secs) _ _ W (HN15.out.rest.keep hW) (h1.keep hW)
                rwa [decide_eq_true rfl] at h4)
              have n1 : ¬ (zl : Int) < (kn : Int) := by omega
              have n2 : ¬ (al : Int) < (zl : Int) := by omega
              have n3 : decide (zl < kn) = false := by simp; omega
              have n4 : decide (al < zl) = false := by simp; omega
              have n5 : zl ≤ jc := by omega
              have n6 : (zl : Int) ≤ (jc : Int) := by omega
              have HF1 := Lib.hid f1
              clear hzk hza hajc hs8 hrc9 hlf8 hki hk0 hlt2 hq hge2 hrn6 hlm2 hlt40 hg4 hg5 hg12 hg13 hp9 hcb hrc
              have HSQ : Hid (∀ W, Below w15.heap.size w15 W → Calls Try.prog 49 #[.slice a14 zl c14, .slice ja zl jc] W fun e w' => e = .returned (.bool true) ∧ ∃ q, w' = W.drewN q) := Lib.hid (fun W hW => by
                have h1 := nrest_take HP15.out.rest.rest zl (by have := n2; omega)
                rw [HTK.out] at h1
                have h4 := samerec_any (recsL y.secs) (recsL y.secs) _ _ W (HN15.out.rest.keep hW) (h1.keep hW)
                rwa [decide_eq_true rfl] at h4)
              have e0 := f0 _ (Below.refl _ _)
              have e1 := f1 _ (Below.refl _ _)
              have e2 := f2 _ (Below.refl _ _)
              go_cut [176] (fun s176 W => s176 = .bool false ∧ Below w15.heap.size w15 W)
              case first =>
                go_quiet ((go_at_call 49; first | exact Calls.quiet_of (HSQ.out _ (below_drewN (Below.refl _ _) _)) | exact Calls.quiet_of (HSQ.out _ (Below.refl _ _))))
                all_goals (go_wp2_with fail; go_meet; case rel => exact ⟨by first | rfl | simp, by first | exact below_drewN (Below.refl _ _) _ | exact Below.refl _ _⟩)
              case rest =>
                obtain ⟨rfl, hW⟩ := hcut
                have HP16 := Lib.hid (HP15.out.keep hW)
                have HD16 := Lib.hid (HD15.out.keep (.below hW))
                have HN16 := Lib.hid (HN15.out.keep (.below hW))
                have HR16b := Lib.hid (HRD15.out.keep hW)
                have g1 := f1 _ hW
                have hg16 : w4.heap.size < wc.heap.size := HP16.out.row.lt
                clear f0 f1 f2 n1 n2 n3 n4 n5 n6 hW
                go_wp2_with (first
                  | (refine wpList_load_dsk rfl (.tmp 17) rfl (w10.heap.size + 1) _ (by rfl) rfl HR16b.out ?_)
                  | (go_at_call 24; refine (restarts_lawS HD16.out).mono ?_; rintro e w17 ⟨s17, p17, rfl, hd17, hb17⟩; obtain ⟨⟨sa17, sn17, sc17, rfl⟩, ⟨pa17, pn17, pc17, rfl⟩⟩ := slices_of hd17.rest; have HD17 := Lib.hid (drests_out2 hd17 HP16.out.gap hg16); have HP17 := Lib.hid (HP16.out.keep hb17); have HN17 := Lib.hid (HN16.out.keep (.below hb17)); clear hd17 hb17)
                  | (refine wpList_store_ags rfl 25 (.tmp 5) _ rfl w1.heap.size [.slice sa17 sn17 sc17, .slice pa17 pn17 pc17, .int .i64 (-1), .bool false] _ size25 (by rfl) rfl rfl HP17.out.dk.row (by rfl) (Below.refl w1.heap.size _) (Nat.le_refl _) ?_; intro w18 hr18 hb18 hf18; have HI18 := Lib.hid (HP17.out.next (vk := .slice a14 zl c14) (N := n) (d' := restartD y) HD17.out HN17.out hr18 hb18 hf18 rfl HFY.out HLN.out); clear hr18 hb18 hf18))
                first
                  | exact ⟨⟨k + 1, G + 1, restartD y, _, _, by have := HKK.out; omega, by have := HG.out; omega, by go_num, HI18.out⟩, by have := HKK.out; simp [intOf]; omega⟩
                  | (go_roundw; (case rel => exact ⟨k + 1, G + 1, restartD y, _, _, by have := HKK.out; omega, by have := HG.out; omega, by go_num, HI18.out⟩); (case measure => have := HKK.out; simp [intOf]; omega))
    · have hki : ¬ (k : Int) < (M : Int) := by omega
      have HOP : Hid (openJ d = (⟨recsL d.secs, d.secs.length, (recsL d.secs).length⟩, 0)) := Lib.hid HI.out.fine.opens
      obtain ⟨kn, hkn⟩ : ∃ kn, kn = (recsL d.secs).length := ⟨_, rfl⟩
      rw [← hkn]
      have HKN := Lib.hid hkn
      clear hkn
      go_upto_region 45 with ((first
        | (refine wpList_load_dsk rfl (.tmp 5) rfl w1.heap.size _ (by rfl) rfl HI.out.row ?_)
        | (go_at_call 38; refine (open_law HI.out.disk.rest HOP.out).mono ?_; rintro e w3 ⟨jv3, rfl, hn, hb⟩; obtain ⟨ja3, jc3, rfl⟩ := nrest_slice hn; rw [← HKN.out]; rw [← HKN.out] at hn; have HN3 := Lib.hid hn; replace HI := Lib.hid (HI.out.keep hb); clear hn hb)
        | (refine wpList_store_ags rfl 55 (.tmp 21) _ rfl w3.heap.size [.slice ja3 kn jc3, .int .i64 (d.secs.length : Int), .int .i64 (kn : Int)] _ size55 (by rfl) rfl rfl (row_new w3 55 _) (by rfl) (Joins.below_alloc1 w3 _) (Nat.le_refl _) ?_; intro w4 hr hb hf; have HJ4 := Lib.hid (JBox.new HN3.out hr hb); replace HI := Lib.hid (HI.out.keep hb); clear hr hb hf HN3)))
      have HSR : Hid (∀ W, Below w4.heap.size w4 W → Calls Try.prog 49 #[.slice ja3 kn jc3, .slice ka kn kc] W fun e w' => e = .returned (.bool true) ∧ Below W.heap.size W w') := Lib.hid (fun W hW => by
        have h1 := HI.out.kept.rest
        rw [← HKN.out] at h1
        have h4 := samerec_call (recsL d.secs) (recsL d.secs) _ _ W (HJ4.out.nrest.keep hW) (h1.keep hW)
        rwa [decide_eq_true rfl] at h4)
      have c0 := HJ4.out.row.cell (i := 0) rfl
      go_wp2_with (first
        | (go_at_call 49; refine (HSR.out _ (Below.refl _ _)).mono ?_; rintro e wC ⟨rfl, hbC⟩))
      go_ret
      exact ⟨rfl, below_next HI.out.bel hbC⟩
end Go.Proofs.Ytlaaolbdadempaa

/- JournalSurvives: the walk, as the claim takes it. -/
namespace Go.Proofs.Ytlaaolbdadempaa
open Go.RowKit

theorem jsurv_walk2 (xs : List Crash3) (v : Value) (sec : Int) (w : World) (h : CRest w.heap.size w xs v) (hsum : (xs.map fun p => bulkC p + 1).sum ≤ 1048576) (hs : 0 ≤ sec ∧ sec ≤ 255) :
    Calls Try.prog 13 #[.int .u8 sec, v] w fun e w' => e = .returned (.bool true) ∧ Below w.heap.size w w' := by
  obtain ⟨b, rfl⟩ : ∃ b : Nat, sec = (b : Int) := ⟨sec.toNat, by omega⟩
  have hone : ∀ c ∈ xs, bulkC c ≤ 1048576 := fun c hc => by
    have h1 : ∀ l : List Crash3, c ∈ l → bulkC c ≤ (l.map fun p => bulkC p + 1).sum := fun l => by
      induction l with
      | nil => intro hm; cases hm
      | cons a l ih =>
        intro hm
        rw [List.map_cons, List.sum_cons]
        rcases List.mem_cons.1 hm with rfl | hm
        · omega
        · have := ih hm; omega
    have := h1 xs hc
    omega
  refine jsurv_walk xs v b w h (fun c hc x hx => ?_) (fun c hc => ?_) (by omega)
  · have h1 := hone c hc
    unfold bulkC at h1
    have := len_sum hx
    omega
  · have h1 := hone c hc
    unfold bulkC at h1
    have hn : ∀ R : List (List UInt8), R.length ≤ (R.map fun b => b.length + 1).sum := fun R => by
      induction R with
      | nil => simp
      | cons x r ih => simp only [List.map_cons, List.sum_cons, List.length_cons]; omega
    have := hn c.recs
    omega
end Go.Proofs.Ytlaaolbdadempaa
