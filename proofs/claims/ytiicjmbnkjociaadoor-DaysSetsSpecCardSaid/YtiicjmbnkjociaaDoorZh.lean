/- The specification's of: no. -/
import Derived.Test.YtiicjmbnkjociaaDoorZe
import Derived.Test.YtiicjmbnkjociaaDoorV
namespace Go.Proofs.YtiicjmbnkjociaaDoor
open Go.RowKit

set_option maxHeartbeats 8000000 in
set_option maxRecDepth 100000 in
theorem of_no (la lb : List Sp) (va vb : Value) (B : Nat) (w : World) (ha : PRest B w la va) (hb : PRest B w lb vb) (hB : B ≤ w.heap.size) :
    Calls Tryd.prog 43 #[va, vb, .int .i64 3] w fun e w' => ∃ v, e = .returned (.tuple #[v, .int .i64 (combE (fun p q => p && !q) la lb)]) ∧ PRest w'.heap.size w' (combL (fun p q => p && !q) la lb) v ∧ Below w.heap.size w w' := by
  obtain ⟨a1, c1, rfl, -⟩ := id ha
  obtain ⟨a2, c2, rfl, -⟩ := id hb
  have HA := Lib.hid ha
  have HB := Lib.hid hb
  have HBS := Lib.hid hB
  have HCA : Hid (∀ W, Below w.heap.size w W → Calls Tryd.prog 22 #[.slice a1 la.length c1] W fun e w' => e = .returned (.int .i64 (chk la)) ∧ Below W.heap.size W w') := Lib.hid (fun W hW => refCheck_call la _ B W (ha.stays (hW.mono hB)) (by have := hW.size; omega))
  have HCB : Hid (∀ W, Below w.heap.size w W → Calls Tryd.prog 22 #[.slice a2 lb.length c2] W fun e w' => e = .returned (.int .i64 (chk lb)) ∧ Below W.heap.size W w') := Lib.hid (fun W hW => refCheck_call lb _ B W (hb.stays (hW.mono hB)) (by have := hW.size; omega))
  have hka := fun h0 => chk_ok (l := la) h0
  have hkb := fun h0 => chk_ok (l := lb) h0
  obtain ⟨ea, hea⟩ : ∃ e, e = chk la := ⟨_, rfl⟩
  obtain ⟨eb, heb⟩ : ∃ e, e = chk lb := ⟨_, rfl⟩
  have HE : Hid (combE (fun p q => p && !q) la lb = if ea ≠ 0 then ea else if eb ≠ 0 then eb else if 256 < (combR (fun p q => p && !q) la lb).length then 2 else 0) := Lib.hid (by unfold combE; rw [hea, heb])
  have HL : Hid (combL (fun p q => p && !q) la lb = if combE (fun p q => p && !q) la lb = 0 then combR (fun p q => p && !q) la lb else []) := Lib.hid rfl
  obtain ⟨E0, hE0⟩ : ∃ E, E = combE (fun p q => p && !q) la lb := ⟨_, rfl⟩
  obtain ⟨L0, hL0⟩ : ∃ L, L = combL (fun p q => p && !q) la lb := ⟨_, rfl⟩
  rw [← hE0, ← hL0]
  rw [← hE0] at HE HL
  rw [← hL0] at HL
  clear hE0 hL0
  rw [← hea] at HCA hka
  rw [← heb] at HCB hkb
  clear hea heb ha hb
  by_cases hza : ea = 0
  · subst hza
    by_cases hzb : eb = 0
    · subst hzb
      obtain ⟨hla, hca⟩ := hka rfl
      obtain ⟨hlb, hcb⟩ := hkb rfl
      clear hka hkb
      have HEA : Hid (∀ W, Below w.heap.size w W → Calls Tryd.prog 50 #[.slice none 0 0, .slice a1 la.length c1] W fun e w' => ∃ v', e = .returned v' ∧ IRest w'.heap.size w' (endsF [] la) v' ∧ Below W.heap.size W w') := Lib.hid (fun W hW => ends_call [] la _ _ B W (irest_nil _ _) (HA.out.stays (hW.mono hB)) (by have := hW.size; omega) (by simp) (by omega) (fun i hi => by have := span_rng hca i hi; omega))
      have HEB : Hid (∀ W v1, Below w.heap.size w W → IRest W.heap.size W (endsF [] la) v1 → Calls Tryd.prog 50 #[v1, .slice a2 lb.length c2] W fun e w' => ∃ v', e = .returned v' ∧ IRest w'.heap.size w' (atF la lb) v' ∧ Below W.heap.size W w') := Lib.hid (fun W v1 hW h1 => ends_call (endsF [] la) lb v1 _ W.heap.size W h1 ((HB.out.stays (hW.mono hB)).mono (by have := hW.size; omega)) (Nat.le_refl _) (by have := endsF_len la []; simp at this; omega) (by omega) (fun i hi => by have := span_rng hcb i hi; omega))
      have HIN : Hid (∀ W d, Below w.heap.size w W → Calls Tryd.prog 51 #[.slice a1 la.length c1, .slice a2 lb.length c2, .int .i64 3, .int .i64 d] W fun e w' => e = .returned (.bool (comb (fun p q => p && !q) la lb d)) ∧ Below W.heap.size W w') := Lib.hid (fun W d hW => in_no la lb _ _ d B W (HA.out.stays (hW.mono hB)) (HB.out.stays (hW.mono hB)) (by have := hW.size; omega))
      have HFIN : Hid (outF (fun p q => p && !q) la lb ((atF la lb).length - 1) = combR (fun p q => p && !q) la lb) := Lib.hid (outF_set hca hcb rfl)
      have HCAN : Hid (∀ k, k < (atF la lb).length → Can (outF (fun p q => p && !q) la lb k)) := Lib.hid (fun k hk => (outF_over hca hcb rfl k hk).can)
      have HI64 : Hid (∀ p, p ∈ combR (fun p q => p && !q) la lb → I64 p.1 ∧ I64 p.2) := Lib.hid (fun p hp => by
        obtain ⟨j, hj, rfl⟩ := List.mem_iff_getElem.1 hp
        have h := span_rng (combR_set (Wf := (fun p q => p && !q)) hca hcb rfl).can j hj
        simp [hj] at h
        exact ⟨⟨by omega, by omega⟩, ⟨by omega, by omega⟩⟩)
      have HS0 : Hid (∀ k, comb (fun p q => p && !q) la lb ((atF la lb).getD k 0) = false → outF (fun p q => p && !q) la lb (k + 1) = outF (fun p q => p && !q) la lb k) := Lib.hid (fun k h => by show stepO _ _ _ _ _ = _; unfold stepO; rw [if_neg (by rw [h]; simp)])
      have HS1 : Hid (∀ k, comb (fun p q => p && !q) la lb ((atF la lb).getD k 0) = true → outF (fun p q => p && !q) la lb k ≠ [] → ((outF (fun p q => p && !q) la lb k).getD ((outF (fun p q => p && !q) la lb k).length - 1) (0, 0)).2 + 1 = (atF la lb).getD k 0 → outF (fun p q => p && !q) la lb (k + 1) = setEnd (outF (fun p q => p && !q) la lb k) ((atF la lb).getD (k + 1) 0 - 1)) := Lib.hid (fun k h h1 h2 => by show stepO _ _ _ _ _ = _; unfold stepO; rw [if_pos h, if_pos ⟨h1, h2⟩])
      have HS2 : Hid (∀ k, comb (fun p q => p && !q) la lb ((atF la lb).getD k 0) = true → ¬ (outF (fun p q => p && !q) la lb k ≠ [] ∧ ((outF (fun p q => p && !q) la lb k).getD ((outF (fun p q => p && !q) la lb k).length - 1) (0, 0)).2 + 1 = (atF la lb).getD k 0) → outF (fun p q => p && !q) la lb (k + 1) = outF (fun p q => p && !q) la lb k ++ [((atF la lb).getD k 0, (atF la lb).getD (k + 1) 0 - 1)]) := Lib.hid (fun k h h1 => by show stepO _ _ _ _ _ = _; unfold stepO; rw [if_pos h, if_neg h1])
      have HOL : Hid (∀ k, (outF (fun p q => p && !q) la lb k).length ≤ k) := Lib.hid (outF_len _ la lb)
      have HO0 : Hid (outF (fun p q => p && !q) la lb 0 = []) := Lib.hid rfl
      have HAR : Hid (∀ k, k < (atF la lb).length → 0 ≤ (atF la lb).getD k 0 ∧ (atF la lb).getD k 0 ≤ 73049) := Lib.hid (fun k hk => (atF_rng hca hcb).2.1 _ (by rw [List.getD_eq_getElem?_getD, List.getElem?_eq_getElem hk]; exact List.getElem_mem hk))
      have HAL : Hid ((atF la lb).length ≤ 1024) := Lib.hid (by have h1 := endsF_len lb (endsF [] la); have h2 := endsF_len la []; simp at h2; unfold atF; omega)
      generalize hCM : comb (fun p q => p && !q) la lb = cm at *
      generalize outF (fun p q => p && !q) la lb = O at *
      generalize combR (fun p q => p && !q) la lb = R at *
      generalize atF la lb = A at *
      generalize endsF [] la = A0 at *
      clear hca hcb hla hlb HA HB hCM
      go_enter Tryd.func43, Tryd.ntmps43
      go_upto_region 2 with (first | (go_at_call 22; refine (HCA.out _ (Below.refl _ _)).mono ?_; rintro e w1 ⟨rfl, hb1⟩; have HB1 := Lib.hid hb1; clear hb1) | fail)
      go_upto_region 7 with (first | (go_at_call 22; refine (HCB.out _ HB1.out).mono ?_; rintro e w2 ⟨rfl, hb2⟩; have HB2 := Lib.hid (below_next HB1.out hb2); clear hb2) | fail)
      go_upto_region 8 with (first
        | (go_at_call 50; with_reducible refine (HEA.out _ HB2.out).mono ?_; rintro e w3 ⟨v3, rfl, hr3, hb3⟩; have HB3 := Lib.hid (below_next HB2.out hb3); have HR3 := Lib.hid hr3; clear hb3 hr3)
        | (go_at_call 50; with_reducible refine (HEB.out _ _ HB3.out HR3.out).mono ?_; rintro e W1 ⟨v4, rfl, hr4, hb4⟩; have HBW := Lib.hid (below_next HB3.out hb4); obtain ⟨aA, nA, cA, hsA⟩ := irest_shape hr4; subst hsA; have HRA := Lib.hid hr4; clear hb4 hr4)
        | fail)
      clear HCA HCB HEA HEB
      obtain ⟨hnA, hl, hm, hc⟩ := ints_at HRA.out
      subst hnA
      unfold maxLen at hm
      have HC := Lib.hid hc
      have HALL := Lib.hid HAL.out
      have hal := HAL.out
      obtain ⟨n, hn⟩ : ∃ n, n = A.length := ⟨_, rfl⟩
      rw [← hn] at hl hal HRA HC HFIN HCAN HAR ⊢
      clear hn hc HRA HAL HALL
      go_wp2_with fail
      go_loopw [11, 12] (fun s11 s12 wr => ∃ (k : Nat) (a : Option Addr) (m c : Nat), (k ≤ n - 1 ∧ m = (O k).length) ∧ s11 = .slice a m c ∧ s12 = .int .i64 (k : Int) ∧ PBuf 0 wr (.slice a m c) (O k) ∧ (∀ q, (Value.slice a m c).ownBlock = some q → W1.heap.size ≤ q) ∧ Below W1.heap.size W1 wr) (fun _ s12 _ => n - (intOf s12).toNat)
      case atStart => exact ⟨0, none, 0, 0, ⟨by omega, by rw [HO0.out]; rfl⟩, rfl, rfl, by rw [HO0.out]; exact pbuf_nil _ _, fun q hq => (by cases hq), Below.refl _ _⟩
      case round =>
        obtain ⟨k, a, m, c, ⟨hk, hmO⟩, rfl, rfl, hpb, hown, hb⟩ := hrel
        have HB := Lib.hid hb
        have HPB := Lib.hid hpb
        have HOW := Lib.hid hown
        have HMO := Lib.hid hmO
        have hwk : IntKind.i64.wrap ((k : Int) + 1) = ((k + 1 : Nat) : Int) := by rw [IntKind.wrap_i64]; omega
        have HKK := Lib.hid hk
        have hmk : m ≤ 1024 := by have := HOL.out k; omega
        have HMK := Lib.hid hmk
        have HWN : Hid (w.heap.size ≤ W1.heap.size) := Lib.hid HBW.out.size
        rcases Nat.lt_or_ge (k + 1) n with hlt | hge
        · obtain ⟨-, b, off, rfl, hbB, hc1⟩ := HC.out k (by omega)
          obtain ⟨-, b', off', he, -, hc2⟩ := HC.out (k + 1) hlt
          injection he with he
          injection he with he1 he2
          subst he1 he2
          have HD1 : Hid (∀ W, Below W1.heap.size W1 W → W.cell? ⟨b, off + k, none⟩ = some (.int .i64 (A.getD k 0))) := Lib.hid (fun W hW => (hW.cell (p := ⟨b, off + k, none⟩) hbB).trans hc1)
          have HD2 : Hid (∀ W, Below W1.heap.size W1 W → W.cell? ⟨b, off + (k + 1), none⟩ = some (.int .i64 (A.getD (k + 1) 0))) := Lib.hid (fun W hW => (hW.cell (p := ⟨b, off + (k + 1), none⟩) hbB).trans hc2)
          have hd1 := HD1.out _ hb
          have HS0K := Lib.hid (HS0.out k)
          have HS1K := Lib.hid (HS1.out k)
          have HS2K := Lib.hid (HS2.out k)
          have HINK := Lib.hid (fun W hW => HIN.out W (A.getD k 0) hW)
          have hx0 := HAR.out k (by omega)
          have hy0 := HAR.out (k + 1) hlt
          have hcn := HCAN.out k (by omega)
          generalize A.getD k 0 = x at *
          generalize A.getD (k + 1) 0 = y at *
          have HX0 := Lib.hid hx0
          have HY0 := Lib.hid hy0
          have HCN := Lib.hid hcn
          have HLT := Lib.hid hlt
          have hki : ((k + 1 : Nat) : Int) < (n : Int) := by omega
          have hkn : (k : Int) < (n : Int) := by omega
          have hkn2 : k < n := by omega
          clear hb hpb hown hmO hk hbB hc1 hc2 hx0 hy0 hcn hmk
          generalize O k = Ok at *
          generalize hcx : cm x = cx at *
          have HCX := Lib.hid hcx
          clear hcx
          cases cx with
          | false =>
            have HN := Lib.hid (HS0K.out rfl)
            clear HS0K HS1K HS2K
            go_wp2_with (go_at_call 51; refine (HINK.out _ (HBW.out.trans (HB.out.mono HWN.out))).mono ?_; rintro e w5 ⟨rfl, hb5⟩; have HB5 := Lib.hid (below_next HB.out hb5); have HP5 := Lib.hid (HPB.out.keep hb5); clear hb5)
            exact ⟨⟨k + 1, a, m, c, ⟨by have := HLT.out; omega, by rw [HN.out]; exact HMO.out⟩, by first | rfl | trivial, by first | rfl | trivial, by rw [HN.out]; exact HP5.out, HOW.out, HB5.out⟩, by have := HLT.out; simp [intOf]; omega⟩
          | true =>
            have HN1 := Lib.hid (fun h1 h2 => HS1K.out rfl h1 h2)
            have HN2 := Lib.hid (fun h => HS2K.out rfl h)
            clear HS0K HS1K HS2K
            have hwm0 : IntKind.i64.wrap ((m : Int) - 1) = (m : Int) - 1 := by rw [IntKind.wrap_i64]; have := HMK.out; omega
            have hwy : IntKind.i64.wrap (y - 1) = y - 1 := by rw [IntKind.wrap_i64]; have := HY0.out; omega
            have HWY := Lib.hid hwy
            go_upto_region 13 with (first | (go_at_call 51; refine (HINK.out _ (HBW.out.trans (HB.out.mono HWN.out))).mono ?_; rintro e w5 ⟨rfl, hb5⟩; have HB5 := Lib.hid (below_next HB.out hb5); have HP5 := Lib.hid (HPB.out.keep hb5); clear hb5) | fail)
            clear hd1
            have hd5 := HD1.out _ HB5.out
            by_cases hm0 : m = 0
            · subst hm0
              have HOK : Hid (Ok = []) := Lib.hid (List.eq_nil_of_length_eq_zero HMO.out.symm)
              go_upto_region 14 with (fail)
              go_quiet (fail)
              have HP6 := Lib.hid (HP5.out.keep (drewN_below w5 nq))
              have HB6 := Lib.hid (HB5.out.trans ((drewN_below w5 nq).mono HB5.out.size))
              generalize w5.drewN nq = W6 at *
              have hd6 := 0
              have HN := Lib.hid (HN2.out (fun h => h.1 HOK.out))
              clear HN1 HN2
              go_upto_region 16 with (fail)
              have f1 := HD1.out
              have f2 := HD2.out
              clear hd5 hd6
              have hk0 : (0 : Int) ≤ (k : Int) + 1 := by omega
              have hki2 : (k : Int) + 1 < (n : Int) := by have := HLT.out; omega
              have hwk2 : IntKind.i64.wrap ((k : Int) + 1) = (k : Int) + 1 := by rw [IntKind.wrap_i64]; have := HLT.out; omega
              go_region_held3 (fun W => Below W1.heap.size W1 W) (first | assumption | exact (HB6.out).drew | exact below_next (by assumption) (Joins.below_alloc1 _ _)) (first
                | (refine step_pts rfl (.tmp 72) (.tmp 84) rfl _ Ok rfl ((HP6.out.keep (drewN_below _ 1)).keep (Joins.below_alloc1 _ _)) _ _ [(x, y - 1)] rfl (prest_one (x, y - 1) ⟨⟨by have := HX0.out; show _ ≤ x; omega, by have := HX0.out; show x ≤ _; omega⟩, ⟨by have := HY0.out; show _ ≤ y - 1; omega, by have := HY0.out; show y - 1 ≤ _; omega⟩⟩ (row_new _ _ _)) ⟨_, _, _, rfl⟩ (by have := HMO.out; have := HMK.out; simp; omega) ?_; intro v8 w8 hp8 hw8; have hb8 : Below W1.heap.size W1 w8 := (below_next (HB6.out).drew (Joins.below_alloc1 _ _)).trans (hw8.toBelow (by have := HB6.out.size; simp; omega) HOW.out); have HP8 := Lib.hid hp8; have HW8 := Lib.hid hw8; clear hp8 hw8))
              clear f1 f2
              have HB8 := Lib.hid hb8
              obtain ⟨a8, c8, hs8⟩ := HP8.out.shape
              rw [← HN.out] at hs8 HP8
              obtain ⟨m8, hm8⟩ : ∃ m8, m8 = (O (k + 1)).length := ⟨_, rfl⟩
              rw [← hm8] at hs8
              subst hs8
              have HM8 := Lib.hid hm8
              clear hm8 hb8
              go_wp2_with fail
              exact ⟨⟨k + 1, a8, m8, c8, ⟨by have := HLT.out; omega, HM8.out⟩, by first | rfl | trivial, by first | rfl | trivial, HP8.out, fun q8 hq8 => by
                  rcases HW8.out.own with h1 | h1
                  · exact HOW.out q8 (h1 ▸ hq8)
                  · have h2 := h1 q8 hq8; have := HB6.out.size; simp at h2; omega, HB8.out⟩, by have := HLT.out; simp [intOf]; omega⟩
            · obtain ⟨q, hq1⟩ : ∃ q, m - 1 = q := ⟨_, rfl⟩
              have hqm : q < m := by omega
              have hqi : (q : Int) < (m : Int) := by omega
              have hne : Ok ≠ [] := fun h => by have := HMO.out; rw [h] at this; simp at this; omega
              have HNE := Lib.hid hne
              obtain ⟨g, cap, hsl, -, hg, c2, f2, hset⟩ := HP5.out.setEnd hne (y - 1)
              injection hsl with hs1 hs2 hs3
              subst hs1 hs3
              have hrg := span_rng HCN.out (Ok.length - 1) (by have := HMO.out; omega)
              rw [← HMO.out, hq1] at c2 f2 hset hrg
              have HMO2 := Lib.hid HMO.out
              rw [← HMO.out, hq1] at HN1 HN2
              generalize (Ok.getD q (0, 0)).1 = x1 at *
              generalize (Ok.getD q (0, 0)).2 = x2 at *
              have hwx : IntKind.i64.wrap (x2 + 1) = x2 + 1 := by rw [IntKind.wrap_i64]; omega
              rw [show (m : Int) - 1 = (q : Int) by omega] at hwm0
              have hwm1 : IntKind.i64.wrap ((m : Int) - 1) = (q : Int) := by rw [show (m : Int) - 1 = (q : Int) by omega]; exact hwm0
              have HQ := Lib.hid hq1
              have HST := Lib.hid hset
              have hmm := 0
              clear hq1 hwm0
              clear hset hne hrg hmm hm0 hs2
              by_cases hxx : x2 + 1 = x
              · have e2 : (x2 + 1 == x) = true := by simpa using hxx
                have e3 : decide (x2 + 1 = x) = true := by simpa using hxx
                have HN := Lib.hid (HN1.out HNE.out hxx)
                clear hxx HN1 HN2
                go_upto_region 14 with (fail)
                go_quiet (fail)
                have HP6 := Lib.hid (HP5.out.keep (drewN_below w5 nq))
                have HB6 := Lib.hid (HB5.out.trans ((drewN_below w5 nq).mono HB5.out.size))
                generalize w5.drewN nq = W6 at *
                clear c2 f2 HST hd5
                have d6 := HD2.out _ HB6.out
                obtain ⟨g', cap', hsl, -, hg6, c6, f6, hset6⟩ := HP6.out.setEnd HNE.out (y - 1)
                injection hsl with hs1 hs2 hs3
                injection hs1 with hs1
                injection hs1 with hs1
                subst hs1 hs3
                rw [← HMO.out, HQ.out] at c6 f6 hset6
                generalize (Ok.getD q (0, 0)).2 = x3 at *
                have HST6 := Lib.hid hset6
                clear hset6
                go_wp2_with fail
                exact ⟨⟨k + 1, _, m, c, ⟨by have := HLT.out; omega, by rw [HN.out, setEnd_len]; exact HMO.out⟩, by first | rfl | trivial, by first | rfl | trivial, by rw [HN.out]; exact HST6.out, HOW.out, below_setCell HB6.out _ _ _ (HOW.out _ rfl)⟩, by have := HLT.out; simp [intOf]; omega⟩
              · have e2 : (x2 + 1 == x) = false := by simpa using hxx
                have e3 : decide (x2 + 1 = x) = false := by simpa using hxx
                have HN := Lib.hid (HN2.out (fun h => hxx h.2))
                clear hxx HN1 HN2
                go_upto_region 14 with (fail)
                go_quiet (fail)
                have HP6 := Lib.hid (HP5.out.keep (drewN_below w5 nq))
                have HB6 := Lib.hid (HB5.out.trans ((drewN_below w5 nq).mono HB5.out.size))
                generalize w5.drewN nq = W6 at *
                clear c2 f2 HST
                have hd6 := 0
                go_upto_region 16 with (fail)
                have f1 := HD1.out
                have f2 := HD2.out
                clear hd5 hd6
                have hk0 : (0 : Int) ≤ (k : Int) + 1 := by omega
                have hki2 : (k : Int) + 1 < (n : Int) := by have := HLT.out; omega
                have hwk2 : IntKind.i64.wrap ((k : Int) + 1) = (k : Int) + 1 := by rw [IntKind.wrap_i64]; have := HLT.out; omega
                go_region_held3 (fun W => Below W1.heap.size W1 W) (first | assumption | exact (HB6.out).drew | exact below_next (by assumption) (Joins.below_alloc1 _ _)) (first
                  | (refine step_pts rfl (.tmp 72) (.tmp 84) rfl _ Ok rfl ((HP6.out.keep (drewN_below _ 1)).keep (Joins.below_alloc1 _ _)) _ _ [(x, y - 1)] rfl (prest_one (x, y - 1) ⟨⟨by have := HX0.out; show _ ≤ x; omega, by have := HX0.out; show x ≤ _; omega⟩, ⟨by have := HY0.out; show _ ≤ y - 1; omega, by have := HY0.out; show y - 1 ≤ _; omega⟩⟩ (row_new _ _ _)) ⟨_, _, _, rfl⟩ (by have := HMO.out; have := HMK.out; simp; omega) ?_; intro v8 w8 hp8 hw8; have hb8 : Below W1.heap.size W1 w8 := (below_next (HB6.out).drew (Joins.below_alloc1 _ _)).trans (hw8.toBelow (by have := HB6.out.size; simp; omega) HOW.out); have HP8 := Lib.hid hp8; have HW8 := Lib.hid hw8; clear hp8 hw8))
                clear f1 f2
                have HB8 := Lib.hid hb8
                obtain ⟨a8, c8, hs8⟩ := HP8.out.shape
                rw [← HN.out] at hs8 HP8
                obtain ⟨m8, hm8⟩ : ∃ m8, m8 = (O (k + 1)).length := ⟨_, rfl⟩
                rw [← hm8] at hs8
                subst hs8
                have HM8 := Lib.hid hm8
                clear hm8 hb8
                go_wp2_with fail
                exact ⟨⟨k + 1, a8, m8, c8, ⟨by have := HLT.out; omega, HM8.out⟩, by first | rfl | trivial, by first | rfl | trivial, HP8.out, fun q8 hq8 => by
                    rcases HW8.out.own with h1 | h1
                    · exact HOW.out q8 (h1 ▸ hq8)
                    · have h2 := h1 q8 hq8; have := HB6.out.size; simp at h2; omega, HB8.out⟩, by have := HLT.out; simp [intOf]; omega⟩
        · have hkR : O k = R := by rw [show k = n - 1 by omega]; exact HFIN.out
          rw [hkR] at hpb hmO HMO HPB
          rw [← hmO] at HE
          have hkf : ¬ (k : Int) + 1 < (n : Int) := by omega
          have hkz : (n : Int) ≤ (k : Int) + 1 := by omega
          have hki2 : IntKind.i64.wrap ((k : Int) + 1) = (k : Int) + 1 := by rw [IntKind.wrap_i64]; omega
          clear hb hpb hown hmO hk hkR
          by_cases hbig : 256 < m
          · have HE2 : Hid (E0 = 2) := Lib.hid (by rw [HE.out]; simp [hbig])
            have HL2 : Hid (L0 = []) := Lib.hid (by rw [HL.out, HE2.out]; simp)
            have e1 : decide ((256 : Int) < (m : Int)) = true := by simp; omega
            have hb1 : (256 : Int) < (m : Int) := by omega
            clear HE HL
            go_wp2_with fail
            go_ret2; exact ⟨_, by rw [HE2.out]; rfl, by rw [HL2.out]; exact prest_nil _ _, HBW.out.trans (HB.out.mono HWN.out)⟩
          · have HE2 : Hid (E0 = 0) := Lib.hid (by rw [HE.out]; simp [hbig])
            have HL2 : Hid (L0 = R) := Lib.hid (by rw [HL.out, HE2.out]; simp)
            have e1 : decide ((256 : Int) < (m : Int)) = false := by simp; omega
            have hb1 : ¬ (256 : Int) < (m : Int) := by omega
            clear HE HL
            go_wp2_with fail
            go_ret2; exact ⟨_, by rw [HE2.out]; rfl, by rw [HL2.out]; exact HPB.out.rest HI64.out, HBW.out.trans (HB.out.mono HWN.out)⟩
    · have HE2 : Hid (E0 = eb) := Lib.hid (by rw [HE.out]; simp [hzb])
      have HL2 : Hid (L0 = []) := Lib.hid (by rw [HL.out, HE2.out, if_neg hzb])
      have e1 : (eb != 0) = true := by simpa using hzb
      clear hka hkb hzb HE HL
      go_enter Tryd.func43, Tryd.ntmps43
      go_upto_region 2 with (first | (go_at_call 22; refine (HCA.out _ (Below.refl _ _)).mono ?_; rintro e w1 ⟨rfl, hb1⟩; have HB1 := Lib.hid hb1; clear hb1) | fail)
      go_upto_region 3 with (first | (go_at_call 22; refine (HCB.out _ HB1.out).mono ?_; rintro e w2 ⟨rfl, hb2⟩; have HB2 := Lib.hid (below_next HB1.out hb2); clear hb2) | fail)
      go_wp2_with fail
      go_ret2; exact ⟨_, by rw [HE2.out]; rfl, by rw [HL2.out]; exact prest_nil _ _, HB2.out⟩
  · have HE2 : Hid (E0 = ea) := Lib.hid (by rw [HE.out]; simp [hza])
    have HL2 : Hid (L0 = []) := Lib.hid (by rw [HL.out, HE2.out, if_neg hza])
    have e1 : (ea != 0) = true := by simpa using hza
    clear hka hkb hza HE HL
    go_enter Tryd.func43, Tryd.ntmps43
    go_upto_region 2 with (first | (go_at_call 22; refine (HCA.out _ (Below.refl _ _)).mono ?_; rintro e w1 ⟨rfl, hb1⟩; have HB1 := Lib.hid hb1; clear hb1) | fail)
    go_upto_region 3 with (first | (go_at_call 22; refine (HCB.out _ HB1.out).mono ?_; rintro e w2 ⟨rfl, hb2⟩; have HB2 := Lib.hid (below_next HB1.out hb2); clear hb2) | fail)
    go_wp2_with fail
    go_ret2; exact ⟨_, by rw [HE2.out]; rfl, by rw [HL2.out]; exact prest_nil _ _, HB2.out⟩
end Go.Proofs.YtiicjmbnkjociaaDoor
