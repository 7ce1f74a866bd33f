/- Ic -/
import Derived.Test.YtbmbddapbgnioaaJb
namespace Go.Proofs.Ytbmbddapbgnioaa
open Go.RowKit Go.Shelf

set_option maxRecDepth 100000 in
set_option maxHeartbeats 8000000 in
theorem scale_walk (N s t : Int) (A : List Ar) (by8 : Int) (va : Value) (w : World) (hA : ARest w.heap.size w A va) (hby : 0 ≤ by8 ∧ by8 ≤ 255) :
    Calls Try.prog 7 #[netV N s t va, .int .u8 by8] w fun e w' => e = .returned (.bool true) ∧ Kd w w' := by
  have HA := Lib.hid hA
  have HFEW : Hid (∀ W, Kd w W → Calls Try.prog 17 #[netV N s t va] W fun e w' => e = .returned (.bool (fewB N (netE N s t A) A.length)) ∧ Kd W w') := Lib.hid (fun W hW => (few_call N s t A va W (hW.arest hA)).mono fun e w' h => ⟨h.1, Kd.of h.2⟩)
  have HCK : Hid (∀ W, Kd w W → Calls Try.prog 15 #[netV N s t va] W fun e w' => e = .returned (.int .i64 (netE N s t A)) ∧ Kd W w') := Lib.hid (fun W hW => (check_call N s t A va W (hW.arest hA)).mono fun e w' h => ⟨h.1, Kd.of h.2⟩)
  obtain ⟨er, her⟩ : ∃ x, x = netE N s t A := ⟨_, rfl⟩
  have HGR : Hid (netE N s t A = 0 → ∀ W, Kd w W → Calls Try.prog 22 #[netV N s t va] W fun e w' => ∃ X l vs, GrI N s t A W e w' X l vs) := Lib.hid (fun hE W hW => greatest_int N s t A va W (hW.arest hA) hE)
  have HGT : Hid (∀ W v2 k, netE N s t (scA k A) = 0 → ARest W.heap.size W (scA k A) v2 → Calls Try.prog 22 #[netV N s t v2] W fun e w' => ∃ X l vs, GrI N s t (scA k A) W e w' X l vs) := Lib.hid (fun W v2 k hE hW => greatest_int N s t (scA k A) v2 W hW hE)
  rw [← her] at HGR
  obtain ⟨aa, ca, rfl, -⟩ := id hA
  obtain ⟨na, hna⟩ : ∃ n, n = A.length := ⟨_, rfl⟩
  have HNA := Lib.hid hna
  have HAA := hA
  rw [← hna] at HFEW HCK HGR HAA ⊢
  have HAV := Lib.hid HAA
  clear hna HAA
  rw [← her] at HFEW HCK
  have HER := Lib.hid her
  clear hA her HA
  unfold netV at *
  have HSN : Hid (∀ W, Calls Try.prog 10 #[] W fun e w' => e = .returned (.bool true) ∧ Kd W w') := Lib.hid sane_call
  have HX := Lib.hid (bx_new w N s t (.slice aa na ca))
  obtain ⟨W1, hW1⟩ : ∃ W1, W1 = w.alloc (.cells #[.int .i64 N, .int .i64 s, .int .i64 t, .slice aa na ca] 24) := ⟨_, rfl⟩
  have HW1 := Lib.hid hW1
  rw [← hW1] at HX
  clear hW1
  have HB : Hid (Kd w W1 ∧ Row W1 w.heap.size 24 [.int .i64 N, .int .i64 s, .int .i64 t, .slice aa na ca]) := Lib.hid ⟨Kd.of HX.out.bw, HX.out.row⟩
  clear HX
  have HS1 := Lib.hid (HSN.out W1)
  go_enter Try.func7, Try.ntmps7
  go_upto_region 1 with (fail)
  rw [← HW1.out]
  go_upto_region 3 with (go_at_call 10; refine HS1.out.mono ?_; rintro e W2 ⟨rfl, hk⟩; have HB2 : Hid (Kd w W2 ∧ Row W2 w.heap.size 24 [.int .i64 N, .int .i64 s, .int .i64 t, .slice aa na ca]) := Lib.hid ⟨HB.out.1.trans hk, hk.row HB.out.2⟩; clear hk)
  clear HB HS1 HW1 HSN
  have c0 := HB2.out.2.cell (i := 0) rfl
  have c1 := HB2.out.2.cell (i := 1) rfl
  have c2 := HB2.out.2.cell (i := 2) rfl
  have c3 := HB2.out.2.cell (i := 3) rfl
  have HF2 := Lib.hid (HFEW.out W2 HB2.out.1)
  cases hf : fewB N er na with
  | false =>
    rw [hf] at HF2
    go_wp2_with (go_at_call 17; refine HF2.out.mono ?_; rintro e W3 ⟨rfl, hk⟩; have HZ3 := Lib.hid (HB2.out.1.trans hk); clear hk)
    refine bodyPost_ret (results_tmp rfl _ _ _) rfl ?_
    exact ⟨rfl, HZ3.out⟩
  | true =>
    rw [hf] at HF2
    clear hf
    by_cases he : er = 0
    · subst he
      obtain ⟨m8, hm8⟩ : ∃ m, m = by8.tmod 8 := ⟨_, rfl⟩
      have hm9 : 0 ≤ m8 ∧ m8 ≤ 7 := by rw [hm8, Int.tmod_eq_emod_of_nonneg hby.1]; omega
      have hm10 : by8.tmod 8 = m8 := hm8.symm
      have hm11 : ¬ ((8 : Int) = 0) := by omega
      clear hm8
      go_upto_region 6 with (first | (go_at_call 17; refine HF2.out.mono ?_; rintro e W3 ⟨rfl, hk⟩; have HB3 : Hid (Kd w W3 ∧ Row W3 w.heap.size 24 [.int .i64 N, .int .i64 s, .int .i64 t, .slice aa na ca]) := Lib.hid ⟨HB2.out.1.trans hk, hk.row HB2.out.2⟩; have e0 := HB3.out.2.cell (i := 0) rfl; have e1 := HB3.out.2.cell (i := 1) rfl; have e2 := HB3.out.2.cell (i := 2) rfl; have e3 := HB3.out.2.cell (i := 3) rfl; have HC3 := Lib.hid (HCK.out W3 HB3.out.1); clear hk) | (go_at_call 15; refine HC3.out.mono ?_; rintro e W4 ⟨rfl, hk⟩; have HB4 : Hid (Kd w W4 ∧ Row W4 w.heap.size 24 [.int .i64 N, .int .i64 s, .int .i64 t, .slice aa na ca]) := Lib.hid ⟨HB3.out.1.trans hk, hk.row HB3.out.2⟩; clear hk))
      clear c0 c1 c2 c3 e0 e1 e2 e3 HC3 HB3 HB2 HF2 HFEW HCK hm10 hm11
      have c0 := HB4.out.2.cell (i := 0) rfl
      have c1 := HB4.out.2.cell (i := 1) rfl
      have c2 := HB4.out.2.cell (i := 2) rfl
      have c3 := HB4.out.2.cell (i := 3) rfl
      go_upto_region 7 with (fail)
      have hq5 : Row (W4.alloc (.cells #[.int .i64 N, .int .i64 s, .int .i64 t, .slice aa na ca] 24)) W4.heap.size 24 [.int .i64 N, .int .i64 s, .int .i64 t, .slice aa na ca] := row_new W4 24 _
      have hb5 : Below W4.heap.size W4 (W4.alloc (.cells #[.int .i64 N, .int .i64 s, .int .i64 t, .slice aa na ca] 24)) := Joins.below_alloc1 W4 _
      obtain ⟨W5, hW5⟩ : ∃ W5, W5 = W4.alloc (.cells #[.int .i64 N, .int .i64 s, .int .i64 t, .slice aa na ca] 24) := ⟨_, rfl⟩
      rw [← hW5] at hq5 hb5 ⊢
      have HQ5 := Lib.hid (And.intro hb5 hq5)
      have HG5 := Lib.hid (And.intro (HB4.out.1.trans (Kd.of hb5)) ((Kd.of hb5).row HB4.out.2))
      obtain ⟨gt, hgt⟩ : ∃ g, g = W4.heap.size := ⟨_, rfl⟩
      have HGT2 := Lib.hid hgt
      rw [← hgt]
      clear hW5 hgt c0 c1 c2 c3 hq5 hb5
      have c0 := HG5.out.2.cell (i := 0) rfl
      have c1 := HG5.out.2.cell (i := 1) rfl
      have c2 := HG5.out.2.cell (i := 2) rfl
      have c3 := HG5.out.2.cell (i := 3) rfl
      have c3z := (HG5.out.2.keep (Joins.below_alloc1 W5 (.cells #[] 43))).cell (i := 3) rfl
      have HLN : Hid (na ≤ 512) := Lib.hid (by have h1 := (net_ok HER.out.symm).few; rw [HNA.out]; exact h1)
      go_upto_region 8 with (at_builtin; refine wpList_copy_arcs rfl (.tmp 29) (.tmp 31) rfl W5.heap.size rfl (row_new W5 43 []) A (.slice aa na ca) rfl ((HG5.out.1.trans (Kd.alloc W5 _)).arest HAV.out) (by have := HLN.out; have := HNA.out; omega) ?_; intro v' w' hp hw; have HI := Lib.hid (CpI.make HQ5.out.1 HQ5.out.2 hp hw); have hrw := CpI.mid HQ5.out.1 HQ5.out.2 hw; rw [← HGT2.out] at HI hrw; have z3 := hrw.cell (i := 3) rfl; have z3f := hrw.free 3; obtain ⟨a9, c9, e9, hc9, -⟩ := hp.shape; rw [← HNA.out] at e9 hc9; subst e9; clear hp hw hrw)
      obtain ⟨W6, hW6⟩ : ∃ W6, W6 = w'.setCell ⟨gt, 3, none⟩ (.slice a9 na c9) := ⟨_, rfl⟩
      rw [← hW6] at HI ⊢
      have HG6 := Lib.hid (HB4.out.1.trans (Kd.of HI.out.kd))
      have HQ6 := Lib.hid ((Kd.of HI.out.kd).row HB4.out.2)
      clear hW6 c0 c1 c2 c3 c3z z3 z3f
      have d3 := HI.out.row.cell (i := 3) rfl
      rw [← HGT2.out] at d3
      go_upto_region 9 with (fail)
      clear d3
      have HGR5 := Lib.hid (HGR.out (by first | rfl | trivial))
      clear HGR
      go_loopw [37] (fun s5 wr => ∃ (k : Nat), k ≤ na ∧ s5 = .int .i64 (k : Int) ∧ CpI W4 N s t (mixA (1 + m8) A k) (.slice a9 na c9) wr ∧ ∀ i, i < k → (A.getD i (0, 0, 0)).2.2 ≤ 134217728) (fun s5 _ => na - (intOf s5).toNat)
      case atStart => exact ⟨0, by omega, rfl, by rw [mixA_zero]; exact HI.out, fun i hi => by omega⟩
      case round =>
        obtain ⟨k, hk, rfl, hR, hall⟩ := hrel
        have HR := Lib.hid hR
        have HK := Lib.hid hk
        have HALL := Lib.hid hall
        clear hR hk hall
        by_cases hlt : k < na
        · have hki : (k : Int) < (na : Int) := by omega
          have HWR := Lib.hid (wrap_succ hlt (show na ≤ maxLen by have := HLN.out; unfold maxLen; omega))
          have hkA : k < A.length := by have := HNA.out; omega
          obtain ⟨a0, cap0, hv0, hc0, -, hat⟩ := HR.out.buf.shape
          have hm := mixA_at (1 + m8) A hkA
          obtain ⟨b1, q1, hown, f0, f1, f2⟩ := hat k _ hm
          rw [mixA_len, ← HNA.out] at hv0
          injection hv0 with hv1 hv2 hv3
          rw [← hv1] at q1
          subst q1
          obtain ⟨x, hx⟩ : ∃ x, x = A.getD k (0, 0, 0) := ⟨_, rfl⟩
          rw [← hx] at f0 f1 f2 hm
          have hnx := mixA_next (1 + m8) A hkA
          rw [← hx] at hnx
          have hcap := (net_ok HER.out.symm).caps x (by rw [hx]; simp [hkA])
          obtain ⟨x0, x1, x2⟩ := x
          simp only at f0 f1 f2 hm hnx hcap
          have HX := Lib.hid hx
          have hfz : wr.frozen? ⟨b1, k * 3 + 2, none⟩ = false := by
            rcases HR.out.buf.2 with ⟨h9, -⟩ | ⟨g9, cap9, cur9, h9, -, hg9, -⟩
            · cases h9
            · injection h9 with h9
              injection h9 with h9
              injection h9 with h9
              subst h9
              exact frozen_of_row wr b1 _ _ _ hg9
          have d3 := HR.out.row.cell (i := 3) rfl
          rw [← HGT2.out] at d3
          have HLT := Lib.hid hlt
          have hle9 : na ≤ c9 := hc9
          have HM := Lib.hid (And.intro hm (And.intro hnx hown))
          clear hx hat hlt hm hnx hown hv1 hv2 hv3 hc0 f0 f1
          by_cases hbig : x2 ≤ 134217728
          · have hmul : wrap64 (x2 * (1 + m8)) = x2 * (1 + m8) := by
              have h1 : 0 ≤ x2 * (1 + m8) := Int.mul_nonneg hcap.1 (by omega)
              have h2 : x2 * (1 + m8) ≤ 134217728 * (1 + m8) := Int.mul_le_mul_of_nonneg_right hbig (by omega)
              unfold wrap64
              omega
            have HMUL := Lib.hid hmul
            have HBIG := Lib.hid hbig
            clear hmul
            go_wp2_with fail
            refine ⟨⟨k + 1, by have := HLT.out; omega, by rw [HWR.out, Int.natCast_succ], ?_, fun i hi => ?_⟩, by have := HLT.out; exact back_less this HWR.out⟩
            · rw [HMUL.out, ← HM.out.2.1]
              exact HR.out.cap HM.out.1 HM.out.2.2 _
            · rcases Nat.lt_or_ge i k with h9 | h9
              · exact HALL.out i h9
              · obtain rfl : i = k := by omega
                rw [← HX.out]; exact HBIG.out
          · have gb : 134217728 < x2 := by omega
            go_wp2_with fail
            refine bodyPost_ret (results_tmp rfl _ _ _) rfl ?_
            exact ⟨rfl, HB4.out.1.trans (Kd.of HR.out.kd)⟩
        · obtain rfl : k = na := by have := HK.out; omega
          have hsc : netE N s t (scA (1 + m8) A) = 0 := net_sc HER.out.symm (fun a ha => by
            obtain ⟨i, hi, rfl⟩ := List.getElem_of_mem ha
            have h1 := HALL.out i (by have := HNA.out; omega)
            rw [show A.getD i (0, 0, 0) = A[i] by simp [hi]] at h1
            have h0 := ((net_ok HER.out.symm).caps _ ha).1
            have h2 : A[i].2.2 * (1 + m8) ≤ 134217728 * (1 + m8) := Int.mul_le_mul_of_nonneg_right h1 (by omega)
            have h3 : 0 ≤ A[i].2.2 * (1 + m8) := Int.mul_nonneg h0 (by omega)
            exact ⟨h3, by omega⟩)
          have HSC := Lib.hid hsc
          have hbuf := HR.out.buf
          rw [mixA_all _ _ (by rw [HNA.out]; exact Nat.le_refl _)] at hbuf
          have hcaps := (net_ok hsc).caps
          have hinn := (net_ok hsc).net.inn
          have hrng := (net_ok hsc).rng
          have HR9 : Hid (Row wr gt 24 [.int .i64 N, .int .i64 s, .int .i64 t, .slice a9 k c9] ∧ ARest wr.heap.size wr (scA (1 + m8) A) (.slice a9 k c9)) := Lib.hid (by
            refine ⟨by rw [HGT2.out]; exact HR.out.row, ?_⟩
            exact hbuf.rest (fun p hp => by have h1 := hcaps p hp; have h2 := hinn p hp; unfold I64; omega))
          have HG9 := Lib.hid (And.intro (HB4.out.1.trans (Kd.of HR.out.kd)) ((Kd.of HR.out.kd).row HB4.out.2))
          clear hbuf hcaps hinn hrng hsc
          have c0 := HG9.out.2.cell (i := 0) rfl
          have c1 := HG9.out.2.cell (i := 1) rfl
          have c2 := HG9.out.2.cell (i := 2) rfl
          have c3 := HG9.out.2.cell (i := 3) rfl
          have HM4 := Lib.hid (HGR5.out wr HG9.out.1)
          go_upto_region 16 with (go_at_call 22; refine HM4.out.mono ?_; rintro e W7 ⟨X7, l7, vs7, hm⟩; have HM7 := Lib.hid hm; obtain rfl := hm.e; clear hm)
          obtain ⟨as7, cs7, hv7⟩ := brest_shape HM7.out.sd
          subst hv7
          obtain ⟨m7, hm7⟩ : ∃ m, m = surp A X7 s := ⟨_, rfl⟩
          have HMV7 := Lib.hid hm7
          have hsm := HM7.out.small HER.out.symm
          rw [← hm7] at hsm ⊢
          clear c0 c1 c2 c3 hm7
          have hr7 := HM7.out.kd.row HR9.out.1
          have c0 := hr7.cell (i := 0) rfl
          have c1 := hr7.cell (i := 1) rfl
          have c2 := hr7.cell (i := 2) rfl
          have c3 := hr7.cell (i := 3) rfl
          have HM5 := Lib.hid (HGT.out W7 (.slice a9 k c9) (1 + m8) HSC.out (HM7.out.kd.arest HR9.out.2))
          go_upto_region 17 with (go_at_call 22; refine HM5.out.mono ?_; rintro e W8 ⟨X8, l8, vs8, hm⟩; have HM8 := Lib.hid hm; obtain rfl := hm.e; clear hm)
          obtain ⟨as8, cs8, hv8⟩ := brest_shape HM8.out.sd
          subst hv8
          have hsd := scaled (by omega) (net_ok HER.out.symm).net HM7.out.max HM8.out.max
          have hl78 : l7 = l8 := by
            have h1 := HM7.out.len
            have h2 := HM8.out.len
            refine list_of (by omega) fun v hv => ?_
            have h3 := hsd.2 (v : Int) (by omega) (by have := (net_ok HER.out.symm).rng; omega)
            simpa only [ofL_at] using h3
          obtain ⟨m8v, hm8v⟩ : ∃ m, m = m7 * (1 + m8) := ⟨_, rfl⟩
          rw [hsd.1, ← HMV7.out, ← hm8v]
          have hmul : wrap64 ((1 + m8) * m7) = m8v := by
            have h1 : 0 ≤ m7 * (1 + m8) := Int.mul_nonneg hsm.1 (by omega)
            have h2 : m7 * (1 + m8) ≤ 549755813888 * (1 + m8) := Int.mul_le_mul_of_nonneg_right hsm.2 (by omega)
            rw [Int.mul_comm, hm8v]
            unfold wrap64
            omega
          have HSM : Hid (Calls Try.prog 21 #[.slice as7 l7.length cs7, .slice as8 l8.length cs8] W8 fun e w' => e = .returned (.bool true) ∧ Kd W8 w') := Lib.hid (by
            have h1 := same_call l7 l8 _ _ W8 (HM8.out.kd.brest HM7.out.sd) HM8.out.sd
            have h2 : smB l7 l8 = true := decide_eq_true hl78
            rw [h2] at h1
            exact h1)
          have HZ8 := Lib.hid ((HG9.out.1.trans HM7.out.kd).trans HM8.out.kd)
          clear c0 c1 c2 c3 hr7 hsd hl78 hm8v hsm
          obtain ⟨n7, hn7⟩ : ∃ n, n = l7.length := ⟨_, rfl⟩
          obtain ⟨n8, hn8⟩ : ∃ n, n = l8.length := ⟨_, rfl⟩
          rw [← hn7, ← hn8] at HSM ⊢
          clear hn7 hn8
          go_wp2_with (go_at_call 21; refine HSM.out.mono ?_; rintro e W9 ⟨rfl, hk⟩; have HZ9 := Lib.hid (HZ8.out.trans hk); clear hk)
          refine bodyPost_ret (results_tmp rfl _ _ _) rfl ?_
          exact ⟨rfl, HZ9.out⟩
    · have g1 : (er != 0) = true := by simp [he]
      go_wp2_with (first | (go_at_call 17; refine HF2.out.mono ?_; rintro e W3 ⟨rfl, hk⟩; have HB3 : Hid (Kd w W3 ∧ Row W3 w.heap.size 24 [.int .i64 N, .int .i64 s, .int .i64 t, .slice aa na ca]) := Lib.hid ⟨HB2.out.1.trans hk, hk.row HB2.out.2⟩; have e0 := HB3.out.2.cell (i := 0) rfl; have e1 := HB3.out.2.cell (i := 1) rfl; have e2 := HB3.out.2.cell (i := 2) rfl; have e3 := HB3.out.2.cell (i := 3) rfl; have HC3 := Lib.hid (HCK.out W3 HB3.out.1); clear hk) | (go_at_call 15; refine HC3.out.mono ?_; rintro e W4 ⟨rfl, hk⟩; have HZ4 := Lib.hid (HB3.out.1.trans hk); clear hk))
      refine bodyPost_ret (results_tmp rfl _ _ _) rfl ?_
      exact ⟨rfl, HZ4.out⟩
end Go.Proofs.Ytbmbddapbgnioaa
