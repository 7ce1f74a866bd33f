/- Id -/
import Derived.Test.YtbmbddapbgnioaaJa
namespace Go.Proofs.Ytbmbddapbgnioaa
open Go.RowKit Go.Shelf

set_option maxRecDepth 100000 in
set_option maxHeartbeats 8000000 in
theorem turn_walk (N s t : Int) (A : List Ar) (va : Value) (w : World) (hA : ARest w.heap.size w A va) :
    Calls Try.prog 8 #[netV N s t va] w fun e w' => e = .returned (.bool true) ∧ Kd w w' := by
  have HA := Lib.hid hA
  have HFEW : Hid (∀ W, Kd w W → Calls Try.prog 17 #[netV N s t va] W fun e w' => e = .returned (.bool (fewB N (netE N s t A) A.length)) ∧ Kd W w') := Lib.hid (fun W hW => (few_call N s t A va W (hW.arest hA)).mono fun e w' h => ⟨h.1, Kd.of h.2⟩)
  have HCK : Hid (∀ W, Kd w W → Calls Try.prog 15 #[netV N s t va] W fun e w' => e = .returned (.int .i64 (netE N s t A)) ∧ Kd W w') := Lib.hid (fun W hW => (check_call N s t A va W (hW.arest hA)).mono fun e w' h => ⟨h.1, Kd.of h.2⟩)
  obtain ⟨er, her⟩ : ∃ x, x = netE N s t A := ⟨_, rfl⟩
  have HGR : Hid (netE N s t A = 0 → ∀ W, Kd w W → Calls Try.prog 22 #[netV N s t va] W fun e w' => ∃ X l vs, GrI N s t A W e w' X l vs) := Lib.hid (fun hE W hW => greatest_int N s t A va W (hW.arest hA) hE)
  have HGT : Hid (netE N s t A = 0 → ∀ W v2, ARest W.heap.size W (tuA A) v2 → Calls Try.prog 22 #[netV N t s v2] W fun e w' => ∃ X l vs, GrI N t s (tuA A) W e w' X l vs) := Lib.hid (fun hE W v2 hW => greatest_int N t s (tuA A) v2 W hW (net_tu hE))
  have HTU : Hid (∀ W (e : Ending) W' X l1 v1 W2 (e2 : Ending) W2' X2 l2 v2, GrI N s t A W e W' X l1 v1 → GrI N t s (tuA A) W2 e2 W2' X2 l2 v2 → netE N s t A = 0 → surp (tuA A) X2 t = surp A X s ∧ l1.length = l2.length ∧ ∀ i, i < l1.length → l1.getD i false = false ∨ l2.getD i false = false) := Lib.hid (fun W e W' X l1 v1 W2 e2 W2' X2 l2 v2 hg hg2 hE => by
    have hn := net_ok hE
    obtain ⟨h1, h2⟩ := turned hn.net hg.max hg2.max
    have hl := hg.len
    have hl2 := hg2.len
    refine ⟨h1, by omega, fun i hi => ?_⟩
    have h3 := h2 (i : Int) (by omega) (by have := hn.rng; omega)
    simp only [ofL_at] at h3
    cases h4 : l1.getD i false with
    | false => exact .inl rfl
    | true =>
      cases h5 : l2.getD i false with
      | false => exact .inr rfl
      | true => exact absurd ⟨h4, h5⟩ h3)
  rw [← her] at HGR HGT HTU
  obtain ⟨aa, ca, rfl, -⟩ := id hA
  obtain ⟨na, hna⟩ : ∃ n, n = A.length := ⟨_, rfl⟩
  have HNA := Lib.hid hna
  have HAA := hA
  rw [← hna] at HFEW HCK HGR HAA ⊢
  have HAV := Lib.hid HAA
  clear hna HAA
  rw [← her] at HFEW HCK
  have HER := Lib.hid her
  clear hA her HA
  unfold netV at *
  have HSN : Hid (∀ W, Calls Try.prog 10 #[] W fun e w' => e = .returned (.bool true) ∧ Kd W w') := Lib.hid sane_call
  have HX := Lib.hid (bx_new w N s t (.slice aa na ca))
  obtain ⟨W1, hW1⟩ : ∃ W1, W1 = w.alloc (.cells #[.int .i64 N, .int .i64 s, .int .i64 t, .slice aa na ca] 24) := ⟨_, rfl⟩
  have HW1 := Lib.hid hW1
  rw [← hW1] at HX
  clear hW1
  have HB : Hid (Kd w W1 ∧ Row W1 w.heap.size 24 [.int .i64 N, .int .i64 s, .int .i64 t, .slice aa na ca]) := Lib.hid ⟨Kd.of HX.out.bw, HX.out.row⟩
  clear HX
  have HS1 := Lib.hid (HSN.out W1)
  go_enter Try.func8, Try.ntmps8
  go_upto_region 1 with (fail)
  rw [← HW1.out]
  go_upto_region 3 with (go_at_call 10; refine HS1.out.mono ?_; rintro e W2 ⟨rfl, hk⟩; have HB2 : Hid (Kd w W2 ∧ Row W2 w.heap.size 24 [.int .i64 N, .int .i64 s, .int .i64 t, .slice aa na ca]) := Lib.hid ⟨HB.out.1.trans hk, hk.row HB.out.2⟩; clear hk)
  clear HB HS1 HW1 HSN
  have c0 := HB2.out.2.cell (i := 0) rfl
  have c1 := HB2.out.2.cell (i := 1) rfl
  have c2 := HB2.out.2.cell (i := 2) rfl
  have c3 := HB2.out.2.cell (i := 3) rfl
  have HF2 := Lib.hid (HFEW.out W2 HB2.out.1)
  cases hf : fewB N er na with
  | false =>
    rw [hf] at HF2
    go_wp2_with (go_at_call 17; refine HF2.out.mono ?_; rintro e W3 ⟨rfl, hk⟩; have HZ3 := Lib.hid (HB2.out.1.trans hk); clear hk)
    refine bodyPost_ret (results_tmp rfl _ _ _) rfl ?_
    exact ⟨rfl, HZ3.out⟩
  | true =>
    rw [hf] at HF2
    clear hf
    by_cases he : er = 0
    · subst he
      go_upto_region 5 with (first | (go_at_call 17; refine HF2.out.mono ?_; rintro e W3 ⟨rfl, hk⟩; have HB3 : Hid (Kd w W3 ∧ Row W3 w.heap.size 24 [.int .i64 N, .int .i64 s, .int .i64 t, .slice aa na ca]) := Lib.hid ⟨HB2.out.1.trans hk, hk.row HB2.out.2⟩; have e0 := HB3.out.2.cell (i := 0) rfl; have e1 := HB3.out.2.cell (i := 1) rfl; have e2 := HB3.out.2.cell (i := 2) rfl; have e3 := HB3.out.2.cell (i := 3) rfl; have HC3 := Lib.hid (HCK.out W3 HB3.out.1); clear hk) | (go_at_call 15; refine HC3.out.mono ?_; rintro e W4 ⟨rfl, hk⟩; have HB4 : Hid (Kd w W4 ∧ Row W4 w.heap.size 24 [.int .i64 N, .int .i64 s, .int .i64 t, .slice aa na ca]) := Lib.hid ⟨HB3.out.1.trans hk, hk.row HB3.out.2⟩; clear hk))
      clear c0 c1 c2 c3 e0 e1 e2 e3 HC3 HB3 HB2 HF2 HFEW HCK
      have c0 := HB4.out.2.cell (i := 0) rfl
      have c1 := HB4.out.2.cell (i := 1) rfl
      have c2 := HB4.out.2.cell (i := 2) rfl
      have c3 := HB4.out.2.cell (i := 3) rfl
      have HG4 := Lib.hid (HGR.out (by first | rfl | trivial))
      have HT4 := Lib.hid (HGT.out (by first | rfl | trivial))
      have HTL : Hid ((tuA A).length = na ∧ na ≤ 512 ∧ ∀ p, p ∈ tuA A → I64 p.1 ∧ I64 p.2.1 ∧ I64 p.2.2) := Lib.hid (by
        have h1 := (net_ok HER.out.symm).few
        refine ⟨by rw [tuA_len]; exact HNA.out.symm, by rw [HNA.out]; exact h1, fun p hp => ?_⟩
        obtain ⟨a, ha, rfl⟩ := List.mem_map.1 hp
        obtain ⟨a9, c9, -, -, -, h9, -⟩ := HAV.out
        exact ⟨(h9 a ha).2.1, (h9 a ha).1, (h9 a ha).2.2⟩)
      clear HGR HGT
      go_upto_region 6 with (fail)
      have HT0 := Lib.hid (TuI.first W4 N t s (tuA A))
      obtain ⟨W5, hW5⟩ : ∃ W5, W5 = W4.alloc (.cells #[.int .i64 N, .int .i64 t, .int .i64 s, .slice none 0 0] 24) := ⟨_, rfl⟩
      rw [← hW5] at HT0 ⊢
      have HG5 := Lib.hid (And.intro (HB4.out.1.trans (Kd.of HT0.out.kd)) ((Kd.of HT0.out.kd).row HB4.out.2))
      obtain ⟨gt, hgt⟩ : ∃ g, g = W4.heap.size := ⟨_, rfl⟩
      have HGT2 := Lib.hid hgt
      rw [← hgt]
      clear hW5 hgt c0 c1 c2 c3
      have c0 := HG5.out.2.cell (i := 0) rfl
      have c1 := HG5.out.2.cell (i := 1) rfl
      have c2 := HG5.out.2.cell (i := 2) rfl
      have c3 := HG5.out.2.cell (i := 3) rfl
      go_upto_region 7 with (fail)
      clear c0 c1 c2 c3
      go_loopw [33] (fun s5 wr => ∃ (k : Nat) (v : Value), k ≤ na ∧ s5 = .int .i64 (k : Int) ∧ TuI W4 N t s (tuA A) k v wr) (fun s5 _ => na - (intOf s5).toNat)
      case atStart => exact ⟨0, _, by omega, rfl, HT0.out⟩
      case round =>
        obtain ⟨k, v, hk, rfl, hR⟩ := hrel
        have HR := Lib.hid hR
        have HK := Lib.hid hk
        clear hR hk
        by_cases hlt : k < na
        · have hki : (k : Int) < (na : Int) := by omega
          have HWR := Lib.hid (wrap_succ hlt (show na ≤ maxLen by have := HTL.out.2.1; unfold maxLen; omega))
          have hkd : Kd w wr := HB4.out.1.trans (Kd.of HR.out.kd)
          obtain ⟨-, -, -, hat⟩ := arcs_at (hkd.arest HAV.out)
          obtain ⟨-, b1, o1, q1, -, f0, f1, f2⟩ := hat k (by have := HNA.out; omega)
          subst q1
          obtain ⟨x, hx⟩ : ∃ x, x = A.getD k (0, 0, 0) := ⟨_, rfl⟩
          have HE : Hid ((tuA A)[k]? = some (x.2.1, x.1, x.2.2)) := Lib.hid (by rw [hx]; exact tuA_at (by have := HNA.out; omega))
          rw [← hx] at f0 f1 f2
          obtain ⟨x0, x1, x2⟩ := x
          simp only at f0 f1 f2 HE
          have HLT := Lib.hid hlt
          clear hx hat hkd hlt
          go_upto_region 9 with (fail)
          have q5 : Row (wr.alloc (.cells #[.int .i64 x0, .int .i64 x1, .int .i64 x2] 43)) wr.heap.size 43 [.int .i64 x0, .int .i64 x1, .int .i64 x2] := row_new wr 43 _
          have hb5 : Below wr.heap.size wr (wr.alloc (.cells #[.int .i64 x0, .int .i64 x1, .int .i64 x2] 43)) := Joins.below_alloc1 wr _
          obtain ⟨W6, hW6⟩ : ∃ W6, W6 = wr.alloc (.cells #[.int .i64 x0, .int .i64 x1, .int .i64 x2] 43) := ⟨_, rfl⟩
          rw [← hW6] at q5 hb5 ⊢
          have HB6 := Lib.hid hb5
          have e0 := q5.cell (i := 0) rfl
          have e1 := q5.cell (i := 1) rfl
          have e2 := q5.cell (i := 2) rfl
          have d3 := (HR.out.row.keep hb5).cell (i := 3) rfl
          rw [← HGT2.out] at d3
          have d3f := (HR.out.row.keep hb5).free 3
          rw [← HGT2.out] at d3f
          clear hW6 q5 hb5 f0 f1 f2
          have HN6 := Lib.hid (HR.out.buf.keep HB6.out)
          go_upto_region 10 with (at_builtin; refine wpList_ar rfl (.tmp 38) (.tmp 46) rfl v ((tuA A).take k) rfl (HN6.out.keep (Joins.below_alloc1 W6 _)) W6.heap.size (x1, x0, x2) rfl (row_new W6 43 _) (by rw [List.length_take]; have := HTL.out; omega) ?_; intro v' w' hp hw; have HI := Lib.hid (HR.out.next (HB6.out.trans (Joins.below_alloc1 W6 _ |>.mono HB6.out.size)) HE.out hp hw); have hrw := HR.out.at (HB6.out.trans (Joins.below_alloc1 W6 _ |>.mono HB6.out.size)) hw; rw [← HGT2.out] at HI hrw; have z3 := hrw.cell (i := 3) rfl; have z3f := hrw.free 3; obtain ⟨a9, c9, e9, -⟩ := hp.shape; obtain ⟨n9, hn9⟩ : ∃ n, n = ((tuA A).take k ++ [(x1, x0, x2)]).length := ⟨_, rfl⟩; rw [← hn9] at e9; subst e9; clear hp hw hrw hn9)
          go_wp2_with fail
          refine ⟨⟨k + 1, _, by have := HLT.out; omega, by rw [HWR.out, Int.natCast_succ], HI.out⟩, by have := HLT.out; exact back_less this HWR.out⟩
        · obtain rfl : k = na := by have := HK.out; omega
          have HB9 : Hid (Kd W4 wr) := Lib.hid (Kd.of HR.out.kd)
          have HR9 : Hid (Row wr gt 24 [.int .i64 N, .int .i64 t, .int .i64 s, v] ∧ ARest wr.heap.size wr (tuA A) v) := Lib.hid (by
            refine ⟨by rw [HGT2.out]; exact HR.out.row, ?_⟩
            have h1 := HR.out.buf
            rw [List.take_of_length_le (by rw [HTL.out.1]; exact Nat.le_refl _)] at h1
            exact h1.rest HTL.out.2.2)
          have HG9 := Lib.hid (And.intro (HB4.out.1.trans HB9.out) (HB9.out.row HB4.out.2))
          have c0 := HG9.out.2.cell (i := 0) rfl
          have c1 := HG9.out.2.cell (i := 1) rfl
          have c2 := HG9.out.2.cell (i := 2) rfl
          have c3 := HG9.out.2.cell (i := 3) rfl
          have HM4 := Lib.hid (HG4.out wr HG9.out.1)
          go_upto_region 12 with (go_at_call 22; refine HM4.out.mono ?_; rintro e W7 ⟨X7, l7, vs7, hm⟩; have HM7 := Lib.hid hm; obtain rfl := hm.e; clear hm)
          obtain ⟨as7, cs7, hv7⟩ := brest_shape HM7.out.sd
          subst hv7
          obtain ⟨m7, hm7⟩ : ∃ m, m = surp A X7 s := ⟨_, rfl⟩
          have HMV7 := Lib.hid hm7
          rw [← hm7]
          clear c0 c1 c2 c3 hm7
          have hr7 := HM7.out.kd.row HR9.out.1
          have c0 := hr7.cell (i := 0) rfl
          have c1 := hr7.cell (i := 1) rfl
          have c2 := hr7.cell (i := 2) rfl
          have c3 := hr7.cell (i := 3) rfl
          have HM5 := Lib.hid (HT4.out W7 v (HM7.out.kd.arest HR9.out.2))
          go_upto_region 13 with (go_at_call 22; refine HM5.out.mono ?_; rintro e W8 ⟨X8, l8, vs8, hm⟩; have HM8 := Lib.hid hm; obtain rfl := hm.e; clear hm)
          obtain ⟨as8, cs8, hv8⟩ := brest_shape HM8.out.sd
          subst hv8
          have htu := HTU.out _ _ _ _ _ _ _ _ _ _ _ _ HM7.out HM8.out (by first | rfl | trivial)
          have HTU2 := Lib.hid htu.2
          obtain ⟨n7, hn7⟩ : ∃ m, m = l7.length := ⟨_, rfl⟩
          have hn8 : n7 = l8.length := by rw [hn7]; exact htu.2.1
          rw [htu.1, ← HMV7.out, ← hn8, ← hn7]
          have HN7 := Lib.hid (And.intro hn7 hn8)
          clear c0 c1 c2 c3 hr7 htu hn7 hn8
          have hat := (bools_at (HM8.out.kd.brest HM7.out.sd)).2.2
          have hat' := (bools_at HM8.out.sd).2.2
          have HAT := Lib.hid hat
          have HBT := Lib.hid hat'
          have HNM : Hid (n7 ≤ maxLen) := Lib.hid (by have h1 := HN7.out.1; have h3 := (bools_at HM7.out.sd).2.1; have h4 := hat.1; omega)
          have HZ8 := Lib.hid ((HG9.out.1.trans HM7.out.kd).trans HM8.out.kd)
          clear hat hat'
          go_upto_region 16 with (fail)
          go_loopw [75] (fun s5 wr => ∃ (k : Nat), k ≤ n7 ∧ s5 = .int .i64 (k : Int) ∧ Kd W8 wr) (fun s5 _ => n7 - (intOf s5).toNat)
          case atStart => exact ⟨0, by omega, rfl, Kd.refl _⟩
          case round =>
            obtain ⟨k, hk, rfl, hR⟩ := hrel
            have HR := Lib.hid hR
            have HK := Lib.hid hk
            clear hR hk
            by_cases hlt : k < n7
            · have hki : (k : Int) < (n7 : Int) := by omega
              have HWR := Lib.hid (wrap_succ hlt HNM.out)
              obtain ⟨b1, o1, q1, hb1, f1⟩ := HAT.out.2 k (by have := HN7.out.1; omega)
              obtain ⟨b2, o2, q2, hb2, f2⟩ := HBT.out.2 k (by have := HN7.out.2; omega)
              subst q1 q2
              have c1 := HR.out.cell f1
              have c2 := HR.out.cell f2
              have himp := HTU2.out.2 k (by have := HN7.out.1; omega)
              obtain ⟨x, hx⟩ : ∃ x, x = l7.getD k false := ⟨_, rfl⟩
              obtain ⟨y, hy⟩ : ∃ x, x = l8.getD k false := ⟨_, rfl⟩
              rw [← hx] at c1 himp
              rw [← hy] at c2 himp
              have HLT := Lib.hid hlt
              clear f1 f2 hb1 hb2 hx hy hlt
              have hxy : (x = false) ∨ (x = true ∧ y = false) := by cases x <;> simp_all
              clear himp
              rcases hxy with rfl | ⟨rfl, rfl⟩
              · go_wp2_with (go_quiet (fail))
                refine ⟨⟨k + 1, by have := HLT.out; omega, by rw [HWR.out, Int.natCast_succ], by first | exact HR.out | exact HR.out.trans (Kd.drewN _ _)⟩, by have := HLT.out; exact back_less this HWR.out⟩
              · go_wp2_with (go_quiet (fail))
                refine ⟨⟨k + 1, by have := HLT.out; omega, by rw [HWR.out, Int.natCast_succ], by first | exact HR.out | exact HR.out.trans (Kd.drewN _ _)⟩, by have := HLT.out; exact back_less this HWR.out⟩
            · obtain rfl : k = n7 := by have := HK.out; omega
              go_wp2_with fail
              refine bodyPost_ret (results_tmp rfl _ _ _) rfl ?_
              exact ⟨rfl, HZ8.out.trans HR.out⟩
    · have g1 : (er != 0) = true := by simp [he]
      go_wp2_with (first | (go_at_call 17; refine HF2.out.mono ?_; rintro e W3 ⟨rfl, hk⟩; have HB3 : Hid (Kd w W3 ∧ Row W3 w.heap.size 24 [.int .i64 N, .int .i64 s, .int .i64 t, .slice aa na ca]) := Lib.hid ⟨HB2.out.1.trans hk, hk.row HB2.out.2⟩; have e0 := HB3.out.2.cell (i := 0) rfl; have e1 := HB3.out.2.cell (i := 1) rfl; have e2 := HB3.out.2.cell (i := 2) rfl; have e3 := HB3.out.2.cell (i := 3) rfl; have HC3 := Lib.hid (HCK.out W3 HB3.out.1); clear hk) | (go_at_call 15; refine HC3.out.mono ?_; rintro e W4 ⟨rfl, hk⟩; have HZ4 := Lib.hid (HB3.out.1.trans hk); clear hk))
      refine bodyPost_ret (results_tmp rfl _ _ _) rfl ?_
      exact ⟨rfl, HZ4.out⟩
end Go.Proofs.Ytbmbddapbgnioaa
