/- Ie -/
import Derived.Test.YtbmbddapbgnioaaJb
namespace Go.Proofs.Ytbmbddapbgnioaa
open Go.RowKit Go.Shelf

set_option maxRecDepth 100000 in
set_option maxHeartbeats 8000000 in
theorem more_walk (N s t : Int) (A : List Ar) (at8 by16 : Int) (va : Value) (w : World) (hA : ARest w.heap.size w A va) (hat8 : 0 ≤ at8 ∧ at8 ≤ 255) (hby : 0 ≤ by16 ∧ by16 ≤ 65535) :
    Calls Try.prog 9 #[netV N s t va, .int .u8 at8, .int .u16 by16] w fun e w' => e = .returned (.bool true) ∧ Kd w w' := by
  have HA := Lib.hid hA
  have HFEW : Hid (∀ W, Kd w W → Calls Try.prog 17 #[netV N s t va] W fun e w' => e = .returned (.bool (fewB N (netE N s t A) A.length)) ∧ Kd W w') := Lib.hid (fun W hW => (few_call N s t A va W (hW.arest hA)).mono fun e w' h => ⟨h.1, Kd.of h.2⟩)
  have HCK : Hid (∀ W, Kd w W → Calls Try.prog 15 #[netV N s t va] W fun e w' => e = .returned (.int .i64 (netE N s t A)) ∧ Kd W w') := Lib.hid (fun W hW => (check_call N s t A va W (hW.arest hA)).mono fun e w' h => ⟨h.1, Kd.of h.2⟩)
  obtain ⟨er, her⟩ : ∃ x, x = netE N s t A := ⟨_, rfl⟩
  have HGR : Hid (netE N s t A = 0 → ∀ W, Kd w W → Calls Try.prog 22 #[netV N s t va] W fun e w' => ∃ X l vs, GrI N s t A W e w' X l vs) := Lib.hid (fun hE W hW => greatest_int N s t A va W (hW.arest hA) hE)
  have HGT : Hid (∀ W v2 j q, netE N s t (moA A j q) = 0 → ARest W.heap.size W (moA A j q) v2 → Calls Try.prog 22 #[netV N s t v2] W fun e w' => ∃ X l vs, GrI N s t (moA A j q) W e w' X l vs) := Lib.hid (fun W v2 j q hE hW => greatest_int N s t (moA A j q) v2 W hW hE)
  rw [← her] at HGR
  obtain ⟨aa, ca, rfl, -⟩ := id hA
  obtain ⟨na, hna⟩ : ∃ n, n = A.length := ⟨_, rfl⟩
  have HNA := Lib.hid hna
  have HAA := hA
  rw [← hna] at HFEW HCK HGR HAA ⊢
  have HAV := Lib.hid HAA
  clear hna HAA
  rw [← her] at HFEW HCK
  have HER := Lib.hid her
  clear hA her HA
  unfold netV at *
  have HSN : Hid (∀ W, Calls Try.prog 10 #[] W fun e w' => e = .returned (.bool true) ∧ Kd W w') := Lib.hid sane_call
  have HX := Lib.hid (bx_new w N s t (.slice aa na ca))
  obtain ⟨W1, hW1⟩ : ∃ W1, W1 = w.alloc (.cells #[.int .i64 N, .int .i64 s, .int .i64 t, .slice aa na ca] 24) := ⟨_, rfl⟩
  have HW1 := Lib.hid hW1
  rw [← hW1] at HX
  clear hW1
  have HB : Hid (Kd w W1 ∧ Row W1 w.heap.size 24 [.int .i64 N, .int .i64 s, .int .i64 t, .slice aa na ca]) := Lib.hid ⟨Kd.of HX.out.bw, HX.out.row⟩
  clear HX
  have HS1 := Lib.hid (HSN.out W1)
  go_enter Try.func9, Try.ntmps9
  go_upto_region 1 with (fail)
  rw [← HW1.out]
  go_upto_region 3 with (go_at_call 10; refine HS1.out.mono ?_; rintro e W2 ⟨rfl, hk⟩; have HB2 : Hid (Kd w W2 ∧ Row W2 w.heap.size 24 [.int .i64 N, .int .i64 s, .int .i64 t, .slice aa na ca]) := Lib.hid ⟨HB.out.1.trans hk, hk.row HB.out.2⟩; clear hk)
  clear HB HS1 HW1 HSN
  have c0 := HB2.out.2.cell (i := 0) rfl
  have c1 := HB2.out.2.cell (i := 1) rfl
  have c2 := HB2.out.2.cell (i := 2) rfl
  have c3 := HB2.out.2.cell (i := 3) rfl
  have HF2 := Lib.hid (HFEW.out W2 HB2.out.1)
  cases hf : fewB N er na with
  | false =>
    rw [hf] at HF2
    go_wp2_with (go_at_call 17; refine HF2.out.mono ?_; rintro e W3 ⟨rfl, hk⟩; have HZ3 := Lib.hid (HB2.out.1.trans hk); clear hk)
    refine bodyPost_ret (results_tmp rfl _ _ _) rfl ?_
    exact ⟨rfl, HZ3.out⟩
  | true =>
    rw [hf] at HF2
    clear hf
    by_cases he : er = 0
    · subst he
      have HLN : Hid (na ≤ 512) := Lib.hid (by have h1 := (net_ok HER.out.symm).few; rw [HNA.out]; exact h1)
      by_cases hna0 : na = 0
      · have hni : ((na : Int) == 0) = true := by simp; omega
        clear hna0
        go_wp2_with (first | (go_at_call 17; refine HF2.out.mono ?_; rintro e W3 ⟨rfl, hk⟩; have HB3 : Hid (Kd w W3 ∧ Row W3 w.heap.size 24 [.int .i64 N, .int .i64 s, .int .i64 t, .slice aa na ca]) := Lib.hid ⟨HB2.out.1.trans hk, hk.row HB2.out.2⟩; have e0 := HB3.out.2.cell (i := 0) rfl; have e1 := HB3.out.2.cell (i := 1) rfl; have e2 := HB3.out.2.cell (i := 2) rfl; have e3 := HB3.out.2.cell (i := 3) rfl; have HC3 := Lib.hid (HCK.out W3 HB3.out.1); clear hk) | (go_at_call 15; refine HC3.out.mono ?_; rintro e W4 ⟨rfl, hk⟩; have HB4 : Hid (Kd w W4 ∧ Row W4 w.heap.size 24 [.int .i64 N, .int .i64 s, .int .i64 t, .slice aa na ca]) := Lib.hid ⟨HB3.out.1.trans hk, hk.row HB3.out.2⟩; have e3z := HB4.out.2.cell (i := 3) rfl; clear hk))
        refine bodyPost_ret (results_tmp rfl _ _ _) rfl ?_
        exact ⟨rfl, HB4.out.1⟩
      have hpos : 0 < na := by omega
      have hni : ((na : Int) == 0) = false := by simp; omega
      have hni2 : ¬ (na : Int) = 0 := by omega
      obtain ⟨ji, hji⟩ : ∃ m, m = at8.tmod (na : Int) := ⟨_, rfl⟩
      obtain ⟨j, hj⟩ : ∃ j : Nat, (j : Int) = ji ∧ j < na := by
        have h1 : at8.tmod (na : Int) = at8 % na := Int.tmod_eq_emod_of_nonneg hat8.1
        have h2 := Int.emod_nonneg at8 hni2
        have h3 := Int.emod_lt_of_pos at8 (show (0 : Int) < na by omega)
        exact ⟨ji.toNat, by omega, by omega⟩
      obtain ⟨hj, hjn⟩ := hj
      rw [← hj] at hji
      have HJ := Lib.hid (And.intro hji hjn)
      go_upto_region 5 with (first | (go_at_call 17; refine HF2.out.mono ?_; rintro e W3 ⟨rfl, hk⟩; have HB3 : Hid (Kd w W3 ∧ Row W3 w.heap.size 24 [.int .i64 N, .int .i64 s, .int .i64 t, .slice aa na ca]) := Lib.hid ⟨HB2.out.1.trans hk, hk.row HB2.out.2⟩; have e0 := HB3.out.2.cell (i := 0) rfl; have e1 := HB3.out.2.cell (i := 1) rfl; have e2 := HB3.out.2.cell (i := 2) rfl; have e3 := HB3.out.2.cell (i := 3) rfl; have HC3 := Lib.hid (HCK.out W3 HB3.out.1); clear hk) | (go_at_call 15; refine HC3.out.mono ?_; rintro e W4 ⟨rfl, hk⟩; have HB4 : Hid (Kd w W4 ∧ Row W4 w.heap.size 24 [.int .i64 N, .int .i64 s, .int .i64 t, .slice aa na ca]) := Lib.hid ⟨HB3.out.1.trans hk, hk.row HB3.out.2⟩; have e3z := HB4.out.2.cell (i := 3) rfl; clear hk))
      clear c0 c1 c2 c3 e0 e1 e2 e3 e3z HC3 HB3 HB2 HF2 HFEW HCK hj hji hjn hna0 hpos hni hni2
      have c0 := HB4.out.2.cell (i := 0) rfl
      have c1 := HB4.out.2.cell (i := 1) rfl
      have c2 := HB4.out.2.cell (i := 2) rfl
      have c3 := HB4.out.2.cell (i := 3) rfl
      go_upto_region 6 with (fail)
      have hq5 : Row (W4.alloc (.cells #[.int .i64 N, .int .i64 s, .int .i64 t, .slice aa na ca] 24)) W4.heap.size 24 [.int .i64 N, .int .i64 s, .int .i64 t, .slice aa na ca] := row_new W4 24 _
      have hb5 : Below W4.heap.size W4 (W4.alloc (.cells #[.int .i64 N, .int .i64 s, .int .i64 t, .slice aa na ca] 24)) := Joins.below_alloc1 W4 _
      obtain ⟨W5, hW5⟩ : ∃ W5, W5 = W4.alloc (.cells #[.int .i64 N, .int .i64 s, .int .i64 t, .slice aa na ca] 24) := ⟨_, rfl⟩
      rw [← hW5] at hq5 hb5 ⊢
      have HQ5 := Lib.hid (And.intro hb5 hq5)
      have HG5 := Lib.hid (And.intro (HB4.out.1.trans (Kd.of hb5)) ((Kd.of hb5).row HB4.out.2))
      obtain ⟨gt, hgt⟩ : ∃ g, g = W4.heap.size := ⟨_, rfl⟩
      have HGT2 := Lib.hid hgt
      rw [← hgt]
      clear hW5 hgt c0 c1 c2 c3 hq5 hb5
      have c0 := HG5.out.2.cell (i := 0) rfl
      have c1 := HG5.out.2.cell (i := 1) rfl
      have c2 := HG5.out.2.cell (i := 2) rfl
      have c3 := HG5.out.2.cell (i := 3) rfl
      have c3z := (HG5.out.2.keep (Joins.below_alloc1 W5 (.cells #[] 43))).cell (i := 3) rfl
      go_upto_region 7 with (at_builtin; refine wpList_copy_arcs rfl (.tmp 33) (.tmp 35) rfl W5.heap.size rfl (row_new W5 43 []) A (.slice aa na ca) rfl ((HG5.out.1.trans (Kd.alloc W5 _)).arest HAV.out) (by have := HLN.out; have := HNA.out; omega) ?_; intro v' w' hp hw; have HI := Lib.hid (CpI.make HQ5.out.1 HQ5.out.2 hp hw); have hrw := CpI.mid HQ5.out.1 HQ5.out.2 hw; rw [← HGT2.out] at HI hrw; have z3 := hrw.cell (i := 3) rfl; have z3f := hrw.free 3; obtain ⟨a9, c9, e9, hc9, -⟩ := hp.shape; rw [← HNA.out] at e9 hc9; subst e9; clear hp hw hrw)
      obtain ⟨W6, hW6⟩ : ∃ W6, W6 = w'.setCell ⟨gt, 3, none⟩ (.slice a9 na c9) := ⟨_, rfl⟩
      rw [← hW6] at HI ⊢
      have HG6 := Lib.hid (HB4.out.1.trans (Kd.of HI.out.kd))
      have HQ6 := Lib.hid ((Kd.of HI.out.kd).row HB4.out.2)
      clear hW6 c0 c1 c2 c3 c3z z3 z3f
      have hjn := HJ.out.2
      have hjA : j < A.length := by have := HNA.out; omega
      obtain ⟨x, hx⟩ : ∃ x, x = A.getD j (0, 0, 0) := ⟨_, rfl⟩
      have hmx : A[j]? = some x := by rw [hx]; simp [hjA]
      obtain ⟨a0, cap0, hv0, hc0, -, hat⟩ := HI.out.buf.shape
      obtain ⟨b1, q1, hown, f0, f1, f2⟩ := hat j _ hmx
      rw [← HNA.out] at hv0
      injection hv0 with hv1 hv2 hv3
      rw [← hv1] at q1
      subst q1
      have hxin : x ∈ A := by rw [hx]; simp [hjA]
      have hcap := (net_ok HER.out.symm).caps x hxin
      have hinn := (net_ok HER.out.symm).net.inn x hxin
      have hrng := (net_ok HER.out.symm).rng
      obtain ⟨x0, x1, x2⟩ := x
      simp only at f0 f1 f2 hcap hinn
      have hfz : W6.frozen? ⟨b1, j * 3 + 2, none⟩ = false := by
        rcases HI.out.buf.2 with ⟨h9, -⟩ | ⟨g9, cap9, cur9, h9, -, hg9, -⟩
        · cases h9
        · injection h9 with h9
          injection h9 with h9
          injection h9 with h9
          subst h9
          exact frozen_of_row W6 b1 _ _ _ hg9
      have d3 := HI.out.row.cell (i := 3) rfl
      rw [← HGT2.out] at d3
      have e3 := HQ6.out.cell (i := 3) rfl
      have hji : (at8).tmod (na : Int) = (j : Int) := HJ.out.1.symm
      have hni2 : ¬ na = 0 := by omega
      have hni3 : ¬ (na : Int) = 0 := by omega
      have hni : ((na : Int) == 0) = false := by simp; omega
      have hle9 : na ≤ c9 := hc9
      have HBW := Lib.hid (And.intro hx (And.intro hmx hown))
      have HCI := Lib.hid (And.intro hcap (And.intro hinn hrng))
      have hwr : wrap64 (x2 + by16) = x2 + by16 := by unfold wrap64; omega
      have hji0 : (0 : Int) ≤ (j : Int) := by omega
      have hjlt : (j : Int) < (na : Int) := by omega
      clear hx hmx hat hv1 hv2 hv3 hc0 hown
      go_upto_region 8 with (go_quiet (fail))
      have HI7 := Lib.hid (HI.out.drew nq)
      obtain ⟨W7, hW7⟩ : ∃ W7, W7 = W6.drewN nq := ⟨_, rfl⟩
      have g2 : W7.cell? ⟨b1, j * 3 + 2, none⟩ = some (.int .i64 x2) := by rw [hW7]; exact f2
      have g2z : W7.frozen? ⟨b1, j * 3 + 2, none⟩ = false := by rw [hW7]; exact hfz
      rw [← hW7] at HI7 ⊢
      clear hW7 f0 f1 f2 hfz d3 e3
      go_upto_region 9 with (fail)
      have HI8 := Lib.hid (HI7.out.cap HBW.out.2.1 HBW.out.2.2 (x2 + by16))
      obtain ⟨W8, hW8⟩ : ∃ W8, W8 = W7.setCell ⟨b1, j * 3 + 2, none⟩ (.int .i64 (x2 + by16)) := ⟨_, rfl⟩
      rw [← hW8] at HI8 ⊢
      clear hW8 g2 g2z
      have hset : A.set j (x0, x1, x2 + by16) = moA A j by16 := by
        have h9 := moA_set by16 A j hjA
        rw [← HBW.out.1] at h9
        exact h9
      simp only at HI8
      rw [hset] at HI8
      clear hset
      have hat8x := HI8.out.buf.shape
      obtain ⟨a0, cap0, hv0, -, -, hat⟩ := hat8x
      have hmo8 : (moA A j by16)[j]? = some (x0, x1, x2 + by16) := by
        have h9 := moA_set by16 A j hjA
        rw [← HBW.out.1] at h9
        rw [← h9]
        simp [hjA]
      obtain ⟨b2, q2, hown2, f0, f1, f2⟩ := hat j _ hmo8
      obtain rfl : b1 = b2 := by
        have h9 := HBW.out.2.2
        rw [hown2] at h9
        injection h9 with h9
        exact h9.symm
      simp only at f0 f1 f2
      clear hat hv0 q2 hown2 hmo8
      by_cases hbig : x2 + by16 ≤ 1073741824
      · have hnm : netE N s t (moA A j by16) = 0 := net_mo HER.out.symm j hjA hby.1 (by rw [← HBW.out.1]; exact hbig)
        have HNM := Lib.hid hnm
        have hcaps := (net_ok hnm).caps
        have hinns := (net_ok hnm).net.inn
        have hrngs := (net_ok hnm).rng
        have HR9 : Hid (Row W8 gt 24 [.int .i64 N, .int .i64 s, .int .i64 t, .slice (some ⟨b1, 0, none⟩) na c9] ∧ ARest W8.heap.size W8 (moA A j by16) (.slice (some ⟨b1, 0, none⟩) na c9)) := Lib.hid (by
          refine ⟨by rw [HGT2.out]; exact HI8.out.row, ?_⟩
          exact HI8.out.buf.rest (fun p hp => by have h1 := hcaps p hp; have h2 := hinns p hp; unfold I64; omega))
        have HG9 := Lib.hid (And.intro (HB4.out.1.trans (Kd.of HI8.out.kd)) ((Kd.of HI8.out.kd).row HB4.out.2))
        clear hcaps hinns hrngs hnm
        have c0 := HG9.out.2.cell (i := 0) rfl
        have c1 := HG9.out.2.cell (i := 1) rfl
        have c2 := HG9.out.2.cell (i := 2) rfl
        have c3 := HG9.out.2.cell (i := 3) rfl
        have HM4 := Lib.hid (HGR.out (by first | rfl | trivial) W8 HG9.out.1)
        have HF9 := Lib.hid (And.intro f0 (And.intro f1 f2))
        go_upto_region 12 with (go_at_call 22; refine HM4.out.mono ?_; rintro e W9 ⟨X7, l7, vs7, hm⟩; have HM7 := Lib.hid hm; obtain rfl := hm.e; clear hm)
        obtain ⟨as7, cs7, hv7⟩ := brest_shape HM7.out.sd
        subst hv7
        obtain ⟨m7, hm7⟩ : ∃ m, m = surp A X7 s := ⟨_, rfl⟩
        have HMV7 := Lib.hid hm7
        have hsm := HM7.out.small HER.out.symm
        rw [← hm7] at hsm ⊢
        clear c0 c1 c2 c3 f0 f1 f2 hm7
        have hr7 := HM7.out.kd.row HR9.out.1
        have c0 := hr7.cell (i := 0) rfl
        have c1 := hr7.cell (i := 1) rfl
        have c2 := hr7.cell (i := 2) rfl
        have c3 := hr7.cell (i := 3) rfl
        have HM5 := Lib.hid (HGT.out W9 (.slice (some ⟨b1, 0, none⟩) na c9) j by16 HNM.out (HM7.out.kd.arest HR9.out.2))
        go_upto_region 13 with (go_at_call 22; refine HM5.out.mono ?_; rintro e W10 ⟨X8, l8, vs8, hm⟩; have HM8 := Lib.hid hm; obtain rfl := hm.e; clear hm)
        obtain ⟨as8, cs8, hv8⟩ := brest_shape HM8.out.sd
        subst hv8
        obtain ⟨i1, i2, i3⟩ := increased hby.1 j hjA (net_ok HER.out.symm).net HM7.out.max HM8.out.max
        have hx0 := HBW.out.1
        rw [← hx0, ← HMV7.out] at i3
        rw [← HMV7.out] at i1 i2
        obtain ⟨m8, hm8⟩ : ∃ m, m = surp (moA A j by16) X8 s := ⟨_, rfl⟩
        rw [← hm8] at i1 i2 i3 ⊢
        obtain ⟨k0, hk0⟩ : ∃ k : Nat, x0 = (k : Int) := ⟨x0.toNat, by omega⟩
        obtain ⟨k1, hk1⟩ : ∃ k : Nat, x1 = (k : Int) := ⟨x1.toNat, by omega⟩
        simp only at i3
        rw [hk0, hk1, ofL_at, ofL_at] at i3
        subst hk0 hk1
        have hbl := bools_at ((HM8.out.kd).brest HM7.out.sd)
        have hlen7 := HM7.out.len
        obtain ⟨n7, hn7⟩ : ∃ n, n = l7.length := ⟨_, rfl⟩
        obtain ⟨p1, o1, q1, -, u0⟩ := hbl.2.2.2 k0 (by omega)
        obtain ⟨p2, o2, q2, -, u1⟩ := hbl.2.2.2 k1 (by omega)
        rw [q1] at q2
        injection q2 with q2
        injection q2 with q2 q3
        subst q2 q3 q1
        have hk0n : k0 < n7 := by omega
        have hk1n : k1 < n7 := by omega
        have hk0i : (k0 : Int) < (n7 : Int) := by omega
        have hk1i : (k1 : Int) < (n7 : Int) := by omega
        rw [← hn7]
        have y0 := HM8.out.kd.cell (HM7.out.kd.cell HF9.out.1)
        have y1 := HM8.out.kd.cell (HM7.out.kd.cell HF9.out.2.1)
        obtain ⟨z0, hz0⟩ : ∃ z, z = l7.getD k0 false := ⟨_, rfl⟩
        obtain ⟨z1, hz1⟩ : ∃ z, z = l7.getD k1 false := ⟨_, rfl⟩
        rw [← hz0, ← hz1] at i3
        rw [← hz0] at u0
        rw [← hz1] at u1
        have HZ8 := Lib.hid ((HG9.out.1.trans HM7.out.kd).trans HM8.out.kd)
        have hw7 : wrap64 (m7 + by16) = m7 + by16 := by unfold wrap64; omega
        have g1 : decide (m7 ≤ m8) = true := decide_eq_true i1
        have g2 : decide (m8 ≤ m7 + by16) = true := decide_eq_true i2
        clear c0 c1 c2 c3 hr7 hx0 hbl hlen7 hn7 hz0 hz1 hm8
        cases z0 with
        | false =>
          have hem : m8 = m7 := i3 (by simp)
          clear i3
          have g3 : (m8 == m7) = true := by simp [hem]
          have HEM := Lib.hid hem
          clear hem
          go_wp2_with (go_quiet (fail))
          refine bodyPost_ret (results_tmp rfl _ _ _) rfl ?_
          exact ⟨rfl, by first | exact HZ8.out | exact HZ8.out.trans (Kd.drewN _ _)⟩
        | true =>
          cases z1 with
          | false =>
            clear i3
            go_wp2_with (go_quiet (fail))
            refine bodyPost_ret (results_tmp rfl _ _ _) rfl ?_
            exact ⟨rfl, by first | exact HZ8.out | exact HZ8.out.trans (Kd.drewN _ _)⟩
          | true =>
            have hem : m8 = m7 := i3 (by simp)
            clear i3
            have g3 : (m8 == m7) = true := by simp [hem]
            have HEM := Lib.hid hem
            clear hem
            go_wp2_with (go_quiet (fail))
            refine bodyPost_ret (results_tmp rfl _ _ _) rfl ?_
            exact ⟨rfl, by first | exact HZ8.out | exact HZ8.out.trans (Kd.drewN _ _)⟩
      · have gb : 1073741824 < x2 + by16 := by omega
        go_wp2_with fail
        refine bodyPost_ret (results_tmp rfl _ _ _) rfl ?_
        exact ⟨rfl, HB4.out.1.trans (Kd.of HI8.out.kd)⟩
    · have g1 : (er != 0) = true := by simp [he]
      go_wp2_with (first | (go_at_call 17; refine HF2.out.mono ?_; rintro e W3 ⟨rfl, hk⟩; have HB3 : Hid (Kd w W3 ∧ Row W3 w.heap.size 24 [.int .i64 N, .int .i64 s, .int .i64 t, .slice aa na ca]) := Lib.hid ⟨HB2.out.1.trans hk, hk.row HB2.out.2⟩; have e0 := HB3.out.2.cell (i := 0) rfl; have e1 := HB3.out.2.cell (i := 1) rfl; have e2 := HB3.out.2.cell (i := 2) rfl; have e3 := HB3.out.2.cell (i := 3) rfl; have HC3 := Lib.hid (HCK.out W3 HB3.out.1); clear hk) | (go_at_call 15; refine HC3.out.mono ?_; rintro e W4 ⟨rfl, hk⟩; have HZ4 := Lib.hid (HB3.out.1.trans hk); clear hk))
      refine bodyPost_ret (results_tmp rfl _ _ _) rfl ?_
      exact ⟨rfl, HZ4.out⟩
end Go.Proofs.Ytbmbddapbgnioaa
