/- Deny, where the costs are right. -/
import Derived.Test.YthkmbbgcadfilaaPg
namespace Go.Proofs.Ythkmbbgcadfilaa
open Go.RowKit Go.Shelf
attribute [local go_sem] Oper.semAt_some

theorem UBuf.same' {w w' : World} {v : Value} {zs : List Nat} (h : UBuf w v zs) (he : ∀ k, v.ownBlock = some k → w'.heap[k]? = w.heap[k]?) : UBuf w' v zs := by
  refine ⟨h.1, ?_⟩
  rcases h.2 with h0 | ⟨g, cap, cur, rfl, h2, h3, h4⟩
  · exact .inl h0
  · exact .inr ⟨g, cap, cur, rfl, h2, (he g rfl).trans h3, h4⟩
set_option maxRecDepth 100000 in
set_option maxHeartbeats 4000000 in
theorem lists_call (n : Nat) (w : World) :
    Calls Try.prog 41 #[.int .i64 (n : Int)] w fun e w' => e = .returned (.func (.func 53) #[] #[.pointer (some ⟨w.heap.size, 0, none⟩)]) ∧ w' = w.alloc (.cells #[.int .i64 (n : Int)] 3) := by
  go_enter Try.func41, Try.ntmps41
  go_wp2_with fail
  go_ret
  exact ⟨rfl, rfl⟩
set_option maxRecDepth 100000 in
set_option maxHeartbeats 8000000 in
theorem deny_good (C : List (List Int)) (vc : Value) (w : World) (hC : NRest w.heap.size w C vc) (h0 : chkE C = 0) :
    Calls Try.prog 22 #[vc] w (DenQ C w) := by
  have HCH := Lib.hid (check_call C vc (bx3 w) (hC.keep (bx3_below w)))
  have hM := chk_ok h0
  obtain ⟨a, c, rfl⟩ := nrest_shape hC
  have HR := Lib.hid (bx3_res w)
  have HB := Lib.hid (bx3_below w)
  have HC := Lib.hid hC
  have hn16 := hM.n16
  have hm16 := hM.m16
  obtain ⟨m, hm⟩ : ∃ m, m = colsN C := ⟨_, rfl⟩
  obtain ⟨n, hn⟩ : ∃ n, n = C.length := ⟨_, rfl⟩
  have hDP : ∀ v ok w', DenP C v ok w' = ((ok = true ∧ chkE C = 0 ∧ ∃ l, IBuf w' v (ofN l) ∧ SL n l ∧ 1 ≤ l.length ∧ crF C m l ∧ ∀ R, SL n R → 1 ≤ R.length → crF C m R → Bef l R) ∨
      (ok = false ∧ v = nilV ∧ (chkE C = 0 → ∀ R, SL n R → 1 ≤ R.length → ¬ crF C m R))) := by
    intro v ok w'
    unfold DenP
    rw [hn, hm]
  have HDP := Lib.hid hDP
  obtain ⟨w1, hw1⟩ : ∃ w1, w1 = bx3 w := ⟨_, rfl⟩
  have HW1 := Lib.hid hw1
  rw [← hw1] at HCH HR HB
  rw [← hn, ← hm] at hM
  rw [← hn] at HCH HC hn16 ⊢
  rw [← hm] at hm16
  rw [h0] at HCH
  have H0 := Lib.hid h0
  have HM := Lib.hid hM
  clear hn hm h0 hC hw1 hM hDP
  refine (callsIn_wide (n := 6)).1 ?_
  refine callsIn_of_wp_marks Try.func22 rfl trivial ?_ rfl
  simp only [Try.ntmps22, List.size_toArray, List.length_cons, List.length_nil, Nat.reduceAdd, Nat.reduceSub, Array.replicate_succ, Array.replicate_zero, List.push_toArray, List.append_toArray, List.nil_append, List.cons_append]
  refine wpIn_wide.2 ?_
  go_upto_region 1 with (fail)
  change Code.wp _ _ _ _ (bx3 w)
  rw [← HW1.out]
  obtain ⟨b0, hb0⟩ : ∃ b, b = w.heap.size := ⟨_, rfl⟩
  rw [← hb0] at HR ⊢
  have HB0 := Lib.hid hb0
  have f4 := HR.out.r4.free 0
  have d4 := HR.out.r4.cell (i := 0) rfl
  clear hb0
  go_upto_region 2 with (go_at_call 17; refine HCH.out.mono ?_; rintro e w5 ⟨rfl, rfl⟩)
  have HR2 := Lib.hid (HR.out.set4 0)
  have HB2 : Hid (Below w.heap.size w (w5.setCell ⟨b0 + 1 + 1, 0, none⟩ (.int .i64 0))) := Lib.hid (below_setCell HB.out _ _ _ (by have := HB0.out; omega))
  obtain ⟨w2, hw2⟩ : ∃ w2, w2 = w5.setCell ⟨b0 + 1 + 1, 0, none⟩ (.int .i64 0) := ⟨_, rfl⟩
  rw [← hw2] at HR2 HB2 ⊢
  clear hw2 f4 d4 HR HB HCH
  have d4 := HR2.out.r4.cell (i := 0) rfl
  have HSC := Lib.hid (sets_call C (.slice a n c) w2 HM.out (HC.out.keep HB2.out))
  go_upto_region 5 with (go_at_call 40; refine HSC.out.mono ?_; rintro e w3 ⟨hb3, vs, rfl, hu3⟩; obtain ⟨av, cv, ev, -⟩ := hu3.shape; rw [setsN_len] at ev; subst ev; have HB3 := Lib.hid hb3; have HU3 := Lib.hid hu3; clear hb3 hu3)
  clear d4 HSC
  have hb4 := Joins.below_alloc1 w3 (.cells #[.slice av n cv] 55)
  have hq4 : Row (w3.alloc (.cells #[.slice av n cv] 55)) w3.heap.size 55 [.slice av n cv] := row_new w3 _ _
  obtain ⟨w4, hw4⟩ : ∃ w4, w4 = w3.alloc (.cells #[.slice av n cv] 55) := ⟨_, rfl⟩
  obtain ⟨b5, hb5⟩ : ∃ b, b = w3.heap.size := ⟨_, rfl⟩
  rw [← hw4] at hb4 hq4 ⊢
  rw [← hb5] at hq4 ⊢
  have HU4 := Lib.hid (HU3.out.keep hb4)
  have HR4 := Lib.hid ((HR2.out.keep HB3.out).keep hb4)
  have HB4 := Lib.hid (below_next (below_next HB2.out HB3.out) hb4)
  have HQ4 := Lib.hid hq4
  have HLT5 : Hid (¬ b5 < b0 + 1 + 1) := Lib.hid (by have h1 := HR2.out.r4.lt; have h2 := HB3.out.size; omega)
  clear hw4 hb4 hq4 hb5 HU3 HB3 HR2 HB2
  have HLC := Lib.hid (lists_call n w4)
  go_wp2_with (go_at_call 41; refine HLC.out.mono ?_; rintro e w6 ⟨rfl, hw6⟩; have HW6 := Lib.hid hw6; clear hw6)
  have hb6 := Joins.below_alloc1 w4 (.cells #[.int .i64 (n : Int)] 3)
  have hq6 : Row (w4.alloc (.cells #[.int .i64 (n : Int)] 3)) w4.heap.size 3 [.int .i64 (n : Int)] := row_new w4 _ _
  rw [← HW6.out] at hb6 hq6
  obtain ⟨bn, hbn⟩ : ∃ b, b = w4.heap.size := ⟨_, rfl⟩
  rw [← hbn] at hq6 ⊢
  have HU6 := Lib.hid (HU4.out.keep hb6)
  have HR6 := Lib.hid (HR4.out.keep hb6)
  have HB6 := Lib.hid (below_next HB4.out hb6)
  have HQ6 := Lib.hid (HQ4.out.keep hb6)
  have HN6 := Lib.hid hq6
  have hb5n : b5 < bn := by have := HQ4.out.lt; omega
  have hb0n : b0 + 1 + 1 < b5 := by
    have h1 := HR4.out.r4.lt
    have h2 := HR4.out.r4
    have h3 := HQ4.out
    rcases Nat.lt_or_ge (b0 + 1 + 1) b5 with h | h
    · exact h
    · exfalso
      rcases Nat.lt_or_ge b5 (b0 + 1 + 1) with h' | h'
      · have := HB4.out.size
        exact HLT5.out h'
      · obtain rfl : b5 = b0 + 1 + 1 := by omega
        unfold Row at h2 h3
        rw [h2] at h3
        injection h3 with h3
        injection h3 with h4 h5
        cases h5
  have HLT := Lib.hid (And.intro hb5n hb0n)
  clear hb6 hq6 hbn HU4 HR4 HB4 HQ4 HW6 HLC hb5n hb0n
  refine (wpIn_wide (n := 6)).1 ?_
  refine range_ls (F := Fence.wide) (n := 6) rfl (by omega) (gf := 53) (lb := #[.pointer (some ⟨bn, 0, none⟩)]) rfl trivial (enters_of Try.func53 (by kernel_rfl) rfl)
    (B := fun b => b = bn) (fun b hb => by subst hb; exact HN6.out.lt) (nn := n) (fun W hW => lists_tells 5 (by omega) bn _ n hn16 W rfl (fun b hb => by subst hb; exact Nat.lt_of_lt_of_le HN6.out.lt hW.size) ((HN6.out.keep hW).cell (i := 0) rfl)) rfl
    (fun o W => Kp2 (fun b => b < w6.heap.size) w6 W ∧ LsO n (crF C m) o)
    (fun e W => e = .ret ∧ ∃ v l, Res3 b0 v true 0 W ∧ IBuf W v (ofN l) ∧ (∀ k, v.ownBlock = some k → w6.heap.size + 1 < k) ∧ b0 + 1 + 1 < w6.heap.size ∧ Below w.heap.size w W ∧ SL n l ∧ 1 ≤ l.length ∧ crF C m l ∧ ∀ R, SL n R → 1 ≤ R.length → crF C m R → Bef l R)
    (fun o W1 W2 h hk => ⟨h.1.trans hk, h.2⟩) ?ixs ⟨Kp2.refl _ _, LsO.first n _⟩
    (fun x => { tmps := #[.slice a n c, undef, .pointer (some ⟨b0, 0, none⟩), .pointer (some ⟨b0 + 1, 0, none⟩), .pointer (some ⟨b0 + 1 + 1, 0, none⟩), .pointer (some ⟨b5, 0, none⟩), x, undef, undef, undef, .slice a n c, .int .i64 0, .int .i64 0, .bool false, undef, .slice a n c, .slice av n cv, .slice a n c, .int .i64 (n : Int), .func (.func 53) #[] #[.pointer (some ⟨bn, 0, none⟩)], x, undef, undef, undef, undef, undef, undef, undef, undef, undef, undef, undef, undef, undef, undef, undef, undef, undef, undef, undef, undef], defers := [] }) ?assign ?body ?done ?stop
  case ixs =>
    rintro e W1 W2 ⟨rfl, v, l, h1, h2, h3, h4, h5, h6⟩ hk
    have hs := HB6.out.size
    refine ⟨rfl, v, l, ⟨row_kp h1.r2 hk (by omega), row_kp h1.r3 hk (by omega), row_kp h1.r4 hk (by omega)⟩, h2.same (fun k hk2 => hk.keep k (by have := h3 k hk2; omega) (owns_lt h2 k hk2)), h3, h4, ⟨hk.os.trans h5.os, hk.tape.trans h5.tape, hk.output.trans h5.output, Nat.le_trans h5.size hk.size, fun b hb => ?_⟩, h6⟩
    exact (hk.keep b (by omega) (Nat.lt_of_lt_of_le hb h5.size)).trans (h5.block b hb)
  case assign =>
    intro l x W K hK
    gi_wp2
    exact hK
  case body =>
    rintro lp gl l W ⟨hkp, hlo⟩ hsl hl1 hr hgl
    have HKP := Lib.hid hkp
    have HLO := Lib.hid hlo
    have HSL := Lib.hid hsl
    have HRL := Lib.hid hr
    have HGL := Lib.hid hgl
    obtain ⟨s, hs⟩ : ∃ s, s = l.length := ⟨_, rfl⟩
    have HS := Lib.hid hs
    have hs16 : s ≤ 16 := by have := hsl.len; omega
    have hs1 : 1 ≤ s := by omega
    rw [← hs]
    have HU : Hid (UBuf W (.slice av n cv) (setsN C m n)) := Lib.hid (HU6.out.same' (fun k hk => hkp.keep k (owns_lt HU6.out k hk) (owns_lt HU6.out k hk)))
    have hq5 : Row W b5 55 [.slice av n cv] := row_kp HQ6.out hkp HQ6.out.lt
    have d5 := hq5.cell (i := 0) rfl
    have HBU : Hid (∀ i, rowU (cst C i) m < 65536) := Lib.hid (fun i => Nat.lt_of_lt_of_le (rowU_lt _ m) (Nat.pow_le_pow_right (n := 2) (by decide) hm16))
    have HUN : Hid (∀ k, uniU (fun i => rowU (cst C i) m) (l.take k) < 65536) := Lib.hid (fun k => Nat.lt_of_lt_of_le (uniU_lt (fun i => rowU_lt (cst C i) m) _) (Nat.pow_le_pow_right (n := 2) (by decide) hm16))
    obtain ⟨un, hun⟩ : ∃ un : Nat → Nat, un = fun k => uniU (fun i => rowU (cst C i) m) (l.take k) := ⟨_, rfl⟩
    have HUK : Hid (∀ k, un k = uniU (fun i => rowU (cst C i) m) (l.take k)) := Lib.hid (fun k => by rw [hun])
    have HUZ : Hid (un 0 = 0) := Lib.hid (by rw [hun]; rfl)
    clear hkp hlo hsl hl1 hr hgl hs hq5 hun
    gi_wp2
    gi_loopw [7, 23] (fun s7 s23 wi => ∃ (k : Nat), k ≤ s ∧ s7 = .int .u64 ((un k : Nat) : Int) ∧ s23 = .int .i64 (k : Int) ∧ wi = W) (fun _ s23 _ => s - (intOf s23).toNat)
    case atStart => exact ⟨0, by omega, by rw [HUZ.out]; rfl, rfl, rfl⟩
    case round =>
      obtain ⟨k, hk, rfl, rfl, rfl⟩ := hrel
      have HK := Lib.hid hk
      clear hk
      by_cases hlt : k < s
      · have hki : (k : Int) < (s : Int) := by omega
        have HLK := Lib.hid hlt
        have HWK := Lib.hid (wrap_succ hlt (show s ≤ maxLen by unfold maxLen; omega))
        have d1 := nrow_cell HRL.out (u := k) (by rw [ofN_len, ← HS.out]; exact hlt)
        rw [ofN_get] at d1
        obtain ⟨y, hy⟩ : ∃ y, y = l.getD k 0 := ⟨_, rfl⟩
        rw [← hy] at d1
        have hyn : y < n := by rw [hy]; exact HSL.out.1 k (by rw [← HS.out]; exact hlt)
        have hyi : (y : Int) < (n : Int) := by omega
        obtain ⟨a9, c9, e9, -, -, hat9⟩ := HU.out.shape
        obtain ⟨g9, hg9, d2⟩ := hat9 y (by rw [setsN_len]; exact hyn)
        rw [setsN_get hyn] at d2
        injection e9 with e9 q8 q9
        clear q8 q9
        rw [← e9] at hg9
        subst hg9
        obtain ⟨S, hS⟩ : ∃ S, S = rowU (cst C y) m := ⟨_, rfl⟩
        obtain ⟨A, hA⟩ : ∃ A, A = un k := ⟨_, rfl⟩
        rw [← hS] at d2
        rw [← hA]
        have HOR : Hid (bits BinOp.or IntKind.u64 (A : Int) (S : Int) = ((un (k + 1) : Nat) : Int)) := Lib.hid (by
          rw [HUK.out, uniU_step (by rw [← HS.out]; exact hlt), ← HUK.out, ← hA, ← hy, ← hS]
          have h1 := HBU.out y
          have h2 := HUN.out k
          rw [← hS] at h1
          rw [← HUK.out, ← hA] at h2
          exact bits_or_u64_nat A S (by omega) (by omega))
        clear hy hS hA e9 hat9 hlt hyn
        gi_upto_region 11 with (fail)
        gi_wp2
        exact ⟨⟨k + 1, by have := HLK.out; omega, by rw [HOR.out], by first | rw [HWK.out, Int.natCast_succ] | go_num, by first | rfl | trivial⟩, by have := HLK.out; first | exact back_less this HWK.out | (simp [intOf]; omega)⟩
      · obtain rfl : k = s := by have := HK.out; omega
        have HTL : Hid (un k = uniU (fun i => rowU (cst C i) m) l) := Lib.hid (by rw [HUK.out, List.take_of_length_le (by rw [HS.out]; exact Nat.le_refl _)])
        obtain ⟨A, hA⟩ : ∃ A, A = un k := ⟨_, rfl⟩
        rw [← hA]
        have HPC : Hid (popR 16 A = (colsL C m l).length) := Lib.hid (by rw [hA, HTL.out]; exact cnt_cols hm16 l)
        obtain ⟨pc, hpc⟩ : ∃ pc, pc = popR 16 A := ⟨_, rfl⟩
        have HOC := Lib.hid (ones_call A (by have := HUN.out k; rw [← HUK.out, ← hA] at this; exact this) wr)
        rw [← hpc] at HOC HPC
        clear hA hpc d5 hlt
        gi_upto_region 13 with (fail)
        refine wpIn_region_plain (fun ⟨_, _, h⟩ => h) (by kernel_rfl) ?_
        by_cases hcr : pc < k
        · have hci : (pc : Int) < (k : Int) := by omega
          have HCR : Hid (crF C m l) := Lib.hid (by unfold crF; rw [← HPC.out, ← HS.out]; exact hcr)
          clear hcr
          go_wp2_with (go_at_call 42; refine HOC.out.mono ?_; rintro e w7 ⟨rfl, rfl⟩)
          have HCL := Lib.hid (cloneI_call (ofN l) gl k w7 HRL.out (by rw [ofN_len, HS.out]) (by omega) (fun x hx => by
            unfold ofN at hx
            obtain ⟨y, hy, rfl⟩ := List.mem_map.1 hx
            have := HSL.out.mem y hy
            unfold I64; omega))
          have HR7 : Hid (Res3 b0 nilV false 0 w7) := Lib.hid ⟨row_kp HR6.out.r2 HKP.out HR6.out.r2.lt, row_kp HR6.out.r3 HKP.out HR6.out.r3.lt, row_kp HR6.out.r4 HKP.out HR6.out.r4.lt⟩
          gi_upto_region 14 with (fail)
          refine wpIn_region_plain (fun ⟨_, _, h⟩ => h) (by kernel_rfl) ?_
          go_wp2_with (go_at_call 43; refine HCL.out.mono ?_; rintro e w8 ⟨hb8, v, rfl, hv8, ho8⟩; have H8 := Lib.hid (And.intro hb8 (And.intro hv8 ho8)); obtain ⟨av8, cv8, ev8, -⟩ := hv8.shape; obtain ⟨nv8, hnv8⟩ : ∃ x, x = (ofN l).length := ⟨_, rfl⟩; rw [← hnv8] at ev8; subst ev8; have HR8 := Lib.hid (HR7.out.keep hb8); have f2 := HR8.out.r2.free 0; have f3 := HR8.out.r3.free 0; have f4 := HR8.out.r4.free 0; have k2 := HR8.out.r2.cell (i := 0) rfl; have k3 := HR8.out.r3.cell (i := 0) rfl; have k4 := HR8.out.r4.cell (i := 0) rfl; clear hb8 hv8 ho8 hnv8)
          gi_wp2
          have hl4 := HR6.out.r4.lt
          have hs6 := HKP.out.size
          have hgl := HRL.out.lt
          have hge := HGL.out
          have hb6 := HB6.out.size
          have hbe := HB0.out
          have hbW : Below w.heap.size w w7 := HB6.out.trans ⟨HKP.out.os, HKP.out.tape, HKP.out.output, HKP.out.size, fun b hb => HKP.out.keep b (by omega) (by omega)⟩
          have hw9 := (((kp_cell w8 b0 0 (.slice av8 nv8 cv8)).w (S' := fun b => b ≠ b0 ∧ b ≠ b0 + 1 ∧ b ≠ b0 + 1 + 1) (fun b hb => hb.1)).trans ((kp_cell _ (b0 + 1) 0 (.bool true)).w (fun b hb => hb.2.1))).trans ((kp_cell _ (b0 + 1 + 1) 0 (.int .i64 0)).w (fun b hb => hb.2.2))
          refine ⟨((Kp2.below H8.out.1).trans (hw9.w (fun b hb => by have := HLT.out; omega))), rfl, .slice av8 nv8 cv8, l, ((HR8.out.set2 _).set3 true).set4 0, H8.out.2.1.same (fun q hq => hw9.keep q (by have := H8.out.2.2 q hq; omega) (owns_lt H8.out.2.1 q hq)), fun q hq => (by have := H8.out.2.2 q hq; omega), hl4, ?_, HSL.out, by rw [← HS.out]; exact hs1, HCR.out, HLO.out.2.2⟩
          exact below_setCell (below_setCell (below_setCell (below_next hbW H8.out.1) _ _ _ (by omega)) _ _ _ (by omega)) _ _ _ (by omega)
        · have hci : ¬ (pc : Int) < (k : Int) := by omega
          have HCR : Hid (¬ crF C m l) := Lib.hid (by unfold crF; rw [← HPC.out, ← HS.out]; exact hcr)
          clear hcr
          go_wp2_with (go_at_call 42; refine HOC.out.mono ?_; rintro e w7 ⟨rfl, rfl⟩)
          gi_wp2
          exact ⟨Kp2.refl _ _, HKP.out, HLO.out.next HCR.out⟩
  case done =>
    rintro D W hD ⟨hkp, hlo⟩ hK
    have hr : Res3 b0 nilV false 0 W := ⟨row_kp HR6.out.r2 hkp HR6.out.r2.lt, row_kp HR6.out.r3 hkp HR6.out.r3.lt, row_kp HR6.out.r4 hkp HR6.out.r4.lt⟩
    have hl4 := HR6.out.r4.lt
    have hb6 := HB6.out.size
    have hbe := HB0.out
    have hbW : Below w.heap.size w W := HB6.out.trans ⟨hkp.os, hkp.tape, hkp.output, hkp.size, fun b hb => hkp.keep b (by omega) (by omega)⟩
    have hw9 := (((kp_cell W b0 0 nilV).w (S' := fun b => b ≠ b0 ∧ b ≠ b0 + 1 ∧ b ≠ b0 + 1 + 1) (fun b hb => hb.1)).trans ((kp_cell _ (b0 + 1) 0 (.bool false)).w (fun b hb => hb.2.1))).trans ((kp_cell _ (b0 + 1 + 1) 0 (.int .i64 0)).w (fun b hb => hb.2.2))
    have hDl := (Array.getElem?_eq_some_iff.1 hK).1
    have hK2 := (hw9.keep D (by omega) hDl).trans hK
    have hr9 := ((hr.set2 nilV).set3 false).set4 0
    have hb9 := below_setCell (below_setCell (below_setCell hbW b0 0 nilV (by omega)) (b0 + 1) 0 (.bool false) (by omega)) (b0 + 1 + 1) 0 (.int .i64 0) (by omega)
    have f2 := hr.r2.free 0
    have f3 := hr.r3.free 0
    have f4 := hr.r4.free 0
    have k2 := hr.r2.cell (i := 0) rfl
    have k3 := hr.r3.cell (i := 0) rfl
    have k4 := hr.r4.cell (i := 0) rfl
    have HX := Lib.hid (And.intro hK2 (And.intro hr9 (And.intro hb9 hlo)))
    have HD9 : Hid (b0 + 1 + 1 < D ∧ w.heap.size ≤ D) := Lib.hid (by omega)
    clear hr hl4 hb6 hbe hbW hw9 hDl hK2 hr9 hb9 hkp hlo hK hD
    go_wp2_with fail
    refine ⟨by simp, .inl ⟨_, _, rfl, run_takeDeferred HX.out.1, ?_⟩⟩
    have hkD := kp_put (S := fun b => b ≠ D) (((W.setCell ⟨b0, 0, none⟩ nilV).setCell ⟨b0 + 1, 0, none⟩ (.bool false)).setCell ⟨b0 + 1 + 1, 0, none⟩ (.int .i64 0)) D (.deferred none) (fun h => h rfl)
    have hR := HX.out.2.1
    have hd := HD9.out
    have h9 : Res3 b0 nilV false 0 ((((W.setCell ⟨b0, 0, none⟩ nilV).setCell ⟨b0 + 1, 0, none⟩ (.bool false)).setCell ⟨b0 + 1 + 1, 0, none⟩ (.int .i64 0)).putObj D (.deferred none)) := ⟨row_kp hR.r2 hkD (by omega), row_kp hR.r3 hkD (by omega), row_kp hR.r4 hkD (by omega)⟩
    refine ⟨.tuple #[nilV, .bool false, .int .i64 0], results_den rfl _ _ b0 (b0 + 1) (b0 + 1 + 1) none 0 0 false 0 rfl rfl rfl (h9.r2.cell (i := 0) rfl) (h9.r3.cell (i := 0) rfl) (h9.r4.cell (i := 0) rfl), ?_⟩
    have hb9 := HX.out.2.2.1
    refine ⟨⟨hkD.os.trans hb9.os, hkD.tape.trans hb9.tape, hkD.output.trans hb9.output, Nat.le_trans hb9.size hkD.size, fun b hb => (hkD.keep b (by omega) (Nat.lt_of_lt_of_le hb hb9.size)).trans (hb9.block b hb)⟩, nilV, false, by rw [H0.out], ?_⟩
    rw [HDP.out]
    exact .inr ⟨rfl, rfl, fun _ => HX.out.2.2.2⟩
  case stop =>
    rintro D e W hD he ⟨rfl, v, l, h1, h2, h3, h4, h5, h6⟩ hK
    have hb6 := HB6.out.size
    have hkD := kp_put (S := fun b => b ≠ D) W D (.deferred none) (fun h => h rfl)
    have hvD : ∀ k, v.ownBlock = some k → k ≠ D := fun k hk e => by
      subst e
      rcases h2.2 with ⟨rfl, -⟩ | ⟨g, cap, cur, rfl, -, hg, -⟩
      · cases hk
      · have : g = k := by simpa [Value.ownBlock] using hk
        subst this
        rw [hK] at hg
        cases hg
    have h9 : Res3 b0 v true 0 (W.putObj D (.deferred none)) := ⟨row_kp h1.r2 hkD (by omega), row_kp h1.r3 hkD (by omega), row_kp h1.r4 hkD (by omega)⟩
    have hi9 := h2.same (w' := W.putObj D (.deferred none)) (fun k hk => hkD.keep k (hvD k hk) (owns_lt h2 k hk))
    obtain ⟨av9, cv9, rfl, -⟩ := h2.shape
    refine ⟨by simp, .inl ⟨_, _, rfl, run_takeDeferred hK, ?_⟩⟩
    refine ⟨.tuple #[.slice av9 (ofN l).length cv9, .bool true, .int .i64 0], results_den rfl _ _ b0 (b0 + 1) (b0 + 1 + 1) av9 _ cv9 true 0 rfl rfl rfl (h9.r2.cell (i := 0) rfl) (h9.r3.cell (i := 0) rfl) (h9.r4.cell (i := 0) rfl), ?_⟩
    refine ⟨⟨hkD.os.trans h5.os, hkD.tape.trans h5.tape, hkD.output.trans h5.output, Nat.le_trans h5.size hkD.size, fun b hb => (hkD.keep b (by omega) (Nat.lt_of_lt_of_le hb h5.size)).trans (h5.block b hb)⟩, _, true, by rw [H0.out], ?_⟩
    rw [HDP.out]
    exact .inl ⟨rfl, H0.out, l, hi9, h6⟩
theorem deny_call (C : List (List Int)) (vc : Value) (w : World) (hC : NRest w.heap.size w C vc) : Calls Try.prog 22 #[vc] w (DenQ C w) := by
  by_cases h : chkE C = 0
  · exact deny_good C vc w hC h
  · exact deny_bad C vc w hC h
end Go.Proofs.Ythkmbbgcadfilaa
