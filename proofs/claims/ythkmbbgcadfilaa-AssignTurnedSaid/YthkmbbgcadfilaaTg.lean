/- AssignTurned: its walk. -/
import Derived.Test.YthkmbbgcadfilaaTf
namespace Go.Proofs.Ythkmbbgcadfilaa
open Go.RowKit Go.Shelf

theorem CpR.made {W : World} {b0 n : Nat} (hn : n ≤ 1000) (hb : b0 ≤ W.heap.size) : CpR b0 (W.alloc (.cells (List.replicate n nilV).toArray 23)) (.slice (some ⟨W.heap.size, 0, none⟩) n n) (List.replicate n []) n (List.replicate n nilV) := by
  have hg : ∀ i, i < n → (List.replicate n nilV).getD i nilV = nilV := fun i hi => by simp [hi]
  refine ⟨by simp, ⟨by simp, .inr ⟨W.heap.size, n, _, rfl, Nat.zero_le _, heap_alloc_new W _, Nat.le_refl _, by unfold maxLen; omega, by simp, by simp⟩⟩, fun i hi => ?_, fun i hi b h => ?_, fun i j hi _ _ b h => ?_, fun b h => ?_⟩
  · rw [hg i hi, show (List.replicate n ([] : List Int)).getD i [] = [] by simp [hi]]
    exact ibuf_nil _
  · rw [hg i hi] at h; cases h
  · rw [hg i hi] at h; cases h
  · simp [Value.ownBlock] at h; omega
theorem CpR.cell {b0 : Nat} {W W1 : World} {g cap n : Nat} {C : List (List Int)} {rvs : List Value} (h : CpR b0 W (.slice (some ⟨g, 0, none⟩) n cap) C n rvs) {j : Nat} (hj : j < n) {v1 : Value} (hw : Wrote W W1 (rvs.getD j nilV) v1) : W1.cell? ⟨g, j, none⟩ = some (rvs.getD j nilV) := by
  obtain ⟨g', cap', e, -, -, -, -, hc⟩ := h.shape (by omega)
  injection e with e1 e2 e3
  injection e1 with e1
  injection e1 with e1 _ _
  subst e1
  exact hw.cell (p := ⟨g, j, none⟩) (hc j hj) (fun e => (h.off j hj g e.symm).2 rfl)
theorem CpR.free {b0 : Nat} {W W1 : World} {g cap n : Nat} {C : List (List Int)} {rvs : List Value} (h : CpR b0 W (.slice (some ⟨g, 0, none⟩) n cap) C n rvs) {j : Nat} (hj : j < n) {v1 : Value} (hw : Wrote W W1 (rvs.getD j nilV) v1) (k : Nat) : W1.frozen? ⟨g, k, none⟩ = false := by
  have hgl : g < W.heap.size := owns_lt h.own g rfl
  rcases h.own.2 with ⟨h0, -⟩ | ⟨g', cap', cur, e, k1, k2, -⟩
  · cases h0
  · injection e with e1 e2 e3
    injection e1 with e1
    injection e1 with e1 _ _
    subst e1
    exact frozen_of_row W1 g _ _ _ ((hw.grown.block g hgl (fun e => (h.off j hj g e.symm).2 rfl)).trans k2)
set_option maxRecDepth 100000 in
set_option maxHeartbeats 16000000 in
theorem turned_walk (C : List (List Int)) (vc : Value) (w : World) (hC : NRest w.heap.size w C vc) :
    Calls Try.prog 10 #[vc] w fun e w' => e = .returned (.bool true) ∧ Below w.heap.size w w' := by
  have HSN := Lib.hid (sane_call w)
  have HRT : Hid (∀ W, Below w.heap.size w W → Calls Try.prog 26 #[vc] W fun e w' => e = .returned (.bool (decide (chkE C = 0))) ∧ Below W.heap.size W w') := Lib.hid (fun W hW => rightL_call C vc W (hC.keep hW))
  have HBE : Hid (∀ W, Below w.heap.size w W → Calls Try.prog 15 #[vc] W (BestQ C W)) := Lib.hid (fun W hW => best_call C vc W (hC.keep hW))
  obtain ⟨a, c, rfl⟩ := nrest_shape hC
  obtain ⟨-, hac, ham, hat⟩ := rows_at hC
  have HAT := Lib.hid hat
  obtain ⟨n, hn⟩ : ∃ n, n = C.length := ⟨_, rfl⟩
  rw [← hn] at HRT HBE hac ⊢
  have HN := Lib.hid hn
  clear hn hC hat
  go_enter Try.func10, Try.ntmps10
  go_upto_region 3 with (go_at_call 11; refine HSN.out.mono ?_; rintro e w2 ⟨rfl, hb⟩; have HB2 := Lib.hid hb; clear hb)
  have HR2 := Lib.hid (HRT.out w2 HB2.out)
  clear HSN HRT
  by_cases h0 : chkE C = 0
  · rw [decide_eq_true h0] at HR2
    have hMt := chk_ok h0
    obtain ⟨m, hm⟩ : ∃ m, m = colsN C := ⟨_, rfl⟩
    rw [← HN.out, ← hm] at hMt
    have HMT := Lib.hid hMt
    have hn16 := hMt.n16
    have hm16 := hMt.m16
    have H0 := Lib.hid h0
    clear h0 hm hMt
    by_cases h1 : n = 0
    · subst h1
      go_wp2_with (go_at_call 26; refine HR2.out.mono ?_; rintro e w3 ⟨rfl, hb⟩; have HB3 := Lib.hid (below_next HB2.out hb); clear hb)
      go_ret
      exact ⟨rfl, HB3.out⟩
    · have hnp : 0 < n := by omega
      have gn : ((n : Int) == 0) = false := by simp; omega
      have hni : ¬ ((n : Int) = 0) := by omega
      obtain ⟨b0, off0, ra0, rc0, q0, hb0, f0, -⟩ := HAT.out 0 (by have := HN.out; omega)
      subst q0
      rw [show (C.getD 0 []).length = m from HMT.out.row 0 hnp] at f0
      have d0 : ∀ W, Below w.heap.size w W → W.cell? ⟨b0, off0, none⟩ = some (.slice ra0 m rc0) := fun W hW => by
        have := (hW.cell (p := ⟨b0, off0 + 0, none⟩) hb0).trans f0
        simpa using this
      have HD0 := Lib.hid d0
      have hR3 := HR2.out.mono (R' := fun e w' => e = .returned (.bool true) ∧ Below w2.heap.size w2 w' ∧ w'.cell? ⟨b0, off0, none⟩ = some (.slice ra0 m rc0)) fun e w' h => ⟨h.1, h.2, HD0.out w' (below_next HB2.out h.2)⟩
      have HR3 := Lib.hid hR3
      clear f0 hb0 d0 hR3 HR2
      by_cases h2 : m = n
      · subst h2
        have hmk := fun W => mk_rows W m (by omega)
        go_upto_region 5 with (go_at_call 26; refine HR3.out.mono ?_; rintro e w3 ⟨rfl, hb, d3⟩; have HB3 := Lib.hid (below_next HB2.out hb); clear hb)
        go_upto_region 8 with (fail)
        clear hmk d3
        go_loopw [43] (fun s43 wr => ∃ (i : Nat) (rvs : List Value), i ≤ m ∧ s43 = .int .i64 (i : Int) ∧ CpR w3.heap.size wr (.slice (some ⟨w3.heap.size, 0, none⟩) m m) (tr C m i 0) m rvs ∧ Below w3.heap.size w3 wr) (fun s43 _ => m - (intOf s43).toNat)
        case atStart => exact ⟨0, _, by omega, rfl, by rw [tr_zero]; exact CpR.made (by omega) (Nat.le_refl _), Joins.below_alloc1 w3 _⟩
        case round =>
          obtain ⟨i, rvs, hi, rfl, hcp, hb⟩ := hrel
          have HI := Lib.hid hi
          have HC := Lib.hid hcp
          have HB := Lib.hid hb
          clear hi hcp hb
          by_cases hil : i < m
          · have hii : (i : Int) < (m : Int) := by omega
            have HIL := Lib.hid hil
            have HWI := Lib.hid (wrap_succ hil (show m ≤ maxLen by unfold maxLen; omega))
            obtain ⟨b9, off9, ra, rc, q2, hb9, f9, hrow⟩ := HAT.out i (by have := HN.out; omega)
            cases q2
            have hrl := HMT.out.row i hil
            obtain ⟨-, hrc, hrm, hrt⟩ := ints_at hrow
            rw [hrl] at f9 hrc hrt
            have HRTW := Lib.hid hrt
            have HBW := Lib.hid (below_next HB3.out HB.out)
            have d9 := (HBW.out.cell (p := ⟨b0, off0 + i, none⟩) hb9).trans f9
            clear hrow hrt hrl f9 hb9 hil
            go_upto_region 10 with (fail)
            clear d9
            go_loopw [49] (fun s49 wq => ∃ (j : Nat) (rvs : List Value), j ≤ m ∧ s49 = .int .i64 (j : Int) ∧ CpR w3.heap.size wq (.slice (some ⟨w3.heap.size, 0, none⟩) m m) (tr C m i j) m rvs ∧ Below w3.heap.size w3 wq) (fun s49 _ => m - (intOf s49).toNat)
            case atStart => exact ⟨0, rvs, by omega, rfl, HC.out, HB.out⟩
            case round =>
              obtain ⟨j, rvs2, hj, rfl, hcp, hb⟩ := hrel
              have HJ := Lib.hid hj
              have HC2 := Lib.hid hcp
              have HB2' := Lib.hid hb
              clear hj hcp hb
              by_cases hjl : j < m
              · have hji : (j : Int) < (m : Int) := by omega
                have HJL := Lib.hid hjl
                have HWJ := Lib.hid (wrap_succ hjl (show m ≤ maxLen by unfold maxLen; omega))
                obtain ⟨-, b2, off2, q3, hb2, f2⟩ := HRTW.out j hjl
                subst q3
                rw [getDD HMT.out HIL.out hjl] at f2
                have HBW2 := Lib.hid (below_next HB3.out HB2'.out)
                have d2 := (HBW2.out.cell (p := ⟨b2, off2 + j, none⟩) hb2).trans f2
                obtain ⟨x, hx⟩ : ∃ x, x = cst C i j := ⟨_, rfl⟩
                rw [← hx] at d2
                have HX := Lib.hid hx
                obtain ⟨g9, c9, e9, -, -, -, -, hcl9⟩ := HC2.out.shape hnp
                injection e9 with e9 e10 e11
                clear e10 e11
                injection e9 with e9
                injection e9 with e9 e10 e11
                clear e10 e11
                subst e9
                have d4 := hcl9 j hjl
                clear f2 hb2 hx hcl9 hjl
                have hba := Joins.below_alloc1 wr (.cells #[.int .i64 x] 3)
                have HCA := Lib.hid (HC2.out.keep hba)
                have HRW := Lib.hid (HCA.out.row j HJL.out)
                have HNW : Hid (Row (wr.alloc (.cells #[.int .i64 x] 3)) wr.heap.size 3 ([x].map (Value.int .i64 ·))) := Lib.hid (row_new wr _ _)
                have HZL : Hid (((tr C m i j).getD j []).length ≤ 1000) := Lib.hid (by
                  rw [tr_get HJL.out, List.length_map, List.length_range]; split <;> (have := HIL.out; omega))
                have HBA := Lib.hid hba
                obtain ⟨vj, hvj⟩ : ∃ v, v = rvs2.getD j nilV := ⟨_, rfl⟩
                rw [← hvj] at d4 HRW
                have HVJ := Lib.hid hvj
                clear hba hvj
                go_wp2_with (refine wpList_ints rfl (.tmp 59) (.tmp 61) rfl vj _ rfl HRW.out wr.heap.size [x] rfl HNW.out (by have := HZL.out; rw [List.length_singleton]; omega) ?_; intro v5 w5 hb5 hw5; have HB5 := Lib.hid hb5; have HW5 := Lib.hid hw5; have d6 : w5.frozen? ⟨w3.heap.size, j, none⟩ = false := HCA.out.free HJL.out (by rw [← HVJ.out]; exact hw5) j; have d5 : w5.cell? ⟨w3.heap.size, j, none⟩ = some vj := (HCA.out.cell HJL.out (by rw [← HVJ.out]; exact hw5)).trans (congrArg some HVJ.out.symm); obtain ⟨a5, c5, hv5, -⟩ := hb5.shape; obtain ⟨l5, hl5⟩ : ∃ l, l = ((tr C m i j).getD j [] ++ [x]).length := ⟨_, rfl⟩; rw [← hl5] at hv5; subst hv5; clear hb5 hw5 hl5)
                have hs5 := HBA.out.size
                have hs6 := HB2'.out.size
                have hb5 : Below w3.heap.size w3 w5 := (HB2'.out.trans (HBA.out.mono (by omega))).trans (HW5.out.toBelow (by omega) (fun b hb => by rw [HVJ.out] at hb; exact (HC2.out.off j HJL.out b hb).1))
                refine ⟨⟨j + 1, rvs2.set j (.slice a5 l5 c5), HJL.out, rfl, ?_, below_set hb5 (Nat.le_refl _)⟩, by have := HJL.out; simp [intOf]; omega⟩
                have h9 := HCA.out.turn (tr_len ..) HJL.out HB5.out (by rw [← HVJ.out]; exact HW5.out) (by omega)
                rw [HX.out, tr_step HJL.out] at h9
                exact h9
              · obtain rfl : j = m := by have := HJ.out; omega
                go_wp2_with fail
                refine ⟨⟨i + 1, rvs2, HIL.out, rfl, by rw [← tr_next]; exact HC2.out, HB2'.out⟩, by have := HIL.out; simp [intOf]; omega⟩
          · obtain rfl : i = m := by have := HI.out; omega
            have hMB := tr_mat HMT.out
            have hMA := HMT.out
            obtain ⟨D, hD⟩ : ∃ D, D = tr C i i 0 := ⟨_, rfl⟩
            rw [← hD] at hMB HC
            have HMB := Lib.hid hMB
            have HTD := Lib.hid hD
            have HD0 := Lib.hid (mat_chk hMB hnp)
            have HNX : Hid (∀ W, Below wr.heap.size wr W → NRest W.heap.size W D (.slice (some ⟨w3.heap.size, 0, none⟩) i i)) := Lib.hid (fun W hW => (HC.out.keep hW).nrest hnp HMB.out.len (mat_i64 HMB.out))
            have HBX : Hid (∀ W, Below wr.heap.size wr W → Calls Try.prog 15 #[.slice (some ⟨w3.heap.size, 0, none⟩) i i] W (BestQ D W)) := Lib.hid (fun W hW => best_call D _ W (HNX.out W hW))
            have HDX : Hid (∀ W, Below wr.heap.size wr W → Calls Try.prog 22 #[.slice (some ⟨w3.heap.size, 0, none⟩) i i] W (DenQ D W)) := Lib.hid (fun W hW => deny_call D _ W (HNX.out W hW))
            have HBW := Lib.hid (below_next HB3.out HB.out)
            have HBE5 := Lib.hid (HBE.out wr HBW.out)
            clear hMB hMA hD HBE HR3 hil
            go_upto_region 16 with (go_at_call 15; refine HBE5.out.mono ?_; rintro e w5 ⟨hb, va, ca, oka, rfl, hp⟩; rw [H0.out]; have HB5 := Lib.hid hb; have HPA := Lib.hid hp; clear hb hp)
            have HBX5 := Lib.hid (HBX.out w5 HB5.out)
            go_upto_region 17 with (go_at_call 15; refine HBX5.out.mono ?_; rintro e w6 ⟨hb, vb, cb, okb, rfl, hp⟩; rw [HD0.out]; have HB6 := Lib.hid hb; have HPB := Lib.hid hp; clear hb hp)
            have HDX6 := Lib.hid (HDX.out w6 (below_next HB5.out HB6.out))
            go_upto_region 18 with (go_at_call 22; refine HDX6.out.mono ?_; rintro e w7 ⟨hb, vd, okd, rfl, hp⟩; rw [HD0.out]; have HB7 := Lib.hid hb; have HPD := Lib.hid hp; clear hb hp)
            obtain ⟨rfl, rfl, rfl⟩ := best_turn HMT.out hnp HPA.out (by rw [← HTD.out]; exact HPB.out) (by rw [← HTD.out]; exact HPD.out)
            have HW7 := Lib.hid (below_next (below_next (below_next HBW.out HB5.out) HB6.out) HB7.out)
            clear HPA HPB HPD
            cases okb with
            | true =>
              go_wp2_with fail
              refine bodyPost_ret (results_tmp rfl _ _ _) rfl ?_
              exact ⟨by simp, HW7.out⟩
            | false =>
              go_wp2_with fail
              refine bodyPost_ret (results_tmp rfl _ _ _) rfl ?_
              exact ⟨by simp, HW7.out⟩
      · have gm : ((m : Int) == (n : Int)) = false := by simp; omega
        have gm2 : ((m : Int) != (n : Int)) = true := by simp; omega
        have hmi : ¬ ((m : Int) = (n : Int)) := by omega
        go_wp2_with (go_at_call 26; refine HR3.out.mono ?_; rintro e w3 ⟨rfl, hb, d3⟩; have HB3 := Lib.hid (below_next HB2.out hb); clear hb)
        go_ret
        exact ⟨rfl, HB3.out⟩
  · rw [decide_eq_false h0] at HR2
    clear h0
    go_wp2_with (go_at_call 26; refine HR2.out.mono ?_; rintro e w3 ⟨rfl, hb⟩; have HB3 := Lib.hid (below_next HB2.out hb); clear hb)
    go_ret
    exact ⟨rfl, HB3.out⟩
end Go.Proofs.Ythkmbbgcadfilaa
