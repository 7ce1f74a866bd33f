/- The reference: Value. -/
import Derived.Test.YtbmbddapbgnioaaKb
namespace Go.Proofs.Ytbmbddapbgnioaa
open Go.RowKit Go.Shelf

set_option maxRecDepth 100000 in
set_option maxHeartbeats 8000000 in
theorem rvalue_call (N s t : Int) (A : List Ar) (X : List Int) (va vx : Value) (w : World) (hA : ARest w.heap.size w A va) (hX : IRest w.heap.size w X vx) :
    Calls Try.prog 12 #[netV N s t va, vx] w fun e w' => e = .returned (.tuple #[.int .i64 (valV N s t A X), .int .i64 (valE N s t A X)]) ∧ Below w.heap.size w w' := by
  have HCK : Hid (∀ W, Below w.heap.size w W → Calls Try.prog 16 #[netV N s t va] W fun e w' => e = .returned (.int .i64 (netE N s t A)) ∧ Below W.heap.size W w') := Lib.hid (fun W hW => rcheck_call N s t A va W ((hA.stays hW).mono hW.size))
  have HSU : Hid (∀ (N s t v : Int) W, X.length = A.length → A.length ≤ 512 → (∀ x, x ∈ X → 0 ≤ x ∧ x ≤ 1073741824) → Below w.heap.size w W → Calls Try.prog 27 #[netV N s t va, vx, .int .i64 v] W fun e w' => e = .returned (.int .i64 (surp A X v)) ∧ Below W.heap.size W w') := Lib.hid (fun N s t v W h1 h2 h3 hW => rsurp_call N s t v A X va vx W ((hA.stays hW).mono hW.size) ((hX.stays hW).mono hW.size) h1 h2 h3)
  obtain ⟨er, her⟩ : ∃ er, er = netE N s t A := ⟨_, rfl⟩
  rw [← her] at HCK
  have HER := Lib.hid her
  obtain ⟨a, c, rfl, -⟩ := id hA
  obtain ⟨ax, cx, rfl, -⟩ := id hX
  obtain ⟨-, hac, ham, hat⟩ := arcs_at hA
  obtain ⟨-, hxc, hxm, hxt⟩ := ints_at hX
  obtain ⟨n, hn⟩ : ∃ n, n = A.length := ⟨_, rfl⟩
  obtain ⟨m, hm⟩ : ∃ m, m = X.length := ⟨_, rfl⟩
  rw [← hn] at hac hat HCK HSU ⊢
  rw [← hm] at hxc hxt HSU ⊢
  have HAT := Lib.hid hat
  have HXT := Lib.hid hxt
  have HNL := Lib.hid (And.intro hn hm)
  clear her hA hX hn hm hat hxt
  unfold netV at HCK HSU ⊢
  have HX := Lib.hid (bx_new w N s t (.slice a n c))
  obtain ⟨W1, hW1⟩ : ∃ W1, W1 = w.alloc (.cells #[.int .i64 N, .int .i64 s, .int .i64 t, .slice a n c] 24) := ⟨_, rfl⟩
  have HW1 := Lib.hid hW1
  rw [← hW1] at HX
  clear hW1
  have HCK1 := Lib.hid (HCK.out W1 HX.out.bw)
  have d0 := HX.out.row.cell (i := 0) rfl
  have d1 := HX.out.row.cell (i := 1) rfl
  have d2 := HX.out.row.cell (i := 2) rfl
  have d3 := HX.out.row.cell (i := 3) rfl
  go_enter Try.func12, Try.ntmps12
  go_upto_region 1 with (fail)
  rw [← HW1.out]
  by_cases he : er = 0
  · subst he
    have HCK0 := Lib.hid (HER.out.symm)
    have hnk := net_ok HCK0.out
    have HNK := Lib.hid hnk
    have HF : Hid (okF A X → m = n ∧ ∀ i, i < n → 0 ≤ X.getD i 0 ∧ X.getD i 0 ≤ (A.getD i (0, 0, 0)).2.2) := Lib.hid (fun h => by
      have h1 := (okF_iff A X).1 h
      have h2 := HNL.out
      exact ⟨by omega, fun i hi => h1.2 i (by omega)⟩)
    have HNO : Hid (¬ Flo N.toNat s t A X → valE N s t A X = 130 ∧ valV N s t A X = 0) := Lib.hid (fun h => val_no HCK0.out h)
    go_upto_region 4 with (go_at_call 16; refine HCK1.out.mono ?_; rintro e w5 ⟨rfl, hb5⟩; have HR5 := Lib.hid (HX.out.keep hb5); clear hb5)
    clear d0 d1 d2 d3 HX HCK1 HCK HW1 hnk
    have d0 := HR5.out.row.cell (i := 0) rfl
    have d1 := HR5.out.row.cell (i := 1) rfl
    have d2 := HR5.out.row.cell (i := 2) rfl
    have d3 := HR5.out.row.cell (i := 3) rfl
    by_cases hmn : m = n
    · subst hmn
      go_upto_region 7 with (fail)
      clear d0 d1 d2 d3
      go_loopw [7] (fun s7 wr => ∃ (k : Nat), k ≤ m ∧ s7 = .int .i64 (k : Int) ∧ Bx w wr w.heap.size N s t (.slice a m c) ∧ ∀ i, i < k → 0 ≤ X.getD i 0 ∧ X.getD i 0 ≤ (A.getD i (0, 0, 0)).2.2) (fun s7 _ => m - (intOf s7).toNat)
      case atStart => exact ⟨0, by omega, rfl, HR5.out, fun i hi => by omega⟩
      case round =>
        obtain ⟨k, hk, rfl, hR, hall⟩ := hrel
        have HR := Lib.hid hR
        have HK := Lib.hid hk
        have HALL := Lib.hid hall
        have d0 := hR.row.cell (i := 0) rfl
        have d1 := hR.row.cell (i := 1) rfl
        have d2 := hR.row.cell (i := 2) rfl
        have d3 := hR.row.cell (i := 3) rfl
        clear hR hk HR5 hall
        by_cases hlt : k < m
        · have hki : (k : Int) < (m : Int) := by omega
          have hk5 : (k : Int) < 512 := by have h9 := HNK.out.few; have := HNL.out; omega
          obtain ⟨hI, ba, off, hae, hba, e1, e2, e3⟩ := HAT.out k (by have := HNL.out.1; omega)
          obtain ⟨-, bx, offx, hxe, hbx, e4⟩ := HXT.out k (by have := HNL.out; omega)
          subst hae hxe
          obtain ⟨cp, hcp⟩ : ∃ x, x = (A.getD k (0, 0, 0)).2.2 := ⟨_, rfl⟩
          obtain ⟨y, hy⟩ : ∃ x, x = X.getD k 0 := ⟨_, rfl⟩
          have HYC := Lib.hid (And.intro hy hcp)
          rw [← hcp] at e3
          rw [← hy] at e4
          have c3 := (HR.out.bw.cell (p := ⟨ba, off + k * 3 + 2, none⟩) hba).trans e3
          have c4 := (HR.out.bw.cell (p := ⟨bx, offx + k, none⟩) hbx).trans e4
          have HLT := Lib.hid hlt
          have HWK := Lib.hid (wrap_succ hlt (show m ≤ maxLen by have := HNK.out.few; have := HNL.out; unfold maxLen; omega))
          clear hI hba hbx e1 e2 e3 e4 hcp hy hlt
          by_cases h0 : y < 0
          · have HV : Hid (valE N s t A X = 130 ∧ valV N s t A X = 0) := Lib.hid (HNO.out fun hf => by
              have h1 := (HF.out hf.ok).2 k HLT.out
              rw [← HYC.out.1] at h1; omega)
            have g0 : decide (y < 0) = true := decide_eq_true h0
            go_wp2_with (go_quiet (fail))
            go_ret2
            exact ⟨by rw [HV.out.1, HV.out.2]; rfl, by first | exact HR.out.bw | exact (HR.out.keep (Kd.drewN _ _).below).bw⟩
          · by_cases h1 : cp < y
            · have HV : Hid (valE N s t A X = 130 ∧ valV N s t A X = 0) := Lib.hid (HNO.out fun hf => by
                have h1 := (HF.out hf.ok).2 k HLT.out
                rw [← HYC.out.1, ← HYC.out.2] at h1; omega)
              have g0 : decide (y < 0) = false := decide_eq_false h0
              have g1 : decide (cp < y) = true := decide_eq_true h1
              go_wp2_with (go_quiet (fail))
              go_ret2
              exact ⟨by rw [HV.out.1, HV.out.2]; rfl, by first | exact HR.out.bw | exact (HR.out.keep (Kd.drewN _ _).below).bw⟩
            · have g0 : decide (y < 0) = false := decide_eq_false h0
              have g1 : decide (cp < y) = false := decide_eq_false h1
              have HG := Lib.hid (And.intro h0 h1)
              clear h0 h1
              go_wp2_with (go_quiet (fail))
              refine ⟨⟨k + 1, by have := HLT.out; omega, by first | rw [HWK.out, Int.natCast_succ] | go_num, by first | exact HR.out | exact HR.out.keep (Kd.drewN _ _).below, fun i hi => ?_⟩, by have := HLT.out; first | exact back_less this HWK.out | (simp [intOf]; omega)⟩
              rcases Nat.lt_or_ge i k with h9 | h9
              · exact HALL.out i h9
              · obtain rfl : i = k := by omega
                rw [← HYC.out.1, ← HYC.out.2]
                have := HG.out; omega
        · obtain rfl : k = m := by have := HK.out; omega
          have HOK : Hid (okF A X) := Lib.hid ((okF_iff A X).2 ⟨by have := HNL.out; omega, fun i hi => HALL.out i (by have := HNL.out; omega)⟩)
          have HXB : Hid (∀ x, x ∈ X → 0 ≤ x ∧ x ≤ 1073741824) := Lib.hid (fun x hx => by
            obtain ⟨i, hi, rfl⟩ := List.getElem_of_mem hx
            have hiA : i < A.length := by have := HNL.out; omega
            have h1 := HALL.out i (by have := HNL.out; omega)
            have h2 := HNK.out.caps _ (getD_mem hiA)
            rw [show X.getD i 0 = X[i] by simp [hi]] at h1
            omega)
          have HSU2 : Hid (∀ (v : Int) W, Below w.heap.size w W → Calls Try.prog 27 #[.agg #[.int .i64 N, .int .i64 s, .int .i64 t, .slice a k c], .slice ax k cx, .int .i64 v] W fun e w' => e = .returned (.int .i64 (surp A X v)) ∧ Below W.heap.size W w') := Lib.hid (fun v W hW => HSU.out N s t v W (by first | rfl | trivial) (by have := HNK.out.few; have := HNL.out; omega) HXB.out hW)
          go_upto_region 12 with (fail)
          clear d0 d1 d2 d3 HSU
          obtain ⟨Nn, rfl⟩ : ∃ sn : Nat, N = (sn : Int) := ⟨N.toNat, by have h1 := HNK.out.rng; omega⟩
          go_loopw [8] (fun s8 wr => ∃ (v : Nat), v ≤ Nn ∧ s8 = .int .i64 (v : Int) ∧ Bx w wr w.heap.size Nn s t (.slice a k c) ∧ ∀ u : Nat, u < v → (u : Int) ≠ s → (u : Int) ≠ t → surp A X u = 0) (fun s8 _ => Nn - (intOf s8).toNat)
          case atStart => exact ⟨0, by omega, rfl, HR.out, fun i hi => by omega⟩
          case round =>
            obtain ⟨v, hv, rfl, hR, hall⟩ := hrel
            have HR2 := Lib.hid hR
            have HK2 := Lib.hid hv
            have HALL2 := Lib.hid hall
            have d0 := hR.row.cell (i := 0) rfl
            have d1 := hR.row.cell (i := 1) rfl
            have d2 := hR.row.cell (i := 2) rfl
            have d3 := hR.row.cell (i := 3) rfl
            clear hR hv hall
            by_cases hlt : v < Nn
            · have hki : (v : Int) < (Nn : Int) := by omega
              have HLT := Lib.hid hlt
              have HWK := Lib.hid (wrap_succ hlt (show Nn ≤ maxLen by have := HNK.out.rng; unfold maxLen; omega))
              have HS9 := Lib.hid (HSU2.out v wr HR2.out.bw)
              clear hlt
              by_cases hs : (v : Int) = s
              · have g0 : ((v : Int) != s) = false := by simp [hs]
                have HG := Lib.hid hs
                clear hs
                go_wp2_with fail
                refine ⟨⟨v + 1, by have := HLT.out; omega, by rw [HWK.out, Int.natCast_succ], HR2.out, fun u hu h1 h2 => ?_⟩, by have := HLT.out; exact back_less this HWK.out⟩
                rcases Nat.lt_or_ge u v with h9 | h9
                · exact HALL2.out u h9 h1 h2
                · obtain rfl : u = v := by omega
                  exact absurd HG.out h1
              · have g0 : ((v : Int) != s) = true := by simp [hs]
                by_cases ht : (v : Int) = t
                · have g1 : ((v : Int) != t) = false := by simp [ht]
                  have HG := Lib.hid ht
                  clear hs ht
                  go_wp2_with fail
                  refine ⟨⟨v + 1, by have := HLT.out; omega, by rw [HWK.out, Int.natCast_succ], HR2.out, fun u hu h1 h2 => ?_⟩, by have := HLT.out; exact back_less this HWK.out⟩
                  rcases Nat.lt_or_ge u v with h9 | h9
                  · exact HALL2.out u h9 h1 h2
                  · obtain rfl : u = v := by omega
                    exact absurd HG.out h2
                · have g1 : ((v : Int) != t) = true := by simp [ht]
                  have HG := Lib.hid (And.intro hs ht)
                  clear hs ht
                  obtain ⟨y, hy⟩ : ∃ y, y = surp A X (v : Int) := ⟨_, rfl⟩
                  rw [← hy] at HS9
                  have HY := Lib.hid hy
                  clear hy
                  by_cases hz : y = 0
                  · subst hz
                    go_wp2_with (go_at_call 27; refine HS9.out.mono ?_; rintro e w7 ⟨rfl, hb7⟩; have HR7 := Lib.hid (HR2.out.keep hb7); clear hb7)
                    refine ⟨⟨v + 1, by have := HLT.out; omega, by rw [HWK.out, Int.natCast_succ], HR7.out, fun u hu h1 h2 => ?_⟩, by have := HLT.out; exact back_less this HWK.out⟩
                    rcases Nat.lt_or_ge u v with h9 | h9
                    · exact HALL2.out u h9 h1 h2
                    · obtain rfl : u = v := by omega
                      exact HY.out.symm
                  · have g2 : (y != 0) = true := by simp [hz]
                    have HV : Hid (valE Nn s t A X = 130 ∧ valV Nn s t A X = 0) := Lib.hid (HNO.out fun hf => hz (by
                      have h9 := hf.bal (v : Int) (by omega) (by have := HLT.out; omega) HG.out.1 HG.out.2
                      rw [HY.out]; exact h9))
                    go_wp2_with (go_at_call 27; refine HS9.out.mono ?_; rintro e w7 ⟨rfl, hb7⟩; have HR7 := Lib.hid (HR2.out.keep hb7); clear hb7)
                    go_ret2
                    exact ⟨by rw [HV.out.1, HV.out.2]; rfl, HR7.out.bw⟩
            · obtain rfl : v = Nn := by have := HK2.out; omega
              have HV : Hid (valE v s t A X = 0 ∧ valV v s t A X = surp A X s) := Lib.hid (val_of HCK0.out ⟨HOK.out, fun u h0 h1 h2 h3 => by
                have h9 := HALL2.out u.toNat (by omega) (by omega) (by omega)
                rw [Int.toNat_of_nonneg h0] at h9; exact h9⟩)
              have HS9 := Lib.hid (HSU2.out s wr HR2.out.bw)
              go_wp2_with (go_at_call 27; refine HS9.out.mono ?_; rintro e w7 ⟨rfl, hb7⟩; have HR7 := Lib.hid (HR2.out.keep hb7); clear hb7)
              go_ret2
              exact ⟨by rw [HV.out.1, HV.out.2]; rfl, HR7.out.bw⟩
    · have hmi : ((m : Int) != (n : Int)) = true := by simp; omega
      have HV : Hid (valE N s t A X = 130 ∧ valV N s t A X = 0) := Lib.hid (HNO.out fun hf => hmn (HF.out hf.ok).1)
      go_wp2_with fail
      go_ret2
      exact ⟨by rw [HV.out.1, HV.out.2]; rfl, HR5.out.bw⟩
  · have HV : Hid (valE N s t A X = er ∧ valV N s t A X = 0) := Lib.hid (by have h9 := val_bad (X := X) (show netE N s t A ≠ 0 by rw [← HER.out]; exact he); rw [← HER.out] at h9; exact h9)
    have gb : (er != 0) = true := by simp [he]
    go_wp2_with (go_at_call 16; refine HCK1.out.mono ?_; rintro e w5 ⟨rfl, hb5⟩; have HR5 := Lib.hid (HX.out.keep hb5); clear hb5)
    go_ret2
    exact ⟨by rw [HV.out.1, HV.out.2]; rfl, HR5.out.bw⟩
end Go.Proofs.Ytbmbddapbgnioaa
