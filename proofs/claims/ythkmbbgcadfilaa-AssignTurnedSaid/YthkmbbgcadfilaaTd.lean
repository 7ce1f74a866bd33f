/- AssignShift: its walk. -/
import Derived.Test.YthkmbbgcadfilaaTc
namespace Go.Proofs.Ythkmbbgcadfilaa
open Go.RowKit Go.Shelf

theorem row_set {C : List (List Int)} {k : Nat} {X : List Int} (h : k < C.length) : (C.set k X).getD k [] = X := by simp [h]
theorem below_set {B : Nat} {w w' : World} {p : Addr} {v : Value} (h : Below B w w') (hp : B ≤ p.block) : Below B w (w'.setCell p v) :=
  ⟨h.os, h.tape, h.output, by simpa using h.size, fun i hi => (heap_setCell_other w' p i v (by omega)).trans (h.block i hi)⟩
theorem mat_i64 {C : List (List Int)} {n m : Nat} (hM : Mat C n m) : ∀ i, i < n → ∀ x, x ∈ C.getD i [] → I64 x := fun i hi x hx => by
  obtain ⟨j, hj, rfl⟩ := List.getElem_of_mem hx
  have hj2 : j < m := by rw [← hM.row i hi]; exact hj
  have h1 := hM.el i j hi hj2
  have h2 := getDD hM hi hj2
  rw [← h2, show (C.getD i []).getD j 0 = (C.getD i [])[j] by rw [List.getD_eq_getElem?_getD, List.getElem?_eq_getElem hj]; rfl] at h1
  exact ⟨by omega, by omega⟩
theorem set_same {C : List (List Int)} {k : Nat} : C.set k (C.getD k []) = C := by
  refine List.ext_getElem (by simp) fun i h1 h2 => ?_
  rw [List.getElem_set]
  split
  · rename_i e; subst e; simp [h2]
  · rfl
set_option maxRecDepth 100000 in
set_option maxHeartbeats 16000000 in
theorem shift_walk (C : List (List Int)) (r M : Int) (vc : Value) (w : World) (hC : NRest w.heap.size w C vc) (hr : 0 ≤ r ∧ r ≤ 255) (hM : 0 ≤ M ∧ M ≤ 65535) :
    Calls Try.prog 7 #[vc, .int .u8 r, .int .u16 M] w fun e w' => e = .returned (.bool true) ∧ Below w.heap.size w w' := by
  have HSN := Lib.hid (sane_call w)
  have HRT : Hid (∀ W, Below w.heap.size w W → Calls Try.prog 26 #[vc] W fun e w' => e = .returned (.bool (decide (chkE C = 0))) ∧ Below W.heap.size W w') := Lib.hid (fun W hW => rightL_call C vc W (hC.keep hW))
  have HBE : Hid (∀ W, Below w.heap.size w W → Calls Try.prog 15 #[vc] W (BestQ C W)) := Lib.hid (fun W hW => best_call C vc W (hC.keep hW))
  have HCO : Hid (∀ W, chkE C = 0 → Below w.heap.size w W → Calls Try.prog 28 #[vc] W (CpP C W)) := Lib.hid (fun W h0 hW => by
    have hM := chk_ok h0
    have h1 := hM.n16
    have h2 := hM.m16
    exact copy_call C vc W (hC.keep hW) (by omega) (fun i hi => by rw [hM.row i hi]; omega))
  obtain ⟨rn, rfl⟩ : ∃ rn : Nat, r = (rn : Int) := ⟨r.toNat, by omega⟩
  obtain ⟨a, c, rfl⟩ := nrest_shape hC
  obtain ⟨-, hac, ham, hat⟩ := rows_at hC
  have HAT := Lib.hid hat
  obtain ⟨n, hn⟩ : ∃ n, n = C.length := ⟨_, rfl⟩
  rw [← hn] at HRT HBE HCO hac ⊢
  have HN := Lib.hid hn
  clear hn hC hat
  go_enter Try.func7, Try.ntmps7
  go_upto_region 3 with (go_at_call 11; refine HSN.out.mono ?_; rintro e w2 ⟨rfl, hb⟩; have HB2 := Lib.hid hb; clear hb)
  have HR2 := Lib.hid (HRT.out w2 HB2.out)
  clear HSN HRT
  by_cases h0 : chkE C = 0
  · rw [decide_eq_true h0] at HR2
    have hMt := chk_ok h0
    obtain ⟨m, hm⟩ : ∃ m, m = colsN C := ⟨_, rfl⟩
    rw [← HN.out, ← hm] at hMt
    have HMT := Lib.hid hMt
    have hn16 := hMt.n16
    have hm16 := hMt.m16
    have H0 := Lib.hid h0
    clear h0 hm hMt
    by_cases h1 : n = 0
    · subst h1
      go_wp2_with (go_at_call 26; refine HR2.out.mono ?_; rintro e w3 ⟨rfl, hb⟩; have HB3 := Lib.hid (below_next HB2.out hb); clear hb)
      go_ret
      exact ⟨rfl, HB3.out⟩
    · have hnp : 0 < n := by omega
      have hni : ¬ ((n : Int) = 0) := by omega
      go_upto_region 5 with (go_at_call 26; refine HR2.out.mono ?_; rintro e w3 ⟨rfl, hb⟩; have HB3 := Lib.hid (below_next HB2.out hb); clear hb)
      have HCO3 := Lib.hid (HCO.out w3 H0.out HB3.out)
      go_upto_region 7 with (go_at_call 28; refine HCO3.out.mono ?_; rintro e w4 ⟨vx, rvs, rfl, hcp, hb⟩; rw [← HN.out] at hcp; obtain ⟨gx, cx, rfl, hcx1, hcx2, hgx, hgx2, hcl⟩ := hcp.shape hnp; have HCL := Lib.hid hcl; clear hcl; have HCP := Lib.hid hcp; have HB34 := Lib.hid hb; have HB4 := Lib.hid (below_next HB3.out hb); clear hb hcp)
      obtain ⟨k, hk, hkn⟩ : ∃ k : Nat, ((rn : Int) % (n : Int)) = k ∧ k < n := ⟨rn % n, by omega, Nat.mod_lt _ hnp⟩
      rw [hk]
      have hki : (k : Int) < (n : Int) := by omega
      obtain ⟨ax, cx2, hrv, hl1, hl2, hcell⟩ := HCP.out.at hkn
      have d1 := (HCL.out k hkn).trans (congrArg some hrv)
      rw [HMT.out.row k hkn] at d1 hl1 hrv
      have HRV := Lib.hid hrv
      have HKN := Lib.hid hkn
      clear hrv hcell hk hkn HCL
      go_upto_region 9 with (fail)
      go_loopw [41] (fun s41 wr => ∃ (j : Nat), j ≤ m ∧ s41 = .int .i64 (j : Int) ∧ CpR w3.heap.size wr (.slice (some ⟨gx, 0, none⟩) n cx) (C.set k (shf M (C.getD k []) j)) n rvs ∧ (∀ q, q < j → cst C k q ≤ 1073741824 - M) ∧ Below w3.heap.size w3 wr) (fun s41 _ => m - (intOf s41).toNat)
      case atStart => exact ⟨0, by omega, rfl, by rw [shf_zero, set_same]; exact HCP.out, fun q hq => by omega, HB34.out⟩
      case round =>
        obtain ⟨j, hj, rfl, hcp, hle, hb⟩ := hrel
        have HJ := Lib.hid hj
        have HC := Lib.hid hcp
        have HLE := Lib.hid hle
        have HB := Lib.hid hb
        clear hj hcp hle hb
        by_cases hlt : j < m
        · have hji : (j : Int) < (m : Int) := by omega
          have HLT := Lib.hid hlt
          have HWK := Lib.hid (wrap_succ hlt (show m ≤ maxLen by unfold maxLen; omega))
          have hrs : (C.set k (shf M (C.getD k []) j)).getD k [] = shf M (C.getD k []) j := row_set (by rw [HMT.out.len]; exact HKN.out)
          have hlm : (shf M (C.getD k []) j).length = m := by rw [shf_len]; exact HMT.out.row k HKN.out
          obtain ⟨ax2, cx3, e2, -, -, hcell⟩ := HC.out.at HKN.out
          rw [hrs, hlm] at e2 hcell
          obtain ⟨b, rfl, hbge, hown, hfr, hcl⟩ := hcell (by omega)
          have e3 := HRV.out.symm.trans e2
          injection e3 with e4 _ _
          subst e4
          obtain ⟨g9, c9, e9, -, -, -, -, hcl9⟩ := HC.out.shape hnp
          injection e9 with e9 _ _
          injection e9 with e9
          injection e9 with e9 _ _
          subst e9
          have d2 := (hcl9 k HKN.out).trans (congrArg some HRV.out)
          have d3 := hcl j hlt
          have d4 := hfr j
          rw [shf_get 0 (by rw [HMT.out.row k HKN.out]; exact hlt), if_neg (fun h => Nat.lt_irrefl _ h.1), getDD HMT.out HKN.out hlt] at d3
          have hel := HMT.out.el k j HKN.out hlt
          obtain ⟨x, hx⟩ : ∃ x, x = cst C k j := ⟨_, rfl⟩
          rw [← hx] at d3 hel
          have HX := Lib.hid (And.intro hx hel)
          have HOWN := Lib.hid (And.intro hown hbge)
          have hw1 : wrap64 (1073741824 - M) = 1073741824 - M := by unfold wrap64; omega
          have hw2 : wrap64 (x + M) = x + M := by unfold wrap64; omega
          clear hx hel hrs hlm e2 hcell hown hbge hfr hcl hcl9
          by_cases hbig : 1073741824 - M < x
          · have g1 : decide (1073741824 - M < x) = true := decide_eq_true hbig
            go_wp2_with fail
            go_ret
            exact ⟨rfl, below_next HB3.out HB.out⟩
          · have g1 : decide (1073741824 - M < x) = false := decide_eq_false hbig
            have HBG := Lib.hid hbig
            by_cases hneg : 0 ≤ x
            · have g2 : decide (0 ≤ x) = true := decide_eq_true hneg
              go_wp2_with fail
              refine ⟨⟨j + 1, HLT.out, rfl, ?_, fun q hq => ?_, below_set HB.out HOWN.out.2⟩, by have := HLT.out; simp [intOf]; omega⟩
              · have h9 := HC.out.put (by rw [List.length_set]; exact HMT.out.len) HKN.out (j := j) (by rw [row_set (by rw [HMT.out.len]; exact HKN.out), shf_len, HMT.out.row k HKN.out]; exact HLT.out) HOWN.out.1 (x + M)
                have h8 := getDD HMT.out HKN.out HLT.out
                have h7 := shf_put (M := M) (L := C.getD k []) (j := j) (by rw [HMT.out.row k HKN.out]; exact HLT.out) (by rw [h8, ← HX.out.1]; exact hneg)
                rw [h8, ← HX.out.1] at h7
                rw [row_set (by rw [HMT.out.len]; exact HKN.out), List.set_set, h7] at h9
                exact h9
              · rcases Nat.lt_or_ge q j with h9 | h9
                · exact HLE.out q h9
                · obtain rfl : q = j := by omega
                  have := HX.out.1; have := HBG.out; omega
            · have g2 : decide (0 ≤ x) = false := decide_eq_false hneg
              go_wp2_with fail
              refine ⟨⟨j + 1, HLT.out, rfl, ?_, fun q hq => ?_, HB.out⟩, by have := HLT.out; simp [intOf]; omega⟩
              · have h8 := getDD HMT.out HKN.out HLT.out
                rw [shf_skip (by rw [h8, ← HX.out.1]; exact hneg)]
                exact HC.out
              · rcases Nat.lt_or_ge q j with h9 | h9
                · exact HLE.out q h9
                · obtain rfl : q = j := by omega
                  have := HX.out.1; have := HBG.out; omega
        · obtain rfl : j = m := by have := HJ.out; omega
          obtain ⟨hMB, hSh⟩ := shf_end HMT.out HKN.out hM.1 HLE.out
          obtain ⟨D, hD⟩ : ∃ D, D = C.set k (shf M (C.getD k []) j) := ⟨_, rfl⟩
          rw [← hD] at hMB hSh HC
          have HS := Lib.hid (And.intro hMB hSh)
          have HD0 := Lib.hid (mat_chk hMB hnp)
          have HBX : Hid (∀ W, Below wr.heap.size wr W → Calls Try.prog 15 #[.slice (some ⟨gx, 0, none⟩) n cx] W (BestQ D W)) := Lib.hid (fun W hW => best_call D _ W ((HC.out.keep hW).nrest hnp HS.out.1.len (mat_i64 HS.out.1)))
          have HBW := Lib.hid (below_next HB3.out HB.out)
          have HBE5 := Lib.hid (HBE.out wr HBW.out)
          clear hMB hSh hD hlt HBE HCO HCO3 HR2
          go_upto_region 16 with (go_at_call 15; refine HBE5.out.mono ?_; rintro e w5 ⟨hb, va, ca, oka, rfl, hp⟩; rw [H0.out]; have HB5 := Lib.hid hb; have HPA := Lib.hid hp; clear hb hp)
          have HBX5 := Lib.hid (HBX.out w5 HB5.out)
          go_upto_region 17 with (go_at_call 15; refine HBX5.out.mono ?_; rintro e w6 ⟨hb, vb, cb, okb, rfl, hp⟩; rw [HD0.out]; have HB6 := Lib.hid hb; have HPB := Lib.hid hp; clear hb hp)
          obtain ⟨X, hX1, hX2, hX3, rfl, hX4⟩ := best_shift HMT.out HS.out.1 hnp HKN.out hM.1 HS.out.2 HPA.out HPB.out
          have HSM := Lib.hid (same_call X X va vb w6 ((hX1.keep HB6.out).rest hX3) (hX2.rest hX3))
          rw [decide_eq_true (rfl : X = X)] at HSM
          have HW6 := Lib.hid (below_next (below_next HBW.out HB5.out) HB6.out)
          clear hX1 hX2 HPA HPB
          cases okb with
          | true =>
            obtain ⟨rfl, hc0, hc1⟩ := hX4 rfl
            have hwc : wrap64 (ca + M) = ca + M := by unfold wrap64; omega
            go_wp2_with (go_at_call 19; refine HSM.out.mono ?_; rintro e w7 ⟨rfl, hb⟩; have HB7 := Lib.hid (below_next HW6.out hb); clear hb)
            refine bodyPost_ret (results_tmp rfl _ _ _) rfl ?_
            exact ⟨by simp, HB7.out⟩
          | false =>
            go_wp2_with (go_at_call 19; refine HSM.out.mono ?_; rintro e w7 ⟨rfl, hb⟩; have HB7 := Lib.hid (below_next HW6.out hb); clear hb)
            refine bodyPost_ret (results_tmp rfl _ _ _) rfl ?_
            exact ⟨by simp, HB7.out⟩
  · rw [decide_eq_false h0] at HR2
    clear h0
    go_wp2_with (go_at_call 26; refine HR2.out.mono ?_; rintro e w3 ⟨rfl, hb⟩; have HB3 := Lib.hid (below_next HB2.out hb); clear hb)
    go_ret
    exact ⟨rfl, HB3.out⟩
end Go.Proofs.Ythkmbbgcadfilaa
