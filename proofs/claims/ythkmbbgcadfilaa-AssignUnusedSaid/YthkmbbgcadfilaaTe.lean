/- AssignUnused: its walk. -/
import Derived.Test.YthkmbbgcadfilaaTd
namespace Go.Proofs.Ythkmbbgcadfilaa
open Go.RowKit Go.Shelf

/-- one pair forbidden -/
def Fb (n m : Nat) (c c' : Nat → Nat → Int) (i j : Nat) : Prop := ∀ a b, a < n → b < m → c' a b = if a = i ∧ b = j then -1 else c a b
theorem Fb.asg {n m : Nat} {c c' : Nat → Nat → Int} {i j : Nat} (h : Fb n m c c' i j) (hi : i < n) {t : Nat → Nat} : Asg n m c' t ↔ Asg n m c t ∧ t i ≠ j := by
  constructor
  · intro ha
    refine ⟨⟨ha.inj, fun k hk e => ha.may k hk ?_⟩, fun e => ha.may i hi ?_⟩
    · rw [h k (t k) hk (ha.inj.1 k hk)]
      split
      · rfl
      · exact e
    · rw [h i (t i) hi (ha.inj.1 i hi), if_pos ⟨rfl, e⟩]
  · rintro ⟨ha, hne⟩
    refine ⟨ha.inj, fun k hk e => ?_⟩
    rw [h k (t k) hk (ha.inj.1 k hk)] at e
    split at e
    · rename_i h1
      obtain ⟨rfl, h2⟩ := h1
      exact hne h2
    · exact ha.may k hk e
theorem Fb.cost {n m : Nat} {c c' : Nat → Nat → Int} {i j : Nat} (h : Fb n m c c' i j) {t : Nat → Nat} (ha : Asg n m c' t) : costOf n c' t = costOf n c t := by
  unfold costOf
  refine sm_congr fun k hk => ?_
  have := ha.may k hk
  rw [h k (t k) hk (ha.inj.1 k hk)] at this ⊢
  split
  · rename_i h1; rw [if_pos h1] at this; exact absurd rfl this
  · rfl
theorem Fb.crowd {n m : Nat} {c c' : Nat → Nat → Int} {i j : Nat} (h : Fb n m c c' i j) {R S : List Nat} (hc : Crowd n m c R S) : Crowd n m c' R S :=
  ⟨hc.rows, hc.nodup, fun a b ha hb hn => hc.cols a b ha hb fun e => hn (by rw [h a b (hc.rows a ha) hb]; split; exact rfl; exact e), hc.few⟩
theorem Fb.lx {n m : Nat} {c c' : Nat → Nat → Int} {i j : Nat} (h : Fb n m c c' i j) (hi : i < n) {K : Int} {p : Nat → Nat} (hl : Lx n m c K p) (hne : p i ≠ j) : Lx n m c' K p := by
  have hp : Asg n m c' p := (h.asg hi).2 ⟨hl.bst.1, hne⟩
  refine ⟨⟨hp, (h.cost hp).trans hl.bst.2⟩, fun t ht => ?_, fun k hk t ht he => ?_⟩
  · rw [h.cost ht]; exact hl.all t ((h.asg hi).1 ht).1
  · exact hl.first k hk t ⟨((h.asg hi).1 ht.1).1, (h.cost ht.1).symm.trans ht.2⟩ he
theorem best_forbid {C C' : List (List Int)} {n m i j : Nat} {v v' : Value} {c c' : Int} {ok ok' : Bool} {w w' : World} (hA : Mat C n m) (hB : Mat C' n m) (hn : 0 < n) (hi : i < n) (h : Fb n m (cst C) (cst C') i j) (hb : BestP C v c ok w) (hb' : BestP C' v' c' ok' w') :
    (ok = false ∧ ok' = false ∧ v = nilV) ∨ (ok = true ∧ ∃ p, IBuf w v (ofN p) ∧ p.length = n ∧ (∀ x, x ∈ ofN p → I64 x) ∧
      ((p.getD i 0 ≠ j ∧ ok' = true ∧ c' = c ∧ IBuf w' v' (ofN p)) ∨ (p.getD i 0 = j ∧ (ok' = false ∨ (ok' = true ∧ c ≤ c' ∧ ∃ q, IBuf w' v' (ofN q) ∧ q.length = n ∧ q.getD i 0 ≠ j))))) := by
  have h0 := mat_chk hA hn
  have h0' := mat_chk hB hn
  unfold BestP at hb hb'
  rw [mat_cols hA hn, hA.len] at hb
  rw [mat_cols hB hn, hB.len] at hb'
  rcases hb with ⟨rfl, -, p, b1, b2, b3⟩ | ⟨rfl, rfl, rfl, b1⟩
  · refine .inr ⟨rfl, p, b1, b2, lx_i64 hA.m16 b2 b3, ?_⟩
    by_cases hp : p.getD i 0 = j
    · refine .inr ⟨hp, ?_⟩
      rcases hb' with ⟨rfl, -, q, d1, d2, d3⟩ | ⟨rfl, -, -, d1⟩
      · right
        have h4 := (h.asg hi).1 d3.bst.1
        refine ⟨rfl, ?_, q, d1, d2, h4.2⟩
        have h5 := b3.all _ h4.1
        rw [← h.cost d3.bst.1, d3.bst.2] at h5
        exact h5
      · exact .inl rfl
    · refine .inl ⟨hp, ?_⟩
      have h4 := h.lx hi b3 hp
      rcases hb' with ⟨rfl, -, q, d1, d2, d3⟩ | ⟨rfl, -, -, d1⟩
      · have e : p = q := gN_ext (by omega) fun k hk => h4.unique d3 n (Nat.le_refl _) k (by omega)
        subst e
        exact ⟨rfl, (h4.same d3).symm, d1⟩
      · obtain ⟨R, S, hc⟩ := d1 h0'
        exact absurd h4.bst.1 (hc.none _)
  · left
    rcases hb' with ⟨rfl, -, q, d1, d2, d3⟩ | ⟨rfl, -, -, d1⟩
    · obtain ⟨R, S, hc⟩ := b1 h0
      exact absurd d3.bst.1 ((h.crowd hc).none _)
    · exact ⟨rfl, rfl, rfl⟩
theorem forbid_set {C : List (List Int)} {n m i j : Nat} (hA : Mat C n m) (hi : i < n) (hj : j < m) : Mat (C.set i ((C.getD i []).set j (-1))) n m ∧ Fb n m (cst C) (cst (C.set i ((C.getD i []).set j (-1)))) i j := by
  have hL := hA.len
  have hrow : ∀ a, (C.set i ((C.getD i []).set j (-1))).getD a [] = if a = i then (C.getD i []).set j (-1) else C.getD a [] := fun a => by
    by_cases e : a = i
    · subst e; simp [hL, hi]
    · rw [if_neg e]; simp [List.getElem?_set, Ne.symm e]
  have hS : Fb n m (cst C) (cst (C.set i ((C.getD i []).set j (-1)))) i j := fun a b ha hb => by
    unfold cst
    rw [hrow a]
    by_cases e : a = i
    · subst e
      rw [if_pos rfl]
      have hl := hA.row a ha
      by_cases e2 : b = j
      · subst e2
        rw [if_pos ⟨rfl, rfl⟩, List.getD_eq_getElem?_getD, List.getElem?_set_self (by rw [hl]; exact hb)]; rfl
      · rw [if_neg (fun h => e2 h.2)]
        simp [List.getElem?_set, Ne.symm e2]
    · rw [if_neg e, if_neg (fun h => e h.1)]
  refine ⟨⟨by rw [List.length_set]; exact hL, hA.n16, hA.m16, fun a ha => ?_, fun a b ha hb => ?_⟩, hS⟩
  · rw [hrow a]
    split
    · rw [List.length_set]; exact hA.row i hi
    · exact hA.row a ha
  · rw [hS a b ha hb]
    have h1 := hA.el a b ha hb
    split
    · omega
    · exact h1
set_option maxRecDepth 100000 in
set_option maxHeartbeats 16000000 in
theorem unused_walk (C : List (List Int)) (r t : Int) (vc : Value) (w : World) (hC : NRest w.heap.size w C vc) (hr : 0 ≤ r ∧ r ≤ 255) (ht : 0 ≤ t ∧ t ≤ 255) :
    Calls Try.prog 8 #[vc, .int .u8 r, .int .u8 t] w fun e w' => e = .returned (.bool true) ∧ Below w.heap.size w w' := by
  have HSN := Lib.hid (sane_call w)
  have HRT : Hid (∀ W, Below w.heap.size w W → Calls Try.prog 26 #[vc] W fun e w' => e = .returned (.bool (decide (chkE C = 0))) ∧ Below W.heap.size W w') := Lib.hid (fun W hW => rightL_call C vc W (hC.keep hW))
  have HBE : Hid (∀ W, Below w.heap.size w W → Calls Try.prog 15 #[vc] W (BestQ C W)) := Lib.hid (fun W hW => best_call C vc W (hC.keep hW))
  have HCO : Hid (∀ W, chkE C = 0 → Below w.heap.size w W → Calls Try.prog 28 #[vc] W (CpP C W)) := Lib.hid (fun W h0 hW => by
    have hM := chk_ok h0
    have h1 := hM.n16
    have h2 := hM.m16
    exact copy_call C vc W (hC.keep hW) (by omega) (fun i hi => by rw [hM.row i hi]; omega))
  obtain ⟨rn, rfl⟩ : ∃ rn : Nat, r = (rn : Int) := ⟨r.toNat, by omega⟩
  obtain ⟨tn, rfl⟩ : ∃ tn : Nat, t = (tn : Int) := ⟨t.toNat, by omega⟩
  obtain ⟨a, c, rfl⟩ := nrest_shape hC
  obtain ⟨-, hac, ham, hat⟩ := rows_at hC
  have HAT := Lib.hid hat
  obtain ⟨n, hn⟩ : ∃ n, n = C.length := ⟨_, rfl⟩
  rw [← hn] at HRT HBE HCO hac ⊢
  have HN := Lib.hid hn
  clear hn hC hat
  go_enter Try.func8, Try.ntmps8
  go_upto_region 3 with (go_at_call 11; refine HSN.out.mono ?_; rintro e w2 ⟨rfl, hb⟩; have HB2 := Lib.hid hb; clear hb)
  have HR2 := Lib.hid (HRT.out w2 HB2.out)
  clear HSN HRT
  by_cases h0 : chkE C = 0
  · rw [decide_eq_true h0] at HR2
    have hMt := chk_ok h0
    obtain ⟨m, hm⟩ : ∃ m, m = colsN C := ⟨_, rfl⟩
    rw [← HN.out, ← hm] at hMt
    have HMT := Lib.hid hMt
    have hn16 := hMt.n16
    have hm16 := hMt.m16
    have H0 := Lib.hid h0
    clear h0 hm hMt
    by_cases h1 : n = 0
    · subst h1
      go_wp2_with (go_at_call 26; refine HR2.out.mono ?_; rintro e w3 ⟨rfl, hb⟩; have HB3 := Lib.hid (below_next HB2.out hb); clear hb)
      go_ret
      exact ⟨rfl, HB3.out⟩
    · have hnp : 0 < n := by omega
      have gn : ((n : Int) == 0) = false := by simp; omega
      have hni : ¬ ((n : Int) = 0) := by omega
      obtain ⟨b0, off0, ra0, rc0, q0, hb0, f0, -⟩ := HAT.out 0 (by have := HN.out; omega)
      subst q0
      rw [show (C.getD 0 []).length = m from HMT.out.row 0 hnp] at f0
      have d0 : ∀ W, Below w.heap.size w W → W.cell? ⟨b0, off0, none⟩ = some (.slice ra0 m rc0) := fun W hW => by
        have := (hW.cell (p := ⟨b0, off0 + 0, none⟩) hb0).trans f0
        simpa using this
      have HD0 := Lib.hid d0
      have hR3 := HR2.out.mono (R' := fun e w' => e = .returned (.bool true) ∧ Below w2.heap.size w2 w' ∧ w'.cell? ⟨b0, off0, none⟩ = some (.slice ra0 m rc0)) fun e w' h => ⟨h.1, h.2, HD0.out w' (below_next HB2.out h.2)⟩
      have HR3 := Lib.hid hR3
      clear f0 hb0 d0 hR3 HR2
      by_cases h2 : m = 0
      · subst h2
        go_wp2_with (go_at_call 26; refine HR3.out.mono ?_; rintro e w3 ⟨rfl, hb, d3⟩; have HB3 := Lib.hid (below_next HB2.out hb); clear hb)
        go_ret
        exact ⟨rfl, HB3.out⟩
      · have hmp : 0 < m := by omega
        have hmi : ¬ ((m : Int) = 0) := by omega
        have gm : ((m : Int) == 0) = false := by simp; omega
        go_upto_region 5 with (go_at_call 26; refine HR3.out.mono ?_; rintro e w3 ⟨rfl, hb, d3⟩; have HB3 := Lib.hid (below_next HB2.out hb); clear hb)
        go_region
        obtain ⟨i, hie, hin⟩ : ∃ i : Nat, ((rn : Int) % (n : Int)) = i ∧ i < n := ⟨rn % n, by omega, Nat.mod_lt _ hnp⟩
        obtain ⟨j, hje, hjm⟩ : ∃ j : Nat, ((tn : Int) % (m : Int)) = j ∧ j < m := ⟨tn % m, by omega, Nat.mod_lt _ hmp⟩
        rw [hie, hje]
        have HB3d := Lib.hid HB3.out.drew
        have HCO3 := Lib.hid (HCO.out w3.drew H0.out HB3d.out)
        have hii : (i : Int) < (n : Int) := by omega
        have hji : (j : Int) < (m : Int) := by omega
        have HIN := Lib.hid (And.intro hin hjm)
        clear hie hje hin hjm HCO HR3 d3
        go_upto_region 7 with (go_at_call 28; refine HCO3.out.mono ?_; rintro e w4 ⟨vx, rvs, rfl, hcp, hb⟩; rw [← HN.out] at hcp; have HCP := Lib.hid hcp; have HB4 := Lib.hid (below_next HB3d.out hb); clear hb hcp)
        obtain ⟨gx, cx, rfl, hcx1, hcx2, -, -, hcl⟩ := HCP.out.shape hnp
        obtain ⟨ax, cx2, hrv, hl1, hl2, hcell⟩ := HCP.out.at HIN.out.1
        rw [HMT.out.row i HIN.out.1] at hrv hcell hl1
        obtain ⟨b, rfl, hbge, hown, hfr, hcl2⟩ := hcell (by have := HIN.out.2; omega)
        have d1 := (hcl i HIN.out.1).trans (congrArg some hrv)
        have d2 := hcl2 j HIN.out.2
        have d4 := hfr j
        have HOWN := Lib.hid (And.intro hown hbge)
        have HPUT := Lib.hid (HCP.out.put HMT.out.len HIN.out.1 (j := j) (by rw [HMT.out.row i HIN.out.1]; exact HIN.out.2) hown (-1))
        clear hcl hcl2 hcell hfr hown hrv hbge
        go_upto_region 8 with (fail)
        obtain ⟨hMB, hFb⟩ := forbid_set HMT.out HIN.out.1 HIN.out.2
        obtain ⟨D, hD⟩ : ∃ D, D = C.set i ((C.getD i []).set j (-1)) := ⟨_, rfl⟩
        rw [← hD] at hMB hFb HPUT
        obtain ⟨wx, hwx⟩ : ∃ W, W = w4.setCell ⟨b, j, none⟩ (.int .i64 (-1)) := ⟨_, rfl⟩
        have HWX : Hid (Below w.heap.size w wx) := Lib.hid (by rw [hwx]; exact below_set HB4.out (by have := HB3d.out.size; have := HOWN.out.2; show w.heap.size ≤ b; omega))
        rw [← hwx] at HPUT ⊢
        have HS := Lib.hid (And.intro hMB hFb)
        have HD0 := Lib.hid (mat_chk hMB hnp)
        have HBX : Hid (∀ W, Below wx.heap.size wx W → Calls Try.prog 15 #[.slice (some ⟨gx, 0, none⟩) n cx] W (BestQ D W)) := Lib.hid (fun W hW => best_call D _ W ((HPUT.out.keep hW).nrest hnp HS.out.1.len (mat_i64 HS.out.1)))
        have HBE5 := Lib.hid (HBE.out wx HWX.out)
        clear hMB hFb hD hwx HBE HCO3 d1 d2 d4
        go_upto_region 9 with (go_at_call 15; refine HBE5.out.mono ?_; rintro e w5 ⟨hb, va, ca, oka, rfl, hp⟩; rw [H0.out]; have HB5 := Lib.hid hb; have HPA := Lib.hid hp; clear hb hp)
        have HBX5 := Lib.hid (HBX.out w5 HB5.out)
        go_upto_region 10 with (go_at_call 15; refine HBX5.out.mono ?_; rintro e w6 ⟨hb, vb, cb, okb, rfl, hp⟩; rw [HD0.out]; have HB6 := Lib.hid hb; have HPB := Lib.hid hp; clear hb hp)
        have HW6 := Lib.hid (below_next (below_next HWX.out HB5.out) HB6.out)
        have hbf := best_forbid HMT.out HS.out.1 hnp HIN.out.1 HS.out.2 HPA.out HPB.out
        clear HPA HPB HBX5 HBX HBE5 HPUT
        rcases hbf with ⟨rfl, rfl, rfl⟩ | ⟨rfl, p, hp1, hp2, hp3, hp4⟩
        · go_wp2_with fail
          refine bodyPost_ret (results_tmp rfl _ _ _) rfl ?_
          exact ⟨by simp, HW6.out⟩
        · obtain ⟨aa, ka, hva, -, hka, hcells⟩ := (hp1.keep HB6.out).shape
          obtain ⟨g, hga, hcg⟩ := hcells i (by rw [ofN_len, hp2]; exact HIN.out.1)
          rw [ofN_len, hp2] at hva
          subst hga
          subst hva
          rw [ofN_get, Nat.zero_add] at hcg
          have HA1 := Lib.hid hp1
          rcases hp4 with ⟨hne, rfl, rfl, hb1⟩ | ⟨heq, rfl | ⟨rfl, hle, q, hq1, hq2, hq3⟩⟩
          · obtain ⟨pi, hpi⟩ : ∃ x, x = p.getD i 0 := ⟨_, rfl⟩
            rw [← hpi] at hcg hne
            have g1 : decide (pi = j) = false := decide_eq_false hne
            have HSM := Lib.hid (same_call (ofN p) (ofN p) _ vb w6 ((HA1.out.keep HB6.out).rest hp3) (hb1.rest hp3))
            rw [decide_eq_true (rfl : ofN p = ofN p)] at HSM
            clear hcells hp1 hb1 hp3 hpi
            go_wp2_with (go_at_call 19; refine HSM.out.mono ?_; rintro e w7 ⟨rfl, hb⟩; have HB7 := Lib.hid (below_next HW6.out hb); clear hb)
            refine bodyPost_ret (results_tmp rfl _ _ _) rfl ?_
            exact ⟨by simp, HB7.out⟩
          · rw [heq] at hcg
            clear hcells hp1 hp3
            go_wp2_with fail
            refine bodyPost_ret (results_tmp rfl _ _ _) rfl ?_
            exact ⟨by simp, HW6.out⟩
          · rw [heq] at hcg
            obtain ⟨ab, kb, hvb, -, hkb, hcells2⟩ := hq1.shape
            obtain ⟨g2, hgb, hcg2⟩ := hcells2 i (by rw [ofN_len, hq2]; exact HIN.out.1)
            rw [ofN_len, hq2] at hvb
            subst hgb
            subst hvb
            rw [ofN_get, Nat.zero_add] at hcg2
            obtain ⟨qi, hqi⟩ : ∃ x, x = q.getD i 0 := ⟨_, rfl⟩
            rw [← hqi] at hcg2 hq3
            have g1 : decide (qi = j) = false := decide_eq_false hq3
            have g2' : decide (ca ≤ cb) = true := decide_eq_true hle
            clear hcells hcells2 hp1 hp3 hq1 hqi
            go_wp2_with fail
            refine bodyPost_ret (results_tmp rfl _ _ _) rfl ?_
            exact ⟨by simp; omega, HW6.out⟩
  · rw [decide_eq_false h0] at HR2
    clear h0
    go_wp2_with (go_at_call 26; refine HR2.out.mono ?_; rintro e w3 ⟨rfl, hb⟩; have HB3 := Lib.hid (below_next HB2.out hb); clear hb)
    go_ret
    exact ⟨rfl, HB3.out⟩
end Go.Proofs.Ythkmbbgcadfilaa
