/- AssignEither: its walk. -/
import Derived.Test.YthkmbbgcadfilaaSa
import Derived.Test.YthkmbbgcadfilaaSb
namespace Go.Proofs.Ythkmbbgcadfilaa
open Go.RowKit Go.Shelf

theorem toF_ofN (p : List Nat) (i : Nat) : toF (ofN p) i = gN p i := by unfold toF gN; rw [ofN_get, Int.toNat_natCast]
theorem asgL_of {C : List (List Int)} {n m : Nat} {p : List Nat} (hp : p.length = n) (h : Asg n m (cst C) (gN p)) : AsgL C n m (ofN p) := by
  refine ⟨by rw [ofN_len]; exact hp, fun i hi => ?_, fun i k hi hk he => ?_⟩
  · rw [ofN_get, Int.toNat_natCast]
    have h1 := h.inj.1 i hi
    unfold gN at h1
    exact ⟨⟨by omega, by omega⟩, h.may i hi⟩
  · rw [ofN_get, ofN_get] at he
    exact h.inj.2 i k hi hk (by unfold gN; omega)
theorem Lx.least {n m : Nat} {c : Nat → Nat → Int} {K : Int} {t : Nat → Nat} (h : Lx n m c K t) : Least n m c K := ⟨⟨t, h.bst⟩, h.all⟩
theorem costOf_same {n : Nat} {c : Nat → Nat → Int} {t t' : Nat → Nat} (h : ∀ i, t i = t' i) : costOf n c t = costOf n c t' := by
  rw [show t = t' from funext h]
theorem costR_lx {C : List (List Int)} {K : Int} {p : List Nat} (h0 : chkE C = 0) (hp : p.length = C.length) (h : Lx C.length (colsN C) (cst C) K (gN p)) : costR C (ofN p) = (K, 0) := by
  unfold costR
  rw [if_pos h0, if_pos (asgL_of hp h.bst.1), costOf_same (toF_ofN p), h.bst.2]
theorem ofN_i64 {n : Nat} {l : List Nat} (hn : n ≤ 16) (h : SL n l) : ∀ x, x ∈ ofN l → I64 x := fun x hx => by
  obtain ⟨y, hy, rfl⟩ := List.mem_map.1 hx
  have := h.mem y hy
  exact ⟨by omega, by omega⟩
/-- the two sides of the chapter's main sentence -/
def Two (C : List (List Int)) (vb vd vu vv : Value) (cb : Int) (okb okd okp : Bool) (w4 w5 w6 : World) : Prop :=
  (okb = true ∧ okd = false ∧ okp = true ∧ vd = nilV ∧ (∃ p, IBuf w4 vb (ofN p) ∧ p.length = C.length ∧ Lx C.length (colsN C) (cst C) cb (gN p)) ∧
    ∃ U V, IRest w6.heap.size w6 U vu ∧ IRest w6.heap.size w6 V vv ∧ FitL C C.length (colsN C) U V ∧ lsum U + lsum V = cb) ∨
  (okb = false ∧ okd = true ∧ okp = false ∧ vb = nilV ∧ cb = 0 ∧ (∃ R S, Crowd C.length (colsN C) (cst C) R S) ∧ ∃ l, IBuf w5 vd (ofN l) ∧ SL C.length l ∧ crF C (colsN C) l)
theorem two_of {C : List (List Int)} {vb vd vu vv : Value} {cb : Int} {okb okd okp : Bool} {w4 w5 w6 : World} (h0 : chkE C = 0) (hb : BestP C vb cb okb w4) (hd : DenP C vd okd w5) (hp : PriP C vu vv okp w6) : Two C vb vd vu vv cb okb okd okp w4 w5 w6 := by
  rcases hb with ⟨rfl, -, p, b1, b2, b3⟩ | ⟨rfl, b1, b2, b3⟩
  · left
    have hno : ∀ R S, ¬ Crowd C.length (colsN C) (cst C) R S := fun R S h => h.none _ b3.bst.1
    rcases hd with ⟨-, -, l, -, d1, -, d2, -⟩ | ⟨rfl, d1, -⟩
    · exact absurd (crF_crowd d1 d2) (hno _ _)
    · rcases hp with ⟨rfl, -, U, V, p1, p2, p3, p4⟩ | ⟨-, -, -, p1⟩
      · exact ⟨rfl, rfl, rfl, d1, ⟨p, b1, b2, b3⟩, U, V, p1, p2, p3, p4.unique b3.least⟩
      · obtain ⟨R, S, h⟩ := p1 h0
        exact absurd h (hno _ _)
  · right
    obtain ⟨R, S, hc⟩ := b3 h0
    rcases hp with ⟨-, -, U, V, -, -, -, p4⟩ | ⟨rfl, -, -, -⟩
    · obtain ⟨⟨t, ht⟩, -⟩ := p4
      exact absurd ht.1 (hc.none _)
    · rcases hd with ⟨rfl, -, l, d1, d2, -, d3, -⟩ | ⟨-, -, d1⟩
      · exact ⟨rfl, rfl, rfl, b1, b2, ⟨R, S, hc⟩, l, d1, d2, d3⟩
      · obtain ⟨l, l1, l2, l3⟩ := crowd_crF hc
        exact absurd l3 (d1 h0 l l1 l2)
set_option maxRecDepth 100000 in
set_option maxHeartbeats 16000000 in
theorem either_walk (C : List (List Int)) (T : List Int) (vc vt : Value) (w : World) (hC : NRest w.heap.size w C vc) (hT : IRest w.heap.size w T vt) :
    Calls Try.prog 5 #[vc, vt] w fun e w' => e = .returned (.bool true) ∧ Below w.heap.size w w' := by
  have HSN := Lib.hid (sane_call w)
  have HRT : Hid (∀ W, Below w.heap.size w W → Calls Try.prog 26 #[vc] W fun e w' => e = .returned (.bool (decide (chkE C = 0))) ∧ Below W.heap.size W w') := Lib.hid (fun W hW => rightL_call C vc W (hC.keep hW))
  have HPR : Hid (∀ U V vu vv W, IRest W.heap.size W U vu → IRest W.heap.size W V vv → Below w.heap.size w W → Calls Try.prog 20 #[vc, vu, vv] W fun e w' => e = .returned (.tuple #[.int .i64 (prvR C U V).1, .bool (prvR C U V).2.1, .int .i64 (prvR C U V).2.2]) ∧ Below W.heap.size W w') := Lib.hid (fun U V vu vv W hU hV hW => proves_call C U V vc vu vv W (hC.keep hW) hU hV)
  have HCO : Hid (∀ W, Below w.heap.size w W → Calls Try.prog 13 #[vc, vt] W fun e w' => e = .returned (.tuple #[.int .i64 (costR C T).1, .int .i64 (costR C T).2]) ∧ Below W.heap.size W w') := Lib.hid (fun W hW => cost_call C T vc vt W (hC.keep hW) (hT.keep hW))
  have HCB : Hid (∀ X vx W, IRest W.heap.size W X vx → Below w.heap.size w W → Calls Try.prog 13 #[vc, vx] W fun e w' => e = .returned (.tuple #[.int .i64 (costR C X).1, .int .i64 (costR C X).2]) ∧ Below W.heap.size W w') := Lib.hid (fun X vx W hX hW => cost_call C X vc vx W (hC.keep hW) hX)
  have HBE : Hid (∀ W, Below w.heap.size w W → Calls Try.prog 15 #[vc] W (BestQ C W)) := Lib.hid (fun W hW => best_call C vc W (hC.keep hW))
  have HDE : Hid (∀ W, Below w.heap.size w W → Calls Try.prog 22 #[vc] W (DenQ C W)) := Lib.hid (fun W hW => deny_call C vc W (hC.keep hW))
  have HPI : Hid (∀ W, Below w.heap.size w W → Calls Try.prog 24 #[vc] W (PriQ C W)) := Lib.hid (fun W hW => prices_call C vc W (hC.keep hW))
  have HCR : Hid (∀ l vl W, chkE C = 0 → SL C.length l → crF C (colsN C) l → IRest W.heap.size W (ofN l) vl → Below w.heap.size w W → Calls Try.prog 27 #[vc, vl] W fun e w' => e = .returned (.bool true) ∧ Below W.heap.size W w') := Lib.hid (fun l vl W h0 hs hc hl hW => crowded_call C l vc vl W (chk_ok h0) (hC.keep hW) hl hs hc)
  obtain ⟨a, c, rfl⟩ := nrest_shape hC
  obtain ⟨a1, c1, rfl⟩ := irest_shape hT
  obtain ⟨n, hn⟩ : ∃ n, n = C.length := ⟨_, rfl⟩
  obtain ⟨nt, hnt⟩ : ∃ n, n = T.length := ⟨_, rfl⟩
  rw [← hn] at HRT HPR HCO HCB HBE HDE HPI HCR ⊢
  rw [← hnt] at HCO ⊢
  have HN := Lib.hid hn
  clear hn hnt hC hT
  go_enter Try.func5, Try.ntmps5
  go_upto_region 3 with (go_at_call 11; refine HSN.out.mono ?_; rintro e w2 ⟨rfl, hb⟩; have HB2 := Lib.hid hb; clear hb)
  have HR2 := Lib.hid (HRT.out w2 HB2.out)
  clear HSN HRT
  by_cases h0 : chkE C = 0
  · rw [decide_eq_true h0] at HR2
    have hn16 := (chk_ok h0).n16
    have H0 := Lib.hid h0
    by_cases h1 : 20 < nt
    · have h1i : (20 : Int) < (nt : Int) := by omega
      clear h0
      go_wp2_with (go_at_call 26; refine HR2.out.mono ?_; rintro e w3 ⟨rfl, hb⟩; have HB3 := Lib.hid (below_next HB2.out hb); clear hb)
      go_ret
      exact ⟨rfl, HB3.out⟩
    · have h1i : (nt : Int) ≤ 20 := by omega
      clear h1 h0
      go_upto_region 5 with (go_at_call 26; refine HR2.out.mono ?_; rintro e w3 ⟨rfl, hb⟩; have HB3 := Lib.hid (below_next HB2.out hb); clear hb)
      have HBE3 := Lib.hid (HBE.out w3 HB3.out)
      clear HBE HR2
      go_upto_region 6 with (go_at_call 15; refine HBE3.out.mono ?_; rintro e w4 ⟨hb, vb, cb, okb, rfl, hp⟩; rw [H0.out]; have HB4 := Lib.hid (below_next HB3.out hb); have HBP := Lib.hid hp; clear hb hp)
      have HDE4 := Lib.hid (HDE.out w4 HB4.out)
      clear HBE3 HDE
      go_upto_region 7 with (go_at_call 22; refine HDE4.out.mono ?_; rintro e w5 ⟨hb, vd, okd, rfl, hp⟩; rw [H0.out]; have HB45 := Lib.hid hb; have HB5 := Lib.hid (below_next HB4.out hb); have HDP := Lib.hid hp; clear hb hp)
      have HPI5 := Lib.hid (HPI.out w5 HB5.out)
      clear HDE4 HPI
      go_upto_region 8 with (go_at_call 24; refine HPI5.out.mono ?_; rintro e w6 ⟨hb, vu, vv, okp, rfl, hp⟩; rw [H0.out]; have HB56 := Lib.hid hb; have HB6 := Lib.hid (below_next HB5.out hb); have HPP := Lib.hid hp; clear hb hp)
      clear HPI5
      have HB46 := Lib.hid (below_next HB45.out HB56.out)
      rcases two_of H0.out HBP.out HDP.out HPP.out with ⟨rfl, rfl, rfl, rfl, hbp, U, V, hu, hv, hf, hs⟩ | ⟨rfl, rfl, rfl, rfl, rfl, hcw, l, hl, hsl, hcr⟩
      · obtain ⟨p, hp1, hp2, hp3⟩ := hbp
        have HP := Lib.hid (And.intro hp1 (And.intro hp2 hp3))
        have HUV := Lib.hid (And.intro hu (And.intro hv (And.intro hf hs)))
        have HC6 := Lib.hid (HCO.out w6 HB6.out)
        obtain ⟨cr, hcr⟩ : ∃ x, x = costR C T := ⟨_, rfl⟩
        rw [← hcr] at HC6
        have HX : Hid ((cr.2 = 0 ∧ cb ≤ cr.1) ∨ (cr.2 = 140 ∧ cr.1 = 0)) := Lib.hid (by
          rw [hcr]
          unfold costR
          rw [if_pos H0.out]
          by_cases hA : AsgL C C.length (colsN C) T
          · rw [if_pos hA]
            exact .inl ⟨rfl, hp3.all _ hA.asg⟩
          · rw [if_neg hA]; exact .inr ⟨rfl, rfl⟩)
        obtain ⟨cn, ce⟩ := cr
        simp only at HC6 HX
        have hcl : costR C (ofN p) = (cb, 0) := costR_lx H0.out hp2 hp3
        have hpl : prvR C U V = (cb, true, 0) := by
          unfold prvR
          rw [if_pos H0.out, if_pos hf, hs]
        have HI : Hid (∀ x, x ∈ ofN p → I64 x) := Lib.hid (fun x hx => by
          obtain ⟨y, hy, rfl⟩ := List.mem_map.1 hx
          obtain ⟨k, hk, rfl⟩ := List.getElem_of_mem hy
          have h1 := hp3.bst.1.inj.1 k (by omega)
          have h2 := (chk_ok H0.out).m16
          unfold gN at h1
          rw [List.getD_eq_getElem?_getD, List.getElem?_eq_getElem hk, Option.getD_some] at h1
          exact ⟨by omega, by omega⟩)
        have HCB7 : Hid (∀ W, Below w4.heap.size w4 W → Below w.heap.size w W → Calls Try.prog 13 #[.slice a n c, vb] W fun e w' => e = .returned (.tuple #[.int .i64 cb, .int .i64 0]) ∧ Below W.heap.size W w') := Lib.hid (fun W hW hw => by
          have h := HCB.out (ofN p) vb W ((HP.out.1.keep hW).rest HI.out) hw
          rw [hcl] at h
          exact h)
        have HPR7 : Hid (∀ W, Below w6.heap.size w6 W → Below w.heap.size w W → Calls Try.prog 20 #[.slice a n c, vu, vv] W fun e w' => e = .returned (.tuple #[.int .i64 cb, .bool true, .int .i64 0]) ∧ Below W.heap.size W w') := Lib.hid (fun W hW hw => by
          have h := HPR.out U V vu vv W (HUV.out.1.keep hW) (HUV.out.2.1.keep hW) hw
          rw [hpl] at h
          exact h)
        clear hp1 hp2 hp3 hu hv hf hs hcr hcl hpl HBP HDP HPP HPR HCO HCB HCR
        go_upto_region 11 with (go_at_call 13; refine HC6.out.mono ?_; rintro e w7 ⟨rfl, hb⟩; have HB67 := Lib.hid hb; clear hb)
        have HC7 := Lib.hid (HCB7.out w7 (below_next HB46.out HB67.out) (below_next HB6.out HB67.out))
        rcases HX.out with ⟨rfl, hle⟩ | ⟨rfl, rfl⟩
        · have g1 : decide (cb ≤ cn) = true := decide_eq_true hle
          go_wp2_with (first
            | (go_at_call 13; refine HC7.out.mono ?_; rintro e w8 ⟨rfl, hb⟩; have HB78 := Lib.hid hb; clear hb)
            | (go_at_call 20; refine (HPR7.out w8 (below_next HB67.out HB78.out) (below_next (below_next HB6.out HB67.out) HB78.out)).mono ?_; rintro e w9 ⟨rfl, hb⟩; have HB89 := Lib.hid hb; clear hb))
          refine bodyPost_ret (results_tmp rfl _ _ _) rfl ?_
          exact ⟨by simp, below_next (below_next (below_next HB6.out HB67.out) HB78.out) HB89.out⟩
        · go_wp2_with (first
            | (go_at_call 13; refine HC7.out.mono ?_; rintro e w8 ⟨rfl, hb⟩; have HB78 := Lib.hid hb; clear hb)
            | (go_at_call 20; refine (HPR7.out w8 (below_next HB67.out HB78.out) (below_next (below_next HB6.out HB67.out) HB78.out)).mono ?_; rintro e w9 ⟨rfl, hb⟩; have HB89 := Lib.hid hb; clear hb))
          refine bodyPost_ret (results_tmp rfl _ _ _) rfl ?_
          exact ⟨by simp, below_next (below_next (below_next HB6.out HB67.out) HB78.out) HB89.out⟩
      · obtain ⟨R, S, hcw⟩ := hcw
        have hAT : ¬ AsgL C C.length (colsN C) T := fun h => hcw.none _ h.asg
        have hct : costR C T = (0, 140) := by
          unfold costR
          rw [if_pos H0.out, if_neg hAT]
        have HC6 := Lib.hid (HCO.out w6 HB6.out)
        rw [hct] at HC6
        have HL := Lib.hid (And.intro hl (And.intro hsl hcr))
        have HI : Hid (∀ x, x ∈ ofN l → I64 x) := Lib.hid (ofN_i64 (chk_ok H0.out).n16 hsl)
        have HCR7 : Hid (∀ W, Below w5.heap.size w5 W → Below w.heap.size w W → Calls Try.prog 27 #[.slice a n c, vd] W fun e w' => e = .returned (.bool true) ∧ Below W.heap.size W w') := Lib.hid (fun W hW hw => HCR.out l vd W H0.out (by rw [HN.out]; exact HL.out.2.1) HL.out.2.2 ((HL.out.1.keep hW).rest HI.out) hw)
        clear hcw hAT hct hl hsl hcr HBP HDP HPP HPR HCO HCB HCR
        go_upto_region 11 with (go_at_call 13; refine HC6.out.mono ?_; rintro e w7 ⟨rfl, hb⟩; have HB67 := Lib.hid hb; clear hb)
        go_wp2_with (go_at_call 27; refine (HCR7.out w7 (below_next HB56.out HB67.out) (below_next HB6.out HB67.out)).mono ?_; rintro e w8 ⟨rfl, hb⟩; have HB78 := Lib.hid hb; clear hb)
        refine bodyPost_ret (results_tmp rfl _ _ _) rfl ?_
        exact ⟨by simp, below_next (below_next HB6.out HB67.out) HB78.out⟩
  · rw [decide_eq_false h0] at HR2
    clear h0
    go_wp2_with (go_at_call 26; refine HR2.out.mono ?_; rintro e w3 ⟨rfl, hb⟩; have HB3 := Lib.hid (below_next HB2.out hb); clear hb)
    go_ret
    exact ⟨rfl, HB3.out⟩
end Go.Proofs.Ythkmbbgcadfilaa
