/- Lists of tokens compared, places included: the reference's function. -/
import Derived.Test.YtilpcchcccbfcaaDoorU
namespace Go.Proofs.YtilpcchcccbfcaaDoor
open Go.RowKit

def atsL : List Tok → List Tok → Bool
  | a :: l, b :: m => decide (a.at' = b.at') && atsL l m
  | _, _ => true
theorem atsL_step {xs cs : List Tok} {k : Nat} {a b : Tok} (ha : xs[k]? = some a) (hb : cs[k]? = some b) : atsL (xs.drop k) (cs.drop k) = (decide (a.at' = b.at') && atsL (xs.drop (k + 1)) (cs.drop (k + 1))) := by
  obtain ⟨h1, h2⟩ := List.getElem?_eq_some_iff.1 ha
  obtain ⟨h3, h4⟩ := List.getElem?_eq_some_iff.1 hb
  rw [List.drop_eq_getElem_cons h1, List.drop_eq_getElem_cons h3, h2, h4, atsL]
theorem eqL : ∀ (xs cs : List Tok), (sameL xs cs && atsL xs cs) = decide (xs = cs)
  | [], [] => by simp [sameL, atsL]
  | [], b :: m => by simp [sameL]
  | a :: l, [] => by simp [sameL]
  | a :: l, b :: m => by
    have ih := eqL l m
    rw [Bool.eq_iff_iff] at ih ⊢
    simp only [sameL, atsL, alikeT, Bool.and_eq_true, decide_eq_true_eq, List.cons.injEq] at ih ⊢
    rw [← ih]
    obtain ⟨k1, t1, n1, a1⟩ := a
    obtain ⟨k2, t2, n2, a2⟩ := b
    simp only [Tok.mk.injEq]
    constructor
    · rintro ⟨⟨⟨⟨h1, h2⟩, h3⟩, h4⟩, h5, h6⟩; exact ⟨⟨h1, h2, h3, h5⟩, h4, h6⟩
    · rintro ⟨⟨h1, h2, h3, h5⟩, h4, h6⟩; exact ⟨⟨⟨⟨h1, h2⟩, h3⟩, h4⟩, h5, h6⟩

def AtHead (xs cs : List Tok) (W : World) (s5 : Value) (wr : World) : Prop := ∃ k : Nat, k ≤ xs.length ∧ s5 = .int .i64 (k : Int) ∧ atsL xs cs = atsL (xs.drop k) (cs.drop k) ∧ Below W.heap.size W wr

set_option maxHeartbeats 4000000 in
set_option maxRecDepth 100000 in
theorem equal_call (xs cs : List Tok) (u v : Value) (w : World) (hu : TRest w.heap.size w xs u) (hv : TRest w.heap.size w cs v) :
    Calls Tryd.prog 14 #[u, v] w fun e w' => e = .returned (.bool (decide (xs = cs))) ∧ Below w.heap.size w w' := by
  have HU := Lib.hid hu
  have HV := Lib.hid hv
  have HEQ := Lib.hid (eqL xs cs)
  have hsame := refsame_call xs cs u v w hu hv
  obtain ⟨ua, uc, rfl, hul, hul2⟩ := trest_shape hu
  obtain ⟨va, vc, rfl, hvl, hvl2⟩ := trest_shape hv
  clear hu hv
  cases hs : sameL xs cs with
  | false =>
    rw [hs] at hsame
    have HSM := Lib.hid hsame
    have hd : decide (xs = cs) = false := by rw [← HEQ.out, hs]; rfl
    rw [hd]
    clear hsame hs hd HEQ
    generalize xs.length = m1 at *
    generalize cs.length = m2 at *
    go_enter Tryd.func14, Tryd.ntmps14
    go_wp2_with (go_at_call 19; refine HSM.out.mono ?_; rintro e w2 ⟨rfl, hb⟩)
    go_ret
    exact ⟨rfl, hb⟩
  | true =>
    rw [hs] at hsame
    have HSM := Lib.hid hsame
    have hd : decide (xs = cs) = atsL xs cs := by rw [← HEQ.out, hs]; rfl
    rw [hd]
    have hne := sameL_len hs
    obtain ⟨m, hm⟩ : ∃ m, m = xs.length := ⟨_, rfl⟩
    rw [← hne, ← hm] at HV hvl2 HSM ⊢
    rw [← hm] at HU hul2
    have HM := Lib.hid hm
    have HN := Lib.hid hne
    clear hsame hs hd HEQ hm hne
    go_enter Tryd.func14, Tryd.ntmps14
    go_wp2_with (go_at_call 19; refine HSM.out.mono ?_; rintro e w2 ⟨rfl, hb⟩; have HB2 := Lib.hid hb; clear hb)
    go_loopw [5] (fun s5 wr => AtHead xs cs w s5 wr) (fun s5 _ => m - (intOf s5).toNat)
    case atStart => exact ⟨0, Nat.zero_le _, by go_num, rfl, HB2.out⟩
    case round =>
      obtain ⟨k, hk, rfl, hsame, hbr⟩ := hrel
      rw [← HM.out] at hk
      have HS := Lib.hid hsame
      have HB := Lib.hid hbr
      clear hsame hbr
      rcases Nat.lt_or_ge k m with hlt | hge
      · obtain ⟨t, ht⟩ : ∃ t, xs[k]? = some t := ⟨_, List.getElem?_eq_getElem (by rw [← HM.out]; exact hlt)⟩
        obtain ⟨t2, ht2⟩ : ∃ t, cs[k]? = some t := ⟨_, List.getElem?_eq_getElem (by rw [← HN.out, ← HM.out]; exact hlt)⟩
        obtain ⟨b, off, rfl, hbl, hc1⟩ := tok_cells4 HU.out ht
        obtain ⟨b2, off2, rfl, hbl2, hc2⟩ := tok_cells4 HV.out ht2
        obtain ⟨a0, a1, a2, a3⟩ := hc1 wr HB.out
        obtain ⟨e0, e1, e2, e3⟩ := hc2 wr HB.out
        have HST := Lib.hid (atsL_step ht ht2)
        have hkm : (k : Int) < (m : Int) := by omega
        have hk0 : (0 : Int) ≤ (k : Int) := by omega
        clear hc1 hc2 ht ht2
        by_cases h1 : t.at' = t2.at'
        · go_wp2_with fail
          go_quiet (fail)
          go_wp2_with fail
          exact ⟨⟨k + 1, by rw [← HM.out]; omega, by go_num, by rw [HS.out, HST.out, decide_eq_true h1]; rfl, below_drewN HB.out _⟩, by simp [intOf]; omega⟩
        · have d1 : (t.at' != t2.at') = true := by simp [h1]
          go_wp2_with fail
          go_quiet (fail)
          go_wp2_with fail
          go_ret
          exact ⟨ret_bool (by rw [HS.out, HST.out, decide_eq_false h1]; rfl), below_drewN HB.out _⟩
      · obtain rfl : k = m := by omega
        go_wp2_with fail
        go_ret
        refine ⟨ret_bool ?_, HB.out⟩
        rw [HS.out, HM.out, List.drop_length, HN.out, List.drop_length]; rfl
end Go.Proofs.YtilpcchcccbfcaaDoor
