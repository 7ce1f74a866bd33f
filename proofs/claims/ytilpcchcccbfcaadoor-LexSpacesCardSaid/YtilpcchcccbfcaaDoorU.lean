/- Tokens compared: the reference's functions. -/
import Derived.Test.YtilpcchcccbfcaaDoorS
namespace Go.Proofs.YtilpcchcccbfcaaDoor
open Go.RowKit

/-- the four cells of an element that is read -/
theorem tok_cells4 {B : Nat} {w : World} {ts : List Tok} {a : Option Addr} {n cap : Nat} (h : TRest B w ts (.slice a n cap)) {k : Nat} {t : Tok} (ht : ts[k]? = some t) :
    ∃ b off, a = some ⟨b, off, none⟩ ∧ b < B ∧ ∀ W, Below B w W → W.cell? ⟨b, off + k * 4, none⟩ = some (.int .i64 t.kind) ∧ W.cell? ⟨b, off + k * 4 + 1, none⟩ = some (.string ⟨t.text.toArray⟩) ∧ W.cell? ⟨b, off + k * 4 + 2, none⟩ = some (.int .i64 t.n) ∧ W.cell? ⟨b, off + k * 4 + 3, none⟩ = some (.int .i64 t.at') := by
  obtain ⟨b, off, h1, h2, h3⟩ := tok_cells h ht
  exact ⟨b, off, h1, h2, fun W hW => ⟨h3 W hW 0 _ rfl, h3 W hW 1 _ rfl, h3 W hW 2 _ rfl, h3 W hW 3 _ rfl⟩⟩

def SmHead (xs cs : List Tok) (W : World) (s5 : Value) (wr : World) : Prop := ∃ k : Nat, k ≤ xs.length ∧ s5 = .int .i64 (k : Int) ∧ sameL xs cs = sameL (xs.drop k) (cs.drop k) ∧ Below W.heap.size W wr

set_option maxHeartbeats 4000000 in
set_option maxRecDepth 100000 in
theorem refsame_call (xs cs : List Tok) (u v : Value) (w : World) (hu : TRest w.heap.size w xs u) (hv : TRest w.heap.size w cs v) :
    Calls Tryd.prog 19 #[u, v] w fun e w' => e = .returned (.bool (sameL xs cs)) ∧ Below w.heap.size w w' := by
  have HU := Lib.hid hu
  have HV := Lib.hid hv
  obtain ⟨ua, uc, rfl, hul, hul2⟩ := trest_shape hu
  obtain ⟨va, vc, rfl, hvl, hvl2⟩ := trest_shape hv
  clear hu hv
  by_cases hne : xs.length = cs.length
  · obtain ⟨m, hm⟩ : ∃ m, m = xs.length := ⟨_, rfl⟩
    rw [← hne, ← hm] at HV hvl2 ⊢
    rw [← hm] at HU hul2
    have HM := Lib.hid hm
    have HN := Lib.hid hne
    clear hm hne
    go_enter Tryd.func19, Tryd.ntmps19
    go_wp2_with fail
    go_loopw [5] (fun s5 wr => SmHead xs cs w s5 wr) (fun s5 _ => m - (intOf s5).toNat)
    case atStart => exact ⟨0, Nat.zero_le _, by go_num, rfl, Below.refl _ _⟩
    case round =>
      obtain ⟨k, hk, rfl, hsame, hbr⟩ := hrel
      rw [← HM.out] at hk
      have HS := Lib.hid hsame
      have HB := Lib.hid hbr
      clear hsame hbr
      rcases Nat.lt_or_ge k m with hlt | hge
      · obtain ⟨t, ht⟩ : ∃ t, xs[k]? = some t := ⟨_, List.getElem?_eq_getElem (by rw [← HM.out]; exact hlt)⟩
        obtain ⟨t2, ht2⟩ : ∃ t, cs[k]? = some t := ⟨_, List.getElem?_eq_getElem (by rw [← HN.out, ← HM.out]; exact hlt)⟩
        obtain ⟨b, off, rfl, hbl, hc1⟩ := tok_cells4 HU.out ht
        obtain ⟨b2, off2, rfl, hbl2, hc2⟩ := tok_cells4 HV.out ht2
        obtain ⟨a0, a1, a2, a3⟩ := hc1 wr HB.out
        obtain ⟨e0, e1, e2, e3⟩ := hc2 wr HB.out
        have HST := Lib.hid (sameL_step ht ht2)
        have hkm : (k : Int) < (m : Int) := by omega
        have hk0 : (0 : Int) ≤ (k : Int) := by omega
        clear hc1 hc2 ht ht2
        by_cases h1 : t.kind = t2.kind
        · have d1 : (t.kind != t2.kind) = false := by simp [h1]
          by_cases h2 : t.text = t2.text
          · by_cases h3 : t.n = t2.n
            · have ha : alikeT t t2 = true := by simp [alikeT, h1, h2, h3]
              go_wp2_with fail
              go_quiet (fail)
              go_wp2_with fail
              exact ⟨⟨k + 1, by rw [← HM.out]; omega, by go_num, by rw [HS.out, HST.out, ha]; rfl, below_drewN HB.out _⟩, by simp [intOf]; omega⟩
            · have ha : alikeT t t2 = false := by simp [alikeT, h3]
              have d3 : (t.n != t2.n) = true := by simp [h3]
              go_wp2_with fail
              go_quiet (fail)
              go_wp2_with fail
              go_ret
              exact ⟨ret_bool (by rw [HS.out, HST.out, ha]; rfl), below_drewN HB.out _⟩
          · have ha : alikeT t t2 = false := by simp [alikeT, h2]
            go_wp2_with fail
            go_quiet (fail)
            go_wp2_with fail
            go_ret
            exact ⟨ret_bool (by rw [HS.out, HST.out, ha]; rfl), below_drewN HB.out _⟩
        · have ha : alikeT t t2 = false := by simp [alikeT, h1]
          have d1 : (t.kind != t2.kind) = true := by simp [h1]
          go_wp2_with fail
          go_quiet (fail)
          go_wp2_with fail
          go_ret
          exact ⟨ret_bool (by rw [HS.out, HST.out, ha]; rfl), below_drewN HB.out _⟩
      · obtain rfl : k = m := by omega
        go_wp2_with fail
        go_ret
        refine ⟨ret_bool ?_, HB.out⟩
        rw [HS.out, HM.out, List.drop_length, HN.out, List.drop_length]; rfl
  · rw [sameL_ne hne]
    have hne2 : ¬ ((xs.length : Int) = (cs.length : Int)) := by omega
    generalize xs.length = m1 at hne2
    generalize cs.length = m2 at hne2
    clear hne
    go_enter Tryd.func19, Tryd.ntmps19
    go_wp2_with fail
    go_ret
    exact ⟨rfl, Below.refl _ _⟩
end Go.Proofs.YtilpcchcccbfcaaDoor
