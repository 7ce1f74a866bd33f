/- The specification's Has, in and ends. -/
import Derived.Test.YtiicjmbnkjociaaDoorZc
import Derived.Test.YtiicjmbnkjociaaDoorW
namespace Go.Proofs.YtiicjmbnkjociaaDoor
open Go.RowKit

set_option maxHeartbeats 2000000 in
set_option maxRecDepth 100000 in
theorem rhas_call (l : List Sp) (v : Value) (d : Int) (B : Nat) (w : World) (h : PRest B w l v) (hB : B ≤ w.heap.size) :
    Calls Tryd.prog 56 #[v, .int .i64 d] w fun e w' => e = .returned (.bool (hasB l d)) ∧ Below w.heap.size w w' := by
  obtain ⟨a, cap, rfl, -⟩ := id h
  obtain ⟨-, hl, hm, hc⟩ := spans_at h
  have HC := Lib.hid hc
  have HT : Hid (∀ j, j < l.length → ((l.getD j (0, 0)).1 ≤ d ∧ d ≤ (l.getD j (0, 0)).2) → hasB l d = true) := Lib.hid (fun j hj hk => hasB_t hj hk)
  have HF : Hid ((∀ j, j < l.length → ¬ ((l.getD j (0, 0)).1 ≤ d ∧ d ≤ (l.getD j (0, 0)).2)) → hasB l d = false) := Lib.hid hasB_f
  unfold maxLen at hm
  obtain ⟨n, hn2⟩ : ∃ n, n = l.length := ⟨_, rfl⟩
  rw [← hn2] at hl HC HT HF ⊢
  generalize hasB l d = r at *
  clear h hc hn2
  go_enter Tryd.func56, Tryd.ntmps56
  go_wp2_with fail
  go_loopw [5] (fun s9 wr => ∃ k : Nat, (k ≤ n ∧ ∀ j, j < k → ¬ ((l.getD j (0, 0)).1 ≤ d ∧ d ≤ (l.getD j (0, 0)).2)) ∧ s9 = .int .i64 (k : Int) ∧ Below w.heap.size w wr) (fun s9 _ => n - (intOf s9).toNat)
  case atStart => exact ⟨0, ⟨by omega, fun j hj => by omega⟩, rfl, Below.refl _ _⟩
  case round =>
    obtain ⟨k, hk, rfl, hb⟩ := hrel
    have HK := Lib.hid hk
    have HB := Lib.hid hb
    rcases Nat.lt_or_ge k n with hlt | hge
    · obtain ⟨-, b, off, rfl, hbB, hc1, hc2⟩ := HC.out k hlt
      have hd1 := (hb.cell (p := ⟨b, off + k * 2, none⟩) (by show b < w.heap.size; omega)).trans hc1
      have hd2 := (hb.cell (p := ⟨b, off + k * 2 + 1, none⟩) (by show b < w.heap.size; omega)).trans hc2
      have HTK := Lib.hid (HT.out k hlt)
      have HNK : Hid (¬ ((l.getD k (0, 0)).1 ≤ d ∧ d ≤ (l.getD k (0, 0)).2) → ∀ j, j < k + 1 → ¬ ((l.getD j (0, 0)).1 ≤ d ∧ d ≤ (l.getD j (0, 0)).2)) := Lib.hid (fun h j hj => by
        rcases Nat.lt_or_ge j k with h1 | h1
        · exact HK.out.2 j h1
        · obtain rfl : j = k := by omega
          exact h)
      generalize (l.getD k (0, 0)).1 = x1 at *
      generalize (l.getD k (0, 0)).2 = x2 at *
      have hki : (k : Int) < (n : Int) := by omega
      have hwk : IntKind.i64.wrap ((k : Int) + 1) = ((k + 1 : Nat) : Int) := by rw [IntKind.wrap_i64]; omega
      have HLT := Lib.hid hlt
      clear hb hk hc1 hc2 hbB hlt
      by_cases hg1 : x1 ≤ d
      · have e1 : decide (x1 ≤ d) = true := by simpa using hg1
        by_cases hg2 : d ≤ x2
        · have e2 : decide (d ≤ x2) = true := by simpa using hg2
          have HRT : Hid (r = true) := Lib.hid (HTK.out ⟨hg1, hg2⟩)
          clear hg1 hg2
          go_wp2_with fail
          go_ret
          exact ⟨ret_bool HRT.out.symm, HB.out⟩
        · have e2 : decide (d ≤ x2) = false := by simpa using hg2
          have HNX := Lib.hid (HNK.out (fun h => hg2 h.2))
          clear hg1 hg2
          go_wp2_with fail
          exact ⟨⟨k + 1, ⟨by have := HLT.out; omega, HNX.out⟩, by first | rfl | trivial, HB.out⟩, by have := HLT.out; simp [intOf]; omega⟩
      · have e1 : decide (x1 ≤ d) = false := by simpa using hg1
        have HNX := Lib.hid (HNK.out (fun h => hg1 h.1))
        clear hg1
        go_wp2_with fail
        exact ⟨⟨k + 1, ⟨by have := HLT.out; omega, HNX.out⟩, by first | rfl | trivial, HB.out⟩, by have := HLT.out; simp [intOf]; omega⟩
    · obtain rfl : k = n := by omega
      have HRF : Hid (r = false) := Lib.hid (HF.out hk.2)
      clear hk hb
      go_wp2_with fail
      go_ret
      exact ⟨ret_bool HRF.out.symm, HB.out⟩
set_option maxHeartbeats 2000000 in
set_option maxRecDepth 100000 in
theorem in_or (la lb : List Sp) (va vb : Value) (d : Int) (B : Nat) (w : World) (ha : PRest B w la va) (hb : PRest B w lb vb) (hB : B ≤ w.heap.size) :
    Calls Tryd.prog 51 #[va, vb, .int .i64 1, .int .i64 d] w fun e w' => e = .returned (.bool (comb (fun p q => p || q) la lb d)) ∧ Below w.heap.size w w' := by
  have HCA := Lib.hid (fun W (hW : Below w.heap.size w W) => rhas_call la va d B W (ha.stays (hW.mono hB)) (by have := hW.size; omega))
  have HCB := Lib.hid (fun W (hW : Below w.heap.size w W) => rhas_call lb vb d B W (hb.stays (hW.mono hB)) (by have := hW.size; omega))
  unfold comb
  generalize hasB la d = p at *
  generalize hasB lb d = q at *
  clear ha hb
  cases p <;> cases q
  all_goals go_enter Tryd.func51, Tryd.ntmps51
  all_goals go_wp2_with (go_at_call 56; first | (with_reducible refine (HCA.out _ (Below.refl _ _)).mono ?_; rintro e w1 ⟨rfl, hb1⟩; have HB1 := Lib.hid hb1; clear hb1) | (with_reducible refine (HCB.out _ HB1.out).mono ?_; rintro e w2 ⟨rfl, hb2⟩; have HB2 := Lib.hid (below_next HB1.out hb2); clear hb2))
  all_goals go_ret
  all_goals exact ⟨rfl, by first | exact HB2.out | exact HB1.out⟩

set_option maxHeartbeats 2000000 in
set_option maxRecDepth 100000 in
theorem in_and (la lb : List Sp) (va vb : Value) (d : Int) (B : Nat) (w : World) (ha : PRest B w la va) (hb : PRest B w lb vb) (hB : B ≤ w.heap.size) :
    Calls Tryd.prog 51 #[va, vb, .int .i64 2, .int .i64 d] w fun e w' => e = .returned (.bool (comb (fun p q => p && q) la lb d)) ∧ Below w.heap.size w w' := by
  have HCA := Lib.hid (fun W (hW : Below w.heap.size w W) => rhas_call la va d B W (ha.stays (hW.mono hB)) (by have := hW.size; omega))
  have HCB := Lib.hid (fun W (hW : Below w.heap.size w W) => rhas_call lb vb d B W (hb.stays (hW.mono hB)) (by have := hW.size; omega))
  unfold comb
  generalize hasB la d = p at *
  generalize hasB lb d = q at *
  clear ha hb
  cases p <;> cases q
  all_goals go_enter Tryd.func51, Tryd.ntmps51
  all_goals go_wp2_with (go_at_call 56; first | (with_reducible refine (HCA.out _ (Below.refl _ _)).mono ?_; rintro e w1 ⟨rfl, hb1⟩; have HB1 := Lib.hid hb1; clear hb1) | (with_reducible refine (HCB.out _ HB1.out).mono ?_; rintro e w2 ⟨rfl, hb2⟩; have HB2 := Lib.hid (below_next HB1.out hb2); clear hb2))
  all_goals go_ret
  all_goals exact ⟨rfl, by first | exact HB2.out | exact HB1.out⟩

set_option maxHeartbeats 2000000 in
set_option maxRecDepth 100000 in
theorem in_no (la lb : List Sp) (va vb : Value) (d : Int) (B : Nat) (w : World) (ha : PRest B w la va) (hb : PRest B w lb vb) (hB : B ≤ w.heap.size) :
    Calls Tryd.prog 51 #[va, vb, .int .i64 3, .int .i64 d] w fun e w' => e = .returned (.bool (comb (fun p q => p && !q) la lb d)) ∧ Below w.heap.size w w' := by
  have HCA := Lib.hid (fun W (hW : Below w.heap.size w W) => rhas_call la va d B W (ha.stays (hW.mono hB)) (by have := hW.size; omega))
  have HCB := Lib.hid (fun W (hW : Below w.heap.size w W) => rhas_call lb vb d B W (hb.stays (hW.mono hB)) (by have := hW.size; omega))
  unfold comb
  generalize hasB la d = p at *
  generalize hasB lb d = q at *
  clear ha hb
  cases p <;> cases q
  all_goals go_enter Tryd.func51, Tryd.ntmps51
  all_goals go_wp2_with (go_at_call 56; first | (with_reducible refine (HCA.out _ (Below.refl _ _)).mono ?_; rintro e w1 ⟨rfl, hb1⟩; have HB1 := Lib.hid hb1; clear hb1) | (with_reducible refine (HCB.out _ HB1.out).mono ?_; rintro e w2 ⟨rfl, hb2⟩; have HB2 := Lib.hid (below_next HB1.out hb2); clear hb2))
  all_goals go_ret
  all_goals exact ⟨rfl, by first | exact HB2.out | exact HB1.out⟩

end Go.Proofs.YtiicjmbnkjociaaDoor
