/- The reference's Few, Check, Same; right. -/
import Derived.Test.YthkmbbgcadfilaaPh
namespace Go.Proofs.Ythkmbbgcadfilaa
open Go.RowKit Go.Shelf

def fewB (C : List (List Int)) : Bool := decide (C.length ≤ 20) && C.all (fun r => decide (r.length ≤ 20))
set_option maxRecDepth 100000 in
set_option maxHeartbeats 4000000 in
theorem few_call (C : List (List Int)) (vc : Value) (w : World) (hC : NRest w.heap.size w C vc) :
    Calls Try.prog 12 #[vc] w fun e w' => e = .returned (.bool (fewB C)) ∧ w' = w := by
  obtain ⟨a, c, rfl⟩ := nrest_shape hC
  obtain ⟨-, hac, ham, hat⟩ := rows_at hC
  obtain ⟨n, hn⟩ : ∃ n, n = C.length := ⟨_, rfl⟩
  rw [← hn] at hac hat ⊢
  have HAT := Lib.hid hat
  have HN := Lib.hid hn
  clear hat hn hC
  go_enter Try.func12, Try.ntmps12
  by_cases hb : 20 < n
  · have hbi : (20 : Int) < (n : Int) := by omega
    have HV : Hid (fewB C = false) := Lib.hid (by unfold fewB; rw [decide_eq_false (by have := HN.out; omega)]; rfl)
    go_wp2_with fail
    go_ret
    exact ⟨by rw [HV.out]; rfl, rfl⟩
  · have hbi : (n : Int) ≤ 20 := by omega
    have HB := Lib.hid hb
    clear hb
    go_upto_region 4 with (fail)
    go_loopw [3] (fun s3 wr => ∃ (k : Nat), k ≤ n ∧ s3 = .int .i64 (k : Int) ∧ wr = w ∧ ∀ i, i < k → decide ((C.getD i []).length ≤ 20) = true) (fun s3 _ => n - (intOf s3).toNat)
    case atStart => exact ⟨0, by omega, rfl, rfl, fun i hi => by omega⟩
    case round =>
      obtain ⟨k, hk, rfl, rfl, hall⟩ := hrel
      have HALL := Lib.hid hall
      have HK := Lib.hid hk
      clear hall hk
      by_cases hlt : k < n
      · have hki : (k : Int) < (n : Int) := by omega
        have HLT := Lib.hid hlt
        have HWK := Lib.hid (wrap_succ hlt (show n ≤ maxLen by unfold maxLen; omega))
        obtain ⟨b, off, ra, rc, q1, hb, f1, -⟩ := HAT.out k (by have := HN.out; omega)
        subst q1
        obtain ⟨m, hm⟩ : ∃ m, m = (C.getD k []).length := ⟨_, rfl⟩
        rw [← hm] at f1
        have HM := Lib.hid hm
        clear hlt hm hb
        by_cases hg : 20 < m
        · have hgi : (20 : Int) < (m : Int) := by omega
          have HV : Hid (fewB C = false) := Lib.hid (by
            unfold fewB
            rw [all_at (k := k) (d := []) (by have := HN.out; have := HLT.out; omega) (decide_eq_false (by rw [← HM.out]; omega))]
            simp)
          go_wp2_with fail
          go_ret
          exact ⟨by rw [HV.out]; rfl, rfl⟩
        · have hgi : (m : Int) ≤ 20 := by omega
          have HG := Lib.hid hg
          clear hg
          go_wp2_with fail
          refine ⟨⟨k + 1, by have := HLT.out; omega, by first | rw [HWK.out, Int.natCast_succ] | go_num, by first | rfl | trivial, fun i hi => ?_⟩, by have := HLT.out; first | exact back_less this HWK.out | (simp [intOf]; omega)⟩
          rcases Nat.lt_or_ge i k with h9 | h9
          · exact HALL.out i h9
          · obtain rfl : i = k := by omega
            exact decide_eq_true (by rw [← HM.out]; have := HG.out; omega)
      · obtain rfl : k = n := by have := HK.out; omega
        have HV : Hid (fewB C = true) := Lib.hid (by
          unfold fewB
          rw [decide_eq_true (by have := HN.out; have := HB.out; omega), all_upto (d := []) (by have := HN.out; omega) HALL.out]; rfl)
        go_wp2_with fail
        go_ret
        exact ⟨by rw [HV.out]; rfl, rfl⟩
set_option maxRecDepth 100000 in
set_option maxHeartbeats 4000000 in
theorem same_call (X Y : List Int) (vx vy : Value) (w : World) (hX : IRest w.heap.size w X vx) (hY : IRest w.heap.size w Y vy) :
    Calls Try.prog 19 #[vx, vy] w fun e w' => e = .returned (.bool (decide (X = Y))) ∧ Below w.heap.size w w' := by
  obtain ⟨ax, cx, rfl⟩ := irest_shape hX
  obtain ⟨ay, cy, rfl⟩ := irest_shape hY
  obtain ⟨-, hxc, hxm, hxt⟩ := ints_at hX
  obtain ⟨-, hyc, hym, hyt⟩ := ints_at hY
  obtain ⟨n, hn⟩ : ∃ n, n = X.length := ⟨_, rfl⟩
  obtain ⟨m, hm⟩ : ∃ n, n = Y.length := ⟨_, rfl⟩
  rw [← hn] at hxc hxt ⊢
  rw [← hm] at hyc hyt ⊢
  have HXT := Lib.hid hxt
  have HYT := Lib.hid hyt
  have HN := Lib.hid (And.intro hn hm)
  have HNM : Hid (n ≤ maxLen) := Lib.hid (by omega)
  clear hxt hyt hX hY hn hm
  go_enter Try.func19, Try.ntmps19
  by_cases h1 : n = m
  · subst h1
    have g1 : ((n : Int) != (n : Int)) = false := by simp
    go_upto_region 4 with (fail)
    go_loopw [5] (fun s5 wr => ∃ (k : Nat), k ≤ n ∧ s5 = .int .i64 (k : Int) ∧ Below w.heap.size w wr ∧ ∀ i, i < k → X.getD i 0 = Y.getD i 0) (fun s5 _ => n - (intOf s5).toNat)
    case atStart => exact ⟨0, by omega, rfl, Below.refl _ _, fun i hi => by omega⟩
    case round =>
      obtain ⟨k, hk, rfl, hb, hall⟩ := hrel
      have HALL := Lib.hid hall
      have HK := Lib.hid hk
      have HB := Lib.hid hb
      clear hall hk hb
      by_cases hlt : k < n
      · have hki : (k : Int) < (n : Int) := by omega
        have HLT := Lib.hid hlt
        have HWK := Lib.hid (wrap_succ hlt HNM.out)
        obtain ⟨-, bx, ox, q1, hbx, f1⟩ := HXT.out k (by have := HN.out; omega)
        obtain ⟨-, by', oy, q2, hby, f2⟩ := HYT.out k (by have := HN.out; omega)
        subst q1 q2
        obtain ⟨x, hx⟩ : ∃ x, x = X.getD k 0 := ⟨_, rfl⟩
        obtain ⟨y, hy⟩ : ∃ x, x = Y.getD k 0 := ⟨_, rfl⟩
        rw [← hx] at f1
        rw [← hy] at f2
        have d1 := (HB.out.cell (p := ⟨bx, ox + k, none⟩) hbx).trans f1
        have d2 := (HB.out.cell (p := ⟨by', oy + k, none⟩) hby).trans f2
        have HXY := Lib.hid (And.intro hx hy)
        clear hlt hx hy hbx hby f1 f2
        go_upto_region 6 with (fail)
        by_cases e : x = y
        · have g2 : (x != y) = false := by simp [e]
          have HE := Lib.hid e
          clear e
          go_quiet (fail)
          go_wp2_with fail
          refine ⟨⟨k + 1, by have := HLT.out; omega, by first | rw [HWK.out, Int.natCast_succ] | go_num, below_drewN HB.out _, fun i hi => ?_⟩, by have := HLT.out; first | exact back_less this HWK.out | (simp [intOf]; omega)⟩
          rcases Nat.lt_or_ge i k with h9 | h9
          · exact HALL.out i h9
          · obtain rfl : i = k := by omega
            rw [← HXY.out.1, ← HXY.out.2]; exact HE.out
        · have g2 : (x != y) = true := by simp [e]
          have HV : Hid (decide (X = Y) = false) := Lib.hid (decide_eq_false (fun h => e (by rw [HXY.out.1, HXY.out.2, h])))
          clear e
          go_quiet (fail)
          go_wp2_with fail
          go_ret
          exact ⟨by rw [HV.out]; rfl, below_drewN HB.out _⟩
      · obtain rfl : k = n := by have := HK.out; omega
        have HV : Hid (decide (X = Y) = true) := Lib.hid (decide_eq_true (by
          refine List.ext_getElem (by have := HN.out; omega) fun i h3 h4 => ?_
          have := HALL.out i (by have := HN.out; omega)
          simpa [h3, h4] using this))
        go_wp2_with fail
        go_ret
        exact ⟨by rw [HV.out]; rfl, HB.out⟩
  · have g1 : ((n : Int) != (m : Int)) = true := by simp; omega
    have HV : Hid (decide (X = Y) = false) := Lib.hid (decide_eq_false (fun h => h1 (by rw [HN.out.1, HN.out.2, h])))
    clear h1
    go_wp2_with fail
    go_ret
    exact ⟨by rw [HV.out]; rfl, Below.refl _ _⟩
end Go.Proofs.Ythkmbbgcadfilaa
