/- follow, next: the lists of rows. -/
import Derived.Test.YthkmbbgcadfilaaOf
namespace Go.Proofs.Ythkmbbgcadfilaa
open Go.RowKit Go.Shelf

/-- c numbers that follow x -/
def fillI (x : Int) (c : Nat) : List Int := (List.range c).map (fun i : Nat => x + 1 + (i : Int))
theorem fillI_len (x : Int) (c : Nat) : (fillI x c).length = c := by simp [fillI]
/-- what follow has written when j numbers are written -/
def fill1 (L : List Int) (k : Nat) (x : Int) (j : Nat) : List Int := L.take k ++ (fillI x j ++ L.drop (k + j))
theorem fill1_zero (L : List Int) (k : Nat) (x : Int) : fill1 L k x 0 = L := by simp [fill1, fillI]
theorem fill1_len {L : List Int} {k j : Nat} {x : Int} (h : k + j ≤ L.length) : (fill1 L k x j).length = L.length := by
  simp [fill1, fillI]; omega
theorem fill1_all {L : List Int} {k : Nat} {x : Int} (h : k ≤ L.length) : fill1 L k x (L.length - k) = L.take k ++ fillI x (L.length - k) := by
  unfold fill1
  rw [List.drop_of_length_le (by omega), List.append_nil]
theorem fillI_succ (x : Int) (j : Nat) : fillI x (j + 1) = fillI x j ++ [x + 1 + (j : Int)] := by
  unfold fillI
  rw [List.range_succ, List.map_append]; rfl
theorem fill1_next {L : List Int} {k j : Nat} {x : Int} (h : k + j < L.length) : (fill1 L k x j).set (k + j) (x + 1 + (j : Int)) = fill1 L k x (j + 1) := by
  unfold fill1
  have e1 : (L.take k).length = k := by simp; omega
  rw [List.set_append_right _ _ (by omega), e1, List.set_append_right _ _ (by rw [fillI_len]; omega), fillI_len, show k + j - k - j = 0 by omega, fillI_succ]
  have e2 : L.drop (k + j) = L[k + j] :: L.drop (k + j + 1) := (List.drop_eq_getElem_cons h)
  rw [e2]
  simp [List.append_assoc, Nat.add_assoc]
set_option maxRecDepth 100000 in
set_option maxHeartbeats 4000000 in
theorem follow_call (L : List Int) (g k c cap : Nat) (x : Int) (w : World) (hr : Row w g 3 (nums L)) (hk : k + c = L.length) (hc : c ≤ 100) (hx : -1 ≤ x ∧ x ≤ 1000) :
    Calls Try.prog 54 #[.slice (some ⟨g, k, none⟩) c cap, .int .i64 x] w fun e w' => (∃ r, e = .returned r) ∧ Row w' g 3 (nums (L.take k ++ fillI x c)) ∧ Kp2 (fun b => b ≠ g) w w' := by
  have HR := Lib.hid hr
  have HK := Lib.hid hk
  clear hr hk
  go_enter Try.func54, Try.ntmps54
  go_upto_region 1 with (fail)
  go_loopw [7] (fun s7 wr => ∃ (j : Nat), j ≤ c ∧ s7 = .int .i64 (j : Int) ∧ Row wr g 3 (nums (fill1 L k x j)) ∧ Kp2 (fun b => b ≠ g) w wr) (fun s7 _ => c - (intOf s7).toNat)
  case atStart => exact ⟨0, by omega, rfl, by rw [fill1_zero]; exact HR.out, Kp2.refl _ _⟩
  case round =>
    obtain ⟨j, hj, rfl, hr, hkp⟩ := hrel
    have HRW := Lib.hid hr
    have HKP := Lib.hid hkp
    have HJ := Lib.hid hj
    clear hr hkp hj
    by_cases hlt : j < c
    · have hji : (j : Int) < (c : Int) := by omega
      have HLT := Lib.hid hlt
      have HWK := Lib.hid (wrap_succ hlt (show c ≤ maxLen by unfold maxLen; omega))
      have hw1 : wrap64 (x + 1) = x + 1 := by unfold wrap64; omega
      have hw2 : wrap64 (x + 1 + (j : Int)) = x + 1 + (j : Int) := by unfold wrap64; omega
      have d1 := nrow_cell HRW.out (u := k + j) (by rw [fill1_len (by have := HK.out; omega)]; have := HK.out; omega)
      have d2 := HRW.out.free (k + j)
      have HW := Lib.hid (And.intro hw1 hw2)
      clear hlt
      go_wp2_with fail
      refine ⟨⟨j + 1, by have := HLT.out; omega, by first | rw [HWK.out, Int.natCast_succ] | go_num, ?_, HKP.out.trans (kp_cell _ _ _ _)⟩, by have := HLT.out; first | exact back_less this HWK.out | (simp [intOf]; omega)⟩
      have h9 := nrow_set HRW.out (k + j) (x + 1 + (j : Int))
      rw [fill1_next (by have := HK.out; have := HLT.out; omega)] at h9
      exact h9
    · obtain rfl : j = c := by have := HJ.out; omega
      go_wp2_with fail
      go_end0
      refine ⟨⟨_, rfl⟩, ?_, HKP.out⟩
      have h9 := HRW.out
      have e : j = L.length - k := by have := HK.out; omega
      rw [e, fill1_all (by have := HK.out; omega), ← e] at h9
      exact h9
/-- the next list of its length: the last place that can be raised -/
def nextAt (l : List Nat) (k : Nat) : List Nat := l.take k ++ (List.range (l.length - k)).map (fun i => l.getD k 0 + 1 + i)
def nx (n : Nat) (l : List Nat) : Nat → Option (List Nat)
  | 0 => none
  | k + 1 => if l.getD k 0 + l.length < n + k then some (nextAt l k) else nx n l k
def nextL (n : Nat) (l : List Nat) : Option (List Nat) := nx n l l.length
theorem ofN_nextAt {l : List Nat} {k : Nat} : ofN (nextAt l k) = (ofN l).take k ++ fillI ((l.getD k 0 : Nat) : Int) (l.length - k) := by
  unfold nextAt ofN fillI
  rw [List.map_append, List.map_take, List.map_map]
  congr 1
theorem ofN_get (l : List Nat) (k : Nat) : (ofN l).getD k 0 = ((l.getD k 0 : Nat) : Int) := by
  unfold ofN
  rcases Nat.lt_or_ge k l.length with h | h
  · simp [h]
  · rw [List.getD_eq_getElem?_getD, List.getElem?_eq_none (by simpa using h), List.getD_eq_getElem?_getD, List.getElem?_eq_none h]; rfl
set_option maxRecDepth 100000 in
set_option maxHeartbeats 4000000 in
theorem next_call (n s g : Nat) (l : List Nat) (w : World) (hr : Row w g 3 (nums (ofN l))) (hl : l.length = s) (hn : n ≤ 16) (hsn : s ≤ n) (hel : ∀ i, i < s → l.getD i 0 < n) :
    Calls Try.prog 55 #[.slice (some ⟨g, 0, none⟩) s s, .int .i64 (n : Int)] w fun e w' => e = .returned (.bool (nextL n l).isSome) ∧ Row w' g 3 (nums (ofN ((nextL n l).getD l))) ∧ Kp2 (fun b => b ≠ g) w w' := by
  have HR := Lib.hid hr
  have HL := Lib.hid hl
  have HEL := Lib.hid hel
  have hsi : (s : Int) ≤ (n : Int) := by omega
  have hni : (n : Int) ≤ 16 := by omega
  have hwn : wrap64 ((n : Int) - (s : Int)) = (n : Int) - (s : Int) := by unfold wrap64; omega
  have hws : wrap64 ((s : Int) - 1) = (s : Int) - 1 := by unfold wrap64; omega
  have HNX : Hid (nextL n l = nx n l s) := Lib.hid (by unfold nextL; rw [hl])
  clear hr hl hel
  go_enter Try.func55, Try.ntmps55
  go_upto_region 2 with (fail)
  go_loopw [5] (fun s5 wr => ∃ (k : Nat), k ≤ s ∧ s5 = .int .i64 ((k : Int) - 1) ∧ wr = w ∧ nx n l s = nx n l k) (fun s5 _ => (intOf s5 + 1).toNat)
  case atStart => exact ⟨s, Nat.le_refl _, by first | rw [hws] | rfl, rfl, rfl⟩
  case round =>
    obtain ⟨k, hk, rfl, rfl, hnx⟩ := hrel
    have HK := Lib.hid hk
    have HX := Lib.hid hnx
    clear hk hnx
    cases k with
    | zero =>
      have HV : Hid (nextL n l = none) := Lib.hid (by rw [HNX.out, HX.out]; rfl)
      go_wp2_with fail
      go_ret
      exact ⟨by rw [HV.out]; rfl, by rw [HV.out]; exact HR.out, Kp2.refl _ _⟩
    | succ k =>
      have e0 : ((k + 1 : Nat) : Int) - 1 = (k : Int) := by omega
      rw [e0]
      have hks : k < s := HK.out
      have hki : (k : Int) < (s : Int) := by omega
      have hk0 : (0 : Int) ≤ (k : Int) := by omega
      obtain ⟨y, hy⟩ : ∃ y, y = l.getD k 0 := ⟨_, rfl⟩
      have hyn : y < n := by rw [hy]; exact HEL.out k hks
      have d1 := nrow_cell HR.out (u := k) (by rw [ofN_len, HL.out]; exact hks)
      rw [ofN_get, ← hy] at d1
      have hwk : wrap64 ((n : Int) - (s : Int) + (k : Int)) = (n : Int) - (s : Int) + (k : Int) := by unfold wrap64; omega
      have hwd : wrap64 ((k : Int) - 1) = (k : Int) - 1 := by unfold wrap64; omega
      have HY := Lib.hid hy
      clear hy e0
      by_cases hb : y + s < n + k
      · have g1 : decide ((y : Int) < (n : Int) - (s : Int) + (k : Int)) = true := decide_eq_true (by omega)
        have g1' : (y : Int) < (n : Int) - (s : Int) + (k : Int) := by omega
        have HV : Hid (nextL n l = some (nextAt l k)) := Lib.hid (by
          rw [HNX.out, HX.out]
          show (if l.getD k 0 + l.length < n + k then _ else _) = _
          rw [← HY.out, HL.out, if_pos hb])
        have HFW : Hid (∀ W, Row W g 3 (nums (ofN l)) → Calls Try.prog 54 #[.slice (some ⟨g, k, none⟩) (s - k) (s - k), .int .i64 (y : Int)] W fun e w' => (∃ r, e = .returned r) ∧ Row w' g 3 (nums ((ofN l).take k ++ fillI (y : Int) (s - k))) ∧ Kp2 (fun b => b ≠ g) W w') := Lib.hid (fun W h => follow_call (ofN l) g k (s - k) (s - k) (y : Int) W h (by rw [ofN_len, HL.out]; omega) (by omega) (by omega))
        have HNA : Hid ((ofN l).take k ++ fillI (y : Int) (s - k) = ofN ((nextL n l).getD l)) := Lib.hid (by rw [HV.out]; show _ = ofN (nextAt l k); rw [ofN_nextAt, ← HY.out, HL.out])
        clear hb
        have hle : k ≤ s := by omega
        have hcap : ¬ s = k := by omega
        have hsk : (s : Int) - (k : Int) = ((s - k : Nat) : Int) := by omega
        go_upto_region 5 with (fail)
        go_still_tail 7, (by kernel_rfl)
        go_wp2_with (go_at_call 54; refine (HFW.out _ (by first | exact HR.out | exact HR.out.keep (Below.refl _ _).drew)).mono ?_; rintro e w5 ⟨⟨r, rfl⟩, hr5, hk5⟩; have H5 := Lib.hid (And.intro hr5 hk5); clear hr5 hk5)
        go_ret
        exact ⟨by rw [HV.out]; rfl, by rw [← HNA.out]; exact H5.out.1, (Kp2.below (Below.refl _ _).drew).trans H5.out.2⟩
      · have g1 : decide ((y : Int) < (n : Int) - (s : Int) + (k : Int)) = false := decide_eq_false (by omega)
        have g1' : ¬ (y : Int) < (n : Int) - (s : Int) + (k : Int) := by omega
        have HV : Hid (nx n l s = nx n l k) := Lib.hid (by
          rw [HX.out]
          show (if l.getD k 0 + l.length < n + k then _ else _) = _
          rw [← HY.out, HL.out, if_neg hb])
        clear hb
        go_wp2_with fail
        refine ⟨⟨k, by omega, by first | rw [hwd] | rfl, by first | rfl | trivial, HV.out⟩, ?_⟩
        first | (rw [hwd]; simp [intOf]; done) | (simp [intOf]; done) | (simp [intOf]; omega)
end Go.Proofs.Ythkmbbgcadfilaa
