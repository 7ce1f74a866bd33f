/- The reference: Side, surplus. -/
import Derived.Test.YtbmbddapbgnioaaHf
namespace Go.Proofs.Ytbmbddapbgnioaa
open Go.RowKit Go.Shelf

set_option maxRecDepth 100000 in
set_option maxHeartbeats 8000000 in
theorem rside_call (N s t : Nat) (hs : s < N) (ht : t < N) (l : List Bool) (va vl : Value) (w : World) (hL : BRest w.heap.size w l vl) :
    Calls Try.prog 28 #[netV N s t va, vl] w fun e w' => e = .returned (.bool (sidB N s t l)) ∧ Below w.heap.size w w' := by
  obtain ⟨ax, cx, rfl, -⟩ := id hL
  obtain ⟨-, hxc, hxm, hxt⟩ := bools_at hL
  obtain ⟨m, hm⟩ : ∃ m, m = l.length := ⟨_, rfl⟩
  rw [← hm] at hxc hxt ⊢
  have HXT := Lib.hid hxt
  have HNL := Lib.hid hm
  clear hL hm hxt
  unfold netV
  have HX := Lib.hid (bx_new w (N : Int) s t va)
  obtain ⟨W1, hW1⟩ : ∃ W1, W1 = w.alloc (.cells #[.int .i64 (N : Int), .int .i64 (s : Int), .int .i64 (t : Int), va] 24) := ⟨_, rfl⟩
  have HW1 := Lib.hid hW1
  rw [← hW1] at HX
  clear hW1
  have d0 := HX.out.row.cell (i := 0) rfl
  have d1 := HX.out.row.cell (i := 1) rfl
  have d2 := HX.out.row.cell (i := 2) rfl
  go_enter Try.func28, Try.ntmps28
  go_upto_region 1 with (fail)
  rw [← HW1.out]
  have HE := Lib.hid HX.out.bw
  by_cases hmN : m = N
  · subst hmN
    obtain ⟨bS, offS, hxe, hbS, f1⟩ := HXT.out s (by have := HNL.out; omega)
    obtain ⟨bS2, offS2, hxe2, hbS2, f2⟩ := HXT.out t (by have := HNL.out; omega)
    have c1 := (HX.out.bw.cell (p := ⟨bS, offS + s, none⟩) hbS).trans f1
    have c2 := (HX.out.bw.cell (p := ⟨bS2, offS2 + t, none⟩) hbS2).trans f2
    rw [hxe] at hxe2
    injection hxe2 with hxe2
    injection hxe2 with q1 q2
    subst q1 q2 hxe
    have hsm : (s : Int) < (m : Int) := by omega
    have htm : (t : Int) < (m : Int) := by omega
    have HSS : Hid (sidB m s t l = (l.getD s false && !l.getD t false)) := Lib.hid (by unfold sidB; rw [decide_eq_true (by have := HNL.out; omega)]; simp)
    clear f1 f2 hbS hbS2 HXT
    cases hs1 : l.getD s false with
    | false =>
      rw [hs1] at c1 HSS
      clear hs1
      go_wp2_with (go_quiet (fail))
      go_ret
      exact ⟨by rw [HSS.out]; rfl, HE.out⟩
    | true =>
      cases ht1 : l.getD t false with
      | true =>
        rw [hs1] at c1 HSS
        rw [ht1] at c2 HSS
        clear hs1 ht1
        go_wp2_with (go_quiet (fail))
        go_ret
        exact ⟨by rw [HSS.out]; rfl, HE.out⟩
      | false =>
        rw [hs1] at c1 HSS
        rw [ht1] at c2 HSS
        clear hs1 ht1
        go_wp2_with (go_quiet (fail))
        go_ret
        exact ⟨by rw [HSS.out]; rfl, HE.out⟩
  · have hmi : ((m : Int) == (N : Int)) = false := by simp; omega
    have HSS : Hid (sidB N s t l = false) := Lib.hid (by unfold sidB; rw [decide_eq_false (by have := HNL.out; omega)]; rfl)
    go_wp2_with (go_quiet (fail))
    go_ret
    exact ⟨by rw [HSS.out]; rfl, HE.out⟩

set_option maxRecDepth 100000 in
set_option maxHeartbeats 8000000 in
theorem rsurp_call (N s t v : Int) (A : List Ar) (X : List Int) (va vx : Value) (w : World) (hA : ARest w.heap.size w A va) (hX : IRest w.heap.size w X vx) (hlen : X.length = A.length) (h512 : A.length ≤ 512) (hx : ∀ x, x ∈ X → 0 ≤ x ∧ x ≤ 1073741824) :
    Calls Try.prog 27 #[netV N s t va, vx, .int .i64 v] w fun e w' => e = .returned (.int .i64 (surp A X v)) ∧ Below w.heap.size w w' := by
  obtain ⟨a, c, rfl, -⟩ := id hA
  obtain ⟨ax, cx, rfl, -⟩ := id hX
  obtain ⟨-, hac, ham, hat⟩ := arcs_at hA
  obtain ⟨-, hxc, hxm, hxt⟩ := ints_at hX
  obtain ⟨n, hn⟩ : ∃ n, n = A.length := ⟨_, rfl⟩
  rw [← hn] at hac hat hlen h512 ⊢
  rw [hlen] at hxc hxt ⊢
  have HAT := Lib.hid hat
  have HXT := Lib.hid hxt
  have HNL := Lib.hid (And.intro hn (And.intro hlen h512))
  have HXB := Lib.hid hx
  clear hA hX hn hat hxt hlen hx
  unfold netV
  have HX := Lib.hid (bx_new w N s t (.slice a n c))
  obtain ⟨W1, hW1⟩ : ∃ W1, W1 = w.alloc (.cells #[.int .i64 N, .int .i64 s, .int .i64 t, .slice a n c] 24) := ⟨_, rfl⟩
  have HW1 := Lib.hid hW1
  rw [← hW1] at HX
  clear hW1
  go_enter Try.func27, Try.ntmps27
  go_upto_region 1 with (fail)
  rw [← HW1.out]
  go_upto_region 3 with (fail)
  go_loopw [7, 8] (fun s7 s8 wr => ∃ (k : Nat), k ≤ n ∧ s7 = .int .i64 (surp (A.take k) (X.take k) v) ∧ s8 = .int .i64 (k : Int) ∧ Bx w wr w.heap.size N s t (.slice a n c)) (fun _ s8 _ => n - (intOf s8).toNat)
  case atStart => exact ⟨0, by omega, rfl, rfl, HX.out⟩
  case round =>
    obtain ⟨k, hk, rfl, rfl, hR⟩ := hrel
    have HR := Lib.hid hR
    have HK := Lib.hid hk
    have d3 := hR.row.cell (i := 3) rfl
    clear hR hk
    by_cases hlt : k < n
    · have hki : (k : Int) < (n : Int) := by omega
      have hk5 : (k : Int) < 512 := by have := HNL.out.2.2; omega
      obtain ⟨hI, ba, off, hae, hba, e1, e2, e3⟩ := HAT.out k (by have := HNL.out.1; omega)
      obtain ⟨-, bx, offx, hxe, hbx, e4⟩ := HXT.out k (by have := HNL.out; omega)
      subst hae hxe
      obtain ⟨x0, hx0⟩ : ∃ x, x = (A.getD k (0, 0, 0)).1 := ⟨_, rfl⟩
      obtain ⟨x1, hx1⟩ : ∃ x, x = (A.getD k (0, 0, 0)).2.1 := ⟨_, rfl⟩
      obtain ⟨y, hy⟩ : ∃ x, x = X.getD k 0 := ⟨_, rfl⟩
      have HCT : Hid (surp (A.take (k + 1)) (X.take (k + 1)) v = surp (A.take k) (X.take k) v + ((if x0 = v then y else 0) - (if x1 = v then y else 0))) := Lib.hid (by
        have h9 := surp_take v A X k (by have := HNL.out; omega) (by have := HNL.out; omega)
        rw [← hx0, ← hx1, ← hy] at h9; exact h9)
      have hyb : 0 ≤ y ∧ y ≤ 1073741824 := HXB.out y (by
        have h9 : k < X.length := by have := HNL.out; omega
        rw [hy]; simp [h9])
      rw [← hx0] at e1
      rw [← hx1] at e2
      rw [← hy] at e4
      have c1 := (HR.out.bw.cell (p := ⟨ba, off + k * 3, none⟩) hba).trans e1
      have c2 := (HR.out.bw.cell (p := ⟨ba, off + k * 3 + 1, none⟩) hba).trans e2
      have c4 := (HR.out.bw.cell (p := ⟨bx, offx + k, none⟩) hbx).trans e4
      obtain ⟨su, hsu⟩ : ∃ su, su = surp (A.take k) (X.take k) v := ⟨_, rfl⟩
      have hsb : -549755813888 ≤ su ∧ su ≤ 549755813888 := by
        have h9 := surp_small v 1073741824 (by omega) (A.take k) (X.take k) (fun z hz => HXB.out z (List.mem_of_mem_take hz))
        have h7 : ((X.take k).length : Int) ≤ 512 := by rw [List.length_take]; omega
        omega
      rw [← hsu] at HCT ⊢
      have HLT := Lib.hid hlt
      have hw1 : wrap64 (su + y) = su + y := by unfold wrap64; omega
      have hw2 : wrap64 (su - y) = su - y := by unfold wrap64; omega
      have hw3 : wrap64 (su + y - y) = su := by unfold wrap64; omega
      have HWR := Lib.hid (And.intro hw1 (And.intro hw2 hw3))
      have HWK := Lib.hid (wrap_succ hlt (show n ≤ maxLen by have := HNL.out.2.2; unfold maxLen; omega))
      clear hI hba hbx e1 e2 e3 e4 hx0 hx1 hy hsu hlt hw1 hw2 hw3
      by_cases h0 : x0 = v
      · subst h0
        by_cases h1 : x1 = x0
        · subst h1
          have HT : Hid (surp (A.take (k + 1)) (X.take (k + 1)) x1 = su) := Lib.hid (by rw [HCT.out]; simp)
          have hz : wrap64 (wrap64 (su + y) - y) = su := by rw [HWR.out.1]; exact HWR.out.2.2
          go_wp2_with fail
          exact ⟨⟨k + 1, by have := HLT.out; omega, by rw [HT.out], by go_num, HR.out⟩, by have := HLT.out; simp [intOf]; omega⟩
        · have g1 : (x1 == x0) = false := by simp [h1]
          have HT : Hid (surp (A.take (k + 1)) (X.take (k + 1)) x0 = su + y) := Lib.hid (by rw [HCT.out]; simp [h1])
          go_wp2_with fail
          exact ⟨⟨k + 1, by have := HLT.out; omega, by rw [HT.out], by go_num, HR.out⟩, by have := HLT.out; simp [intOf]; omega⟩
      · have g0 : (x0 == v) = false := by simp [h0]
        by_cases h1 : x1 = v
        · subst h1
          have HT : Hid (surp (A.take (k + 1)) (X.take (k + 1)) x1 = su - y) := Lib.hid (by rw [HCT.out]; simp [h0]; omega)
          go_wp2_with fail
          exact ⟨⟨k + 1, by have := HLT.out; omega, by rw [HT.out], by go_num, HR.out⟩, by have := HLT.out; simp [intOf]; omega⟩
        · have g1 : (x1 == v) = false := by simp [h1]
          have HT : Hid (surp (A.take (k + 1)) (X.take (k + 1)) v = su) := Lib.hid (by rw [HCT.out]; simp [h0, h1])
          go_wp2_with fail
          exact ⟨⟨k + 1, by have := HLT.out; omega, by rw [HT.out], by go_num, HR.out⟩, by have := HLT.out; simp [intOf]; omega⟩
    · obtain rfl : k = n := by have := HK.out; omega
      have HT : Hid (surp (A.take k) (X.take k) v = surp A X v) := Lib.hid (by rw [List.take_of_length_le (by have := HNL.out; omega), List.take_of_length_le (by have := HNL.out; omega)])
      go_wp2_with fail
      go_ret
      exact ⟨by rw [HT.out]; rfl, HR.out.bw⟩
end Go.Proofs.Ytbmbddapbgnioaa
