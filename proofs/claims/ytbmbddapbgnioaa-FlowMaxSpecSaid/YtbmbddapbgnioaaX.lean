/- joins, hasArcs, Check. -/
import Derived.Test.YtbmbddapbgnioaaW
import Derived.Test.YtbmbddapbgnioaaMf
import Derived.Test.YtbmbddapbgnioaaMh
namespace Go.Proofs.Ytbmbddapbgnioaa
open Go.RowKit Go.Shelf

def jnB (N a b : Int) : Bool := decide (0 ≤ a ∧ a < N ∧ 0 ≤ b ∧ b < N ∧ a ≠ b)
/-- the box of a network -/
structure Bx (w W : World) (b : Nat) (N s t : Int) (va : Value) : Prop where
  bw : Below w.heap.size w W
  row : Row W b 24 [.int .i64 N, .int .i64 s, .int .i64 t, va]
theorem Bx.keep {w W W' : World} {b : Nat} {N s t : Int} {va : Value} (h : Bx w W b N s t va) (hb : Below W.heap.size W W') : Bx w W' b N s t va := ⟨below_next h.bw hb, h.row.keep hb⟩
theorem bx_new (w : World) (N s t : Int) (va : Value) : Bx w (w.alloc (.cells #[.int .i64 N, .int .i64 s, .int .i64 t, va] 24)) w.heap.size N s t va := ⟨Joins.below_alloc1 w _, row_new w 24 _⟩
set_option maxRecDepth 100000 in
set_option maxHeartbeats 4000000 in
theorem joins_call (N s t x y : Int) (va : Value) (w : World) :
    Calls Try.prog 29 #[netV N s t va, .int .i64 x, .int .i64 y] w fun e w' => e = .returned (.bool (jnB N x y)) ∧ Below w.heap.size w w' := by
  unfold netV
  have HX := Lib.hid (bx_new w N s t va)
  have d0 := HX.out.row.cell (i := 0) rfl
  obtain ⟨W1, hW1⟩ : ∃ W1, W1 = w.alloc (.cells #[.int .i64 N, .int .i64 s, .int .i64 t, va] 24) := ⟨_, rfl⟩
  have HW1 := Lib.hid hW1
  rw [← hW1] at HX d0
  clear hW1
  go_enter Try.func29, Try.ntmps29
  go_upto_region 1 with (fail)
  rw [← HW1.out]
  have HE := Lib.hid HX.out.bw
  by_cases k1 : 0 ≤ x
  · by_cases k2 : x < N
    · by_cases k3 : 0 ≤ y
      · by_cases k4 : y < N
        · by_cases k5 : x = y
          · go_wp2_with fail
            go_ret
            exact ⟨by unfold jnB; rw [decide_eq_false (by omega)]; rfl, HE.out⟩
          · go_wp2_with fail
            go_ret
            exact ⟨by have h9 : jnB N x y = (x != y) := (by unfold jnB; rw [decide_eq_true (by omega)]; simp [k5]); rw [h9]; rfl, HE.out⟩
        · go_wp2_with fail
          go_ret
          exact ⟨by unfold jnB; rw [decide_eq_false (by omega)]; rfl, HE.out⟩
      · go_wp2_with fail
        go_ret
        exact ⟨by unfold jnB; rw [decide_eq_false (by omega)]; rfl, HE.out⟩
    · go_wp2_with fail
      go_ret
      exact ⟨by unfold jnB; rw [decide_eq_false (by omega)]; rfl, HE.out⟩
  · go_wp2_with fail
    go_ret
    exact ⟨by unfold jnB; rw [decide_eq_false (by omega)]; rfl, HE.out⟩
theorem wrap_succ {k n : Nat} (h : k < n) (hn : n ≤ maxLen) : wrap64 ((k : Int) + 1) = (k : Int) + 1 := by
  unfold maxLen at hn
  have h1 : (k : Int) < 9223372036854775807 := by omega
  unfold wrap64
  omega
theorem back_less {k n : Nat} (h : k < n) (hn : wrap64 ((k : Int) + 1) = (k : Int) + 1) : n - (intOf (.int .i64 (wrap64 ((k : Int) + 1)))).toNat < n - (intOf (.int .i64 (k : Int))).toNat := by
  rw [hn]
  simp only [intOf]
  omega
theorem all_take {A : List Ar} {p : Ar → Bool} {k : Nat} (h : ∀ i, i < k → p (A.getD i (0, 0, 0)) = true) (hk : A.length ≤ k) : A.all p = true := by
  rw [List.all_eq_true]
  intro a ha
  obtain ⟨i, hi, rfl⟩ := List.getElem_of_mem ha
  have := h i (by omega)
  rwa [List.getD_eq_getElem?_getD, List.getElem?_eq_getElem hi] at this
theorem all_not {A : List Ar} {p : Ar → Bool} {k : Nat} (hk : k < A.length) (h : p (A.getD k (0, 0, 0)) = false) : A.all p = false := by
  rw [List.all_eq_false]
  exact ⟨_, getD_mem hk, by rw [h]; simp⟩
set_option maxRecDepth 100000 in
set_option maxHeartbeats 4000000 in
theorem hasArcs_call (N s t : Int) (A : List Ar) (va : Value) (w : World) (hA : ARest w.heap.size w A va) :
    Calls Try.prog 30 #[netV N s t va] w fun e w' => e = .returned (.bool (A.all (arcB N))) ∧ Below w.heap.size w w' := by
  obtain ⟨a, c, rfl, -⟩ := id hA
  obtain ⟨-, hac, ham, hat⟩ := arcs_at hA
  obtain ⟨n, hn⟩ : ∃ n, n = A.length := ⟨_, rfl⟩
  rw [← hn] at hac hat ⊢
  have HAT := Lib.hid hat
  have HNL := Lib.hid hn
  have hnm : n ≤ maxLen := by omega
  have HJ : Hid (∀ x y W, Calls Try.prog 29 #[netV N s t (.slice a n c), .int .i64 x, .int .i64 y] W fun e w' => e = .returned (.bool (jnB N x y)) ∧ Below W.heap.size W w') := Lib.hid (fun x y W => joins_call N s t x y _ W)
  clear hat hn hA
  unfold netV at HJ ⊢
  have HX := Lib.hid (bx_new w N s t (.slice a n c))
  obtain ⟨W1, hW1⟩ : ∃ W1, W1 = w.alloc (.cells #[.int .i64 N, .int .i64 s, .int .i64 t, .slice a n c] 24) := ⟨_, rfl⟩
  have HW1 := Lib.hid hW1
  rw [← hW1] at HX
  clear hW1
  have d3 := HX.out.row.cell (i := 3) rfl
  go_enter Try.func30, Try.ntmps30
  go_upto_region 1 with (fail)
  rw [← HW1.out]
  go_wp2_with fail
  go_loopw [8] (fun s8 wr => ∃ (k : Nat), k ≤ n ∧ s8 = .int .i64 (k : Int) ∧ Bx w wr w.heap.size N s t (.slice a n c) ∧ ∀ i, i < k → arcB N (A.getD i (0, 0, 0)) = true) (fun s8 _ => n - (intOf s8).toNat)
  case atStart => exact ⟨0, by omega, rfl, HX.out, fun i h => by omega⟩
  case round =>
    obtain ⟨k, hk, rfl, hR, hall⟩ := hrel
    have HR := Lib.hid hR
    have HK := Lib.hid hk
    have HALL := Lib.hid hall
    clear hR hk HX hall d3 HW1
    by_cases hlt : k < n
    · have hki : (k : Int) < (n : Int) := by omega
      have HWR := Lib.hid (wrap_succ hlt hnm)
      obtain ⟨hI, ba, off, hae, hba, e1, e2, e3⟩ := HAT.out k (by have := HNL.out; omega)
      subst hae
      obtain ⟨x, hx⟩ : ∃ x, x = (A.getD k (0, 0, 0)).1 := ⟨_, rfl⟩
      obtain ⟨y, hy⟩ : ∃ x, x = (A.getD k (0, 0, 0)).2.1 := ⟨_, rfl⟩
      obtain ⟨cp, hcp⟩ : ∃ x, x = (A.getD k (0, 0, 0)).2.2 := ⟨_, rfl⟩
      rw [← hx] at e1
      rw [← hy] at e2
      rw [← hcp] at e3
      have HAB : Hid (arcB N (A.getD k (0, 0, 0)) = (jnB N x y && decide (0 ≤ cp ∧ cp ≤ 1073741824))) := Lib.hid (by
        unfold arcB jnB
        rw [← hx, ← hy, ← hcp, ← Bool.decide_and]
        congr 1
        simp only [eq_iff_iff, and_assoc])
      have HLT := Lib.hid hlt
      have c1 := (HR.out.bw.cell (p := ⟨ba, off + k * 3, none⟩) hba).trans e1
      have c2 := (HR.out.bw.cell (p := ⟨ba, off + k * 3 + 1, none⟩) hba).trans e2
      have c3 := (HR.out.bw.cell (p := ⟨ba, off + k * 3 + 2, none⟩) hba).trans e3
      have hb4 : Below wr.heap.size wr (wr.alloc (.cells #[.int .i64 x, .int .i64 y, .int .i64 cp] 43)) := Joins.below_alloc1 wr _
      have q4 : Row (wr.alloc (.cells #[.int .i64 x, .int .i64 y, .int .i64 cp] 43)) wr.heap.size 43 [.int .i64 x, .int .i64 y, .int .i64 cp] := row_new wr 43 _
      obtain ⟨w4, hw4⟩ : ∃ w4, w4 = wr.alloc (.cells #[.int .i64 x, .int .i64 y, .int .i64 cp] 43) := ⟨_, rfl⟩
      rw [← hw4] at hb4 q4
      have HR4 := Lib.hid (HR.out.keep hb4)
      have HQ4 := Lib.hid q4
      have HW4 := Lib.hid hw4
      obtain ⟨bx, hbx⟩ : ∃ bx, bx = wr.heap.size := ⟨_, rfl⟩
      clear hI hba e1 e2 e3 hx hy hcp hb4 q4 hw4 HR hlt
      go_upto_region 4 with (fail)
      rw [← HW4.out, ← hbx]
      rw [← hbx] at HQ4
      clear hbx c1 c2 c3
      have c1 := HQ4.out.cell (i := 0) rfl
      have c2 := HQ4.out.cell (i := 1) rfl
      have d0 := HR4.out.row.cell (i := 0) rfl
      have d1 := HR4.out.row.cell (i := 1) rfl
      have d2 := HR4.out.row.cell (i := 2) rfl
      have d3 := HR4.out.row.cell (i := 3) rfl
      have HJ1 := Lib.hid (HJ.out x y w4)
      have HC2 : Hid (∀ W, Below w4.heap.size w4 W → W.cell? ⟨bx, 2, none⟩ = some (.int .i64 cp)) := Lib.hid (fun W hW => (HQ4.out.keep hW).cell (i := 2) rfl)
      cases hj : jnB N x y with
      | false =>
        rw [hj] at HJ1 HAB
        have HAF : Hid (A.all (arcB N) = false) := Lib.hid (all_not (k := k) (by have := HLT.out; have := HNL.out; omega) (by rw [HAB.out]; rfl))
        go_wp2_with (go_at_call 29; refine HJ1.out.mono ?_; rintro e w5 ⟨rfl, hb5⟩; have HR5 := Lib.hid (HR4.out.keep hb5); clear hb5)
        go_ret
        exact ⟨by rw [HAF.out]; rfl, HR5.out.bw⟩
      | true =>
        rw [hj] at HJ1 HAB
        by_cases k1 : cp < 0
        · have HAF : Hid (A.all (arcB N) = false) := Lib.hid (all_not (k := k) (by have := HLT.out; have := HNL.out; omega) (by rw [HAB.out, decide_eq_false (by omega)]; rfl))
          go_wp2_with (go_at_call 29; refine HJ1.out.mono ?_; rintro e w5 ⟨rfl, hb5⟩; have HR5 := Lib.hid (HR4.out.keep hb5); have c5 := HC2.out w5 hb5; clear hb5)
          go_ret
          exact ⟨by rw [HAF.out]; rfl, HR5.out.bw⟩
        · by_cases k2 : 1073741824 < cp
          · have HAF : Hid (A.all (arcB N) = false) := Lib.hid (all_not (k := k) (by have := HLT.out; have := HNL.out; omega) (by rw [HAB.out, decide_eq_false (by omega)]; rfl))
            go_wp2_with (go_at_call 29; refine HJ1.out.mono ?_; rintro e w5 ⟨rfl, hb5⟩; have HR5 := Lib.hid (HR4.out.keep hb5); have c5 := HC2.out w5 hb5; clear hb5)
            go_ret
            exact ⟨by rw [HAF.out]; rfl, HR5.out.bw⟩
          · have HAT1 : Hid (arcB N (A.getD k (0, 0, 0)) = true) := Lib.hid (by rw [HAB.out, decide_eq_true (by omega)]; rfl)
            go_wp2_with (go_at_call 29; refine HJ1.out.mono ?_; rintro e w5 ⟨rfl, hb5⟩; have HR5 := Lib.hid (HR4.out.keep hb5); have c5 := HC2.out w5 hb5; clear hb5)
            exact ⟨⟨k + 1, by have := HLT.out; omega, by rw [HWR.out, Int.natCast_succ], HR5.out, fun i hi => by
              rcases Nat.lt_or_ge i k with h9 | h9
              · exact HALL.out i h9
              · obtain rfl : i = k := by omega
                exact HAT1.out⟩, by have := HLT.out; exact back_less this HWR.out⟩
    · have HAF : Hid (A.all (arcB N) = true) := Lib.hid (all_take (k := k) HALL.out (by have := HNL.out; omega))
      obtain rfl : k = n := by have := HK.out; omega
      go_wp2_with fail
      go_ret
      exact ⟨by rw [HAF.out]; rfl, HR.out.bw⟩
set_option maxRecDepth 100000 in
set_option maxHeartbeats 4000000 in
theorem check_call (N s t : Int) (A : List Ar) (va : Value) (w : World) (hA : ARest w.heap.size w A va) :
    Calls Try.prog 15 #[netV N s t va] w fun e w' => e = .returned (.int .i64 (netE N s t A)) ∧ Below w.heap.size w w' := by
  obtain ⟨a, c, rfl, -⟩ := id hA
  obtain ⟨-, hac, ham, hat⟩ := arcs_at hA
  have HA := Lib.hid hA
  have hnm : A.length ≤ maxLen := by omega
  have HJ : Hid (∀ x y W, Calls Try.prog 29 #[netV N s t (.slice a A.length c), .int .i64 x, .int .i64 y] W fun e w' => e = .returned (.bool (jnB N x y)) ∧ Below W.heap.size W w') := Lib.hid (fun x y W => joins_call N s t x y _ W)
  have HH : Hid (∀ W, Below w.heap.size w W → Calls Try.prog 30 #[netV N s t (.slice a A.length c)] W fun e w' => e = .returned (.bool (A.all (arcB N))) ∧ Below W.heap.size W w') := Lib.hid (fun W hW => hasArcs_call N s t A _ W ((hA.stays hW).mono hW.size))
  clear hat hA
  obtain ⟨n, hn⟩ : ∃ n, n = A.length := ⟨_, rfl⟩
  have HNL := Lib.hid hn
  rw [← hn] at hac hnm HJ HH ⊢
  clear hn
  unfold netV at HJ HH ⊢
  have HX := Lib.hid (bx_new w N s t (.slice a n c))
  obtain ⟨W1, hW1⟩ : ∃ W1, W1 = w.alloc (.cells #[.int .i64 N, .int .i64 s, .int .i64 t, .slice a n c] 24) := ⟨_, rfl⟩
  have HW1 := Lib.hid hW1
  rw [← hW1] at HX
  clear hW1
  have d0 := HX.out.row.cell (i := 0) rfl
  have d1 := HX.out.row.cell (i := 1) rfl
  have d2 := HX.out.row.cell (i := 2) rfl
  have d3 := HX.out.row.cell (i := 3) rfl
  go_enter Try.func15, Try.ntmps15
  go_upto_region 1 with (fail)
  rw [← HW1.out]
  have HJ1 := Lib.hid (HJ.out s t W1)
  by_cases k1 : N < 2
  · have HN : Hid (netE N s t A = 1) := Lib.hid (by unfold netE; rw [if_neg (by omega)])
    go_wp2_with fail
    go_ret
    exact ⟨by rw [HN.out]; rfl, HX.out.bw⟩
  by_cases k2 : 64 < N
  · have HN : Hid (netE N s t A = 1) := Lib.hid (by unfold netE; rw [if_neg (by omega)])
    go_wp2_with fail
    go_ret
    exact ⟨by rw [HN.out]; rfl, HX.out.bw⟩
  cases hj : jnB N s t with
  | false =>
    rw [hj] at HJ1
    have HN : Hid (netE N s t A = 1) := Lib.hid (by unfold netE; unfold jnB at hj; rw [decide_eq_false_iff_not] at hj; rw [if_neg (by omega)])
    go_wp2_with (go_at_call 29; refine HJ1.out.mono ?_; rintro e w5 ⟨rfl, hb5⟩; have HR5 := Lib.hid (HX.out.keep hb5); clear hb5)
    go_ret
    exact ⟨by rw [HN.out]; rfl, HR5.out.bw⟩
  | true =>
    rw [hj] at HJ1
    have hj2 : 0 ≤ s ∧ s < N ∧ 0 ≤ t ∧ t < N ∧ s ≠ t := by unfold jnB at hj; simpa using hj
    have HJ2 := Lib.hid hj2
    clear hj2
    by_cases k3 : (512 : Int) < (n : Int)
    · have HN : Hid (netE N s t A = 2) := Lib.hid (by have := HJ2.out; have := HNL.out; unfold netE; rw [if_pos (by omega), if_neg (by omega)])
      go_wp2_with (go_at_call 29; refine HJ1.out.mono ?_; rintro e w5 ⟨rfl, hb5⟩; have HR5 := Lib.hid (HX.out.keep hb5); have e3 := HR5.out.row.cell (i := 3) rfl; clear hb5)
      go_ret
      exact ⟨by rw [HN.out]; rfl, HR5.out.bw⟩
    · cases ha : A.all (arcB N) with
      | false =>
        rw [ha] at HH
        have HN : Hid (netE N s t A = 130) := Lib.hid (by have := HJ2.out; have := HNL.out; unfold netE; rw [if_pos (by omega), if_pos (by omega), if_neg (by rw [ha]; simp)])
        go_wp2_with (first | (go_at_call 29; refine HJ1.out.mono ?_; rintro e w5 ⟨rfl, hb5⟩; have HR5 := Lib.hid (HX.out.keep hb5); have e0 := HR5.out.row.cell (i := 0) rfl; have e1 := HR5.out.row.cell (i := 1) rfl; have e2 := HR5.out.row.cell (i := 2) rfl; have e3 := HR5.out.row.cell (i := 3) rfl; have HH5 := Lib.hid (HH.out w5 HR5.out.bw); clear hb5) | (go_at_call 30; refine HH5.out.mono ?_; rintro e w6 ⟨rfl, hb6⟩; have HR6 := Lib.hid (HR5.out.keep hb6); clear hb6))
        go_ret
        exact ⟨by rw [HN.out]; rfl, HR6.out.bw⟩
      | true =>
        rw [ha] at HH
        have HN : Hid (netE N s t A = 0) := Lib.hid (by have := HJ2.out; have := HNL.out; unfold netE; rw [if_pos (by omega), if_pos (by omega), if_pos ha])
        go_wp2_with (first | (go_at_call 29; refine HJ1.out.mono ?_; rintro e w5 ⟨rfl, hb5⟩; have HR5 := Lib.hid (HX.out.keep hb5); have e0 := HR5.out.row.cell (i := 0) rfl; have e1 := HR5.out.row.cell (i := 1) rfl; have e2 := HR5.out.row.cell (i := 2) rfl; have e3 := HR5.out.row.cell (i := 3) rfl; have HH5 := Lib.hid (HH.out w5 HR5.out.bw); clear hb5) | (go_at_call 30; refine HH5.out.mono ?_; rintro e w6 ⟨rfl, hb6⟩; have HR6 := Lib.hid (HR5.out.keep hb6); clear hb6))
        go_ret
        exact ⟨by rw [HN.out]; rfl, HR6.out.bw⟩
end Go.Proofs.Ytbmbddapbgnioaa
