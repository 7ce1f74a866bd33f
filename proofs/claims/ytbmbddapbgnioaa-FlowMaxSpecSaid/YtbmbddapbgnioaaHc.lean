/- The reference: vertex, Check, Few. -/
import Derived.Test.YtbmbddapbgnioaaHb
namespace Go.Proofs.Ytbmbddapbgnioaa
open Go.RowKit Go.Shelf

def vxB (N v : Int) : Bool := decide (0 ≤ v ∧ v < N)
theorem vxB_t {N v : Int} (h : vxB N v = true) : 0 ≤ v ∧ v < N := by unfold vxB at h; exact of_decide_eq_true h
theorem vxB_f {N v : Int} (h : vxB N v = false) : ¬ (0 ≤ v ∧ v < N) := by unfold vxB at h; exact of_decide_eq_false h
set_option maxRecDepth 100000 in
set_option maxHeartbeats 4000000 in
theorem vertex_call (N s t x : Int) (va : Value) (w : World) :
    Calls Try.prog 31 #[netV N s t va, .int .i64 x] w fun e w' => e = .returned (.bool (vxB N x)) ∧ Below w.heap.size w w' := by
  unfold netV
  have HX := Lib.hid (bx_new w N s t va)
  have d0 := HX.out.row.cell (i := 0) rfl
  obtain ⟨W1, hW1⟩ : ∃ W1, W1 = w.alloc (.cells #[.int .i64 N, .int .i64 s, .int .i64 t, va] 24) := ⟨_, rfl⟩
  have HW1 := Lib.hid hW1
  rw [← hW1] at HX d0
  clear hW1
  go_enter Try.func31, Try.ntmps31
  go_upto_region 1 with (fail)
  rw [← HW1.out]
  have HE := Lib.hid HX.out.bw
  by_cases k1 : 0 ≤ x
  · by_cases k2 : x < N
    · go_wp2_with fail
      go_ret
      exact ⟨by unfold vxB; rw [decide_eq_true (by omega)]; rfl, HE.out⟩
    · go_wp2_with fail
      go_ret
      exact ⟨by unfold vxB; rw [decide_eq_false (by omega)]; rfl, HE.out⟩
  · go_wp2_with fail
    go_ret
    exact ⟨by unfold vxB; rw [decide_eq_false (by omega)]; rfl, HE.out⟩
set_option maxRecDepth 100000 in
set_option maxHeartbeats 8000000 in
theorem rcheck_call (N s t : Int) (A : List Ar) (va : Value) (w : World) (hA : ARest w.heap.size w A va) :
    Calls Try.prog 16 #[netV N s t va] w fun e w' => e = .returned (.int .i64 (netE N s t A)) ∧ Below w.heap.size w w' := by
  obtain ⟨a, c, rfl, -⟩ := id hA
  obtain ⟨-, hac, ham, hat⟩ := arcs_at hA
  obtain ⟨n, hn⟩ : ∃ n, n = A.length := ⟨_, rfl⟩
  rw [← hn] at hac hat ⊢
  have HAT := Lib.hid hat
  have HNL := Lib.hid hn
  have hnm : n ≤ maxLen := by omega
  have HV : Hid (∀ x W, Calls Try.prog 31 #[netV N s t (.slice a n c), .int .i64 x] W fun e w' => e = .returned (.bool (vxB N x)) ∧ Below W.heap.size W w') := Lib.hid (fun x W => vertex_call N s t x _ W)
  clear hat hn hA
  unfold netV at HV ⊢
  have HX := Lib.hid (bx_new w N s t (.slice a n c))
  obtain ⟨W1, hW1⟩ : ∃ W1, W1 = w.alloc (.cells #[.int .i64 N, .int .i64 s, .int .i64 t, .slice a n c] 24) := ⟨_, rfl⟩
  have HW1 := Lib.hid hW1
  rw [← hW1] at HX
  clear hW1
  have d0 := HX.out.row.cell (i := 0) rfl
  have d1 := HX.out.row.cell (i := 1) rfl
  have d2 := HX.out.row.cell (i := 2) rfl
  have d3 := HX.out.row.cell (i := 3) rfl
  go_enter Try.func16, Try.ntmps16
  go_upto_region 1 with (fail)
  rw [← HW1.out]
  have HVS := Lib.hid (HV.out s W1)
  have HVT := Lib.hid (fun W => HV.out t W)
  have HNA : Hid (¬ (2 ≤ N ∧ N ≤ 64 ∧ (0 ≤ s ∧ s < N) ∧ (0 ≤ t ∧ t < N) ∧ s ≠ t) → netE N s t A = 1) := Lib.hid (fun h => by unfold netE; rw [if_neg h])
  by_cases k1 : N < 2
  · have HN := Lib.hid (HNA.out (by omega))
    go_wp2_with fail
    refine bodyPost_ret (results_tmp rfl _ _ _) rfl ?_
    exact ⟨by rw [HN.out]; rfl, HX.out.bw⟩
  by_cases k2 : 64 < N
  · have HN := Lib.hid (HNA.out (by omega))
    go_wp2_with fail
    refine bodyPost_ret (results_tmp rfl _ _ _) rfl ?_
    exact ⟨by rw [HN.out]; rfl, HX.out.bw⟩
  cases hs : vxB N s with
  | false =>
    rw [hs] at HVS
    have HN := Lib.hid (HNA.out (by have := vxB_f hs; omega))
    clear hs
    go_wp2_with (go_at_call 31; refine HVS.out.mono ?_; rintro e w5 ⟨rfl, hb5⟩; have HR5 := Lib.hid (HX.out.keep hb5); clear hb5)
    refine bodyPost_ret (results_tmp rfl _ _ _) rfl ?_
    exact ⟨by rw [HN.out]; rfl, HR5.out.bw⟩
  | true =>
    rw [hs] at HVS
    cases ht : vxB N t with
    | false =>
      rw [ht] at HVT
      have HN := Lib.hid (HNA.out (by have := vxB_f ht; omega))
      clear hs ht
      go_wp2_with (go_at_call 31; first | (refine HVT5.out.mono ?_; rintro e w6 ⟨rfl, hb6⟩; have HR6 := Lib.hid (HR5.out.keep hb6); clear hb6) | (refine HVS.out.mono ?_; rintro e w5 ⟨rfl, hb5⟩; have HR5 := Lib.hid (HX.out.keep hb5); have e0 := HR5.out.row.cell (i := 0) rfl; have e1 := HR5.out.row.cell (i := 1) rfl; have e2 := HR5.out.row.cell (i := 2) rfl; have e3 := HR5.out.row.cell (i := 3) rfl; have HVT5 := Lib.hid (HVT.out w5); clear hb5))
      refine bodyPost_ret (results_tmp rfl _ _ _) rfl ?_
      exact ⟨by rw [HN.out]; rfl, HR6.out.bw⟩
    | true =>
      rw [ht] at HVT
      have hs9 := vxB_t hs
      have ht9 := vxB_t ht
      have HST := Lib.hid (And.intro hs9 ht9)
      clear hs ht hs9 ht9
      by_cases hst : s = t
      · subst hst
        have HN := Lib.hid (HNA.out (by omega))
        go_wp2_with (go_at_call 31; first | (refine HVT5.out.mono ?_; rintro e w6 ⟨rfl, hb6⟩; have HR6 := Lib.hid (HR5.out.keep hb6); have f1 := HR6.out.row.cell (i := 1) rfl; have f2 := HR6.out.row.cell (i := 2) rfl; clear hb6) | (refine HVS.out.mono ?_; rintro e w5 ⟨rfl, hb5⟩; have HR5 := Lib.hid (HX.out.keep hb5); have e0 := HR5.out.row.cell (i := 0) rfl; have e1 := HR5.out.row.cell (i := 1) rfl; have e2 := HR5.out.row.cell (i := 2) rfl; have e3 := HR5.out.row.cell (i := 3) rfl; have HVT5 := Lib.hid (HVT.out w5); clear hb5))
        refine bodyPost_ret (results_tmp rfl _ _ _) rfl ?_
        exact ⟨by rw [HN.out]; rfl, HR6.out.bw⟩
      · have g1 : (s == t) = false := by simp [hst]
        have HNB : Hid (netE N s t A = if n ≤ 512 then (if A.all (arcB N) = true then 0 else 130) else 2) := Lib.hid (by have := HST.out; unfold netE; rw [if_pos (by omega), HNL.out])
        go_upto_region 3 with (go_at_call 31; first | (refine HVT5.out.mono ?_; rintro e w6 ⟨rfl, hb6⟩; have HR6 := Lib.hid (HR5.out.keep hb6); have f1 := HR6.out.row.cell (i := 1) rfl; have f2 := HR6.out.row.cell (i := 2) rfl; clear hb6) | (refine HVS.out.mono ?_; rintro e w5 ⟨rfl, hb5⟩; have HR5 := Lib.hid (HX.out.keep hb5); have e0 := HR5.out.row.cell (i := 0) rfl; have e1 := HR5.out.row.cell (i := 1) rfl; have e2 := HR5.out.row.cell (i := 2) rfl; have e3 := HR5.out.row.cell (i := 3) rfl; have HVT5 := Lib.hid (HVT.out w5); clear hb5))
        clear d0 d1 d2 d3 e0 e1 e2 e3 f1 f2 HX HVS HVT HVT5 HR5
        have d3 := HR6.out.row.cell (i := 3) rfl
        by_cases k3 : (512 : Int) < (n : Int)
        · have HN : Hid (netE N s t A = 2) := Lib.hid (by rw [HNB.out, if_neg (by omega)])
          go_wp2_with fail
          refine bodyPost_ret (results_tmp rfl _ _ _) rfl ?_
          exact ⟨by rw [HN.out]; rfl, HR6.out.bw⟩
        · have HNC : Hid ((A.all (arcB N) = true → netE N s t A = 0) ∧ (A.all (arcB N) = false → netE N s t A = 130)) := Lib.hid (by
            rw [HNB.out, if_pos (by omega)]
            exact ⟨fun h => if_pos h, fun h => if_neg (by rw [h]; simp)⟩)
          go_wp2_with fail
          have HR7 := HR6
          clear d3 HR6 HW1
          go_loopw [3] (fun s3 wr => ∃ (k : Nat), k ≤ n ∧ s3 = .int .i64 (k : Int) ∧ Bx w wr w.heap.size N s t (.slice a n c) ∧ ∀ i, i < k → arcB N (A.getD i (0, 0, 0)) = true) (fun s3 _ => n - (intOf s3).toNat)
          case atStart => exact ⟨0, by omega, rfl, HR7.out, fun i h => by omega⟩
          case round =>
            obtain ⟨k, hk, rfl, hR, hall⟩ := hrel
            have HR := Lib.hid hR
            have HK := Lib.hid hk
            have HALL := Lib.hid hall
            clear hR hk HR7 hall
            have d0 := HR.out.row.cell (i := 0) rfl
            have d1 := HR.out.row.cell (i := 1) rfl
            have d2 := HR.out.row.cell (i := 2) rfl
            have d3 := HR.out.row.cell (i := 3) rfl
            by_cases hlt : k < n
            · have hki : (k : Int) < (n : Int) := by omega
              have hk5 : (k : Int) < 512 := by omega
              obtain ⟨hI, ba, off, hae, hba, e1, e2, e3⟩ := HAT.out k (by have := HNL.out; omega)
              subst hae
              obtain ⟨x, hx⟩ : ∃ x, x = (A.getD k (0, 0, 0)).1 := ⟨_, rfl⟩
              obtain ⟨y, hy⟩ : ∃ x, x = (A.getD k (0, 0, 0)).2.1 := ⟨_, rfl⟩
              obtain ⟨cp, hcp⟩ : ∃ x, x = (A.getD k (0, 0, 0)).2.2 := ⟨_, rfl⟩
              rw [← hx] at e1
              rw [← hy] at e2
              rw [← hcp] at e3
              have HAB : Hid (arcB N (A.getD k (0, 0, 0)) = decide (0 ≤ x ∧ x < N ∧ 0 ≤ y ∧ y < N ∧ x ≠ y ∧ 0 ≤ cp ∧ cp ≤ 1073741824)) := Lib.hid (by
                unfold arcB; rw [← hx, ← hy, ← hcp])
              have HAN : Hid (¬ (0 ≤ x ∧ x < N ∧ 0 ≤ y ∧ y < N ∧ x ≠ y ∧ 0 ≤ cp ∧ cp ≤ 1073741824) → netE N s t A = 130) := Lib.hid (fun h => HNC.out.2 (all_not (k := k) (by have := HNL.out; omega) (by rw [HAB.out]; exact decide_eq_false h)))
              have HLT := Lib.hid hlt
              have c1 := (HR.out.bw.cell (p := ⟨ba, off + k * 3, none⟩) hba).trans e1
              have c2 := (HR.out.bw.cell (p := ⟨ba, off + k * 3 + 1, none⟩) hba).trans e2
              have c3 := (HR.out.bw.cell (p := ⟨ba, off + k * 3 + 2, none⟩) hba).trans e3
              have hb4 : Below wr.heap.size wr (wr.alloc (.cells #[.int .i64 x, .int .i64 y, .int .i64 cp] 43)) := Joins.below_alloc1 wr _
              have q4 : Row (wr.alloc (.cells #[.int .i64 x, .int .i64 y, .int .i64 cp] 43)) wr.heap.size 43 [.int .i64 x, .int .i64 y, .int .i64 cp] := row_new wr 43 _
              obtain ⟨w4, hw4⟩ : ∃ w4, w4 = wr.alloc (.cells #[.int .i64 x, .int .i64 y, .int .i64 cp] 43) := ⟨_, rfl⟩
              rw [← hw4] at hb4 q4
              have HR4 := Lib.hid (HR.out.keep hb4)
              have HQ4 := Lib.hid q4
              have HW4 := Lib.hid hw4
              obtain ⟨bx, hbx⟩ : ∃ bx, bx = wr.heap.size := ⟨_, rfl⟩
              clear hI hba e1 e2 e3 hx hy hcp hb4 q4 hw4 hlt
              go_upto_region 9 with (fail)
              rw [← HW4.out, ← hbx]
              rw [← hbx] at HQ4
              clear hbx c1 c2 c3 d0 d1 d2 d3 HR
              have c1 := HQ4.out.cell (i := 0) rfl
              have c2 := HQ4.out.cell (i := 1) rfl
              have c3 := HQ4.out.cell (i := 2) rfl
              have d0 := HR4.out.row.cell (i := 0) rfl
              have d1 := HR4.out.row.cell (i := 1) rfl
              have d2 := HR4.out.row.cell (i := 2) rfl
              have d3 := HR4.out.row.cell (i := 3) rfl
              have HVX := Lib.hid (HV.out x w4)
              have HVY := Lib.hid (fun W => HV.out y W)
              cases hvx : vxB N x with
              | false =>
                rw [hvx] at HVX
                have HN := Lib.hid (HAN.out (by have := vxB_f hvx; omega))
                clear hvx
                go_wp2_with (go_at_call 31; refine HVX.out.mono ?_; rintro e w5 ⟨rfl, hb5⟩; have HR5 := Lib.hid (HR4.out.keep hb5); clear hb5)
                refine bodyPost_ret (results_tmp rfl _ _ _) rfl ?_
                exact ⟨by rw [HN.out]; rfl, HR5.out.bw⟩
              | true =>
                rw [hvx] at HVX
                cases hvy : vxB N y with
                | false =>
                  rw [hvy] at HVY
                  have HN := Lib.hid (HAN.out (by have := vxB_f hvy; omega))
                  clear hvx hvy
                  go_wp2_with (go_at_call 31; first | (refine HVY5.out.mono ?_; rintro e w6 ⟨rfl, hb6⟩; have HR6 := Lib.hid (HR5.out.keep hb6); clear hb6) | (refine HVX.out.mono ?_; rintro e w5 ⟨rfl, hb5⟩; have HR5 := Lib.hid (HR4.out.keep hb5); have HQ5 := Lib.hid (HQ4.out.keep hb5); have e0 := HR5.out.row.cell (i := 0) rfl; have e1 := HR5.out.row.cell (i := 1) rfl; have e2 := HR5.out.row.cell (i := 2) rfl; have e3 := HR5.out.row.cell (i := 3) rfl; have e4 := HQ5.out.cell (i := 1) rfl; have HVY5 := Lib.hid (HVY.out w5); clear hb5))
                  refine bodyPost_ret (results_tmp rfl _ _ _) rfl ?_
                  exact ⟨by rw [HN.out]; rfl, HR6.out.bw⟩
                | true =>
                  rw [hvy] at HVY
                  have HVB := Lib.hid (And.intro (vxB_t hvx) (vxB_t hvy))
                  clear hvx hvy
                  by_cases hxy : x = y
                  · subst hxy
                    have HN := Lib.hid (HAN.out (by omega))
                    go_wp2_with (go_at_call 31; first | (refine HVY5.out.mono ?_; rintro e w6 ⟨rfl, hb6⟩; have HR6 := Lib.hid (HR5.out.keep hb6); have HQ6 := Lib.hid (HQ5.out.keep hb6); have f0 := HQ6.out.cell (i := 0) rfl; have f1 := HQ6.out.cell (i := 1) rfl; have f2 := HQ6.out.cell (i := 2) rfl; clear hb6) | (refine HVX.out.mono ?_; rintro e w5 ⟨rfl, hb5⟩; have HR5 := Lib.hid (HR4.out.keep hb5); have HQ5 := Lib.hid (HQ4.out.keep hb5); have e0 := HR5.out.row.cell (i := 0) rfl; have e1 := HR5.out.row.cell (i := 1) rfl; have e2 := HR5.out.row.cell (i := 2) rfl; have e3 := HR5.out.row.cell (i := 3) rfl; have e4 := HQ5.out.cell (i := 1) rfl; have HVY5 := Lib.hid (HVY.out w5); clear hb5))
                    refine bodyPost_ret (results_tmp rfl _ _ _) rfl ?_
                    exact ⟨by rw [HN.out]; rfl, HR6.out.bw⟩
                  · have g1 : (x == y) = false := by simp [hxy]
                    by_cases k6 : cp < 0
                    · have HN := Lib.hid (HAN.out (by omega))
                      go_wp2_with (go_at_call 31; first | (refine HVY5.out.mono ?_; rintro e w6 ⟨rfl, hb6⟩; have HR6 := Lib.hid (HR5.out.keep hb6); have HQ6 := Lib.hid (HQ5.out.keep hb6); have f0 := HQ6.out.cell (i := 0) rfl; have f1 := HQ6.out.cell (i := 1) rfl; have f2 := HQ6.out.cell (i := 2) rfl; clear hb6) | (refine HVX.out.mono ?_; rintro e w5 ⟨rfl, hb5⟩; have HR5 := Lib.hid (HR4.out.keep hb5); have HQ5 := Lib.hid (HQ4.out.keep hb5); have e0 := HR5.out.row.cell (i := 0) rfl; have e1 := HR5.out.row.cell (i := 1) rfl; have e2 := HR5.out.row.cell (i := 2) rfl; have e3 := HR5.out.row.cell (i := 3) rfl; have e4 := HQ5.out.cell (i := 1) rfl; have HVY5 := Lib.hid (HVY.out w5); clear hb5))
                      refine bodyPost_ret (results_tmp rfl _ _ _) rfl ?_
                      exact ⟨by rw [HN.out]; rfl, HR6.out.bw⟩
                    · by_cases k7 : 1073741824 < cp
                      · have HN := Lib.hid (HAN.out (by omega))
                        go_wp2_with (go_at_call 31; first | (refine HVY5.out.mono ?_; rintro e w6 ⟨rfl, hb6⟩; have HR6 := Lib.hid (HR5.out.keep hb6); have HQ6 := Lib.hid (HQ5.out.keep hb6); have f0 := HQ6.out.cell (i := 0) rfl; have f1 := HQ6.out.cell (i := 1) rfl; have f2 := HQ6.out.cell (i := 2) rfl; clear hb6) | (refine HVX.out.mono ?_; rintro e w5 ⟨rfl, hb5⟩; have HR5 := Lib.hid (HR4.out.keep hb5); have HQ5 := Lib.hid (HQ4.out.keep hb5); have e0 := HR5.out.row.cell (i := 0) rfl; have e1 := HR5.out.row.cell (i := 1) rfl; have e2 := HR5.out.row.cell (i := 2) rfl; have e3 := HR5.out.row.cell (i := 3) rfl; have e4 := HQ5.out.cell (i := 1) rfl; have HVY5 := Lib.hid (HVY.out w5); clear hb5))
                        refine bodyPost_ret (results_tmp rfl _ _ _) rfl ?_
                        exact ⟨by rw [HN.out]; rfl, HR6.out.bw⟩
                      · have HAT1 : Hid (arcB N (A.getD k (0, 0, 0)) = true) := Lib.hid (by rw [HAB.out]; exact decide_eq_true (by have := HVB.out; omega))
                        go_wp2_with (go_at_call 31; first | (refine HVY5.out.mono ?_; rintro e w6 ⟨rfl, hb6⟩; have HR6 := Lib.hid (HR5.out.keep hb6); have HQ6 := Lib.hid (HQ5.out.keep hb6); have f0 := HQ6.out.cell (i := 0) rfl; have f1 := HQ6.out.cell (i := 1) rfl; have f2 := HQ6.out.cell (i := 2) rfl; clear hb6) | (refine HVX.out.mono ?_; rintro e w5 ⟨rfl, hb5⟩; have HR5 := Lib.hid (HR4.out.keep hb5); have HQ5 := Lib.hid (HQ4.out.keep hb5); have e0 := HR5.out.row.cell (i := 0) rfl; have e1 := HR5.out.row.cell (i := 1) rfl; have e2 := HR5.out.row.cell (i := 2) rfl; have e3 := HR5.out.row.cell (i := 3) rfl; have e4 := HQ5.out.cell (i := 1) rfl; have HVY5 := Lib.hid (HVY.out w5); clear hb5))
                        exact ⟨⟨k + 1, by have := HLT.out; omega, by go_num, HR6.out, fun i hi => by
                          rcases Nat.lt_or_ge i k with h9 | h9
                          · exact HALL.out i h9
                          · obtain rfl : i = k := by omega
                            exact HAT1.out⟩, by have := HLT.out; simp [intOf]; omega⟩
            · have HN : Hid (netE N s t A = 0) := Lib.hid (HNC.out.1 (all_take (k := k) HALL.out (by have := HNL.out; omega)))
              obtain rfl : k = n := by have := HK.out; omega
              go_wp2_with fail
              refine bodyPost_ret (results_tmp rfl _ _ _) rfl ?_
              exact ⟨by rw [HN.out]; rfl, HR.out.bw⟩
end Go.Proofs.Ytbmbddapbgnioaa
