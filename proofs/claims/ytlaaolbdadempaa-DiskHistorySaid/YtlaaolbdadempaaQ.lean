/- The reference's Check. -/
import Derived.Test.YtlaaolbdadempaaHs
namespace Go.Proofs.Ytlaaolbdadempaa
open Go.RowKit

def limitsB (d : Dsk) : Bool := decide (1 ≤ d.secs.length) && (decide (d.secs.length ≤ 4096) && (decide (d.pend.length ≤ 4096) && (decide (-1 ≤ d.left) && decide (d.left ≤ 65536))))
theorem valid_parts (d : Dsk) : validB d = (limitsB d && (!anyDam d.secs && !anyWrong d.secs.length d.pend)) := by
  unfold validB limitsB
  cases decide (1 ≤ d.secs.length) <;> cases decide (d.secs.length ≤ 4096) <;> cases decide (d.pend.length ≤ 4096) <;> cases decide (-1 ≤ d.left) <;> cases decide (d.left ≤ 65536) <;> cases anyDam d.secs <;> cases anyWrong d.secs.length d.pend <;> rfl
set_option maxHeartbeats 4000000 in
set_option maxRecDepth 100000 in
theorem refcheck_call (d : Dsk) (v : Value) (w : World) (h : DRest w.heap.size w d v) :
    Calls Try.prog 23 #[v] w fun e w' => e = .returned (.int .i64 (if validB d then 0 else 40)) ∧ Below w.heap.size w w' := by
  rw [valid_parts]
  obtain ⟨s, p, rfl, hs, hp⟩ := h
  have HR0 := Lib.hid (row_new w 25 (dskCells s p d))
  have HS := Lib.hid hs
  have HP := Lib.hid hp
  obtain ⟨a, cap, rfl, hc1, hc2⟩ := hs.shape
  obtain ⟨a2, cap2, rfl, hc3, hc4⟩ := hp.shape
  clear hs hp
  unfold limitsB anyDam anyWrong
  unfold dskOf dskCells at *
  obtain ⟨xs, ps, left, stop⟩ := d
  simp only at HR0 HS HP hc2 hc4 ⊢
  obtain ⟨n, hn⟩ : ∃ n, n = xs.length := ⟨_, rfl⟩
  obtain ⟨m, hm⟩ : ∃ m, m = ps.length := ⟨_, rfl⟩
  rw [← hn] at HR0 HS hc2 ⊢
  rw [← hm] at HR0 HP hc4 ⊢
  have HN := Lib.hid hn
  have HM := Lib.hid hm
  clear hn hm
  by_cases h1 : 1 ≤ n
  · have i1 : ¬ (n : Int) < 1 := by omega
    rw [decide_eq_true h1, Bool.true_and]
    by_cases h2 : n ≤ 4096
    · have i2 : ¬ (4096 : Int) < (n : Int) := by omega
      rw [decide_eq_true h2, Bool.true_and]
      by_cases h3 : m ≤ 4096
      · have i3 : ¬ (4096 : Int) < (m : Int) := by omega
        rw [decide_eq_true h3, Bool.true_and]
        by_cases h4 : -1 ≤ left
        · have i4 : ¬ left < -1 := by omega
          rw [decide_eq_true h4, Bool.true_and]
          by_cases h5 : left ≤ 65536
          · have i5 : ¬ 65536 < left := by omega
            rw [decide_eq_true h5, Bool.true_and]
            generalize hR : (if ((!xs.any fun x => damB x.length) && !ps.any (wrongW n)) = true then (0 : Int) else 40) = R
            have HRES := Lib.hid hR
            clear hR
            go_enter Try.func23, Try.ntmps23
            go_wp2_with fail
            have HB0 := Lib.hid (Joins.below_alloc1 w (.cells #[.slice a n cap, .slice a2 m cap2, .int .i64 left, .bool stop] 25))
            generalize hW : w.alloc (.cells _ 25) = W1 at HR0 HB0
            have HW := Lib.hid hW
            try rw [hW]
            clear hW
            go_loopw [4] (fun s4 wr => IxHead (fun x => damB x.length) xs W1 s4 wr) (fun s4 _ => n - (intOf s4).toNat)
            case atStart => exact ⟨0, Nat.zero_le _, rfl, rfl, by first | exact Below.refl _ _ | (rw [HW.out]; exact Below.refl _ _)⟩
            case round =>
              obtain ⟨k, hk, rfl, hany, hb⟩ := hrel
              rw [← HN.out] at hk
              have HB := Lib.hid hb
              have HA := Lib.hid hany
              have c0 := HR0.out.later hb (i := 0) rfl
              have c1 := HR0.out.later hb (i := 1) rfl
              clear hb hany
              rcases Nat.lt_or_ge k n with hlt | hge
              · obtain ⟨x, hx⟩ : ∃ x, xs[k]? = some x := ⟨_, List.getElem?_eq_getElem (by rw [← HN.out]; exact hlt)⟩
                obtain ⟨b, off, u, rfl, hbl, hru, hcell⟩ := HS.out.at hx
                have hcu := hcell wr (below_next HB0.out HB.out)
                obtain ⟨ua, uc, rfl, hu1, hu2⟩ := hru.shape
                have HST := Lib.hid (any_step (p := fun x => damB x.length) hx)
                have hkn : (k : Int) < (n : Int) := by omega
                have hk0 : (0 : Int) ≤ (k : Int) := by omega
                obtain ⟨l, hl⟩ : ∃ l, l = x.length := ⟨_, rfl⟩
                rw [← hl] at hcu HST
                clear hru hcell hx hl hu1 hu2
                by_cases h128 : l = 128
                · have e1 : ((l : Int) != 128) = false := by simp; omega
                  have HD : Hid (damB l = false) := Lib.hid (by simp [damB, h128])
                  clear h128
                  go_wp2_with fail
                  exact ⟨⟨k + 1, by rw [← HN.out]; omega, by go_num, by rw [HA.out, HST.out, HD.out, Bool.false_or], HB.out⟩, by simp [intOf]; omega⟩
                · have e1 : ((l : Int) != 128) = true := by simp; omega
                  have HD : Hid (damB l = true) := Lib.hid (by simp [damB, h128])
                  clear h128
                  go_wp2_with fail
                  go_ret
                  exact ⟨ret_int (by rw [← HRES.out, HA.out, HST.out, HD.out]; rfl), below_next HB0.out HB.out⟩
              · obtain rfl : k = n := by omega
                have HAF : Hid ((xs.any fun x => damB x.length) = false) := Lib.hid (by rw [HA.out, HN.out, List.drop_length]; rfl)
                obtain ⟨W2, rfl⟩ : ∃ W2, W2 = wr := ⟨wr, rfl⟩
                go_wp2_with fail
                go_loopw [5] (fun s5 wr => IxHead (wrongW k) ps W2 s5 wr) (fun s5 _ => m - (intOf s5).toNat)
                case atStart => exact ⟨0, Nat.zero_le _, rfl, rfl, Below.refl _ _⟩
                case round =>
                  obtain ⟨j, hj, rfl, hany, hb2⟩ := hrel
                  rw [← HM.out] at hj
                  have HB2 := Lib.hid (below_next HB.out hb2)
                  have HB3 := Lib.hid hb2
                  have HA2 := Lib.hid hany
                  have c0 := HR0.out.later HB2.out (i := 0) rfl
                  have c1 := HR0.out.later HB2.out (i := 1) rfl
                  clear hb2 hany
                  rcases Nat.lt_or_ge j m with hlt | hge2
                  · obtain ⟨x, hx⟩ : ∃ x, ps[j]? = some x := ⟨_, List.getElem?_eq_getElem (by rw [← HM.out]; exact hlt)⟩
                    obtain ⟨b, off, u, rfl, hbl, hru, hcell⟩ := HP.out.at hx
                    have HC := Lib.hid (hcell wr (below_next HB0.out HB2.out))
                    obtain ⟨ua, uc, rfl, hu1, hu2⟩ := hru.shape
                    have HST := Lib.hid (any_step (p := wrongW k) hx)
                    have hjm : (j : Int) < (m : Int) := by omega
                    have hj0 : (0 : Int) ≤ (j : Int) := by omega
                    obtain ⟨at', data⟩ := x
                    simp only at HC hu2 HST
                    obtain ⟨l, hl⟩ : ∃ l, l = data.length := ⟨_, rfl⟩
                    rw [← hl] at HC hu2
                    have HWR : Hid (wrongW k (at', data) = (decide (at' < 0) || (decide ((k : Int) ≤ at') || decide (l ≠ 128)))) := Lib.hid (by
                      unfold wrongW hasB damB
                      rw [← hl, Bool.eq_iff_iff]; simp; omega)
                    clear hru hcell hx hl hu1 hu2
                    by_cases ha : at' < 0
                    · have HD : Hid (wrongW k (at', data) = true) := Lib.hid (by rw [HWR.out]; simp [ha])
                      go_wp2_with (refine wpList_load_wr rfl (.tmp 54) rfl b (off + j * 2) at' (.slice ua l uc) rfl HC.out ?_; unfold wrOf)
                      go_ret
                      exact ⟨ret_int (by rw [← HRES.out, HAF.out, HA2.out, HST.out, HD.out]; rfl), below_next (below_next HB0.out HB2.out) (Joins.below_alloc1 _ _)⟩
                    · by_cases hb : (k : Int) ≤ at'
                      · have HD : Hid (wrongW k (at', data) = true) := Lib.hid (by rw [HWR.out]; simp [hb])
                        go_wp2_with (refine wpList_load_wr rfl (.tmp 54) rfl b (off + j * 2) at' (.slice ua l uc) rfl HC.out ?_; unfold wrOf)
                        go_ret
                        exact ⟨ret_int (by rw [← HRES.out, HAF.out, HA2.out, HST.out, HD.out]; rfl), below_next (below_next HB0.out HB2.out) (Joins.below_alloc1 _ _)⟩
                      · by_cases h128 : l = 128
                        · have e1 : ((l : Int) != 128) = false := by simp; omega
                          have HD : Hid (wrongW k (at', data) = false) := Lib.hid (by rw [HWR.out]; simp [ha, hb, h128])
                          clear h128
                          go_wp2_with (refine wpList_load_wr rfl (.tmp 54) rfl b (off + j * 2) at' (.slice ua l uc) rfl HC.out ?_; unfold wrOf)
                          exact ⟨⟨j + 1, by rw [← HM.out]; omega, by go_num, by rw [HA2.out, HST.out, HD.out, Bool.false_or], below_next HB3.out (Joins.below_alloc1 _ _)⟩, by simp [intOf]; omega⟩
                        · have e1 : ((l : Int) != 128) = true := by simp; omega
                          have HD : Hid (wrongW k (at', data) = true) := Lib.hid (by rw [HWR.out]; simp [h128])
                          clear h128
                          go_wp2_with (refine wpList_load_wr rfl (.tmp 54) rfl b (off + j * 2) at' (.slice ua l uc) rfl HC.out ?_; unfold wrOf)
                          go_ret
                          exact ⟨ret_int (by rw [← HRES.out, HAF.out, HA2.out, HST.out, HD.out]; rfl), below_next (below_next HB0.out HB2.out) (Joins.below_alloc1 _ _)⟩
                  · obtain rfl : j = m := by omega
                    go_wp2_with fail
                    go_ret
                    exact ⟨ret_int (by rw [← HRES.out, HAF.out, HA2.out, HM.out, List.drop_length]; rfl), below_next HB0.out HB2.out⟩
          · have i5 : 65536 < left := by omega
            rw [decide_eq_false h5, Bool.false_and]
            go_enter Try.func23, Try.ntmps23
            go_wp2_with fail
            go_ret
            exact ⟨rfl, Joins.below_alloc1 w _⟩
        · have i4 : left < -1 := by omega
          rw [decide_eq_false h4, Bool.false_and, Bool.false_and]
          go_enter Try.func23, Try.ntmps23
          go_wp2_with fail
          go_ret
          exact ⟨rfl, Joins.below_alloc1 w _⟩
      · have i3 : (4096 : Int) < (m : Int) := by omega
        rw [decide_eq_false h3, Bool.false_and, Bool.false_and]
        go_enter Try.func23, Try.ntmps23
        go_wp2_with fail
        go_ret
        exact ⟨rfl, Joins.below_alloc1 w _⟩
    · have i2 : (4096 : Int) < (n : Int) := by omega
      rw [decide_eq_false h2, Bool.false_and, Bool.false_and]
      go_enter Try.func23, Try.ntmps23
      go_wp2_with fail
      go_ret
      exact ⟨rfl, Joins.below_alloc1 w _⟩
  · have i1 : (n : Int) < 1 := by omega
    rw [decide_eq_false h1, Bool.false_and, Bool.false_and]
    go_enter Try.func23, Try.ntmps23
    go_wp2_with fail
    go_ret
    exact ⟨rfl, Joins.below_alloc1 w _⟩
end Go.Proofs.Ytlaaolbdadempaa
