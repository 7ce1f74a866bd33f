/- Few, Same. -/
import Derived.Test.YtbmbddapbgnioaaHc
namespace Go.Proofs.Ytbmbddapbgnioaa
open Go.RowKit Go.Shelf

def fewB (N e : Int) (n : Nat) : Bool := decide ((e ≠ 0 ∧ n ≤ 600) ∨ (e = 0 ∧ N ≤ 24 ∧ n ≤ 80))
set_option maxRecDepth 100000 in
set_option maxHeartbeats 4000000 in
theorem few_call (N s t : Int) (A : List Ar) (va : Value) (w : World) (hA : ARest w.heap.size w A va) :
    Calls Try.prog 17 #[netV N s t va] w fun e w' => e = .returned (.bool (fewB N (netE N s t A) A.length)) ∧ Below w.heap.size w w' := by
  obtain ⟨a, c, rfl, -⟩ := id hA
  have HCK : Hid (∀ W, Below w.heap.size w W → Calls Try.prog 16 #[netV N s t (.slice a A.length c)] W fun e w' => e = .returned (.int .i64 (netE N s t A)) ∧ Below W.heap.size W w') := Lib.hid (fun W hW => rcheck_call N s t A _ W ((hA.stays hW).mono hW.size))
  obtain ⟨er, her⟩ : ∃ er, er = netE N s t A := ⟨_, rfl⟩
  obtain ⟨n, hn⟩ : ∃ n, n = A.length := ⟨_, rfl⟩
  rw [← her, ← hn] at HCK ⊢
  clear her hn hA
  unfold netV at HCK ⊢
  have HX := Lib.hid (bx_new w N s t (.slice a n c))
  obtain ⟨W1, hW1⟩ : ∃ W1, W1 = w.alloc (.cells #[.int .i64 N, .int .i64 s, .int .i64 t, .slice a n c] 24) := ⟨_, rfl⟩
  have HW1 := Lib.hid hW1
  rw [← hW1] at HX
  clear hW1
  have HCK1 := Lib.hid (HCK.out W1 HX.out.bw)
  have d0 := HX.out.row.cell (i := 0) rfl
  have d1 := HX.out.row.cell (i := 1) rfl
  have d2 := HX.out.row.cell (i := 2) rfl
  have d3 := HX.out.row.cell (i := 3) rfl
  go_enter Try.func17, Try.ntmps17
  go_upto_region 1 with (fail)
  rw [← HW1.out]
  by_cases he : er = 0
  · subst he
    by_cases k1 : N ≤ 24
    · by_cases k2 : (n : Int) ≤ 80
      · have HN : Hid (fewB N 0 n = true) := Lib.hid (decide_eq_true (by omega))
        go_wp2_with (go_at_call 16; first | (refine HCK5.out.mono ?_; rintro e w6 ⟨rfl, hb6⟩; have HR6 := Lib.hid (HR5.out.keep hb6); have f0 := HR6.out.row.cell (i := 0) rfl; have f3 := HR6.out.row.cell (i := 3) rfl; clear hb6) | (refine HCK1.out.mono ?_; rintro e w5 ⟨rfl, hb5⟩; have HR5 := Lib.hid (HX.out.keep hb5); have e0 := HR5.out.row.cell (i := 0) rfl; have e1 := HR5.out.row.cell (i := 1) rfl; have e2 := HR5.out.row.cell (i := 2) rfl; have e3 := HR5.out.row.cell (i := 3) rfl; have HCK5 := Lib.hid (HCK.out w5 HR5.out.bw); clear hb5))
        go_ret
        exact ⟨by rw [HN.out]; rfl, HR6.out.bw⟩
      · have HN : Hid (fewB N 0 n = false) := Lib.hid (decide_eq_false (by omega))
        have g3 : decide ((n : Int) ≤ 80) = false := decide_eq_false k2
        go_wp2_with (go_at_call 16; first | (refine HCK5.out.mono ?_; rintro e w6 ⟨rfl, hb6⟩; have HR6 := Lib.hid (HR5.out.keep hb6); have f0 := HR6.out.row.cell (i := 0) rfl; have f3 := HR6.out.row.cell (i := 3) rfl; clear hb6) | (refine HCK1.out.mono ?_; rintro e w5 ⟨rfl, hb5⟩; have HR5 := Lib.hid (HX.out.keep hb5); have e0 := HR5.out.row.cell (i := 0) rfl; have e1 := HR5.out.row.cell (i := 1) rfl; have e2 := HR5.out.row.cell (i := 2) rfl; have e3 := HR5.out.row.cell (i := 3) rfl; have HCK5 := Lib.hid (HCK.out w5 HR5.out.bw); clear hb5))
        go_ret
        exact ⟨by rw [HN.out]; rfl, HR6.out.bw⟩
    · have HN : Hid (fewB N 0 n = false) := Lib.hid (decide_eq_false (by omega))
      go_wp2_with (go_at_call 16; first | (refine HCK5.out.mono ?_; rintro e w6 ⟨rfl, hb6⟩; have HR6 := Lib.hid (HR5.out.keep hb6); have f0 := HR6.out.row.cell (i := 0) rfl; have f3 := HR6.out.row.cell (i := 3) rfl; clear hb6) | (refine HCK1.out.mono ?_; rintro e w5 ⟨rfl, hb5⟩; have HR5 := Lib.hid (HX.out.keep hb5); have e0 := HR5.out.row.cell (i := 0) rfl; have e1 := HR5.out.row.cell (i := 1) rfl; have e2 := HR5.out.row.cell (i := 2) rfl; have e3 := HR5.out.row.cell (i := 3) rfl; have HCK5 := Lib.hid (HCK.out w5 HR5.out.bw); clear hb5))
      go_ret
      exact ⟨by rw [HN.out]; rfl, HR6.out.bw⟩
  · have g1 : (er != 0) = true := by simp [he]
    have g2 : (er == 0) = false := by simp [he]
    by_cases k3 : (n : Int) ≤ 600
    · have HN : Hid (fewB N er n = true) := Lib.hid (decide_eq_true (by omega))
      go_wp2_with (go_at_call 16; first | (refine HCK5.out.mono ?_; rintro e w6 ⟨rfl, hb6⟩; have HR6 := Lib.hid (HR5.out.keep hb6); have f0 := HR6.out.row.cell (i := 0) rfl; have f3 := HR6.out.row.cell (i := 3) rfl; clear hb6) | (refine HCK1.out.mono ?_; rintro e w5 ⟨rfl, hb5⟩; have HR5 := Lib.hid (HX.out.keep hb5); have e0 := HR5.out.row.cell (i := 0) rfl; have e1 := HR5.out.row.cell (i := 1) rfl; have e2 := HR5.out.row.cell (i := 2) rfl; have e3 := HR5.out.row.cell (i := 3) rfl; have HCK5 := Lib.hid (HCK.out w5 HR5.out.bw); clear hb5))
      go_ret
      exact ⟨by rw [HN.out]; rfl, HR5.out.bw⟩
    · have HN : Hid (fewB N er n = false) := Lib.hid (decide_eq_false (by omega))
      have g3 : decide ((n : Int) ≤ 600) = false := decide_eq_false k3
      go_wp2_with (go_at_call 16; first | (refine HCK5.out.mono ?_; rintro e w6 ⟨rfl, hb6⟩; have HR6 := Lib.hid (HR5.out.keep hb6); have f0 := HR6.out.row.cell (i := 0) rfl; have f3 := HR6.out.row.cell (i := 3) rfl; clear hb6) | (refine HCK1.out.mono ?_; rintro e w5 ⟨rfl, hb5⟩; have HR5 := Lib.hid (HX.out.keep hb5); have e0 := HR5.out.row.cell (i := 0) rfl; have e1 := HR5.out.row.cell (i := 1) rfl; have e2 := HR5.out.row.cell (i := 2) rfl; have e3 := HR5.out.row.cell (i := 3) rfl; have HCK5 := Lib.hid (HCK.out w5 HR5.out.bw); clear hb5))
      go_ret
      exact ⟨by rw [HN.out]; rfl, HR6.out.bw⟩
def smB (l l' : List Bool) : Bool := decide (l = l')
theorem sm_no {l l' : List Bool} {k : Nat} (h : l.getD k false ≠ l'.getD k false) : smB l l' = false := by
  unfold smB
  exact decide_eq_false fun e => h (by rw [e])
theorem sm_len {l l' : List Bool} (h : l.length ≠ l'.length) : smB l l' = false := by
  unfold smB
  exact decide_eq_false fun e => h (by rw [e])
theorem sm_yes {l l' : List Bool} (h : l.length = l'.length) (h2 : ∀ i, i < l.length → l.getD i false = l'.getD i false) : smB l l' = true := by
  unfold smB
  refine decide_eq_true (List.ext_getElem h fun i h3 h4 => ?_)
  have := h2 i h3
  simpa [h3, h4] using this
set_option maxRecDepth 100000 in
set_option maxHeartbeats 4000000 in
theorem same_call (l l' : List Bool) (v v' : Value) (w : World) (hA : BRest w.heap.size w l v) (hB : BRest w.heap.size w l' v') :
    Calls Try.prog 21 #[v, v'] w fun e w' => e = .returned (.bool (smB l l')) ∧ Kd w w' := by
  obtain ⟨a, c, rfl, -⟩ := id hA
  obtain ⟨a', c', rfl, -⟩ := id hB
  obtain ⟨-, hac, ham, hat⟩ := bools_at hA
  obtain ⟨-, hac', ham', hat'⟩ := bools_at hB
  obtain ⟨n, hn⟩ : ∃ n, n = l.length := ⟨_, rfl⟩
  obtain ⟨m, hm⟩ : ∃ m, m = l'.length := ⟨_, rfl⟩
  rw [← hn] at hac hat ⊢
  rw [← hm] at hac' hat' ⊢
  have HAT := Lib.hid hat
  have HBT := Lib.hid hat'
  have HNL := Lib.hid (And.intro hn hm)
  have HNM : Hid (n ≤ maxLen) := Lib.hid (by omega)
  clear hat hat' hn hm hA hB
  go_enter Try.func21, Try.ntmps21
  by_cases hnm : n = m
  · subst hnm
    go_wp2_with fail
    go_loopw [5] (fun s5 wr => ∃ (k : Nat), k ≤ n ∧ s5 = .int .i64 (k : Int) ∧ Kd w wr ∧ ∀ i, i < k → l.getD i false = l'.getD i false) (fun s5 _ => n - (intOf s5).toNat)
    case atStart => exact ⟨0, by omega, rfl, Kd.refl _, fun i h => by omega⟩
    case round =>
      obtain ⟨k, hk, rfl, hR, hall⟩ := hrel
      have HR := Lib.hid hR
      have HK := Lib.hid hk
      have HALL := Lib.hid hall
      clear hR hk hall
      by_cases hlt : k < n
      · have hki : (k : Int) < (n : Int) := by omega
        have HWR := Lib.hid (wrap_succ hlt HNM.out)
        obtain ⟨b1, o1, q1, hb1, f1⟩ := HAT.out k (by have := HNL.out; omega)
        obtain ⟨b2, o2, q2, hb2, f2⟩ := HBT.out k (by have := HNL.out; omega)
        subst q1 q2
        have c1 := HR.out.cell f1
        have c2 := HR.out.cell f2
        obtain ⟨x, hx⟩ : ∃ x, x = l.getD k false := ⟨_, rfl⟩
        obtain ⟨y, hy⟩ : ∃ x, x = l'.getD k false := ⟨_, rfl⟩
        rw [← hx] at c1
        rw [← hy] at c2
        have HEQ := Lib.hid (And.intro hx hy)
        have HLT := Lib.hid hlt
        clear f1 f2 hb1 hb2 hx hy hlt
        cases x with
        | false =>
          cases y with
          | false =>
            have HN : Hid (l.getD k false = l'.getD k false) := Lib.hid (by rw [← HEQ.out.1, ← HEQ.out.2])
            go_wp2_with (go_quiet (fail))
            refine ⟨⟨k + 1, by have := HLT.out; omega, by rw [HWR.out, Int.natCast_succ], HR.out.trans (Kd.drewN _ _), fun i hi => ?_⟩, by have := HLT.out; exact back_less this HWR.out⟩
            rcases Nat.lt_or_ge i k with h9 | h9
            · exact HALL.out i h9
            · obtain rfl : i = k := by omega
              exact HN.out
          | true =>
            have HN : Hid (smB l l' = false) := Lib.hid (sm_no (k := k) (by rw [← HEQ.out.1, ← HEQ.out.2]; simp))
            go_wp2_with (go_quiet (fail))
            go_ret
            exact ⟨by rw [HN.out]; rfl, HR.out.trans (Kd.drewN _ _)⟩
        | true =>
          cases y with
          | false =>
            have HN : Hid (smB l l' = false) := Lib.hid (sm_no (k := k) (by rw [← HEQ.out.1, ← HEQ.out.2]; simp))
            go_wp2_with (go_quiet (fail))
            go_ret
            exact ⟨by rw [HN.out]; rfl, HR.out.trans (Kd.drewN _ _)⟩
          | true =>
            have HN : Hid (l.getD k false = l'.getD k false) := Lib.hid (by rw [← HEQ.out.1, ← HEQ.out.2])
            go_wp2_with (go_quiet (fail))
            refine ⟨⟨k + 1, by have := HLT.out; omega, by rw [HWR.out, Int.natCast_succ], HR.out.trans (Kd.drewN _ _), fun i hi => ?_⟩, by have := HLT.out; exact back_less this HWR.out⟩
            rcases Nat.lt_or_ge i k with h9 | h9
            · exact HALL.out i h9
            · obtain rfl : i = k := by omega
              exact HN.out
      · obtain rfl : k = n := by have := HK.out; omega
        have HN : Hid (smB l l' = true) := Lib.hid (sm_yes (by have := HNL.out; omega) (fun i hi => HALL.out i (by have := HNL.out; omega)))
        go_wp2_with fail
        go_ret
        exact ⟨by rw [HN.out]; rfl, HR.out⟩
  · have hmi : ¬ (n : Int) = (m : Int) := by omega
    have HN : Hid (smB l l' = false) := Lib.hid (sm_len (by have := HNL.out; omega))
    go_wp2_with fail
    go_ret
    exact ⟨by rw [HN.out]; rfl, Kd.refl _⟩
end Go.Proofs.Ytbmbddapbgnioaa
