/- Days and dates, their order, and the date after another one: the law DaysDates. -/
import Derived.Test.YtiicjmbnkjociaaDoorR
namespace Go.Proofs.YtiicjmbnkjociaaDoor
open Go.RowKit

theorem Of_in {n : Int} (h : 0 ≤ n ∧ n ≤ 73048) (w : World) (hT : Tab w) : Calls Tryd.prog 10 #[.int .i64 n] w fun e w' => (∃ y m d, (Dt.ok ⟨y, m, d⟩ ∧ Dt.num ⟨y, m, d⟩ = n) ∧ e = .returned (.tuple #[.agg #[.int .i64 y, .int .i64 m, .int .i64 d], .int .i64 0])) ∧ Below w.heap.size w w' := by
  have hd : isDayB n = true := by unfold isDayB; simpa using h
  have h2 : ofE n = 0 := by unfold ofE; rw [if_pos hd]
  refine (Of_call n w hT).mono ?_
  rintro e w' ⟨⟨⟨y, m, d⟩, hx, rfl⟩, hb⟩
  unfold IsOf at hx
  rw [if_pos hd] at hx
  exact ⟨⟨y, m, d, hx, by rw [h2]; rfl⟩, hb⟩
theorem Number_in {y m d : Int} (h : Dt.ok ⟨y, m, d⟩) (w : World) (hT : Tab w) : Calls Tryd.prog 12 #[.agg #[.int .i64 y, .int .i64 m, .int .i64 d]] w fun e w' => e = .returned (.tuple #[.int .i64 (Dt.num ⟨y, m, d⟩), .int .i64 0]) ∧ Below w.heap.size w w' := by
  have h1 := Number_call ⟨y, m, d⟩ w hT
  unfold numR numE at h1
  rw [if_pos h, if_pos h] at h1
  exact h1
theorem Number_out {y m d : Int} (h : ¬ Dt.ok ⟨y, m, d⟩) (w : World) (hT : Tab w) : Calls Tryd.prog 12 #[.agg #[.int .i64 y, .int .i64 m, .int .i64 d]] w fun e w' => e = .returned (.tuple #[.int .i64 0, .int .i64 120]) ∧ Below w.heap.size w w' := by
  have h1 := Number_call ⟨y, m, d⟩ w hT
  unfold numR numE at h1
  rw [if_neg h, if_neg h] at h1
  exact h1
theorem Week_in {n : Int} (h : 0 ≤ n ∧ n ≤ 73048) (w : World) : Calls Tryd.prog 14 #[.int .i64 n] w fun e w' => e = .returned (.tuple #[.int .i64 ((n + 5) % 7), .int .i64 0]) ∧ w' = w := by
  have hd : isDayB n = true := by unfold isDayB; simpa using h
  have h1 := Weekday_call n w
  unfold wkR ofE at h1
  rw [if_pos hd, if_pos hd] at h1
  exact h1
theorem dt_small {y m d : Int} (h : Dt.ok ⟨y, m, d⟩) : 1 ≤ d ∧ d ≤ 31 ∧ 1 ≤ m ∧ m ≤ 12 ∧ 2000 ≤ y ∧ y ≤ 2199 := by
  obtain ⟨h1, h2, h3, h4, h5, h6⟩ := h
  simp only at h1 h2 h3 h4 h5 h6
  have := lnB_rng (leap y) m.toNat (by omega)
  omega
set_option maxHeartbeats 40000000 in
set_option maxRecDepth 100000 in
theorem dates_walk (n m xy xm xd : Int) (w : World) (hT : Tab w) (hn : I64 n) (hm : I64 m) :
    Calls Tryd.prog 6 #[.int .i64 n, .int .i64 m, .agg #[.int .i64 xy, .int .i64 xm, .int .i64 xd]] w fun e w' => e = .returned (.bool true) ∧ Below w.heap.size w w' := by
  have BW := Lib.hid (Below.refl w.heap.size w)
  have TB := Lib.hid hT
  have CSA := Lib.hid (fun W h => sane_call W h)
  by_cases r0 : n < 0
  · skip
    have f0 : decide (n < 0) = true := by simpa using r0
    clear r0
    by_cases hok : Dt.ok ⟨xy, xm, xd⟩
    · skip
      have CNX := Lib.hid (fun W h => Number_in hok W h)
      have COX := Lib.hid (fun W h => Of_lit (n := Dt.num ⟨xy, xm, xd⟩) (y := xy) (m := xm) (d := xd) (by unfold IsOf; rw [if_pos (by unfold isDayB; simpa using Dt.rng hok)]; exact ⟨hok, rfl⟩) W h)
      rw [show ofE (Dt.num ⟨xy, xm, xd⟩) = 0 by unfold ofE; rw [if_pos (by unfold isDayB; simpa using Dt.rng hok)]] at COX
      have k1 : decide (Dt.num ⟨xy, xm, xd⟩ < 0) = false := decide_eq_false (by have := Dt.rng hok; omega)
      have k2 : decide ((73048 : Int) < Dt.num ⟨xy, xm, xd⟩) = false := decide_eq_false (by have := Dt.rng hok; omega)
      generalize Dt.num ⟨xy, xm, xd⟩ = k0 at *
      have hqx := fun W => neq_date xy xm xd xy xm xd W
      rw [show (!((xy == xy) && ((xm == xm) && (xd == xd)))) = false by simp] at hqx
      have hgx := fun op x y W => guard_date op x y xy xm xd xy xm xd W
      clear hok
      go_enter Tryd.func6, Tryd.ntmps6
      go_wp2_with fail
      have BX := Lib.hid (row_new w 23 [.int .i64 xy, .int .i64 xm, .int .i64 xd])
      replace BW := Lib.hid (below_next BW.out (Joins.below_alloc1 w (.cells #[.int .i64 xy, .int .i64 xm, .int .i64 xd] 23)))
      replace TB := Lib.hid (TB.out.keep (Joins.below_alloc1 w (.cells #[.int .i64 xy, .int .i64 xm, .int .i64 xd] 23)))
      have hsw1 : (w.alloc (.cells #[.int .i64 xy, .int .i64 xm, .int .i64 xd] 23)).heap.size = w.heap.size + 1 := World.size_alloc ..
      generalize w.alloc (.cells #[.int .i64 xy, .int .i64 xm, .int .i64 xd] 23) = w1 at *
      refine (CSA.out _ TB.out).mono ?_
      rintro e w2 ⟨rfl, hb⟩
      replace BW := Lib.hid (below_next BW.out hb)
      replace TB := Lib.hid (TB.out.keep hb)
      replace BX := Lib.hid (BX.out.keep hb)
      clear hb
      have bx0 := BX.out.cell (i := 0) rfl
      have bx1 := BX.out.cell (i := 1) rfl
      have bx2 := BX.out.cell (i := 2) rfl
      go_wp2_with fail
      clear bx0 bx1 bx2
      refine (CNX.out _ TB.out).mono ?_
      rintro e w3 ⟨rfl, hb⟩
      replace BW := Lib.hid (below_next BW.out hb)
      replace TB := Lib.hid (TB.out.keep hb)
      replace BX := Lib.hid (BX.out.keep hb)
      clear hb
      go_wp2_with fail
      refine (COX.out _ TB.out).mono ?_
      rintro e w4 ⟨rfl, hb⟩
      replace BW := Lib.hid (below_next BW.out hb)
      replace TB := Lib.hid (TB.out.keep hb)
      replace BX := Lib.hid (BX.out.keep hb)
      clear hb
      have bx0 := (BX.out.keep (Joins.below_alloc1 w4 (.cells #[.int .i64 xy, .int .i64 xm, .int .i64 xd] 23))).cell (i := 0) rfl
      have bx1 := (BX.out.keep (Joins.below_alloc1 w4 (.cells #[.int .i64 xy, .int .i64 xm, .int .i64 xd] 23))).cell (i := 1) rfl
      have bx2 := (BX.out.keep (Joins.below_alloc1 w4 (.cells #[.int .i64 xy, .int .i64 xm, .int .i64 xd] 23))).cell (i := 2) rfl
      go_wp2_with fail
      clear bx0 bx1 bx2
      go_ret
      exact ⟨rfl, below_next BW.out (Joins.below_alloc1 _ _)⟩
    · skip
      have CNX := Lib.hid (fun W h => Number_out hok W h)
      clear hok
      go_enter Tryd.func6, Tryd.ntmps6
      go_wp2_with fail
      have BX := Lib.hid (row_new w 23 [.int .i64 xy, .int .i64 xm, .int .i64 xd])
      replace BW := Lib.hid (below_next BW.out (Joins.below_alloc1 w (.cells #[.int .i64 xy, .int .i64 xm, .int .i64 xd] 23)))
      replace TB := Lib.hid (TB.out.keep (Joins.below_alloc1 w (.cells #[.int .i64 xy, .int .i64 xm, .int .i64 xd] 23)))
      have hsw1 : (w.alloc (.cells #[.int .i64 xy, .int .i64 xm, .int .i64 xd] 23)).heap.size = w.heap.size + 1 := World.size_alloc ..
      generalize w.alloc (.cells #[.int .i64 xy, .int .i64 xm, .int .i64 xd] 23) = w1 at *
      refine (CSA.out _ TB.out).mono ?_
      rintro e w2 ⟨rfl, hb⟩
      replace BW := Lib.hid (below_next BW.out hb)
      replace TB := Lib.hid (TB.out.keep hb)
      replace BX := Lib.hid (BX.out.keep hb)
      clear hb
      have bx0 := BX.out.cell (i := 0) rfl
      have bx1 := BX.out.cell (i := 1) rfl
      have bx2 := BX.out.cell (i := 2) rfl
      go_wp2_with fail
      clear bx0 bx1 bx2
      refine (CNX.out _ TB.out).mono ?_
      rintro e w3 ⟨rfl, hb⟩
      replace BW := Lib.hid (below_next BW.out hb)
      replace TB := Lib.hid (TB.out.keep hb)
      replace BX := Lib.hid (BX.out.keep hb)
      clear hb
      go_wp2_with fail
      go_ret
      exact ⟨rfl, BW.out⟩
  · skip
    have f0 : decide (n < 0) = false := by simpa using r0
    by_cases r1 : 73048 < n
    · skip
      have f1 : decide ((73048 : Int) < n) = true := by simpa using r1
      clear r1
      by_cases hok : Dt.ok ⟨xy, xm, xd⟩
      · skip
        have CNX := Lib.hid (fun W h => Number_in hok W h)
        have COX := Lib.hid (fun W h => Of_lit (n := Dt.num ⟨xy, xm, xd⟩) (y := xy) (m := xm) (d := xd) (by unfold IsOf; rw [if_pos (by unfold isDayB; simpa using Dt.rng hok)]; exact ⟨hok, rfl⟩) W h)
        rw [show ofE (Dt.num ⟨xy, xm, xd⟩) = 0 by unfold ofE; rw [if_pos (by unfold isDayB; simpa using Dt.rng hok)]] at COX
        have k1 : decide (Dt.num ⟨xy, xm, xd⟩ < 0) = false := decide_eq_false (by have := Dt.rng hok; omega)
        have k2 : decide ((73048 : Int) < Dt.num ⟨xy, xm, xd⟩) = false := decide_eq_false (by have := Dt.rng hok; omega)
        generalize Dt.num ⟨xy, xm, xd⟩ = k0 at *
        have hqx := fun W => neq_date xy xm xd xy xm xd W
        rw [show (!((xy == xy) && ((xm == xm) && (xd == xd)))) = false by simp] at hqx
        have hgx := fun op x y W => guard_date op x y xy xm xd xy xm xd W
        clear hok
        go_enter Tryd.func6, Tryd.ntmps6
        go_wp2_with fail
        have BX := Lib.hid (row_new w 23 [.int .i64 xy, .int .i64 xm, .int .i64 xd])
        replace BW := Lib.hid (below_next BW.out (Joins.below_alloc1 w (.cells #[.int .i64 xy, .int .i64 xm, .int .i64 xd] 23)))
        replace TB := Lib.hid (TB.out.keep (Joins.below_alloc1 w (.cells #[.int .i64 xy, .int .i64 xm, .int .i64 xd] 23)))
        have hsw1 : (w.alloc (.cells #[.int .i64 xy, .int .i64 xm, .int .i64 xd] 23)).heap.size = w.heap.size + 1 := World.size_alloc ..
        generalize w.alloc (.cells #[.int .i64 xy, .int .i64 xm, .int .i64 xd] 23) = w1 at *
        refine (CSA.out _ TB.out).mono ?_
        rintro e w2 ⟨rfl, hb⟩
        replace BW := Lib.hid (below_next BW.out hb)
        replace TB := Lib.hid (TB.out.keep hb)
        replace BX := Lib.hid (BX.out.keep hb)
        clear hb
        have bx0 := BX.out.cell (i := 0) rfl
        have bx1 := BX.out.cell (i := 1) rfl
        have bx2 := BX.out.cell (i := 2) rfl
        go_wp2_with fail
        clear bx0 bx1 bx2
        refine (CNX.out _ TB.out).mono ?_
        rintro e w3 ⟨rfl, hb⟩
        replace BW := Lib.hid (below_next BW.out hb)
        replace TB := Lib.hid (TB.out.keep hb)
        replace BX := Lib.hid (BX.out.keep hb)
        clear hb
        go_wp2_with fail
        refine (COX.out _ TB.out).mono ?_
        rintro e w4 ⟨rfl, hb⟩
        replace BW := Lib.hid (below_next BW.out hb)
        replace TB := Lib.hid (TB.out.keep hb)
        replace BX := Lib.hid (BX.out.keep hb)
        clear hb
        have bx0 := (BX.out.keep (Joins.below_alloc1 w4 (.cells #[.int .i64 xy, .int .i64 xm, .int .i64 xd] 23))).cell (i := 0) rfl
        have bx1 := (BX.out.keep (Joins.below_alloc1 w4 (.cells #[.int .i64 xy, .int .i64 xm, .int .i64 xd] 23))).cell (i := 1) rfl
        have bx2 := (BX.out.keep (Joins.below_alloc1 w4 (.cells #[.int .i64 xy, .int .i64 xm, .int .i64 xd] 23))).cell (i := 2) rfl
        go_wp2_with fail
        clear bx0 bx1 bx2
        go_ret
        exact ⟨rfl, below_next BW.out (Joins.below_alloc1 _ _)⟩
      · skip
        have CNX := Lib.hid (fun W h => Number_out hok W h)
        clear hok
        go_enter Tryd.func6, Tryd.ntmps6
        go_wp2_with fail
        have BX := Lib.hid (row_new w 23 [.int .i64 xy, .int .i64 xm, .int .i64 xd])
        replace BW := Lib.hid (below_next BW.out (Joins.below_alloc1 w (.cells #[.int .i64 xy, .int .i64 xm, .int .i64 xd] 23)))
        replace TB := Lib.hid (TB.out.keep (Joins.below_alloc1 w (.cells #[.int .i64 xy, .int .i64 xm, .int .i64 xd] 23)))
        have hsw1 : (w.alloc (.cells #[.int .i64 xy, .int .i64 xm, .int .i64 xd] 23)).heap.size = w.heap.size + 1 := World.size_alloc ..
        generalize w.alloc (.cells #[.int .i64 xy, .int .i64 xm, .int .i64 xd] 23) = w1 at *
        refine (CSA.out _ TB.out).mono ?_
        rintro e w2 ⟨rfl, hb⟩
        replace BW := Lib.hid (below_next BW.out hb)
        replace TB := Lib.hid (TB.out.keep hb)
        replace BX := Lib.hid (BX.out.keep hb)
        clear hb
        have bx0 := BX.out.cell (i := 0) rfl
        have bx1 := BX.out.cell (i := 1) rfl
        have bx2 := BX.out.cell (i := 2) rfl
        go_wp2_with fail
        clear bx0 bx1 bx2
        refine (CNX.out _ TB.out).mono ?_
        rintro e w3 ⟨rfl, hb⟩
        replace BW := Lib.hid (below_next BW.out hb)
        replace TB := Lib.hid (TB.out.keep hb)
        replace BX := Lib.hid (BX.out.keep hb)
        clear hb
        go_wp2_with fail
        go_ret
        exact ⟨rfl, BW.out⟩
    · skip
      have f1 : decide ((73048 : Int) < n) = false := by simpa using r1
      by_cases r2 : m < 0
      · skip
        have f2 : decide (m < 0) = true := by simpa using r2
        clear r2
        by_cases hok : Dt.ok ⟨xy, xm, xd⟩
        · skip
          have CNX := Lib.hid (fun W h => Number_in hok W h)
          have COX := Lib.hid (fun W h => Of_lit (n := Dt.num ⟨xy, xm, xd⟩) (y := xy) (m := xm) (d := xd) (by unfold IsOf; rw [if_pos (by unfold isDayB; simpa using Dt.rng hok)]; exact ⟨hok, rfl⟩) W h)
          rw [show ofE (Dt.num ⟨xy, xm, xd⟩) = 0 by unfold ofE; rw [if_pos (by unfold isDayB; simpa using Dt.rng hok)]] at COX
          have k1 : decide (Dt.num ⟨xy, xm, xd⟩ < 0) = false := decide_eq_false (by have := Dt.rng hok; omega)
          have k2 : decide ((73048 : Int) < Dt.num ⟨xy, xm, xd⟩) = false := decide_eq_false (by have := Dt.rng hok; omega)
          generalize Dt.num ⟨xy, xm, xd⟩ = k0 at *
          have hqx := fun W => neq_date xy xm xd xy xm xd W
          rw [show (!((xy == xy) && ((xm == xm) && (xd == xd)))) = false by simp] at hqx
          have hgx := fun op x y W => guard_date op x y xy xm xd xy xm xd W
          clear hok
          go_enter Tryd.func6, Tryd.ntmps6
          go_wp2_with fail
          have BX := Lib.hid (row_new w 23 [.int .i64 xy, .int .i64 xm, .int .i64 xd])
          replace BW := Lib.hid (below_next BW.out (Joins.below_alloc1 w (.cells #[.int .i64 xy, .int .i64 xm, .int .i64 xd] 23)))
          replace TB := Lib.hid (TB.out.keep (Joins.below_alloc1 w (.cells #[.int .i64 xy, .int .i64 xm, .int .i64 xd] 23)))
          have hsw1 : (w.alloc (.cells #[.int .i64 xy, .int .i64 xm, .int .i64 xd] 23)).heap.size = w.heap.size + 1 := World.size_alloc ..
          generalize w.alloc (.cells #[.int .i64 xy, .int .i64 xm, .int .i64 xd] 23) = w1 at *
          refine (CSA.out _ TB.out).mono ?_
          rintro e w2 ⟨rfl, hb⟩
          replace BW := Lib.hid (below_next BW.out hb)
          replace TB := Lib.hid (TB.out.keep hb)
          replace BX := Lib.hid (BX.out.keep hb)
          clear hb
          have bx0 := BX.out.cell (i := 0) rfl
          have bx1 := BX.out.cell (i := 1) rfl
          have bx2 := BX.out.cell (i := 2) rfl
          go_wp2_with fail
          clear bx0 bx1 bx2
          refine (CNX.out _ TB.out).mono ?_
          rintro e w3 ⟨rfl, hb⟩
          replace BW := Lib.hid (below_next BW.out hb)
          replace TB := Lib.hid (TB.out.keep hb)
          replace BX := Lib.hid (BX.out.keep hb)
          clear hb
          go_wp2_with fail
          refine (COX.out _ TB.out).mono ?_
          rintro e w4 ⟨rfl, hb⟩
          replace BW := Lib.hid (below_next BW.out hb)
          replace TB := Lib.hid (TB.out.keep hb)
          replace BX := Lib.hid (BX.out.keep hb)
          clear hb
          have bx0 := (BX.out.keep (Joins.below_alloc1 w4 (.cells #[.int .i64 xy, .int .i64 xm, .int .i64 xd] 23))).cell (i := 0) rfl
          have bx1 := (BX.out.keep (Joins.below_alloc1 w4 (.cells #[.int .i64 xy, .int .i64 xm, .int .i64 xd] 23))).cell (i := 1) rfl
          have bx2 := (BX.out.keep (Joins.below_alloc1 w4 (.cells #[.int .i64 xy, .int .i64 xm, .int .i64 xd] 23))).cell (i := 2) rfl
          go_wp2_with fail
          clear bx0 bx1 bx2
          go_ret
          exact ⟨rfl, below_next BW.out (Joins.below_alloc1 _ _)⟩
        · skip
          have CNX := Lib.hid (fun W h => Number_out hok W h)
          clear hok
          go_enter Tryd.func6, Tryd.ntmps6
          go_wp2_with fail
          have BX := Lib.hid (row_new w 23 [.int .i64 xy, .int .i64 xm, .int .i64 xd])
          replace BW := Lib.hid (below_next BW.out (Joins.below_alloc1 w (.cells #[.int .i64 xy, .int .i64 xm, .int .i64 xd] 23)))
          replace TB := Lib.hid (TB.out.keep (Joins.below_alloc1 w (.cells #[.int .i64 xy, .int .i64 xm, .int .i64 xd] 23)))
          have hsw1 : (w.alloc (.cells #[.int .i64 xy, .int .i64 xm, .int .i64 xd] 23)).heap.size = w.heap.size + 1 := World.size_alloc ..
          generalize w.alloc (.cells #[.int .i64 xy, .int .i64 xm, .int .i64 xd] 23) = w1 at *
          refine (CSA.out _ TB.out).mono ?_
          rintro e w2 ⟨rfl, hb⟩
          replace BW := Lib.hid (below_next BW.out hb)
          replace TB := Lib.hid (TB.out.keep hb)
          replace BX := Lib.hid (BX.out.keep hb)
          clear hb
          have bx0 := BX.out.cell (i := 0) rfl
          have bx1 := BX.out.cell (i := 1) rfl
          have bx2 := BX.out.cell (i := 2) rfl
          go_wp2_with fail
          clear bx0 bx1 bx2
          refine (CNX.out _ TB.out).mono ?_
          rintro e w3 ⟨rfl, hb⟩
          replace BW := Lib.hid (below_next BW.out hb)
          replace TB := Lib.hid (TB.out.keep hb)
          replace BX := Lib.hid (BX.out.keep hb)
          clear hb
          go_wp2_with fail
          go_ret
          exact ⟨rfl, BW.out⟩
      · skip
        have f2 : decide (m < 0) = false := by simpa using r2
        by_cases r3 : 73048 < m
        · skip
          have f3 : decide ((73048 : Int) < m) = true := by simpa using r3
          clear r3
          by_cases hok : Dt.ok ⟨xy, xm, xd⟩
          · skip
            have CNX := Lib.hid (fun W h => Number_in hok W h)
            have COX := Lib.hid (fun W h => Of_lit (n := Dt.num ⟨xy, xm, xd⟩) (y := xy) (m := xm) (d := xd) (by unfold IsOf; rw [if_pos (by unfold isDayB; simpa using Dt.rng hok)]; exact ⟨hok, rfl⟩) W h)
            rw [show ofE (Dt.num ⟨xy, xm, xd⟩) = 0 by unfold ofE; rw [if_pos (by unfold isDayB; simpa using Dt.rng hok)]] at COX
            have k1 : decide (Dt.num ⟨xy, xm, xd⟩ < 0) = false := decide_eq_false (by have := Dt.rng hok; omega)
            have k2 : decide ((73048 : Int) < Dt.num ⟨xy, xm, xd⟩) = false := decide_eq_false (by have := Dt.rng hok; omega)
            generalize Dt.num ⟨xy, xm, xd⟩ = k0 at *
            have hqx := fun W => neq_date xy xm xd xy xm xd W
            rw [show (!((xy == xy) && ((xm == xm) && (xd == xd)))) = false by simp] at hqx
            have hgx := fun op x y W => guard_date op x y xy xm xd xy xm xd W
            clear hok
            go_enter Tryd.func6, Tryd.ntmps6
            go_wp2_with fail
            have BX := Lib.hid (row_new w 23 [.int .i64 xy, .int .i64 xm, .int .i64 xd])
            replace BW := Lib.hid (below_next BW.out (Joins.below_alloc1 w (.cells #[.int .i64 xy, .int .i64 xm, .int .i64 xd] 23)))
            replace TB := Lib.hid (TB.out.keep (Joins.below_alloc1 w (.cells #[.int .i64 xy, .int .i64 xm, .int .i64 xd] 23)))
            have hsw1 : (w.alloc (.cells #[.int .i64 xy, .int .i64 xm, .int .i64 xd] 23)).heap.size = w.heap.size + 1 := World.size_alloc ..
            generalize w.alloc (.cells #[.int .i64 xy, .int .i64 xm, .int .i64 xd] 23) = w1 at *
            refine (CSA.out _ TB.out).mono ?_
            rintro e w2 ⟨rfl, hb⟩
            replace BW := Lib.hid (below_next BW.out hb)
            replace TB := Lib.hid (TB.out.keep hb)
            replace BX := Lib.hid (BX.out.keep hb)
            clear hb
            have bx0 := BX.out.cell (i := 0) rfl
            have bx1 := BX.out.cell (i := 1) rfl
            have bx2 := BX.out.cell (i := 2) rfl
            go_wp2_with fail
            clear bx0 bx1 bx2
            refine (CNX.out _ TB.out).mono ?_
            rintro e w3 ⟨rfl, hb⟩
            replace BW := Lib.hid (below_next BW.out hb)
            replace TB := Lib.hid (TB.out.keep hb)
            replace BX := Lib.hid (BX.out.keep hb)
            clear hb
            go_wp2_with fail
            refine (COX.out _ TB.out).mono ?_
            rintro e w4 ⟨rfl, hb⟩
            replace BW := Lib.hid (below_next BW.out hb)
            replace TB := Lib.hid (TB.out.keep hb)
            replace BX := Lib.hid (BX.out.keep hb)
            clear hb
            have bx0 := (BX.out.keep (Joins.below_alloc1 w4 (.cells #[.int .i64 xy, .int .i64 xm, .int .i64 xd] 23))).cell (i := 0) rfl
            have bx1 := (BX.out.keep (Joins.below_alloc1 w4 (.cells #[.int .i64 xy, .int .i64 xm, .int .i64 xd] 23))).cell (i := 1) rfl
            have bx2 := (BX.out.keep (Joins.below_alloc1 w4 (.cells #[.int .i64 xy, .int .i64 xm, .int .i64 xd] 23))).cell (i := 2) rfl
            go_wp2_with fail
            clear bx0 bx1 bx2
            go_ret
            exact ⟨rfl, below_next BW.out (Joins.below_alloc1 _ _)⟩
          · skip
            have CNX := Lib.hid (fun W h => Number_out hok W h)
            clear hok
            go_enter Tryd.func6, Tryd.ntmps6
            go_wp2_with fail
            have BX := Lib.hid (row_new w 23 [.int .i64 xy, .int .i64 xm, .int .i64 xd])
            replace BW := Lib.hid (below_next BW.out (Joins.below_alloc1 w (.cells #[.int .i64 xy, .int .i64 xm, .int .i64 xd] 23)))
            replace TB := Lib.hid (TB.out.keep (Joins.below_alloc1 w (.cells #[.int .i64 xy, .int .i64 xm, .int .i64 xd] 23)))
            have hsw1 : (w.alloc (.cells #[.int .i64 xy, .int .i64 xm, .int .i64 xd] 23)).heap.size = w.heap.size + 1 := World.size_alloc ..
            generalize w.alloc (.cells #[.int .i64 xy, .int .i64 xm, .int .i64 xd] 23) = w1 at *
            refine (CSA.out _ TB.out).mono ?_
            rintro e w2 ⟨rfl, hb⟩
            replace BW := Lib.hid (below_next BW.out hb)
            replace TB := Lib.hid (TB.out.keep hb)
            replace BX := Lib.hid (BX.out.keep hb)
            clear hb
            have bx0 := BX.out.cell (i := 0) rfl
            have bx1 := BX.out.cell (i := 1) rfl
            have bx2 := BX.out.cell (i := 2) rfl
            go_wp2_with fail
            clear bx0 bx1 bx2
            refine (CNX.out _ TB.out).mono ?_
            rintro e w3 ⟨rfl, hb⟩
            replace BW := Lib.hid (below_next BW.out hb)
            replace TB := Lib.hid (TB.out.keep hb)
            replace BX := Lib.hid (BX.out.keep hb)
            clear hb
            go_wp2_with fail
            go_ret
            exact ⟨rfl, BW.out⟩
        · skip
          have f3 : decide ((73048 : Int) < m) = false := by simpa using r3
          have CON := Lib.hid (fun W h => Of_in (n := n) (by omega) W h)
          have COM := Lib.hid (fun W h => Of_in (n := m) (by omega) W h)
          have s1 : (n != n) = false := by simp
          by_cases hl : n = 73048
          · skip
            have g0 : (n == 73048) = true := by simpa using hl
            have g1 : ((73048 : Int) == 73048) = true := rfl
            subst hl
            clear r0 r1 r2 r3
            by_cases hok : Dt.ok ⟨xy, xm, xd⟩
            · skip
              have CNX := Lib.hid (fun W h => Number_in hok W h)
              have COX := Lib.hid (fun W h => Of_lit (n := Dt.num ⟨xy, xm, xd⟩) (y := xy) (m := xm) (d := xd) (by unfold IsOf; rw [if_pos (by unfold isDayB; simpa using Dt.rng hok)]; exact ⟨hok, rfl⟩) W h)
              rw [show ofE (Dt.num ⟨xy, xm, xd⟩) = 0 by unfold ofE; rw [if_pos (by unfold isDayB; simpa using Dt.rng hok)]] at COX
              have k1 : decide (Dt.num ⟨xy, xm, xd⟩ < 0) = false := decide_eq_false (by have := Dt.rng hok; omega)
              have k2 : decide ((73048 : Int) < Dt.num ⟨xy, xm, xd⟩) = false := decide_eq_false (by have := Dt.rng hok; omega)
              generalize Dt.num ⟨xy, xm, xd⟩ = k0 at *
              have hqx := fun W => neq_date xy xm xd xy xm xd W
              rw [show (!((xy == xy) && ((xm == xm) && (xd == xd)))) = false by simp] at hqx
              have hgx := fun op x y W => guard_date op x y xy xm xd xy xm xd W
              clear hok
              go_enter Tryd.func6, Tryd.ntmps6
              go_wp2_with fail
              have BX := Lib.hid (row_new w 23 [.int .i64 xy, .int .i64 xm, .int .i64 xd])
              replace BW := Lib.hid (below_next BW.out (Joins.below_alloc1 w (.cells #[.int .i64 xy, .int .i64 xm, .int .i64 xd] 23)))
              replace TB := Lib.hid (TB.out.keep (Joins.below_alloc1 w (.cells #[.int .i64 xy, .int .i64 xm, .int .i64 xd] 23)))
              have hsw1 : (w.alloc (.cells #[.int .i64 xy, .int .i64 xm, .int .i64 xd] 23)).heap.size = w.heap.size + 1 := World.size_alloc ..
              generalize w.alloc (.cells #[.int .i64 xy, .int .i64 xm, .int .i64 xd] 23) = w1 at *
              refine (CSA.out _ TB.out).mono ?_
              rintro e w2 ⟨rfl, hb⟩
              replace BW := Lib.hid (below_next BW.out hb)
              replace TB := Lib.hid (TB.out.keep hb)
              replace BX := Lib.hid (BX.out.keep hb)
              clear hb
              have bx0 := BX.out.cell (i := 0) rfl
              have bx1 := BX.out.cell (i := 1) rfl
              have bx2 := BX.out.cell (i := 2) rfl
              go_wp2_with fail
              clear bx0 bx1 bx2
              refine (CNX.out _ TB.out).mono ?_
              rintro e w3 ⟨rfl, hb⟩
              replace BW := Lib.hid (below_next BW.out hb)
              replace TB := Lib.hid (TB.out.keep hb)
              replace BX := Lib.hid (BX.out.keep hb)
              clear hb
              go_wp2_with fail
              refine (COX.out _ TB.out).mono ?_
              rintro e w4 ⟨rfl, hb⟩
              replace BW := Lib.hid (below_next BW.out hb)
              replace TB := Lib.hid (TB.out.keep hb)
              replace BX := Lib.hid (BX.out.keep hb)
              clear hb
              have bx0 := (BX.out.keep (Joins.below_alloc1 w4 (.cells #[.int .i64 xy, .int .i64 xm, .int .i64 xd] 23))).cell (i := 0) rfl
              have bx1 := (BX.out.keep (Joins.below_alloc1 w4 (.cells #[.int .i64 xy, .int .i64 xm, .int .i64 xd] 23))).cell (i := 1) rfl
              have bx2 := (BX.out.keep (Joins.below_alloc1 w4 (.cells #[.int .i64 xy, .int .i64 xm, .int .i64 xd] 23))).cell (i := 2) rfl
              go_wp2_with fail
              clear bx0 bx1 bx2
              have D0 := Lib.hid (row_new w4 23 [.int .i64 xy, .int .i64 xm, .int .i64 xd])
              replace BW := Lib.hid (below_next BW.out (Joins.below_alloc1 w4 (.cells #[.int .i64 xy, .int .i64 xm, .int .i64 xd] 23)))
              replace TB := Lib.hid (TB.out.keep (Joins.below_alloc1 w4 (.cells #[.int .i64 xy, .int .i64 xm, .int .i64 xd] 23)))
              replace BX := Lib.hid (BX.out.keep (Joins.below_alloc1 w4 (.cells #[.int .i64 xy, .int .i64 xm, .int .i64 xd] 23)))
              have hsw5 : (w4.alloc (.cells #[.int .i64 xy, .int .i64 xm, .int .i64 xd] 23)).heap.size = w4.heap.size + 1 := World.size_alloc ..
              generalize w4.alloc (.cells #[.int .i64 xy, .int .i64 xm, .int .i64 xd] 23) = w5 at *
              refine (CON.out _ TB.out).mono ?_
              rintro e w6 ⟨⟨ay, am, ad, ha, rfl⟩, hb⟩
              replace BW := Lib.hid (below_next BW.out hb)
              replace TB := Lib.hid (TB.out.keep hb)
              replace BX := Lib.hid (BX.out.keep hb)
              replace D0 := Lib.hid (D0.out.keep hb)
              have HA := Lib.hid ha
              clear ha
              clear hb
              go_wp2_with fail
              have DA := Lib.hid (row_new w6 23 [.int .i64 ay, .int .i64 am, .int .i64 ad])
              replace BW := Lib.hid (below_next BW.out (Joins.below_alloc1 w6 (.cells #[.int .i64 ay, .int .i64 am, .int .i64 ad] 23)))
              replace TB := Lib.hid (TB.out.keep (Joins.below_alloc1 w6 (.cells #[.int .i64 ay, .int .i64 am, .int .i64 ad] 23)))
              replace BX := Lib.hid (BX.out.keep (Joins.below_alloc1 w6 (.cells #[.int .i64 ay, .int .i64 am, .int .i64 ad] 23)))
              replace D0 := Lib.hid (D0.out.keep (Joins.below_alloc1 w6 (.cells #[.int .i64 ay, .int .i64 am, .int .i64 ad] 23)))
              have hsw7 : (w6.alloc (.cells #[.int .i64 ay, .int .i64 am, .int .i64 ad] 23)).heap.size = w6.heap.size + 1 := World.size_alloc ..
              generalize w6.alloc (.cells #[.int .i64 ay, .int .i64 am, .int .i64 ad] 23) = w7 at *
              refine (COM.out _ TB.out).mono ?_
              rintro e w8 ⟨⟨cy, cm, cd, hc, rfl⟩, hb⟩
              replace BW := Lib.hid (below_next BW.out hb)
              replace TB := Lib.hid (TB.out.keep hb)
              replace BX := Lib.hid (BX.out.keep hb)
              replace D0 := Lib.hid (D0.out.keep hb)
              replace DA := Lib.hid (DA.out.keep hb)
              have HC := Lib.hid hc
              clear hc
              clear hb
              have da0 := (DA.out.keep (Joins.below_alloc1 w8 (.cells #[.int .i64 cy, .int .i64 cm, .int .i64 cd] 23))).cell (i := 0) rfl
              have da1 := (DA.out.keep (Joins.below_alloc1 w8 (.cells #[.int .i64 cy, .int .i64 cm, .int .i64 cd] 23))).cell (i := 1) rfl
              have da2 := (DA.out.keep (Joins.below_alloc1 w8 (.cells #[.int .i64 cy, .int .i64 cm, .int .i64 cd] 23))).cell (i := 2) rfl
              go_wp2_with fail
              clear da0 da1 da2
              have DC := Lib.hid (row_new w8 23 [.int .i64 cy, .int .i64 cm, .int .i64 cd])
              replace BW := Lib.hid (below_next BW.out (Joins.below_alloc1 w8 (.cells #[.int .i64 cy, .int .i64 cm, .int .i64 cd] 23)))
              replace TB := Lib.hid (TB.out.keep (Joins.below_alloc1 w8 (.cells #[.int .i64 cy, .int .i64 cm, .int .i64 cd] 23)))
              replace BX := Lib.hid (BX.out.keep (Joins.below_alloc1 w8 (.cells #[.int .i64 cy, .int .i64 cm, .int .i64 cd] 23)))
              replace D0 := Lib.hid (D0.out.keep (Joins.below_alloc1 w8 (.cells #[.int .i64 cy, .int .i64 cm, .int .i64 cd] 23)))
              replace DA := Lib.hid (DA.out.keep (Joins.below_alloc1 w8 (.cells #[.int .i64 cy, .int .i64 cm, .int .i64 cd] 23)))
              have hsw9 : (w8.alloc (.cells #[.int .i64 cy, .int .i64 cm, .int .i64 cd] 23)).heap.size = w8.heap.size + 1 := World.size_alloc ..
              generalize w8.alloc (.cells #[.int .i64 cy, .int .i64 cm, .int .i64 cd] 23) = w9 at *
              have CNA := Lib.hid (fun W h => Number_in HA.out.1 W h)
              rw [HA.out.2] at CNA
              have CLE := Lib.hid (fun W => less_call ⟨ay, am, ad⟩ ⟨cy, cm, cd⟩ W)
              rw [Dt.less_num HA.out.1 HC.out.1, HA.out.2, HC.out.2] at CLE
              unfold Dt.v at CLE
              refine (CNA.out _ TB.out).mono ?_
              rintro e w10 ⟨rfl, hb⟩
              replace BW := Lib.hid (below_next BW.out hb)
              replace TB := Lib.hid (TB.out.keep hb)
              replace BX := Lib.hid (BX.out.keep hb)
              replace D0 := Lib.hid (D0.out.keep hb)
              replace DA := Lib.hid (DA.out.keep hb)
              replace DC := Lib.hid (DC.out.keep hb)
              clear hb
              have da0 := DA.out.cell (i := 0) rfl
              have da1 := DA.out.cell (i := 1) rfl
              have da2 := DA.out.cell (i := 2) rfl
              have dc0 := DC.out.cell (i := 0) rfl
              have dc1 := DC.out.cell (i := 1) rfl
              have dc2 := DC.out.cell (i := 2) rfl
              go_wp2_with fail
              clear da0 da1 da2
              clear dc0 dc1 dc2
              refine (CLE.out _).mono ?_
              rintro e w11 ⟨rfl, hb⟩
              replace BW := Lib.hid (below_next BW.out hb)
              replace TB := Lib.hid (TB.out.keep hb)
              replace BX := Lib.hid (BX.out.keep hb)
              replace D0 := Lib.hid (D0.out.keep hb)
              replace DA := Lib.hid (DA.out.keep hb)
              replace DC := Lib.hid (DC.out.keep hb)
              clear hb
              obtain ⟨rfl, rfl, rfl⟩ := Dt.mk.inj (Dt.inj HA.out.1 (show Dt.ok ⟨2199, 12, 31⟩ by decide) (HA.out.2.trans (by decide)))
              have da0 := DA.out.cell (i := 0) rfl
              have da1 := DA.out.cell (i := 1) rfl
              have da2 := DA.out.cell (i := 2) rfl
              have hq := fun W => eql_date 2199 12 31 2199 12 31 W
              rw [show (((2199 : Int) == 2199) && (((12 : Int) == 12) && ((31 : Int) == 31))) = true by decide] at hq
              have hg := fun op x y W => guard_date op x y 2199 12 31 2199 12 31 W
              go_wp2_with fail
              go_ret
              exact ⟨rfl, BW.out⟩
            · skip
              have CNX := Lib.hid (fun W h => Number_out hok W h)
              clear hok
              go_enter Tryd.func6, Tryd.ntmps6
              go_wp2_with fail
              have BX := Lib.hid (row_new w 23 [.int .i64 xy, .int .i64 xm, .int .i64 xd])
              replace BW := Lib.hid (below_next BW.out (Joins.below_alloc1 w (.cells #[.int .i64 xy, .int .i64 xm, .int .i64 xd] 23)))
              replace TB := Lib.hid (TB.out.keep (Joins.below_alloc1 w (.cells #[.int .i64 xy, .int .i64 xm, .int .i64 xd] 23)))
              have hsw1 : (w.alloc (.cells #[.int .i64 xy, .int .i64 xm, .int .i64 xd] 23)).heap.size = w.heap.size + 1 := World.size_alloc ..
              generalize w.alloc (.cells #[.int .i64 xy, .int .i64 xm, .int .i64 xd] 23) = w1 at *
              refine (CSA.out _ TB.out).mono ?_
              rintro e w2 ⟨rfl, hb⟩
              replace BW := Lib.hid (below_next BW.out hb)
              replace TB := Lib.hid (TB.out.keep hb)
              replace BX := Lib.hid (BX.out.keep hb)
              clear hb
              have bx0 := BX.out.cell (i := 0) rfl
              have bx1 := BX.out.cell (i := 1) rfl
              have bx2 := BX.out.cell (i := 2) rfl
              go_wp2_with fail
              clear bx0 bx1 bx2
              refine (CNX.out _ TB.out).mono ?_
              rintro e w3 ⟨rfl, hb⟩
              replace BW := Lib.hid (below_next BW.out hb)
              replace TB := Lib.hid (TB.out.keep hb)
              replace BX := Lib.hid (BX.out.keep hb)
              clear hb
              go_wp2_with fail
              refine (CON.out _ TB.out).mono ?_
              rintro e w4 ⟨⟨ay, am, ad, ha, rfl⟩, hb⟩
              replace BW := Lib.hid (below_next BW.out hb)
              replace TB := Lib.hid (TB.out.keep hb)
              replace BX := Lib.hid (BX.out.keep hb)
              have HA := Lib.hid ha
              clear ha
              clear hb
              go_wp2_with fail
              have DA := Lib.hid (row_new w4 23 [.int .i64 ay, .int .i64 am, .int .i64 ad])
              replace BW := Lib.hid (below_next BW.out (Joins.below_alloc1 w4 (.cells #[.int .i64 ay, .int .i64 am, .int .i64 ad] 23)))
              replace TB := Lib.hid (TB.out.keep (Joins.below_alloc1 w4 (.cells #[.int .i64 ay, .int .i64 am, .int .i64 ad] 23)))
              replace BX := Lib.hid (BX.out.keep (Joins.below_alloc1 w4 (.cells #[.int .i64 ay, .int .i64 am, .int .i64 ad] 23)))
              have hsw5 : (w4.alloc (.cells #[.int .i64 ay, .int .i64 am, .int .i64 ad] 23)).heap.size = w4.heap.size + 1 := World.size_alloc ..
              generalize w4.alloc (.cells #[.int .i64 ay, .int .i64 am, .int .i64 ad] 23) = w5 at *
              refine (COM.out _ TB.out).mono ?_
              rintro e w6 ⟨⟨cy, cm, cd, hc, rfl⟩, hb⟩
              replace BW := Lib.hid (below_next BW.out hb)
              replace TB := Lib.hid (TB.out.keep hb)
              replace BX := Lib.hid (BX.out.keep hb)
              replace DA := Lib.hid (DA.out.keep hb)
              have HC := Lib.hid hc
              clear hc
              clear hb
              have da0 := (DA.out.keep (Joins.below_alloc1 w6 (.cells #[.int .i64 cy, .int .i64 cm, .int .i64 cd] 23))).cell (i := 0) rfl
              have da1 := (DA.out.keep (Joins.below_alloc1 w6 (.cells #[.int .i64 cy, .int .i64 cm, .int .i64 cd] 23))).cell (i := 1) rfl
              have da2 := (DA.out.keep (Joins.below_alloc1 w6 (.cells #[.int .i64 cy, .int .i64 cm, .int .i64 cd] 23))).cell (i := 2) rfl
              go_wp2_with fail
              clear da0 da1 da2
              have DC := Lib.hid (row_new w6 23 [.int .i64 cy, .int .i64 cm, .int .i64 cd])
              replace BW := Lib.hid (below_next BW.out (Joins.below_alloc1 w6 (.cells #[.int .i64 cy, .int .i64 cm, .int .i64 cd] 23)))
              replace TB := Lib.hid (TB.out.keep (Joins.below_alloc1 w6 (.cells #[.int .i64 cy, .int .i64 cm, .int .i64 cd] 23)))
              replace BX := Lib.hid (BX.out.keep (Joins.below_alloc1 w6 (.cells #[.int .i64 cy, .int .i64 cm, .int .i64 cd] 23)))
              replace DA := Lib.hid (DA.out.keep (Joins.below_alloc1 w6 (.cells #[.int .i64 cy, .int .i64 cm, .int .i64 cd] 23)))
              have hsw7 : (w6.alloc (.cells #[.int .i64 cy, .int .i64 cm, .int .i64 cd] 23)).heap.size = w6.heap.size + 1 := World.size_alloc ..
              generalize w6.alloc (.cells #[.int .i64 cy, .int .i64 cm, .int .i64 cd] 23) = w7 at *
              have CNA := Lib.hid (fun W h => Number_in HA.out.1 W h)
              rw [HA.out.2] at CNA
              have CLE := Lib.hid (fun W => less_call ⟨ay, am, ad⟩ ⟨cy, cm, cd⟩ W)
              rw [Dt.less_num HA.out.1 HC.out.1, HA.out.2, HC.out.2] at CLE
              unfold Dt.v at CLE
              refine (CNA.out _ TB.out).mono ?_
              rintro e w8 ⟨rfl, hb⟩
              replace BW := Lib.hid (below_next BW.out hb)
              replace TB := Lib.hid (TB.out.keep hb)
              replace BX := Lib.hid (BX.out.keep hb)
              replace DA := Lib.hid (DA.out.keep hb)
              replace DC := Lib.hid (DC.out.keep hb)
              clear hb
              have da0 := DA.out.cell (i := 0) rfl
              have da1 := DA.out.cell (i := 1) rfl
              have da2 := DA.out.cell (i := 2) rfl
              have dc0 := DC.out.cell (i := 0) rfl
              have dc1 := DC.out.cell (i := 1) rfl
              have dc2 := DC.out.cell (i := 2) rfl
              go_wp2_with fail
              clear da0 da1 da2
              clear dc0 dc1 dc2
              refine (CLE.out _).mono ?_
              rintro e w9 ⟨rfl, hb⟩
              replace BW := Lib.hid (below_next BW.out hb)
              replace TB := Lib.hid (TB.out.keep hb)
              replace BX := Lib.hid (BX.out.keep hb)
              replace DA := Lib.hid (DA.out.keep hb)
              replace DC := Lib.hid (DC.out.keep hb)
              clear hb
              obtain ⟨rfl, rfl, rfl⟩ := Dt.mk.inj (Dt.inj HA.out.1 (show Dt.ok ⟨2199, 12, 31⟩ by decide) (HA.out.2.trans (by decide)))
              have da0 := DA.out.cell (i := 0) rfl
              have da1 := DA.out.cell (i := 1) rfl
              have da2 := DA.out.cell (i := 2) rfl
              have hq := fun W => eql_date 2199 12 31 2199 12 31 W
              rw [show (((2199 : Int) == 2199) && (((12 : Int) == 12) && ((31 : Int) == 31))) = true by decide] at hq
              have hg := fun op x y W => guard_date op x y 2199 12 31 2199 12 31 W
              go_wp2_with fail
              go_ret
              exact ⟨rfl, BW.out⟩
          · skip
            have g0 : (n == 73048) = false := by simpa using hl
            have hwn : IntKind.i64.wrap (n + 1) = n + 1 := by rw [IntKind.wrap_i64]; omega
            have CO1 := Lib.hid (fun W h => Of_in (n := n + 1) (by omega) W h)
            have CW0 := Lib.hid (fun W => Week_in (n := n) (by omega) W)
            have CW1 := Lib.hid (fun W => Week_in (n := n + 1) (by omega) W)
            have hv1 : ((n + 5) % 7 + 1) % 7 = (n + 1 + 5) % 7 := by omega
            have hv0 : 0 ≤ (n + 5) % 7 ∧ (n + 5) % 7 ≤ 6 := by omega
            generalize (n + 5) % 7 = v0 at *
            generalize (n + 1 + 5) % 7 = v1 at *
            obtain ⟨hv2, hv3⟩ := hv0
            have hv4 : (v0 + 1).tmod 7 = v1 := by rw [Int.tmod_eq_emod_of_nonneg (by omega)]; exact hv1
            have s2 : (v1 != v1) = false := by simp
            have hwv : IntKind.i64.wrap (v0 + 1) = v0 + 1 := by rw [IntKind.wrap_i64]; omega
            clear r0 r1 r2 r3 hl
            by_cases hok : Dt.ok ⟨xy, xm, xd⟩
            · skip
              have CNX := Lib.hid (fun W h => Number_in hok W h)
              have COX := Lib.hid (fun W h => Of_lit (n := Dt.num ⟨xy, xm, xd⟩) (y := xy) (m := xm) (d := xd) (by unfold IsOf; rw [if_pos (by unfold isDayB; simpa using Dt.rng hok)]; exact ⟨hok, rfl⟩) W h)
              rw [show ofE (Dt.num ⟨xy, xm, xd⟩) = 0 by unfold ofE; rw [if_pos (by unfold isDayB; simpa using Dt.rng hok)]] at COX
              have k1 : decide (Dt.num ⟨xy, xm, xd⟩ < 0) = false := decide_eq_false (by have := Dt.rng hok; omega)
              have k2 : decide ((73048 : Int) < Dt.num ⟨xy, xm, xd⟩) = false := decide_eq_false (by have := Dt.rng hok; omega)
              generalize Dt.num ⟨xy, xm, xd⟩ = k0 at *
              have hqx := fun W => neq_date xy xm xd xy xm xd W
              rw [show (!((xy == xy) && ((xm == xm) && (xd == xd)))) = false by simp] at hqx
              have hgx := fun op x y W => guard_date op x y xy xm xd xy xm xd W
              clear hok
              go_enter Tryd.func6, Tryd.ntmps6
              go_wp2_with fail
              have BX := Lib.hid (row_new w 23 [.int .i64 xy, .int .i64 xm, .int .i64 xd])
              replace BW := Lib.hid (below_next BW.out (Joins.below_alloc1 w (.cells #[.int .i64 xy, .int .i64 xm, .int .i64 xd] 23)))
              replace TB := Lib.hid (TB.out.keep (Joins.below_alloc1 w (.cells #[.int .i64 xy, .int .i64 xm, .int .i64 xd] 23)))
              have hsw1 : (w.alloc (.cells #[.int .i64 xy, .int .i64 xm, .int .i64 xd] 23)).heap.size = w.heap.size + 1 := World.size_alloc ..
              generalize w.alloc (.cells #[.int .i64 xy, .int .i64 xm, .int .i64 xd] 23) = w1 at *
              refine (CSA.out _ TB.out).mono ?_
              rintro e w2 ⟨rfl, hb⟩
              replace BW := Lib.hid (below_next BW.out hb)
              replace TB := Lib.hid (TB.out.keep hb)
              replace BX := Lib.hid (BX.out.keep hb)
              clear hb
              have bx0 := BX.out.cell (i := 0) rfl
              have bx1 := BX.out.cell (i := 1) rfl
              have bx2 := BX.out.cell (i := 2) rfl
              go_wp2_with fail
              clear bx0 bx1 bx2
              refine (CNX.out _ TB.out).mono ?_
              rintro e w3 ⟨rfl, hb⟩
              replace BW := Lib.hid (below_next BW.out hb)
              replace TB := Lib.hid (TB.out.keep hb)
              replace BX := Lib.hid (BX.out.keep hb)
              clear hb
              go_wp2_with fail
              refine (COX.out _ TB.out).mono ?_
              rintro e w4 ⟨rfl, hb⟩
              replace BW := Lib.hid (below_next BW.out hb)
              replace TB := Lib.hid (TB.out.keep hb)
              replace BX := Lib.hid (BX.out.keep hb)
              clear hb
              have bx0 := (BX.out.keep (Joins.below_alloc1 w4 (.cells #[.int .i64 xy, .int .i64 xm, .int .i64 xd] 23))).cell (i := 0) rfl
              have bx1 := (BX.out.keep (Joins.below_alloc1 w4 (.cells #[.int .i64 xy, .int .i64 xm, .int .i64 xd] 23))).cell (i := 1) rfl
              have bx2 := (BX.out.keep (Joins.below_alloc1 w4 (.cells #[.int .i64 xy, .int .i64 xm, .int .i64 xd] 23))).cell (i := 2) rfl
              go_wp2_with fail
              clear bx0 bx1 bx2
              have D0 := Lib.hid (row_new w4 23 [.int .i64 xy, .int .i64 xm, .int .i64 xd])
              replace BW := Lib.hid (below_next BW.out (Joins.below_alloc1 w4 (.cells #[.int .i64 xy, .int .i64 xm, .int .i64 xd] 23)))
              replace TB := Lib.hid (TB.out.keep (Joins.below_alloc1 w4 (.cells #[.int .i64 xy, .int .i64 xm, .int .i64 xd] 23)))
              replace BX := Lib.hid (BX.out.keep (Joins.below_alloc1 w4 (.cells #[.int .i64 xy, .int .i64 xm, .int .i64 xd] 23)))
              have hsw5 : (w4.alloc (.cells #[.int .i64 xy, .int .i64 xm, .int .i64 xd] 23)).heap.size = w4.heap.size + 1 := World.size_alloc ..
              generalize w4.alloc (.cells #[.int .i64 xy, .int .i64 xm, .int .i64 xd] 23) = w5 at *
              refine (CON.out _ TB.out).mono ?_
              rintro e w6 ⟨⟨ay, am, ad, ha, rfl⟩, hb⟩
              replace BW := Lib.hid (below_next BW.out hb)
              replace TB := Lib.hid (TB.out.keep hb)
              replace BX := Lib.hid (BX.out.keep hb)
              replace D0 := Lib.hid (D0.out.keep hb)
              have HA := Lib.hid ha
              clear ha
              clear hb
              go_wp2_with fail
              have DA := Lib.hid (row_new w6 23 [.int .i64 ay, .int .i64 am, .int .i64 ad])
              replace BW := Lib.hid (below_next BW.out (Joins.below_alloc1 w6 (.cells #[.int .i64 ay, .int .i64 am, .int .i64 ad] 23)))
              replace TB := Lib.hid (TB.out.keep (Joins.below_alloc1 w6 (.cells #[.int .i64 ay, .int .i64 am, .int .i64 ad] 23)))
              replace BX := Lib.hid (BX.out.keep (Joins.below_alloc1 w6 (.cells #[.int .i64 ay, .int .i64 am, .int .i64 ad] 23)))
              replace D0 := Lib.hid (D0.out.keep (Joins.below_alloc1 w6 (.cells #[.int .i64 ay, .int .i64 am, .int .i64 ad] 23)))
              have hsw7 : (w6.alloc (.cells #[.int .i64 ay, .int .i64 am, .int .i64 ad] 23)).heap.size = w6.heap.size + 1 := World.size_alloc ..
              generalize w6.alloc (.cells #[.int .i64 ay, .int .i64 am, .int .i64 ad] 23) = w7 at *
              refine (COM.out _ TB.out).mono ?_
              rintro e w8 ⟨⟨cy, cm, cd, hc, rfl⟩, hb⟩
              replace BW := Lib.hid (below_next BW.out hb)
              replace TB := Lib.hid (TB.out.keep hb)
              replace BX := Lib.hid (BX.out.keep hb)
              replace D0 := Lib.hid (D0.out.keep hb)
              replace DA := Lib.hid (DA.out.keep hb)
              have HC := Lib.hid hc
              clear hc
              clear hb
              have da0 := (DA.out.keep (Joins.below_alloc1 w8 (.cells #[.int .i64 cy, .int .i64 cm, .int .i64 cd] 23))).cell (i := 0) rfl
              have da1 := (DA.out.keep (Joins.below_alloc1 w8 (.cells #[.int .i64 cy, .int .i64 cm, .int .i64 cd] 23))).cell (i := 1) rfl
              have da2 := (DA.out.keep (Joins.below_alloc1 w8 (.cells #[.int .i64 cy, .int .i64 cm, .int .i64 cd] 23))).cell (i := 2) rfl
              go_wp2_with fail
              clear da0 da1 da2
              have DC := Lib.hid (row_new w8 23 [.int .i64 cy, .int .i64 cm, .int .i64 cd])
              replace BW := Lib.hid (below_next BW.out (Joins.below_alloc1 w8 (.cells #[.int .i64 cy, .int .i64 cm, .int .i64 cd] 23)))
              replace TB := Lib.hid (TB.out.keep (Joins.below_alloc1 w8 (.cells #[.int .i64 cy, .int .i64 cm, .int .i64 cd] 23)))
              replace BX := Lib.hid (BX.out.keep (Joins.below_alloc1 w8 (.cells #[.int .i64 cy, .int .i64 cm, .int .i64 cd] 23)))
              replace D0 := Lib.hid (D0.out.keep (Joins.below_alloc1 w8 (.cells #[.int .i64 cy, .int .i64 cm, .int .i64 cd] 23)))
              replace DA := Lib.hid (DA.out.keep (Joins.below_alloc1 w8 (.cells #[.int .i64 cy, .int .i64 cm, .int .i64 cd] 23)))
              have hsw9 : (w8.alloc (.cells #[.int .i64 cy, .int .i64 cm, .int .i64 cd] 23)).heap.size = w8.heap.size + 1 := World.size_alloc ..
              generalize w8.alloc (.cells #[.int .i64 cy, .int .i64 cm, .int .i64 cd] 23) = w9 at *
              have CNA := Lib.hid (fun W h => Number_in HA.out.1 W h)
              rw [HA.out.2] at CNA
              have CLE := Lib.hid (fun W => less_call ⟨ay, am, ad⟩ ⟨cy, cm, cd⟩ W)
              rw [Dt.less_num HA.out.1 HC.out.1, HA.out.2, HC.out.2] at CLE
              unfold Dt.v at CLE
              refine (CNA.out _ TB.out).mono ?_
              rintro e w10 ⟨rfl, hb⟩
              replace BW := Lib.hid (below_next BW.out hb)
              replace TB := Lib.hid (TB.out.keep hb)
              replace BX := Lib.hid (BX.out.keep hb)
              replace D0 := Lib.hid (D0.out.keep hb)
              replace DA := Lib.hid (DA.out.keep hb)
              replace DC := Lib.hid (DC.out.keep hb)
              clear hb
              have da0 := DA.out.cell (i := 0) rfl
              have da1 := DA.out.cell (i := 1) rfl
              have da2 := DA.out.cell (i := 2) rfl
              have dc0 := DC.out.cell (i := 0) rfl
              have dc1 := DC.out.cell (i := 1) rfl
              have dc2 := DC.out.cell (i := 2) rfl
              go_wp2_with fail
              clear da0 da1 da2
              clear dc0 dc1 dc2
              refine (CLE.out _).mono ?_
              rintro e w11 ⟨rfl, hb⟩
              replace BW := Lib.hid (below_next BW.out hb)
              replace TB := Lib.hid (TB.out.keep hb)
              replace BX := Lib.hid (BX.out.keep hb)
              replace D0 := Lib.hid (D0.out.keep hb)
              replace DA := Lib.hid (DA.out.keep hb)
              replace DC := Lib.hid (DC.out.keep hb)
              clear hb
              go_wp2_with fail
              refine (CO1.out _ TB.out).mono ?_
              rintro e w12 ⟨⟨ey, em, ed, he, rfl⟩, hb⟩
              replace BW := Lib.hid (below_next BW.out hb)
              replace TB := Lib.hid (TB.out.keep hb)
              replace BX := Lib.hid (BX.out.keep hb)
              replace D0 := Lib.hid (D0.out.keep hb)
              replace DA := Lib.hid (DA.out.keep hb)
              replace DC := Lib.hid (DC.out.keep hb)
              have HE := Lib.hid he
              clear he
              clear hb
              go_wp2_with fail
              have DE := Lib.hid (row_new w12 23 [.int .i64 ey, .int .i64 em, .int .i64 ed])
              replace BW := Lib.hid (below_next BW.out (Joins.below_alloc1 w12 (.cells #[.int .i64 ey, .int .i64 em, .int .i64 ed] 23)))
              replace TB := Lib.hid (TB.out.keep (Joins.below_alloc1 w12 (.cells #[.int .i64 ey, .int .i64 em, .int .i64 ed] 23)))
              replace BX := Lib.hid (BX.out.keep (Joins.below_alloc1 w12 (.cells #[.int .i64 ey, .int .i64 em, .int .i64 ed] 23)))
              replace D0 := Lib.hid (D0.out.keep (Joins.below_alloc1 w12 (.cells #[.int .i64 ey, .int .i64 em, .int .i64 ed] 23)))
              replace DA := Lib.hid (DA.out.keep (Joins.below_alloc1 w12 (.cells #[.int .i64 ey, .int .i64 em, .int .i64 ed] 23)))
              replace DC := Lib.hid (DC.out.keep (Joins.below_alloc1 w12 (.cells #[.int .i64 ey, .int .i64 em, .int .i64 ed] 23)))
              have hsw13 : (w12.alloc (.cells #[.int .i64 ey, .int .i64 em, .int .i64 ed] 23)).heap.size = w12.heap.size + 1 := World.size_alloc ..
              generalize w12.alloc (.cells #[.int .i64 ey, .int .i64 em, .int .i64 ed] 23) = w13 at *
              refine (CW0.out _).mono ?_
              rintro e w21 ⟨rfl, rfl⟩
              go_wp2_with fail
              refine (CW1.out _).mono ?_
              rintro e w22 ⟨rfl, rfl⟩
              have hnx := Dt.next HA.out.1 HE.out.1 (HE.out.2.trans (by rw [HA.out.2]))
              simp only at hnx
              have da0 := DA.out.cell (i := 0) rfl
              have da1 := DA.out.cell (i := 1) rfl
              have da2 := DA.out.cell (i := 2) rfl
              have de0 := DE.out.cell (i := 0) rfl
              have de1 := DE.out.cell (i := 1) rfl
              have de2 := DE.out.cell (i := 2) rfl
              rcases hnx with ⟨h1, h2, h3, h4⟩ | ⟨h1, h2, h3, h4, h5⟩ | ⟨h1, h2, h3, h4, h5⟩
              · skip
                have hab : Hid (1 ≤ ad ∧ ad ≤ 31 ∧ 1 ≤ am ∧ am ≤ 12 ∧ 2000 ≤ ay ∧ ay ≤ 2199) := Lib.hid (dt_small HA.out.1)
                have hwd : IntKind.i64.wrap (ad + 1) = ad + 1 := by have := hab.out; rw [IntKind.wrap_i64]; omega
                have e8 : (ed != 1) = true := by simpa using h1
                subst h2
                subst h3
                subst h4
                clear h1
                go_wp2_with fail
                go_ret
                exact ⟨by simp, BW.out⟩
              · skip
                have hab : Hid (1 ≤ ad ∧ ad ≤ 31 ∧ 1 ≤ am ∧ am ≤ 12 ∧ 2000 ≤ ay ∧ ay ≤ 2199) := Lib.hid (dt_small HA.out.1)
                have hwd : IntKind.i64.wrap (am + 1) = am + 1 := by have := hab.out; rw [IntKind.wrap_i64]; omega
                have e7 : decide (am < 12) = true := by simpa using h2
                have e6 : decide (28 ≤ ad) = true := by simpa using h5
                subst h1
                subst h3
                subst h4
                clear h2 h5
                go_wp2_with fail
                go_ret
                exact ⟨by simp, BW.out⟩
              · skip
                have hab : Hid (1 ≤ ad ∧ ad ≤ 31 ∧ 1 ≤ am ∧ am ≤ 12 ∧ 2000 ≤ ay ∧ ay ≤ 2199) := Lib.hid (dt_small HA.out.1)
                have hwd : IntKind.i64.wrap (ay + 1) = ay + 1 := by have := hab.out; rw [IntKind.wrap_i64]; omega
                subst h1
                subst h2
                subst h3
                subst h4
                subst h5
                go_wp2_with fail
                go_ret
                exact ⟨by simp, BW.out⟩
            · skip
              have CNX := Lib.hid (fun W h => Number_out hok W h)
              clear hok
              go_enter Tryd.func6, Tryd.ntmps6
              go_wp2_with fail
              have BX := Lib.hid (row_new w 23 [.int .i64 xy, .int .i64 xm, .int .i64 xd])
              replace BW := Lib.hid (below_next BW.out (Joins.below_alloc1 w (.cells #[.int .i64 xy, .int .i64 xm, .int .i64 xd] 23)))
              replace TB := Lib.hid (TB.out.keep (Joins.below_alloc1 w (.cells #[.int .i64 xy, .int .i64 xm, .int .i64 xd] 23)))
              have hsw1 : (w.alloc (.cells #[.int .i64 xy, .int .i64 xm, .int .i64 xd] 23)).heap.size = w.heap.size + 1 := World.size_alloc ..
              generalize w.alloc (.cells #[.int .i64 xy, .int .i64 xm, .int .i64 xd] 23) = w1 at *
              refine (CSA.out _ TB.out).mono ?_
              rintro e w2 ⟨rfl, hb⟩
              replace BW := Lib.hid (below_next BW.out hb)
              replace TB := Lib.hid (TB.out.keep hb)
              replace BX := Lib.hid (BX.out.keep hb)
              clear hb
              have bx0 := BX.out.cell (i := 0) rfl
              have bx1 := BX.out.cell (i := 1) rfl
              have bx2 := BX.out.cell (i := 2) rfl
              go_wp2_with fail
              clear bx0 bx1 bx2
              refine (CNX.out _ TB.out).mono ?_
              rintro e w3 ⟨rfl, hb⟩
              replace BW := Lib.hid (below_next BW.out hb)
              replace TB := Lib.hid (TB.out.keep hb)
              replace BX := Lib.hid (BX.out.keep hb)
              clear hb
              go_wp2_with fail
              refine (CON.out _ TB.out).mono ?_
              rintro e w4 ⟨⟨ay, am, ad, ha, rfl⟩, hb⟩
              replace BW := Lib.hid (below_next BW.out hb)
              replace TB := Lib.hid (TB.out.keep hb)
              replace BX := Lib.hid (BX.out.keep hb)
              have HA := Lib.hid ha
              clear ha
              clear hb
              go_wp2_with fail
              have DA := Lib.hid (row_new w4 23 [.int .i64 ay, .int .i64 am, .int .i64 ad])
              replace BW := Lib.hid (below_next BW.out (Joins.below_alloc1 w4 (.cells #[.int .i64 ay, .int .i64 am, .int .i64 ad] 23)))
              replace TB := Lib.hid (TB.out.keep (Joins.below_alloc1 w4 (.cells #[.int .i64 ay, .int .i64 am, .int .i64 ad] 23)))
              replace BX := Lib.hid (BX.out.keep (Joins.below_alloc1 w4 (.cells #[.int .i64 ay, .int .i64 am, .int .i64 ad] 23)))
              have hsw5 : (w4.alloc (.cells #[.int .i64 ay, .int .i64 am, .int .i64 ad] 23)).heap.size = w4.heap.size + 1 := World.size_alloc ..
              generalize w4.alloc (.cells #[.int .i64 ay, .int .i64 am, .int .i64 ad] 23) = w5 at *
              refine (COM.out _ TB.out).mono ?_
              rintro e w6 ⟨⟨cy, cm, cd, hc, rfl⟩, hb⟩
              replace BW := Lib.hid (below_next BW.out hb)
              replace TB := Lib.hid (TB.out.keep hb)
              replace BX := Lib.hid (BX.out.keep hb)
              replace DA := Lib.hid (DA.out.keep hb)
              have HC := Lib.hid hc
              clear hc
              clear hb
              have da0 := (DA.out.keep (Joins.below_alloc1 w6 (.cells #[.int .i64 cy, .int .i64 cm, .int .i64 cd] 23))).cell (i := 0) rfl
              have da1 := (DA.out.keep (Joins.below_alloc1 w6 (.cells #[.int .i64 cy, .int .i64 cm, .int .i64 cd] 23))).cell (i := 1) rfl
              have da2 := (DA.out.keep (Joins.below_alloc1 w6 (.cells #[.int .i64 cy, .int .i64 cm, .int .i64 cd] 23))).cell (i := 2) rfl
              go_wp2_with fail
              clear da0 da1 da2
              have DC := Lib.hid (row_new w6 23 [.int .i64 cy, .int .i64 cm, .int .i64 cd])
              replace BW := Lib.hid (below_next BW.out (Joins.below_alloc1 w6 (.cells #[.int .i64 cy, .int .i64 cm, .int .i64 cd] 23)))
              replace TB := Lib.hid (TB.out.keep (Joins.below_alloc1 w6 (.cells #[.int .i64 cy, .int .i64 cm, .int .i64 cd] 23)))
              replace BX := Lib.hid (BX.out.keep (Joins.below_alloc1 w6 (.cells #[.int .i64 cy, .int .i64 cm, .int .i64 cd] 23)))
              replace DA := Lib.hid (DA.out.keep (Joins.below_alloc1 w6 (.cells #[.int .i64 cy, .int .i64 cm, .int .i64 cd] 23)))
              have hsw7 : (w6.alloc (.cells #[.int .i64 cy, .int .i64 cm, .int .i64 cd] 23)).heap.size = w6.heap.size + 1 := World.size_alloc ..
              generalize w6.alloc (.cells #[.int .i64 cy, .int .i64 cm, .int .i64 cd] 23) = w7 at *
              have CNA := Lib.hid (fun W h => Number_in HA.out.1 W h)
              rw [HA.out.2] at CNA
              have CLE := Lib.hid (fun W => less_call ⟨ay, am, ad⟩ ⟨cy, cm, cd⟩ W)
              rw [Dt.less_num HA.out.1 HC.out.1, HA.out.2, HC.out.2] at CLE
              unfold Dt.v at CLE
              refine (CNA.out _ TB.out).mono ?_
              rintro e w8 ⟨rfl, hb⟩
              replace BW := Lib.hid (below_next BW.out hb)
              replace TB := Lib.hid (TB.out.keep hb)
              replace BX := Lib.hid (BX.out.keep hb)
              replace DA := Lib.hid (DA.out.keep hb)
              replace DC := Lib.hid (DC.out.keep hb)
              clear hb
              have da0 := DA.out.cell (i := 0) rfl
              have da1 := DA.out.cell (i := 1) rfl
              have da2 := DA.out.cell (i := 2) rfl
              have dc0 := DC.out.cell (i := 0) rfl
              have dc1 := DC.out.cell (i := 1) rfl
              have dc2 := DC.out.cell (i := 2) rfl
              go_wp2_with fail
              clear da0 da1 da2
              clear dc0 dc1 dc2
              refine (CLE.out _).mono ?_
              rintro e w9 ⟨rfl, hb⟩
              replace BW := Lib.hid (below_next BW.out hb)
              replace TB := Lib.hid (TB.out.keep hb)
              replace BX := Lib.hid (BX.out.keep hb)
              replace DA := Lib.hid (DA.out.keep hb)
              replace DC := Lib.hid (DC.out.keep hb)
              clear hb
              go_wp2_with fail
              refine (CO1.out _ TB.out).mono ?_
              rintro e w10 ⟨⟨ey, em, ed, he, rfl⟩, hb⟩
              replace BW := Lib.hid (below_next BW.out hb)
              replace TB := Lib.hid (TB.out.keep hb)
              replace BX := Lib.hid (BX.out.keep hb)
              replace DA := Lib.hid (DA.out.keep hb)
              replace DC := Lib.hid (DC.out.keep hb)
              have HE := Lib.hid he
              clear he
              clear hb
              go_wp2_with fail
              have DE := Lib.hid (row_new w10 23 [.int .i64 ey, .int .i64 em, .int .i64 ed])
              replace BW := Lib.hid (below_next BW.out (Joins.below_alloc1 w10 (.cells #[.int .i64 ey, .int .i64 em, .int .i64 ed] 23)))
              replace TB := Lib.hid (TB.out.keep (Joins.below_alloc1 w10 (.cells #[.int .i64 ey, .int .i64 em, .int .i64 ed] 23)))
              replace BX := Lib.hid (BX.out.keep (Joins.below_alloc1 w10 (.cells #[.int .i64 ey, .int .i64 em, .int .i64 ed] 23)))
              replace DA := Lib.hid (DA.out.keep (Joins.below_alloc1 w10 (.cells #[.int .i64 ey, .int .i64 em, .int .i64 ed] 23)))
              replace DC := Lib.hid (DC.out.keep (Joins.below_alloc1 w10 (.cells #[.int .i64 ey, .int .i64 em, .int .i64 ed] 23)))
              have hsw11 : (w10.alloc (.cells #[.int .i64 ey, .int .i64 em, .int .i64 ed] 23)).heap.size = w10.heap.size + 1 := World.size_alloc ..
              generalize w10.alloc (.cells #[.int .i64 ey, .int .i64 em, .int .i64 ed] 23) = w11 at *
              refine (CW0.out _).mono ?_
              rintro e w21 ⟨rfl, rfl⟩
              go_wp2_with fail
              refine (CW1.out _).mono ?_
              rintro e w22 ⟨rfl, rfl⟩
              have hnx := Dt.next HA.out.1 HE.out.1 (HE.out.2.trans (by rw [HA.out.2]))
              simp only at hnx
              have da0 := DA.out.cell (i := 0) rfl
              have da1 := DA.out.cell (i := 1) rfl
              have da2 := DA.out.cell (i := 2) rfl
              have de0 := DE.out.cell (i := 0) rfl
              have de1 := DE.out.cell (i := 1) rfl
              have de2 := DE.out.cell (i := 2) rfl
              rcases hnx with ⟨h1, h2, h3, h4⟩ | ⟨h1, h2, h3, h4, h5⟩ | ⟨h1, h2, h3, h4, h5⟩
              · skip
                have hab : Hid (1 ≤ ad ∧ ad ≤ 31 ∧ 1 ≤ am ∧ am ≤ 12 ∧ 2000 ≤ ay ∧ ay ≤ 2199) := Lib.hid (dt_small HA.out.1)
                have hwd : IntKind.i64.wrap (ad + 1) = ad + 1 := by have := hab.out; rw [IntKind.wrap_i64]; omega
                have e8 : (ed != 1) = true := by simpa using h1
                subst h2
                subst h3
                subst h4
                clear h1
                go_wp2_with fail
                go_ret
                exact ⟨by simp, BW.out⟩
              · skip
                have hab : Hid (1 ≤ ad ∧ ad ≤ 31 ∧ 1 ≤ am ∧ am ≤ 12 ∧ 2000 ≤ ay ∧ ay ≤ 2199) := Lib.hid (dt_small HA.out.1)
                have hwd : IntKind.i64.wrap (am + 1) = am + 1 := by have := hab.out; rw [IntKind.wrap_i64]; omega
                have e7 : decide (am < 12) = true := by simpa using h2
                have e6 : decide (28 ≤ ad) = true := by simpa using h5
                subst h1
                subst h3
                subst h4
                clear h2 h5
                go_wp2_with fail
                go_ret
                exact ⟨by simp, BW.out⟩
              · skip
                have hab : Hid (1 ≤ ad ∧ ad ≤ 31 ∧ 1 ≤ am ∧ am ≤ 12 ∧ 2000 ≤ ay ∧ ay ≤ 2199) := Lib.hid (dt_small HA.out.1)
                have hwd : IntKind.i64.wrap (ay + 1) = ay + 1 := by have := hab.out; rw [IntKind.wrap_i64]; omega
                subst h1
                subst h2
                subst h3
                subst h4
                subst h5
                go_wp2_with fail
                go_ret
                exact ⟨by simp, BW.out⟩
end Go.Proofs.YtiicjmbnkjociaaDoor
