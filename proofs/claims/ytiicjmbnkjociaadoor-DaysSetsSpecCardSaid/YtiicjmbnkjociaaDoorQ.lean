/- The chapter's examples hold. -/
import Derived.Test.YtiicjmbnkjociaaDoorO
namespace Go.Proofs.YtiicjmbnkjociaaDoor
open Go.RowKit

theorem prest_row {w : World} {b : Nat} (l : List Sp) (hI : ∀ p, p ∈ l → I64 p.1 ∧ I64 p.2) (hl : l.length ≤ maxLen) (hr : Row w b 45 (pc l)) : PRest w.heap.size w l (.slice (some ⟨b, 0, none⟩) l.length l.length) :=
  ⟨_, _, rfl, Nat.le_refl _, hl, hI, .inr ⟨b, 0, rfl, hr.lt, fun i hi => ⟨hr.cell (by rw [Nat.zero_add]; exact (pc_get hi).1), hr.cell (by rw [Nat.zero_add]; exact (pc_get hi).2)⟩⟩⟩
theorem Of_lit {n y m d : Int} (h : IsOf n ⟨y, m, d⟩) (w : World) (hT : Tab w) : Calls Tryd.prog 10 #[.int .i64 n] w fun e w' => e = .returned (.tuple #[.agg #[.int .i64 y, .int .i64 m, .int .i64 d], .int .i64 (ofE n)]) ∧ Below w.heap.size w w' :=
  (Of_call n w hT).mono fun e w' ⟨⟨x, hx, he⟩, hb⟩ => ⟨by rw [he, hx.inj h]; rfl, hb⟩
theorem of59 : IsOf 59 ⟨2000, 2, 29⟩ := by unfold IsOf; rw [if_pos (by decide)]; exact ⟨by decide, by decide⟩
theorem of73048 : IsOf 73048 ⟨2199, 12, 31⟩ := by unfold IsOf; rw [if_pos (by decide)]; exact ⟨by decide, by decide⟩
theorem of366 : IsOf 366 ⟨2001, 1, 1⟩ := by unfold IsOf; rw [if_pos (by decide)]; exact ⟨by decide, by decide⟩
theorem small_ok {l : List Sp} (h : (l.all fun p => decide (-1000000 ≤ p.1) && decide (p.1 ≤ 1000000) && (decide (-1000000 ≤ p.2) && decide (p.2 ≤ 1000000))) = true) : ∀ p, p ∈ l → I64 p.1 ∧ I64 p.2 := fun p hp => by
  have := List.all_eq_true.1 h p hp
  simp at this
  exact ⟨⟨by omega, by omega⟩, ⟨by omega, by omega⟩⟩
set_option maxHeartbeats 8000000 in
set_option maxRecDepth 100000 in
theorem sane_call (w : World) (hT : Tab w) :
    Calls Tryd.prog 9 #[] w fun e w' => e = .returned (.bool true) ∧ Below w.heap.size w w' := by
  have BW := Lib.hid (Below.refl w.heap.size w)
  have TB := Lib.hid hT
  have C59 := Lib.hid (fun W h => Of_lit of59 W h)
  have C73 := Lib.hid (fun W h => Of_lit of73048 W h)
  have C36 := Lib.hid (fun W h => Of_lit of366 W h)
  have CNU := Lib.hid (fun W h => Number_call ⟨2100, 2, 29⟩ W h)
  have CWD := Lib.hid (fun W => Weekday_call 0 W)
  have CWO := Lib.hid (fun W va vb (ha : PRest W.heap.size W [(1, 9)] va) (hb : PRest W.heap.size W [(3, 5)] vb) => Without_call [(1, 9)] [(3, 5)] va vb _ W ha hb (Nat.le_refl _))
  have CUN := Lib.hid (fun W va vb (ha : PRest W.heap.size W [(1, 3)] va) (hb : PRest W.heap.size W [(4, 6)] vb) => Union_call [(1, 3)] [(4, 6)] va vb _ W ha hb (Nat.le_refl _))
  have CME := Lib.hid (fun W va vb (ha : PRest W.heap.size W [(1, 5)] va) (hb : PRest W.heap.size W [(3, 9)] vb) => Meet_call [(1, 5)] [(3, 9)] va vb _ W ha hb (Nat.le_refl _))
  have CCN := Lib.hid (fun W v (h : PRest W.heap.size W [(1, 2), (6, 9)] v) => Count_call [(1, 2), (6, 9)] v _ W h (Nat.le_refl _))
  have CN2 := Lib.hid (fun W v (h : PRest W.heap.size W [(1, 2), (6, 9)] v) => Nth_call [(1, 2), (6, 9)] v 2 _ W h (Nat.le_refl _) (by decide))
  have CN6 := Lib.hid (fun W v (h : PRest W.heap.size W [(1, 2), (6, 9)] v) => Nth_call [(1, 2), (6, 9)] v 6 _ W h (Nat.le_refl _) (by decide))
  have CN1 := Lib.hid (fun W v (h : PRest W.heap.size W [(1, 2), (6, 9)] v) => Nth_call [(1, 2), (6, 9)] v (-1) _ W h (Nat.le_refl _) (by decide))
  have CCK := Lib.hid (fun W v (h : PRest W.heap.size W [(1, 3), (4, 6)] v) => Check_call [(1, 3), (4, 6)] v _ W h (Nat.le_refl _))
  have CS1 := Lib.hid (fun W v v' (h : PRest W.heap.size W [(1, 2), (6, 9)] v) (h' : PRest W.heap.size W [(1, 2), (6, 9)] v') => Same_call _ _ v v' _ W h h' (Nat.le_refl _))
  have CS2 := Lib.hid (fun W v v' (h : PRest W.heap.size W [(1, 6)] v) (h' : PRest W.heap.size W [(1, 6)] v') => Same_call _ _ v v' _ W h h' (Nat.le_refl _))
  have CS3 := Lib.hid (fun W v v' (h : PRest W.heap.size W [(3, 5)] v) (h' : PRest W.heap.size W [(3, 5)] v') => Same_call _ _ v v' _ W h h' (Nat.le_refl _))
  rw [show ofE 59 = 0 by decide] at C59
  rw [show ofE 73048 = 0 by decide] at C73
  rw [show ofE 366 = 0 by decide] at C36
  rw [show numR ⟨2100, 2, 29⟩ = 0 by decide, show numE ⟨2100, 2, 29⟩ = 120 by decide] at CNU
  rw [show wkR 0 = 5 by decide, show ofE 0 = 0 by decide] at CWD
  rw [show combL (fun p q => p && !q) [(1, 9)] [(3, 5)] = [(1, 2), (6, 9)] by kernel_rfl, show combE (fun p q => p && !q) [(1, 9)] [(3, 5)] = 0 by kernel_rfl] at CWO
  rw [show combL (fun p q => p || q) [(1, 3)] [(4, 6)] = [(1, 6)] by kernel_rfl, show combE (fun p q => p || q) [(1, 3)] [(4, 6)] = 0 by kernel_rfl] at CUN
  rw [show combL (fun p q => p && q) [(1, 5)] [(3, 9)] = [(3, 5)] by kernel_rfl, show combE (fun p q => p && q) [(1, 5)] [(3, 9)] = 0 by kernel_rfl] at CME
  rw [show countN [(1, 2), (6, 9)] = 6 by decide, show chk [(1, 2), (6, 9)] = 0 by decide] at CCN
  rw [show nthD [(1, 2), (6, 9)] 2 = 6 by decide, show nthB [(1, 2), (6, 9)] 2 = true by decide, show nthE [(1, 2), (6, 9)] 2 = 0 by decide] at CN2
  rw [show nthD [(1, 2), (6, 9)] 6 = 0 by decide, show nthB [(1, 2), (6, 9)] 6 = false by decide, show nthE [(1, 2), (6, 9)] 6 = 0 by decide] at CN6
  rw [show nthD [(1, 2), (6, 9)] (-1) = 0 by decide, show nthB [(1, 2), (6, 9)] (-1) = false by decide, show nthE [(1, 2), (6, 9)] (-1) = 1 by decide] at CN1
  rw [show chk [(1, 3), (4, 6)] = 120 by decide] at CCK
  simp only [decide_true] at CS1 CS2 CS3
  go_enter Tryd.func9, Tryd.ntmps9
  go_wp2_with fail
  refine (C59.out _ TB.out).mono ?_
  rintro e w1 ⟨rfl, hb⟩
  replace BW := Lib.hid (below_next BW.out hb)
  replace TB := Lib.hid (TB.out.keep hb)
  clear hb
  go_wp2_with fail
  have D1 := Lib.hid (row_new w1 23 [.int .i64 2000, .int .i64 2, .int .i64 29])
  replace BW := Lib.hid (below_next BW.out (Joins.below_alloc1 w1 (.cells #[.int .i64 2000, .int .i64 2, .int .i64 29] 23)))
  replace TB := Lib.hid (TB.out.keep (Joins.below_alloc1 w1 (.cells #[.int .i64 2000, .int .i64 2, .int .i64 29] 23)))
  have hsw2 : (w1.alloc (.cells #[.int .i64 2000, .int .i64 2, .int .i64 29] 23)).heap.size = w1.heap.size + 1 := World.size_alloc ..
  generalize w1.alloc (.cells #[.int .i64 2000, .int .i64 2, .int .i64 29] 23) = w2 at *
  refine (C73.out _ TB.out).mono ?_
  rintro e w3 ⟨rfl, hb⟩
  replace BW := Lib.hid (below_next BW.out hb)
  replace TB := Lib.hid (TB.out.keep hb)
  replace D1 := Lib.hid (D1.out.keep hb)
  clear hb
  go_wp2_with fail
  have D2 := Lib.hid (row_new w3 23 [.int .i64 2199, .int .i64 12, .int .i64 31])
  replace BW := Lib.hid (below_next BW.out (Joins.below_alloc1 w3 (.cells #[.int .i64 2199, .int .i64 12, .int .i64 31] 23)))
  replace TB := Lib.hid (TB.out.keep (Joins.below_alloc1 w3 (.cells #[.int .i64 2199, .int .i64 12, .int .i64 31] 23)))
  replace D1 := Lib.hid (D1.out.keep (Joins.below_alloc1 w3 (.cells #[.int .i64 2199, .int .i64 12, .int .i64 31] 23)))
  have hsw4 : (w3.alloc (.cells #[.int .i64 2199, .int .i64 12, .int .i64 31] 23)).heap.size = w3.heap.size + 1 := World.size_alloc ..
  generalize w3.alloc (.cells #[.int .i64 2199, .int .i64 12, .int .i64 31] 23) = w4 at *
  refine (C36.out _ TB.out).mono ?_
  rintro e w5 ⟨rfl, hb⟩
  replace BW := Lib.hid (below_next BW.out hb)
  replace TB := Lib.hid (TB.out.keep hb)
  replace D1 := Lib.hid (D1.out.keep hb)
  replace D2 := Lib.hid (D2.out.keep hb)
  clear hb
  go_wp2_with fail
  have D3 := Lib.hid (row_new w5 23 [.int .i64 2001, .int .i64 1, .int .i64 1])
  replace BW := Lib.hid (below_next BW.out (Joins.below_alloc1 w5 (.cells #[.int .i64 2001, .int .i64 1, .int .i64 1] 23)))
  replace TB := Lib.hid (TB.out.keep (Joins.below_alloc1 w5 (.cells #[.int .i64 2001, .int .i64 1, .int .i64 1] 23)))
  replace D1 := Lib.hid (D1.out.keep (Joins.below_alloc1 w5 (.cells #[.int .i64 2001, .int .i64 1, .int .i64 1] 23)))
  replace D2 := Lib.hid (D2.out.keep (Joins.below_alloc1 w5 (.cells #[.int .i64 2001, .int .i64 1, .int .i64 1] 23)))
  have hsw6 : (w5.alloc (.cells #[.int .i64 2001, .int .i64 1, .int .i64 1] 23)).heap.size = w5.heap.size + 1 := World.size_alloc ..
  generalize w5.alloc (.cells #[.int .i64 2001, .int .i64 1, .int .i64 1] 23) = w6 at *
  refine (CNU.out _ TB.out).mono ?_
  rintro e w7 ⟨rfl, hb⟩
  replace BW := Lib.hid (below_next BW.out hb)
  replace TB := Lib.hid (TB.out.keep hb)
  replace D1 := Lib.hid (D1.out.keep hb)
  replace D2 := Lib.hid (D2.out.keep hb)
  replace D3 := Lib.hid (D3.out.keep hb)
  clear hb
  go_wp2_with fail
  refine (CWD.out _).mono ?_
  rintro e w8 ⟨rfl, rfl⟩
  go_wp2_with fail
  have Qa := Lib.hid (row_new w8 45 [.int .i64 1, .int .i64 9])
  replace BW := Lib.hid (below_next BW.out (Joins.below_alloc1 w8 (.cells #[.int .i64 1, .int .i64 9] 45)))
  replace TB := Lib.hid (TB.out.keep (Joins.below_alloc1 w8 (.cells #[.int .i64 1, .int .i64 9] 45)))
  replace D1 := Lib.hid (D1.out.keep (Joins.below_alloc1 w8 (.cells #[.int .i64 1, .int .i64 9] 45)))
  replace D2 := Lib.hid (D2.out.keep (Joins.below_alloc1 w8 (.cells #[.int .i64 1, .int .i64 9] 45)))
  replace D3 := Lib.hid (D3.out.keep (Joins.below_alloc1 w8 (.cells #[.int .i64 1, .int .i64 9] 45)))
  have hsw9 : (w8.alloc (.cells #[.int .i64 1, .int .i64 9] 45)).heap.size = w8.heap.size + 1 := World.size_alloc ..
  generalize w8.alloc (.cells #[.int .i64 1, .int .i64 9] 45) = w9 at *
  have La := Lib.hid (prest_row [(1, 9)] (small_ok (by decide)) (by decide) Qa.out)
  have Qb := Lib.hid (row_new w9 45 [.int .i64 3, .int .i64 5])
  replace BW := Lib.hid (below_next BW.out (Joins.below_alloc1 w9 (.cells #[.int .i64 3, .int .i64 5] 45)))
  replace TB := Lib.hid (TB.out.keep (Joins.below_alloc1 w9 (.cells #[.int .i64 3, .int .i64 5] 45)))
  replace D1 := Lib.hid (D1.out.keep (Joins.below_alloc1 w9 (.cells #[.int .i64 3, .int .i64 5] 45)))
  replace D2 := Lib.hid (D2.out.keep (Joins.below_alloc1 w9 (.cells #[.int .i64 3, .int .i64 5] 45)))
  replace D3 := Lib.hid (D3.out.keep (Joins.below_alloc1 w9 (.cells #[.int .i64 3, .int .i64 5] 45)))
  replace La := Lib.hid (La.out.keep (Joins.below_alloc1 w9 (.cells #[.int .i64 3, .int .i64 5] 45)))
  rw [hsw9] at Qb
  have hsw10 : (w9.alloc (.cells #[.int .i64 3, .int .i64 5] 45)).heap.size = w9.heap.size + 1 := World.size_alloc ..
  generalize w9.alloc (.cells #[.int .i64 3, .int .i64 5] 45) = w10 at *
  have Lb := Lib.hid (prest_row [(3, 5)] (small_ok (by decide)) (by decide) Qb.out)
  refine (CWO.out _ _ _ La.out Lb.out).mono ?_
  rintro e w11 ⟨vl, rfl, hl, hb⟩
  replace BW := Lib.hid (below_next BW.out hb)
  replace TB := Lib.hid (TB.out.keep hb)
  replace D1 := Lib.hid (D1.out.keep hb)
  replace D2 := Lib.hid (D2.out.keep hb)
  replace D3 := Lib.hid (D3.out.keep hb)
  replace La := Lib.hid (La.out.keep hb)
  replace Lb := Lib.hid (Lb.out.keep hb)
  obtain ⟨al, cl, rfl, -⟩ := id hl
  have Ll := Lib.hid hl
  clear hl
  clear hb
  go_wp2_with fail
  have Qc := Lib.hid (row_new w11 45 [.int .i64 1, .int .i64 3])
  replace BW := Lib.hid (below_next BW.out (Joins.below_alloc1 w11 (.cells #[.int .i64 1, .int .i64 3] 45)))
  replace TB := Lib.hid (TB.out.keep (Joins.below_alloc1 w11 (.cells #[.int .i64 1, .int .i64 3] 45)))
  replace D1 := Lib.hid (D1.out.keep (Joins.below_alloc1 w11 (.cells #[.int .i64 1, .int .i64 3] 45)))
  replace D2 := Lib.hid (D2.out.keep (Joins.below_alloc1 w11 (.cells #[.int .i64 1, .int .i64 3] 45)))
  replace D3 := Lib.hid (D3.out.keep (Joins.below_alloc1 w11 (.cells #[.int .i64 1, .int .i64 3] 45)))
  replace La := Lib.hid (La.out.keep (Joins.below_alloc1 w11 (.cells #[.int .i64 1, .int .i64 3] 45)))
  replace Lb := Lib.hid (Lb.out.keep (Joins.below_alloc1 w11 (.cells #[.int .i64 1, .int .i64 3] 45)))
  replace Ll := Lib.hid (Ll.out.keep (Joins.below_alloc1 w11 (.cells #[.int .i64 1, .int .i64 3] 45)))
  have hsw12 : (w11.alloc (.cells #[.int .i64 1, .int .i64 3] 45)).heap.size = w11.heap.size + 1 := World.size_alloc ..
  generalize w11.alloc (.cells #[.int .i64 1, .int .i64 3] 45) = w12 at *
  have Lc := Lib.hid (prest_row [(1, 3)] (small_ok (by decide)) (by decide) Qc.out)
  have Qd := Lib.hid (row_new w12 45 [.int .i64 4, .int .i64 6])
  replace BW := Lib.hid (below_next BW.out (Joins.below_alloc1 w12 (.cells #[.int .i64 4, .int .i64 6] 45)))
  replace TB := Lib.hid (TB.out.keep (Joins.below_alloc1 w12 (.cells #[.int .i64 4, .int .i64 6] 45)))
  replace D1 := Lib.hid (D1.out.keep (Joins.below_alloc1 w12 (.cells #[.int .i64 4, .int .i64 6] 45)))
  replace D2 := Lib.hid (D2.out.keep (Joins.below_alloc1 w12 (.cells #[.int .i64 4, .int .i64 6] 45)))
  replace D3 := Lib.hid (D3.out.keep (Joins.below_alloc1 w12 (.cells #[.int .i64 4, .int .i64 6] 45)))
  replace La := Lib.hid (La.out.keep (Joins.below_alloc1 w12 (.cells #[.int .i64 4, .int .i64 6] 45)))
  replace Lb := Lib.hid (Lb.out.keep (Joins.below_alloc1 w12 (.cells #[.int .i64 4, .int .i64 6] 45)))
  replace Ll := Lib.hid (Ll.out.keep (Joins.below_alloc1 w12 (.cells #[.int .i64 4, .int .i64 6] 45)))
  replace Lc := Lib.hid (Lc.out.keep (Joins.below_alloc1 w12 (.cells #[.int .i64 4, .int .i64 6] 45)))
  rw [hsw12] at Qd
  have hsw13 : (w12.alloc (.cells #[.int .i64 4, .int .i64 6] 45)).heap.size = w12.heap.size + 1 := World.size_alloc ..
  generalize w12.alloc (.cells #[.int .i64 4, .int .i64 6] 45) = w13 at *
  have Ld := Lib.hid (prest_row [(4, 6)] (small_ok (by decide)) (by decide) Qd.out)
  refine (CUN.out _ _ _ Lc.out Ld.out).mono ?_
  rintro e w14 ⟨vm, rfl, hm, hb⟩
  replace BW := Lib.hid (below_next BW.out hb)
  replace TB := Lib.hid (TB.out.keep hb)
  replace D1 := Lib.hid (D1.out.keep hb)
  replace D2 := Lib.hid (D2.out.keep hb)
  replace D3 := Lib.hid (D3.out.keep hb)
  replace La := Lib.hid (La.out.keep hb)
  replace Lb := Lib.hid (Lb.out.keep hb)
  replace Ll := Lib.hid (Ll.out.keep hb)
  replace Lc := Lib.hid (Lc.out.keep hb)
  replace Ld := Lib.hid (Ld.out.keep hb)
  obtain ⟨am, cm, rfl, -⟩ := id hm
  have Lm := Lib.hid hm
  clear hm
  clear hb
  go_wp2_with fail
  have Qe := Lib.hid (row_new w14 45 [.int .i64 1, .int .i64 5])
  replace BW := Lib.hid (below_next BW.out (Joins.below_alloc1 w14 (.cells #[.int .i64 1, .int .i64 5] 45)))
  replace TB := Lib.hid (TB.out.keep (Joins.below_alloc1 w14 (.cells #[.int .i64 1, .int .i64 5] 45)))
  replace D1 := Lib.hid (D1.out.keep (Joins.below_alloc1 w14 (.cells #[.int .i64 1, .int .i64 5] 45)))
  replace D2 := Lib.hid (D2.out.keep (Joins.below_alloc1 w14 (.cells #[.int .i64 1, .int .i64 5] 45)))
  replace D3 := Lib.hid (D3.out.keep (Joins.below_alloc1 w14 (.cells #[.int .i64 1, .int .i64 5] 45)))
  replace La := Lib.hid (La.out.keep (Joins.below_alloc1 w14 (.cells #[.int .i64 1, .int .i64 5] 45)))
  replace Lb := Lib.hid (Lb.out.keep (Joins.below_alloc1 w14 (.cells #[.int .i64 1, .int .i64 5] 45)))
  replace Ll := Lib.hid (Ll.out.keep (Joins.below_alloc1 w14 (.cells #[.int .i64 1, .int .i64 5] 45)))
  replace Lm := Lib.hid (Lm.out.keep (Joins.below_alloc1 w14 (.cells #[.int .i64 1, .int .i64 5] 45)))
  have hsw15 : (w14.alloc (.cells #[.int .i64 1, .int .i64 5] 45)).heap.size = w14.heap.size + 1 := World.size_alloc ..
  generalize w14.alloc (.cells #[.int .i64 1, .int .i64 5] 45) = w15 at *
  have Le := Lib.hid (prest_row [(1, 5)] (small_ok (by decide)) (by decide) Qe.out)
  have Qf := Lib.hid (row_new w15 45 [.int .i64 3, .int .i64 9])
  replace BW := Lib.hid (below_next BW.out (Joins.below_alloc1 w15 (.cells #[.int .i64 3, .int .i64 9] 45)))
  replace TB := Lib.hid (TB.out.keep (Joins.below_alloc1 w15 (.cells #[.int .i64 3, .int .i64 9] 45)))
  replace D1 := Lib.hid (D1.out.keep (Joins.below_alloc1 w15 (.cells #[.int .i64 3, .int .i64 9] 45)))
  replace D2 := Lib.hid (D2.out.keep (Joins.below_alloc1 w15 (.cells #[.int .i64 3, .int .i64 9] 45)))
  replace D3 := Lib.hid (D3.out.keep (Joins.below_alloc1 w15 (.cells #[.int .i64 3, .int .i64 9] 45)))
  replace La := Lib.hid (La.out.keep (Joins.below_alloc1 w15 (.cells #[.int .i64 3, .int .i64 9] 45)))
  replace Lb := Lib.hid (Lb.out.keep (Joins.below_alloc1 w15 (.cells #[.int .i64 3, .int .i64 9] 45)))
  replace Ll := Lib.hid (Ll.out.keep (Joins.below_alloc1 w15 (.cells #[.int .i64 3, .int .i64 9] 45)))
  replace Lm := Lib.hid (Lm.out.keep (Joins.below_alloc1 w15 (.cells #[.int .i64 3, .int .i64 9] 45)))
  replace Le := Lib.hid (Le.out.keep (Joins.below_alloc1 w15 (.cells #[.int .i64 3, .int .i64 9] 45)))
  rw [hsw15] at Qf
  have hsw16 : (w15.alloc (.cells #[.int .i64 3, .int .i64 9] 45)).heap.size = w15.heap.size + 1 := World.size_alloc ..
  generalize w15.alloc (.cells #[.int .i64 3, .int .i64 9] 45) = w16 at *
  have Lf := Lib.hid (prest_row [(3, 9)] (small_ok (by decide)) (by decide) Qf.out)
  refine (CME.out _ _ _ Le.out Lf.out).mono ?_
  rintro e w17 ⟨vx, rfl, hx, hb⟩
  replace BW := Lib.hid (below_next BW.out hb)
  replace TB := Lib.hid (TB.out.keep hb)
  replace D1 := Lib.hid (D1.out.keep hb)
  replace D2 := Lib.hid (D2.out.keep hb)
  replace D3 := Lib.hid (D3.out.keep hb)
  replace La := Lib.hid (La.out.keep hb)
  replace Lb := Lib.hid (Lb.out.keep hb)
  replace Ll := Lib.hid (Ll.out.keep hb)
  replace Lm := Lib.hid (Lm.out.keep hb)
  replace Le := Lib.hid (Le.out.keep hb)
  replace Lf := Lib.hid (Lf.out.keep hb)
  obtain ⟨ax, cx, rfl, -⟩ := id hx
  have Lx := Lib.hid hx
  clear hx
  clear hb
  go_wp2_with fail
  refine (CCN.out _ _ Ll.out).mono ?_
  rintro e w18 ⟨rfl, hb⟩
  replace BW := Lib.hid (below_next BW.out hb)
  replace TB := Lib.hid (TB.out.keep hb)
  replace D1 := Lib.hid (D1.out.keep hb)
  replace D2 := Lib.hid (D2.out.keep hb)
  replace D3 := Lib.hid (D3.out.keep hb)
  replace La := Lib.hid (La.out.keep hb)
  replace Lb := Lib.hid (Lb.out.keep hb)
  replace Ll := Lib.hid (Ll.out.keep hb)
  replace Lm := Lib.hid (Lm.out.keep hb)
  replace Lx := Lib.hid (Lx.out.keep hb)
  clear hb
  go_wp2_with fail
  refine (CN2.out _ _ Ll.out).mono ?_
  rintro e w19 ⟨rfl, hb⟩
  replace BW := Lib.hid (below_next BW.out hb)
  replace TB := Lib.hid (TB.out.keep hb)
  replace D1 := Lib.hid (D1.out.keep hb)
  replace D2 := Lib.hid (D2.out.keep hb)
  replace D3 := Lib.hid (D3.out.keep hb)
  replace La := Lib.hid (La.out.keep hb)
  replace Lb := Lib.hid (Lb.out.keep hb)
  replace Ll := Lib.hid (Ll.out.keep hb)
  replace Lm := Lib.hid (Lm.out.keep hb)
  replace Lx := Lib.hid (Lx.out.keep hb)
  clear hb
  go_wp2_with fail
  refine (CN6.out _ _ Ll.out).mono ?_
  rintro e w20 ⟨rfl, hb⟩
  replace BW := Lib.hid (below_next BW.out hb)
  replace TB := Lib.hid (TB.out.keep hb)
  replace D1 := Lib.hid (D1.out.keep hb)
  replace D2 := Lib.hid (D2.out.keep hb)
  replace D3 := Lib.hid (D3.out.keep hb)
  replace La := Lib.hid (La.out.keep hb)
  replace Lb := Lib.hid (Lb.out.keep hb)
  replace Ll := Lib.hid (Ll.out.keep hb)
  replace Lm := Lib.hid (Lm.out.keep hb)
  replace Lx := Lib.hid (Lx.out.keep hb)
  clear hb
  go_wp2_with fail
  refine (CN1.out _ _ Ll.out).mono ?_
  rintro e w21 ⟨rfl, hb⟩
  replace BW := Lib.hid (below_next BW.out hb)
  replace TB := Lib.hid (TB.out.keep hb)
  replace D1 := Lib.hid (D1.out.keep hb)
  replace D2 := Lib.hid (D2.out.keep hb)
  replace D3 := Lib.hid (D3.out.keep hb)
  replace La := Lib.hid (La.out.keep hb)
  replace Lb := Lib.hid (Lb.out.keep hb)
  replace Ll := Lib.hid (Ll.out.keep hb)
  replace Lm := Lib.hid (Lm.out.keep hb)
  replace Lx := Lib.hid (Lx.out.keep hb)
  clear hb
  have c10 := D1.out.cell (i := 0) rfl
  have c11 := D1.out.cell (i := 1) rfl
  have c12 := D1.out.cell (i := 2) rfl
  have c20 := D2.out.cell (i := 0) rfl
  have c21 := D2.out.cell (i := 1) rfl
  have c22 := D2.out.cell (i := 2) rfl
  have c30 := D3.out.cell (i := 0) rfl
  have c31 := D3.out.cell (i := 1) rfl
  have c32 := D3.out.cell (i := 2) rfl
  have hq1 := fun W => neq_date 2000 2 29 2000 2 29 W
  have hq2 := fun W => neq_date 2199 12 31 2199 12 31 W
  have hq3 := fun W => neq_date 2001 1 1 2001 1 1 W
  rw [show (!(((2000 : Int) == 2000) && (((2 : Int) == 2) && ((29 : Int) == 29)))) = false by decide] at hq1
  rw [show (!(((2199 : Int) == 2199) && (((12 : Int) == 12) && ((31 : Int) == 31)))) = false by decide] at hq2
  rw [show (!(((2001 : Int) == 2001) && (((1 : Int) == 1) && ((1 : Int) == 1)))) = false by decide] at hq3
  have hg1 := fun op x y W => guard_date op x y 2000 2 29 2000 2 29 W
  have hg2 := fun op x y W => guard_date op x y 2199 12 31 2199 12 31 W
  have hg3 := fun op x y W => guard_date op x y 2001 1 1 2001 1 1 W
  go_wp2_with fail
  clear D1 D2 D3 c10 c11 c12 c20 c21 c22 c30 c31 c32
  have Qg := Lib.hid (row_new w21 45 [.int .i64 1, .int .i64 3, .int .i64 4, .int .i64 6])
  replace BW := Lib.hid (below_next BW.out (Joins.below_alloc1 w21 (.cells #[.int .i64 1, .int .i64 3, .int .i64 4, .int .i64 6] 45)))
  replace TB := Lib.hid (TB.out.keep (Joins.below_alloc1 w21 (.cells #[.int .i64 1, .int .i64 3, .int .i64 4, .int .i64 6] 45)))
  replace Lb := Lib.hid (Lb.out.keep (Joins.below_alloc1 w21 (.cells #[.int .i64 1, .int .i64 3, .int .i64 4, .int .i64 6] 45)))
  replace Ll := Lib.hid (Ll.out.keep (Joins.below_alloc1 w21 (.cells #[.int .i64 1, .int .i64 3, .int .i64 4, .int .i64 6] 45)))
  replace Lm := Lib.hid (Lm.out.keep (Joins.below_alloc1 w21 (.cells #[.int .i64 1, .int .i64 3, .int .i64 4, .int .i64 6] 45)))
  replace Lx := Lib.hid (Lx.out.keep (Joins.below_alloc1 w21 (.cells #[.int .i64 1, .int .i64 3, .int .i64 4, .int .i64 6] 45)))
  have hsw22 : (w21.alloc (.cells #[.int .i64 1, .int .i64 3, .int .i64 4, .int .i64 6] 45)).heap.size = w21.heap.size + 1 := World.size_alloc ..
  generalize w21.alloc (.cells #[.int .i64 1, .int .i64 3, .int .i64 4, .int .i64 6] 45) = w22 at *
  have Lg := Lib.hid (prest_row [(1, 3), (4, 6)] (small_ok (by decide)) (by decide) Qg.out)
  refine (CCK.out _ _ Lg.out).mono ?_
  rintro e w23 ⟨rfl, hb⟩
  replace BW := Lib.hid (below_next BW.out hb)
  replace TB := Lib.hid (TB.out.keep hb)
  replace Lb := Lib.hid (Lb.out.keep hb)
  replace Ll := Lib.hid (Ll.out.keep hb)
  replace Lm := Lib.hid (Lm.out.keep hb)
  replace Lx := Lib.hid (Lx.out.keep hb)
  replace Lg := Lib.hid (Lg.out.keep hb)
  clear hb
  go_wp2_with fail
  have Qh := Lib.hid (row_new w23 45 [.int .i64 1, .int .i64 2, .int .i64 6, .int .i64 9])
  replace BW := Lib.hid (below_next BW.out (Joins.below_alloc1 w23 (.cells #[.int .i64 1, .int .i64 2, .int .i64 6, .int .i64 9] 45)))
  replace TB := Lib.hid (TB.out.keep (Joins.below_alloc1 w23 (.cells #[.int .i64 1, .int .i64 2, .int .i64 6, .int .i64 9] 45)))
  replace Lb := Lib.hid (Lb.out.keep (Joins.below_alloc1 w23 (.cells #[.int .i64 1, .int .i64 2, .int .i64 6, .int .i64 9] 45)))
  replace Ll := Lib.hid (Ll.out.keep (Joins.below_alloc1 w23 (.cells #[.int .i64 1, .int .i64 2, .int .i64 6, .int .i64 9] 45)))
  replace Lm := Lib.hid (Lm.out.keep (Joins.below_alloc1 w23 (.cells #[.int .i64 1, .int .i64 2, .int .i64 6, .int .i64 9] 45)))
  replace Lx := Lib.hid (Lx.out.keep (Joins.below_alloc1 w23 (.cells #[.int .i64 1, .int .i64 2, .int .i64 6, .int .i64 9] 45)))
  replace Lg := Lib.hid (Lg.out.keep (Joins.below_alloc1 w23 (.cells #[.int .i64 1, .int .i64 2, .int .i64 6, .int .i64 9] 45)))
  have hsw24 : (w23.alloc (.cells #[.int .i64 1, .int .i64 2, .int .i64 6, .int .i64 9] 45)).heap.size = w23.heap.size + 1 := World.size_alloc ..
  generalize w23.alloc (.cells #[.int .i64 1, .int .i64 2, .int .i64 6, .int .i64 9] 45) = w24 at *
  have Lh := Lib.hid (prest_row [(1, 2), (6, 9)] (small_ok (by decide)) (by decide) Qh.out)
  refine (CS1.out _ _ _ Ll.out Lh.out).mono ?_
  rintro e w25 ⟨rfl, hb⟩
  replace BW := Lib.hid (below_next BW.out hb)
  replace TB := Lib.hid (TB.out.keep hb)
  replace Lb := Lib.hid (Lb.out.keep hb)
  replace Ll := Lib.hid (Ll.out.keep hb)
  replace Lm := Lib.hid (Lm.out.keep hb)
  replace Lx := Lib.hid (Lx.out.keep hb)
  replace Lg := Lib.hid (Lg.out.keep hb)
  replace Lh := Lib.hid (Lh.out.keep hb)
  clear hb
  go_wp2_with fail
  have Qi := Lib.hid (row_new w25 45 [.int .i64 1, .int .i64 6])
  replace BW := Lib.hid (below_next BW.out (Joins.below_alloc1 w25 (.cells #[.int .i64 1, .int .i64 6] 45)))
  replace TB := Lib.hid (TB.out.keep (Joins.below_alloc1 w25 (.cells #[.int .i64 1, .int .i64 6] 45)))
  replace Lb := Lib.hid (Lb.out.keep (Joins.below_alloc1 w25 (.cells #[.int .i64 1, .int .i64 6] 45)))
  replace Ll := Lib.hid (Ll.out.keep (Joins.below_alloc1 w25 (.cells #[.int .i64 1, .int .i64 6] 45)))
  replace Lm := Lib.hid (Lm.out.keep (Joins.below_alloc1 w25 (.cells #[.int .i64 1, .int .i64 6] 45)))
  replace Lx := Lib.hid (Lx.out.keep (Joins.below_alloc1 w25 (.cells #[.int .i64 1, .int .i64 6] 45)))
  replace Lg := Lib.hid (Lg.out.keep (Joins.below_alloc1 w25 (.cells #[.int .i64 1, .int .i64 6] 45)))
  replace Lh := Lib.hid (Lh.out.keep (Joins.below_alloc1 w25 (.cells #[.int .i64 1, .int .i64 6] 45)))
  have hsw26 : (w25.alloc (.cells #[.int .i64 1, .int .i64 6] 45)).heap.size = w25.heap.size + 1 := World.size_alloc ..
  generalize w25.alloc (.cells #[.int .i64 1, .int .i64 6] 45) = w26 at *
  have Li := Lib.hid (prest_row [(1, 6)] (small_ok (by decide)) (by decide) Qi.out)
  refine (CS2.out _ _ _ Lm.out Li.out).mono ?_
  rintro e w27 ⟨rfl, hb⟩
  replace BW := Lib.hid (below_next BW.out hb)
  replace TB := Lib.hid (TB.out.keep hb)
  replace Lb := Lib.hid (Lb.out.keep hb)
  replace Ll := Lib.hid (Ll.out.keep hb)
  replace Lm := Lib.hid (Lm.out.keep hb)
  replace Lx := Lib.hid (Lx.out.keep hb)
  replace Lg := Lib.hid (Lg.out.keep hb)
  replace Lh := Lib.hid (Lh.out.keep hb)
  replace Li := Lib.hid (Li.out.keep hb)
  clear hb
  go_wp2_with fail
  refine (CS3.out _ _ _ Lx.out Lb.out).mono ?_
  rintro e w28 ⟨rfl, hb⟩
  replace BW := Lib.hid (below_next BW.out hb)
  replace TB := Lib.hid (TB.out.keep hb)
  replace Lb := Lib.hid (Lb.out.keep hb)
  replace Ll := Lib.hid (Ll.out.keep hb)
  replace Lm := Lib.hid (Lm.out.keep hb)
  replace Lx := Lib.hid (Lx.out.keep hb)
  replace Lg := Lib.hid (Lg.out.keep hb)
  replace Lh := Lib.hid (Lh.out.keep hb)
  replace Li := Lib.hid (Li.out.keep hb)
  clear hb
  go_wp2_with fail
  go_ret
  exact ⟨rfl, BW.out⟩
end Go.Proofs.YtiicjmbnkjociaaDoor
