/- Of, Number and Weekday against the specification: the law DaysSpec. -/
import Derived.Test.YtiicjmbnkjociaaDoorQ
namespace Go.Proofs.YtiicjmbnkjociaaDoor
open Go.RowKit

theorem ofx_call (n : Int) (w : World) : Calls Tryd.prog 11 #[.int .i64 n] w fun e w' => (∃ x : Dt, IsOf n x ∧ e = .returned (.tuple #[x.v, .int .i64 (ofE n)])) ∧ Below w.heap.size w w' := refOf_call n w
set_option maxHeartbeats 8000000 in
set_option maxRecDepth 100000 in
theorem spec_walk (n : Int) (x : Dt) (w : World) (hT : Tab w) :
    Calls Tryd.prog 3 #[.int .i64 n, x.v] w fun e w' => e = .returned (.bool true) ∧ Below w.heap.size w w' := by
  have BW := Lib.hid (Below.refl w.heap.size w)
  have TB := Lib.hid hT
  have CSA := Lib.hid (fun W h => sane_call W h)
  have COF := Lib.hid (fun W h => Of_call n W h)
  have CRO := Lib.hid (fun W => refOf_call n W)
  have CNU := Lib.hid (fun W h => Number_call x W h)
  have CRN := Lib.hid (fun W => refNumber_call x W)
  have CWD := Lib.hid (fun W => Weekday_call n W)
  have CRW := Lib.hid (fun W => refWeekday_call n W)
  have HIJ : Hid (∀ a b, IsOf n a → IsOf n b → a = b) := Lib.hid (fun a b h k => h.inj k)
  generalize numR x = a1 at *
  generalize numE x = a2 at *
  generalize wkR n = a3 at *
  generalize ofE n = a4 at *
  obtain ⟨xy, xm, xd⟩ := x
  unfold Dt.v at *
  go_enter Tryd.func3, Tryd.ntmps3
  go_wp2_with fail
  have BX := Lib.hid (row_new w 23 [.int .i64 xy, .int .i64 xm, .int .i64 xd])
  replace BW := Lib.hid (below_next BW.out (Joins.below_alloc1 w (.cells #[.int .i64 xy, .int .i64 xm, .int .i64 xd] 23)))
  replace TB := Lib.hid (TB.out.keep (Joins.below_alloc1 w (.cells #[.int .i64 xy, .int .i64 xm, .int .i64 xd] 23)))
  have hsw1 : (w.alloc (.cells #[.int .i64 xy, .int .i64 xm, .int .i64 xd] 23)).heap.size = w.heap.size + 1 := World.size_alloc ..
  generalize w.alloc (.cells #[.int .i64 xy, .int .i64 xm, .int .i64 xd] 23) = w1 at *
  refine (CSA.out _ TB.out).mono ?_
  rintro e w2 ⟨rfl, hb⟩
  replace BW := Lib.hid (below_next BW.out hb)
  replace TB := Lib.hid (TB.out.keep hb)
  replace BX := Lib.hid (BX.out.keep hb)
  clear hb
  go_wp2_with fail
  refine (COF.out _ TB.out).mono ?_
  rintro e w3 ⟨⟨⟨y, m, d⟩, hx, rfl⟩, hb⟩
  replace BW := Lib.hid (below_next BW.out hb)
  replace TB := Lib.hid (TB.out.keep hb)
  replace BX := Lib.hid (BX.out.keep hb)
  have HX := Lib.hid hx
  clear hx
  clear hb
  go_wp2_with fail
  have D1 := Lib.hid (row_new w3 23 [.int .i64 y, .int .i64 m, .int .i64 d])
  replace BW := Lib.hid (below_next BW.out (Joins.below_alloc1 w3 (.cells #[.int .i64 y, .int .i64 m, .int .i64 d] 23)))
  replace TB := Lib.hid (TB.out.keep (Joins.below_alloc1 w3 (.cells #[.int .i64 y, .int .i64 m, .int .i64 d] 23)))
  replace BX := Lib.hid (BX.out.keep (Joins.below_alloc1 w3 (.cells #[.int .i64 y, .int .i64 m, .int .i64 d] 23)))
  have hsw4 : (w3.alloc (.cells #[.int .i64 y, .int .i64 m, .int .i64 d] 23)).heap.size = w3.heap.size + 1 := World.size_alloc ..
  generalize w3.alloc (.cells #[.int .i64 y, .int .i64 m, .int .i64 d] 23) = w4 at *
  refine (CRO.out _).mono ?_
  rintro e w5 ⟨⟨⟨y2, m2, d2⟩, hx2, rfl⟩, hb⟩
  replace BW := Lib.hid (below_next BW.out hb)
  replace TB := Lib.hid (TB.out.keep hb)
  replace BX := Lib.hid (BX.out.keep hb)
  replace D1 := Lib.hid (D1.out.keep hb)
  have hxe := HIJ.out _ _ hx2 HX.out
  obtain ⟨rfl, rfl, rfl⟩ := Dt.mk.inj hxe
  clear hx2 hxe
  clear hb
  have bx0 := (BX.out.keep (Joins.below_alloc1 w5 (.cells #[.int .i64 y2, .int .i64 m2, .int .i64 d2] 23))).cell (i := 0) rfl
  have bx1 := (BX.out.keep (Joins.below_alloc1 w5 (.cells #[.int .i64 y2, .int .i64 m2, .int .i64 d2] 23))).cell (i := 1) rfl
  have bx2 := (BX.out.keep (Joins.below_alloc1 w5 (.cells #[.int .i64 y2, .int .i64 m2, .int .i64 d2] 23))).cell (i := 2) rfl
  go_wp2_with fail
  clear bx0 bx1 bx2
  have D2 := Lib.hid (row_new w5 23 [.int .i64 y2, .int .i64 m2, .int .i64 d2])
  replace BW := Lib.hid (below_next BW.out (Joins.below_alloc1 w5 (.cells #[.int .i64 y2, .int .i64 m2, .int .i64 d2] 23)))
  replace TB := Lib.hid (TB.out.keep (Joins.below_alloc1 w5 (.cells #[.int .i64 y2, .int .i64 m2, .int .i64 d2] 23)))
  replace BX := Lib.hid (BX.out.keep (Joins.below_alloc1 w5 (.cells #[.int .i64 y2, .int .i64 m2, .int .i64 d2] 23)))
  replace D1 := Lib.hid (D1.out.keep (Joins.below_alloc1 w5 (.cells #[.int .i64 y2, .int .i64 m2, .int .i64 d2] 23)))
  have hsw6 : (w5.alloc (.cells #[.int .i64 y2, .int .i64 m2, .int .i64 d2] 23)).heap.size = w5.heap.size + 1 := World.size_alloc ..
  generalize w5.alloc (.cells #[.int .i64 y2, .int .i64 m2, .int .i64 d2] 23) = w6 at *
  refine (CNU.out _ TB.out).mono ?_
  rintro e w7 ⟨rfl, hb⟩
  replace BW := Lib.hid (below_next BW.out hb)
  replace TB := Lib.hid (TB.out.keep hb)
  replace BX := Lib.hid (BX.out.keep hb)
  replace D1 := Lib.hid (D1.out.keep hb)
  replace D2 := Lib.hid (D2.out.keep hb)
  clear hb
  have bx0 := BX.out.cell (i := 0) rfl
  have bx1 := BX.out.cell (i := 1) rfl
  have bx2 := BX.out.cell (i := 2) rfl
  go_wp2_with fail
  clear bx0 bx1 bx2
  refine (CRN.out _).mono ?_
  rintro e w8 ⟨rfl, hb⟩
  replace BW := Lib.hid (below_next BW.out hb)
  replace TB := Lib.hid (TB.out.keep hb)
  replace BX := Lib.hid (BX.out.keep hb)
  replace D1 := Lib.hid (D1.out.keep hb)
  replace D2 := Lib.hid (D2.out.keep hb)
  clear hb
  go_wp2_with fail
  refine (CWD.out _).mono ?_
  rintro e w8 ⟨rfl, rfl⟩
  go_wp2_with fail
  refine (CRW.out _).mono ?_
  rintro e w9 ⟨rfl, rfl⟩
  have c10 := D1.out.cell (i := 0) rfl
  have c11 := D1.out.cell (i := 1) rfl
  have c12 := D1.out.cell (i := 2) rfl
  have c20 := D2.out.cell (i := 0) rfl
  have c21 := D2.out.cell (i := 1) rfl
  have c22 := D2.out.cell (i := 2) rfl
  have hq := fun W => eql_date y2 m2 d2 y2 m2 d2 W
  rw [show ((y2 == y2) && ((m2 == m2) && (d2 == d2))) = true by simp] at hq
  have hg := fun op x y W => guard_date op x y y2 m2 d2 y2 m2 d2 W
  have s1 : (a1 == a1) = true := by simp
  have s2 : (a2 == a2) = true := by simp
  have s3 : (a3 == a3) = true := by simp
  have s4 : (a4 == a4) = true := by simp
  go_wp2_with fail
  go_ret
  exact ⟨rfl, BW.out⟩
end Go.Proofs.YtiicjmbnkjociaaDoor
