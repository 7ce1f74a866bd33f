/- Deny, where the costs are not right. -/
import Derived.Test.YthkmbbgcadfilaaPf
namespace Go.Proofs.Ythkmbbgcadfilaa
open Go.RowKit Go.Shelf

/-- what Deny answers about costs -/
def DenP (C : List (List Int)) (v : Value) (ok : Bool) (w' : World) : Prop :=
  (ok = true ∧ chkE C = 0 ∧ ∃ l, IBuf w' v (ofN l) ∧ SL C.length l ∧ 1 ≤ l.length ∧ crF C (colsN C) l ∧ ∀ R, SL C.length R → 1 ≤ R.length → crF C (colsN C) R → Bef l R) ∨
  (ok = false ∧ v = nilV ∧ (chkE C = 0 → ∀ R, SL C.length R → 1 ≤ R.length → ¬ crF C (colsN C) R))
def DenQ (C : List (List Int)) (w : World) (e : Ending) (w' : World) : Prop := Below w.heap.size w w' ∧ ∃ v ok, e = .returned (.tuple #[v, .bool ok, .int .i64 (chkE C)]) ∧ DenP C v ok w'
/-- the cells of Deny's results -/
structure Res3 (b0 : Nat) (v : Value) (b : Bool) (e : Int) (W : World) : Prop where
  r2 : Row W b0 23 [v]
  r3 : Row W (b0 + 1) 4 [.bool b]
  r4 : Row W (b0 + 1 + 1) 26 [.int .i64 e]
def bx3 (w : World) : World := ((w.alloc (.cells #[.slice none 0 0] 23)).alloc (.cells #[.bool false] 4)).alloc (.cells #[.int .i64 0] 26)
theorem bx3_below (w : World) : Below w.heap.size w (bx3 w) := below_next (below_next (Joins.below_alloc1 w _) (Joins.below_alloc1 _ _)) (Joins.below_alloc1 _ _)
theorem bx3_size (w : World) : (bx3 w).heap.size = w.heap.size + 3 := by unfold bx3; rw [World.size_alloc, World.size_alloc, World.size_alloc]
theorem bx3_res (w : World) : Res3 w.heap.size nilV false 0 (bx3 w) := by
  have h2 := ((row_new w 23 [nilV]).keep (Joins.below_alloc1 _ (.cells #[.bool false] 4))).keep (Joins.below_alloc1 _ (.cells #[.int .i64 0] 26))
  have h3 := (row_new (w.alloc (.cells #[.slice none 0 0] 23)) 4 [.bool false]).keep (Joins.below_alloc1 _ (.cells #[.int .i64 0] 26))
  have h4 := row_new ((w.alloc (.cells #[.slice none 0 0] 23)).alloc (.cells #[.bool false] 4)) 26 [.int .i64 0]
  rw [World.size_alloc] at h3
  rw [World.size_alloc, World.size_alloc] at h4
  exact ⟨h2, h3, h4⟩
section
variable {b0 : Nat} {W W' : World} {v : Value} {b : Bool} {e : Int}
theorem Res3.keep (h : Res3 b0 v b e W) (hb : Below W.heap.size W W') : Res3 b0 v b e W' := ⟨h.r2.keep hb, h.r3.keep hb, h.r4.keep hb⟩
theorem Res3.set2 (h : Res3 b0 v b e W) (x : Value) : Res3 b0 x b e (W.setCell ⟨b0, 0, none⟩ x) := ⟨h.r2.set 0 x rfl, h.r3.setFar 0 x (by omega), h.r4.setFar 0 x (by omega)⟩
theorem Res3.set3 (h : Res3 b0 v b e W) (x : Bool) : Res3 b0 v x e (W.setCell ⟨b0 + 1, 0, none⟩ (.bool x)) := ⟨h.r2.setFar 0 _ (by omega), h.r3.set 0 _ rfl, h.r4.setFar 0 _ (by omega)⟩
theorem Res3.set4 (h : Res3 b0 v b e W) (x : Int) : Res3 b0 v b x (W.setCell ⟨b0 + 1 + 1, 0, none⟩ (.int .i64 x)) := ⟨h.r2.setFar 0 _ (by omega), h.r3.setFar 0 _ (by omega), h.r4.set 0 _ rfl⟩
end
set_option maxRecDepth 100000 in
set_option maxHeartbeats 8000000 in
theorem deny_bad (C : List (List Int)) (vc : Value) (w : World) (hC : NRest w.heap.size w C vc) (h0 : chkE C ≠ 0) :
    Calls Try.prog 22 #[vc] w (DenQ C w) := by
  have HCH := Lib.hid (check_call C vc (bx3 w) (hC.keep (bx3_below w)))
  obtain ⟨a, c, rfl⟩ := nrest_shape hC
  obtain ⟨n, hn⟩ : ∃ n, n = C.length := ⟨_, rfl⟩
  obtain ⟨ce, hce⟩ : ∃ x, x = chkE C := ⟨_, rfl⟩
  have HR := Lib.hid (bx3_res w)
  have HB := Lib.hid (bx3_below w)
  obtain ⟨w1, hw1⟩ : ∃ w1, w1 = bx3 w := ⟨_, rfl⟩
  have HW1 := Lib.hid hw1
  rw [← hw1] at HCH HR HB
  have H0 := Lib.hid h0
  have HCE := Lib.hid hce
  rw [← hce] at HCH h0
  rw [← hn] at HCH ⊢
  have h1 : (ce != 0) = true := by simp [h0]
  clear hn hce h0 hC hw1
  go_enter Try.func22, Try.ntmps22
  go_upto_region 1 with (fail)
  change Code.wp _ _ _ _ (bx3 w)
  rw [← HW1.out]
  obtain ⟨b0, hb0⟩ : ∃ b, b = w.heap.size := ⟨_, rfl⟩
  rw [← hb0] at HR ⊢
  have HB0 := Lib.hid hb0
  have f4 := HR.out.r4.free 0
  have d4 := HR.out.r4.cell (i := 0) rfl
  clear hb0
  go_upto_region 2 with (go_at_call 17; refine HCH.out.mono ?_; rintro e w5 ⟨rfl, rfl⟩)
  have HR2 := Lib.hid (HR.out.set4 ce)
  have HB2 : Hid (Below w.heap.size w (w5.setCell ⟨b0 + 1 + 1, 0, none⟩ (.int .i64 ce))) := Lib.hid (below_setCell HB.out _ _ _ (by have := HB0.out; omega))
  obtain ⟨w2, hw2⟩ : ∃ w2, w2 = w5.setCell ⟨b0 + 1 + 1, 0, none⟩ (.int .i64 ce) := ⟨_, rfl⟩
  rw [← hw2] at HR2 HB2 ⊢
  clear hw2 f4 d4
  have d2 := HR2.out.r2.cell (i := 0) rfl
  have d3 := HR2.out.r3.cell (i := 0) rfl
  have d4 := HR2.out.r4.cell (i := 0) rfl
  have f2 := HR2.out.r2.free 0
  have f3 := HR2.out.r3.free 0
  have f4 := HR2.out.r4.free 0
  go_upto_region 3 with (fail)
  go_region
  have hr := ((HR2.out.set2 nilV).set3 false).set4 ce
  have hr9 := hr.keep (Below.refl _ _).drew
  have HR9 := Lib.hid hr9
  have HB9 := Lib.hid ((below_setCell (below_setCell (below_setCell HB2.out b0 0 nilV (by have := HB0.out; omega)) (b0 + 1) 0 (.bool false) (by have := HB0.out; omega)) (b0 + 1 + 1) 0 (.int .i64 ce) (by have := HB0.out; omega)).drew)
  clear hr hr9 d2 d3 d4 f2 f3 f4
  go_wp2_with fail
  refine bodyPost_ret (results_den rfl _ _ b0 (b0 + 1) (b0 + 1 + 1) none 0 0 false ce rfl rfl rfl (HR9.out.r2.cell (i := 0) rfl) (HR9.out.r3.cell (i := 0) rfl) (HR9.out.r4.cell (i := 0) rfl)) rfl ?_
  exact ⟨HB9.out, nilV, false, by rw [← HCE.out], .inr ⟨rfl, rfl, fun h => absurd h H0.out⟩⟩
end Go.Proofs.Ythkmbbgcadfilaa
