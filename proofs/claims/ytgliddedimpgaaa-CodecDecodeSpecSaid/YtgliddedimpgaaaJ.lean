/- write, for each kind: the kind's byte, then what the kind's function appends. -/
import Derived.Test.YtgliddedimpgaaaI
namespace Go.Proofs.Ytgliddedimpgaaa
open Go.RowKit

theorem cell_new_at (w : World) (x : Value) (T : TypeId) (n : Nat) (hn : n = w.heap.size) : ∀ j u, [x][j]? = some u → (w.alloc (.cells #[x] T)).cell? ((⟨n, 0, none⟩ : Addr).add j) = some u := by
  subst hn; exact cell_new1 w x T
theorem cell_below {W w1 : World} {x : Value} {n : Nat} (h : ∀ j u, [x][j]? = some u → W.cell? ((⟨n, 0, none⟩ : Addr).add j) = some u) (hb : Below W.heap.size W w1) : ∀ j u, [x][j]? = some u → w1.cell? ((⟨n, 0, none⟩ : Addr).add j) = some u := by
  intro j u hj
  have h1 := h j u hj
  rw [← h1]
  exact hb.cell (World.block_lt_of_cell? W _ h1)
theorem size2 (w : World) (o : Obj) : w.heap.size + 1 = (w.alloc o).heap.size := by simp
theorem lt_size (w : World) (o : Obj) : w.heap.size < (w.alloc o).drew.heap.size := by simp
theorem size1 (w : World) (o : Obj) : w.heap.size + 1 = (w.alloc o).drew.heap.size := by simp

set_option maxHeartbeats 8000000 in
theorem write_1 (n : Int) (s : ByteArray) (a : Option Addr) (len cap : Nat) (w : World) (v : Value) (xs ys : List UInt8) (hbuf : Buf w v xs) (hx : xs.length ≤ 35184372088832)
    (HF : Hid (∀ W v1, Wrote w W v v1 → Buf W v1 (xs ++ [1]) → Calls Try.prog 49 #[v1, val 1 n s a len cap] W fun e w' => Wr W w' v1 (xs ++ [1] ++ ys) e)) :
    Calls Try.prog 26 #[v, val 1 n s a len cap] w fun e w' => Wr w w' v (xs ++ (1 :: ys)) e := by
  obtain ⟨i0, hi, hz0, hz1, hz2⟩ := info_parts Try.info5
  have k1 := kindAt1
  have k2 := kindFn12
  have hwk : IntKind.u8.wrap 1 = 1 := by rw [IntKind.wrap_u8']; rfl
  go_enter Try.func26, Try.ntmps26
  go_wp2_with fail
  go_region_held3 (fun w' => w'.cell? ⟨w.heap.size, 0, none⟩ = some (.int .i64 1) ∧ w'.cell? ⟨w.heap.size, 1, none⟩ = some (.int .i64 n) ∧ w'.cell? ⟨w.heap.size, 2, none⟩ = some (.string s) ∧ w'.cell? ⟨w.heap.size, 3, none⟩ = some (.slice a len cap))
    (first | go_keep | (exact wrote4 hw3 (by assumption) hN2) | (exact keep4 hb1 (by assumption)) | (exact wrote4 hw2 (by assumption) (own_ne hbuf)))
    (first | (go_at_call 38; refine (kinds_call _).mono ?_; rintro e w1 ⟨rfl, hb1⟩; have hsz := hb1.size; first | (have hW3 := hW2.trans (Wrote.below v2 hb1); have hB3 := buf_stays hB2 hb1) | (have hP := below_next (((Joins.below_alloc1 w (.cells #[.int .i64 1, .int .i64 n, .string s, .slice a len cap] 24)).alloc (Nat.le_of_lt (lt_size w (.cells #[.int .i64 1, .int .i64 n, .string s, .slice a len cap] 24))) (.cells #[.int .u8 1] 5)).drew) hb1) | (have hP := below_next ((Joins.below_alloc1 w _).drew) hb1))
           | (go_at_call 49; refine (HF.out _ _ hW3 hB3).mono ?_; rintro e w3 ⟨v3, rfl, hb3, hw3⟩; have hW4 := hW3.trans hw3)
           | (go_at_call 49; refine (HF.out _ _ hW2 hB2).mono ?_; rintro e w3 ⟨v3, rfl, hb3, hw3⟩; have hW4 := hW2.trans hw3)
           | (refine step_append_mine _ rfl _ _ 27 rfl 5 i0 _ 1 1 Try.underlying27 hi hz0 hz1 hz2 rfl (by decide) v _ _ rfl (World.ownsRow.alloc (buf_stays hbuf hP) _) ⟨w1.heap.size, 0, none⟩ 1 1 [.int .u8 1] rfl rfl (cell_new1 _ _ _) (one_oneCell _ _) ?_ ?_ ?_; (simp [maxLen]; omega); (simp; omega); intro v2 w2 ho2 hw2; have hB2 := buf_snoc (n := 1) (by omega) rfl rfl ho2; have hN2 : some w.heap.size ≠ v2.ownBlock := own_ne2 hbuf hw2 (by first | (simp; done) | (simp at hsz ⊢; omega)); have hW2 := ((Wrote.below v hP).alloc _).trans hw2)
           | (refine step_append_mine _ rfl _ _ 27 rfl 5 i0 _ 1 1 Try.underlying27 hi hz0 hz1 hz2 rfl (by decide) v _ _ rfl (buf_stays hbuf hP) ⟨w.heap.size + 1, 0, none⟩ 1 1 [.int .u8 1] rfl rfl (cell_below (W := ((w.alloc (.cells #[.int .i64 1, .int .i64 n, .string s, .slice a len cap] 24)).alloc (.cells #[.int .u8 1] 5)).drew) (cell_new_at (w.alloc (.cells #[.int .i64 1, .int .i64 n, .string s, .slice a len cap] 24)) _ _ _ (size2 w _)) hb1) (one_oneCell _ _) ?_ ?_ ?_; (simp [maxLen]; omega); (simp; omega); intro v2 w2 ho2 hw2; have hB2 := buf_snoc (n := 1) (by omega) rfl rfl ho2; have hN2 : some w.heap.size ≠ v2.ownBlock := own_ne2 hbuf hw2 (by first | (simp; done) | (simp at hsz ⊢; omega)); have hW2 := (Wrote.below v hP).trans hw2)
           | (refine step_append_mine _ rfl _ _ 27 rfl 5 i0 _ 1 1 Try.underlying27 hi hz0 hz1 hz2 rfl (by decide) v _ _ rfl (World.ownsRow.drew (World.ownsRow.alloc (buf_stays hbuf (Joins.below_alloc1 w (.cells #[.int .i64 1, .int .i64 n, .string s, .slice a len cap] 24))) (.cells #[.int .u8 1] 5))) ⟨w.heap.size + 1, 0, none⟩ 1 1 [.int .u8 1] rfl rfl (cell_new_at (w.alloc (.cells #[.int .i64 1, .int .i64 n, .string s, .slice a len cap] 24)) _ _ _ (size2 w _)) (one_oneCell _ _) ?_ ?_ ?_; (simp [maxLen]; omega); (simp; omega); intro v2 w2 ho2 hw2; have hB2 := buf_snoc (n := 1) (by omega) rfl rfl ho2; have hN2 : some w.heap.size ≠ v2.ownBlock := own_ne2 hbuf hw2 (by first | (simp; done) | (simp at hsz ⊢; omega)); have hW2 := ((Wrote.below v ((Joins.below_alloc1 w (.cells #[.int .i64 1, .int .i64 n, .string s, .slice a len cap] 24)))).alloc (.cells #[.int .u8 1] 5)).drew.trans hw2))
  all_goals
    go_wp2_with fail
    go_ret
    exact ⟨v3, rfl, by simpa using hb3, hW4⟩

set_option maxHeartbeats 8000000 in
theorem write_2 (n : Int) (s : ByteArray) (a : Option Addr) (len cap : Nat) (w : World) (v : Value) (xs ys : List UInt8) (hbuf : Buf w v xs) (hx : xs.length ≤ 35184372088832)
    (HF : Hid (∀ W v1, Wrote w W v v1 → Buf W v1 (xs ++ [2]) → Calls Try.prog 52 #[v1, val 2 n s a len cap] W fun e w' => Wr W w' v1 (xs ++ [2] ++ ys) e)) :
    Calls Try.prog 26 #[v, val 2 n s a len cap] w fun e w' => Wr w w' v (xs ++ (2 :: ys)) e := by
  obtain ⟨i0, hi, hz0, hz1, hz2⟩ := info_parts Try.info5
  have k1 := kindAt2
  have k2 := kindFn22
  have hwk : IntKind.u8.wrap 2 = 2 := by rw [IntKind.wrap_u8']; rfl
  go_enter Try.func26, Try.ntmps26
  go_wp2_with fail
  go_region_held3 (fun w' => w'.cell? ⟨w.heap.size, 0, none⟩ = some (.int .i64 2) ∧ w'.cell? ⟨w.heap.size, 1, none⟩ = some (.int .i64 n) ∧ w'.cell? ⟨w.heap.size, 2, none⟩ = some (.string s) ∧ w'.cell? ⟨w.heap.size, 3, none⟩ = some (.slice a len cap))
    (first | go_keep | (exact wrote4 hw3 (by assumption) hN2) | (exact keep4 hb1 (by assumption)) | (exact wrote4 hw2 (by assumption) (own_ne hbuf)))
    (first | (go_at_call 38; refine (kinds_call _).mono ?_; rintro e w1 ⟨rfl, hb1⟩; have hsz := hb1.size; first | (have hW3 := hW2.trans (Wrote.below v2 hb1); have hB3 := buf_stays hB2 hb1) | (have hP := below_next (((Joins.below_alloc1 w (.cells #[.int .i64 2, .int .i64 n, .string s, .slice a len cap] 24)).alloc (Nat.le_of_lt (lt_size w (.cells #[.int .i64 2, .int .i64 n, .string s, .slice a len cap] 24))) (.cells #[.int .u8 2] 5)).drew) hb1) | (have hP := below_next ((Joins.below_alloc1 w _).drew) hb1))
           | (go_at_call 52; refine (HF.out _ _ hW3 hB3).mono ?_; rintro e w3 ⟨v3, rfl, hb3, hw3⟩; have hW4 := hW3.trans hw3)
           | (go_at_call 52; refine (HF.out _ _ hW2 hB2).mono ?_; rintro e w3 ⟨v3, rfl, hb3, hw3⟩; have hW4 := hW2.trans hw3)
           | (refine step_append_mine _ rfl _ _ 27 rfl 5 i0 _ 1 1 Try.underlying27 hi hz0 hz1 hz2 rfl (by decide) v _ _ rfl (World.ownsRow.alloc (buf_stays hbuf hP) _) ⟨w1.heap.size, 0, none⟩ 1 1 [.int .u8 2] rfl rfl (cell_new1 _ _ _) (one_oneCell _ _) ?_ ?_ ?_; (simp [maxLen]; omega); (simp; omega); intro v2 w2 ho2 hw2; have hB2 := buf_snoc (n := 2) (by omega) rfl rfl ho2; have hN2 : some w.heap.size ≠ v2.ownBlock := own_ne2 hbuf hw2 (by first | (simp; done) | (simp at hsz ⊢; omega)); have hW2 := ((Wrote.below v hP).alloc _).trans hw2)
           | (refine step_append_mine _ rfl _ _ 27 rfl 5 i0 _ 1 1 Try.underlying27 hi hz0 hz1 hz2 rfl (by decide) v _ _ rfl (buf_stays hbuf hP) ⟨w.heap.size + 1, 0, none⟩ 1 1 [.int .u8 2] rfl rfl (cell_below (W := ((w.alloc (.cells #[.int .i64 2, .int .i64 n, .string s, .slice a len cap] 24)).alloc (.cells #[.int .u8 2] 5)).drew) (cell_new_at (w.alloc (.cells #[.int .i64 2, .int .i64 n, .string s, .slice a len cap] 24)) _ _ _ (size2 w _)) hb1) (one_oneCell _ _) ?_ ?_ ?_; (simp [maxLen]; omega); (simp; omega); intro v2 w2 ho2 hw2; have hB2 := buf_snoc (n := 2) (by omega) rfl rfl ho2; have hN2 : some w.heap.size ≠ v2.ownBlock := own_ne2 hbuf hw2 (by first | (simp; done) | (simp at hsz ⊢; omega)); have hW2 := (Wrote.below v hP).trans hw2)
           | (refine step_append_mine _ rfl _ _ 27 rfl 5 i0 _ 1 1 Try.underlying27 hi hz0 hz1 hz2 rfl (by decide) v _ _ rfl (World.ownsRow.drew (World.ownsRow.alloc (buf_stays hbuf (Joins.below_alloc1 w (.cells #[.int .i64 2, .int .i64 n, .string s, .slice a len cap] 24))) (.cells #[.int .u8 2] 5))) ⟨w.heap.size + 1, 0, none⟩ 1 1 [.int .u8 2] rfl rfl (cell_new_at (w.alloc (.cells #[.int .i64 2, .int .i64 n, .string s, .slice a len cap] 24)) _ _ _ (size2 w _)) (one_oneCell _ _) ?_ ?_ ?_; (simp [maxLen]; omega); (simp; omega); intro v2 w2 ho2 hw2; have hB2 := buf_snoc (n := 2) (by omega) rfl rfl ho2; have hN2 : some w.heap.size ≠ v2.ownBlock := own_ne2 hbuf hw2 (by first | (simp; done) | (simp at hsz ⊢; omega)); have hW2 := ((Wrote.below v ((Joins.below_alloc1 w (.cells #[.int .i64 2, .int .i64 n, .string s, .slice a len cap] 24)))).alloc (.cells #[.int .u8 2] 5)).drew.trans hw2))
  all_goals
    go_wp2_with fail
    go_ret
    exact ⟨v3, rfl, by simpa using hb3, hW4⟩

set_option maxHeartbeats 8000000 in
theorem write_3 (n : Int) (s : ByteArray) (a : Option Addr) (len cap : Nat) (w : World) (v : Value) (xs ys : List UInt8) (hbuf : Buf w v xs) (hx : xs.length ≤ 35184372088832)
    (HF : Hid (∀ W v1, Wrote w W v v1 → Buf W v1 (xs ++ [3]) → Calls Try.prog 55 #[v1, val 3 n s a len cap] W fun e w' => Wr W w' v1 (xs ++ [3] ++ ys) e)) :
    Calls Try.prog 26 #[v, val 3 n s a len cap] w fun e w' => Wr w w' v (xs ++ (3 :: ys)) e := by
  obtain ⟨i0, hi, hz0, hz1, hz2⟩ := info_parts Try.info5
  have k1 := kindAt3
  have k2 := kindFn32
  have hwk : IntKind.u8.wrap 3 = 3 := by rw [IntKind.wrap_u8']; rfl
  go_enter Try.func26, Try.ntmps26
  go_wp2_with fail
  go_region_held3 (fun w' => w'.cell? ⟨w.heap.size, 0, none⟩ = some (.int .i64 3) ∧ w'.cell? ⟨w.heap.size, 1, none⟩ = some (.int .i64 n) ∧ w'.cell? ⟨w.heap.size, 2, none⟩ = some (.string s) ∧ w'.cell? ⟨w.heap.size, 3, none⟩ = some (.slice a len cap))
    (first | go_keep | (exact wrote4 hw3 (by assumption) hN2) | (exact keep4 hb1 (by assumption)) | (exact wrote4 hw2 (by assumption) (own_ne hbuf)))
    (first | (go_at_call 38; refine (kinds_call _).mono ?_; rintro e w1 ⟨rfl, hb1⟩; have hsz := hb1.size; first | (have hW3 := hW2.trans (Wrote.below v2 hb1); have hB3 := buf_stays hB2 hb1) | (have hP := below_next (((Joins.below_alloc1 w (.cells #[.int .i64 3, .int .i64 n, .string s, .slice a len cap] 24)).alloc (Nat.le_of_lt (lt_size w (.cells #[.int .i64 3, .int .i64 n, .string s, .slice a len cap] 24))) (.cells #[.int .u8 3] 5)).drew) hb1) | (have hP := below_next ((Joins.below_alloc1 w _).drew) hb1))
           | (go_at_call 55; refine (HF.out _ _ hW3 hB3).mono ?_; rintro e w3 ⟨v3, rfl, hb3, hw3⟩; have hW4 := hW3.trans hw3)
           | (go_at_call 55; refine (HF.out _ _ hW2 hB2).mono ?_; rintro e w3 ⟨v3, rfl, hb3, hw3⟩; have hW4 := hW2.trans hw3)
           | (refine step_append_mine _ rfl _ _ 27 rfl 5 i0 _ 1 1 Try.underlying27 hi hz0 hz1 hz2 rfl (by decide) v _ _ rfl (World.ownsRow.alloc (buf_stays hbuf hP) _) ⟨w1.heap.size, 0, none⟩ 1 1 [.int .u8 3] rfl rfl (cell_new1 _ _ _) (one_oneCell _ _) ?_ ?_ ?_; (simp [maxLen]; omega); (simp; omega); intro v2 w2 ho2 hw2; have hB2 := buf_snoc (n := 3) (by omega) rfl rfl ho2; have hN2 : some w.heap.size ≠ v2.ownBlock := own_ne2 hbuf hw2 (by first | (simp; done) | (simp at hsz ⊢; omega)); have hW2 := ((Wrote.below v hP).alloc _).trans hw2)
           | (refine step_append_mine _ rfl _ _ 27 rfl 5 i0 _ 1 1 Try.underlying27 hi hz0 hz1 hz2 rfl (by decide) v _ _ rfl (buf_stays hbuf hP) ⟨w.heap.size + 1, 0, none⟩ 1 1 [.int .u8 3] rfl rfl (cell_below (W := ((w.alloc (.cells #[.int .i64 3, .int .i64 n, .string s, .slice a len cap] 24)).alloc (.cells #[.int .u8 3] 5)).drew) (cell_new_at (w.alloc (.cells #[.int .i64 3, .int .i64 n, .string s, .slice a len cap] 24)) _ _ _ (size2 w _)) hb1) (one_oneCell _ _) ?_ ?_ ?_; (simp [maxLen]; omega); (simp; omega); intro v2 w2 ho2 hw2; have hB2 := buf_snoc (n := 3) (by omega) rfl rfl ho2; have hN2 : some w.heap.size ≠ v2.ownBlock := own_ne2 hbuf hw2 (by first | (simp; done) | (simp at hsz ⊢; omega)); have hW2 := (Wrote.below v hP).trans hw2)
           | (refine step_append_mine _ rfl _ _ 27 rfl 5 i0 _ 1 1 Try.underlying27 hi hz0 hz1 hz2 rfl (by decide) v _ _ rfl (World.ownsRow.drew (World.ownsRow.alloc (buf_stays hbuf (Joins.below_alloc1 w (.cells #[.int .i64 3, .int .i64 n, .string s, .slice a len cap] 24))) (.cells #[.int .u8 3] 5))) ⟨w.heap.size + 1, 0, none⟩ 1 1 [.int .u8 3] rfl rfl (cell_new_at (w.alloc (.cells #[.int .i64 3, .int .i64 n, .string s, .slice a len cap] 24)) _ _ _ (size2 w _)) (one_oneCell _ _) ?_ ?_ ?_; (simp [maxLen]; omega); (simp; omega); intro v2 w2 ho2 hw2; have hB2 := buf_snoc (n := 3) (by omega) rfl rfl ho2; have hN2 : some w.heap.size ≠ v2.ownBlock := own_ne2 hbuf hw2 (by first | (simp; done) | (simp at hsz ⊢; omega)); have hW2 := ((Wrote.below v ((Joins.below_alloc1 w (.cells #[.int .i64 3, .int .i64 n, .string s, .slice a len cap] 24)))).alloc (.cells #[.int .u8 3] 5)).drew.trans hw2))
  all_goals
    go_wp2_with fail
    go_ret
    exact ⟨v3, rfl, by simpa using hb3, hW4⟩

end Go.Proofs.Ytgliddedimpgaaa
