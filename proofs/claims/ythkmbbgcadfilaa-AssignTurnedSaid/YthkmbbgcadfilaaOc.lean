/- takes. -/
import Derived.Test.YthkmbbgcadfilaaObs
namespace Go.Proofs.Ythkmbbgcadfilaa
open Go.RowKit Go.Shelf

set_option maxRecDepth 100000 in
set_option maxHeartbeats 8000000 in
theorem takes_call {g gu gv gt gr gb gd gl cap n m : Nat} {vc : Value} {U V TO RW : List Int} {c : Nat → Nat → Int} {tof row : Nat → Int} (C : List (List Int)) (w : World) (i j : Nat) (hM : Mat C n m) (hd : DMem g gu gv gt gr n m vc U V TO RW w) (hD : Deal n m c (gI U 0) (gI V 0) tof row n)
    (hl : LMem gl cap n C w) (hb : Row w gb 22 [.slice (some ⟨gl, 0, none⟩) n cap]) (hgd : Row w gd 47 [.pointer (some ⟨g, 0, none⟩)]) (hne : gl ≠ g ∧ gl ≠ gu ∧ gl ≠ gv ∧ gl ≠ gt ∧ gl ≠ gr ∧ gl ≠ gb ∧ gl ≠ gd) (hi : i < n) (hj : j < m) {K2 : Int} (hK2 : K2 = bnd n m (gI U 0) (gI V 0))
    (hK : ∀ t, Asg n m (cst (onlyL C m i j)) t → K2 ≤ costOf n (cst (onlyL C m i j)) t) :
    Calls Try.prog 50 #[.int .i64 (i : Int), .int .i64 (j : Int), .pointer (some ⟨gb, 0, none⟩), .pointer (some ⟨gd, 0, none⟩)] w fun e w' => Kp2 (fun b => b ≠ gl) w w' ∧ Fresh gl n w w' ∧ ∃ bb, e = .returned (.bool bb) ∧
      ((bb = true ∧ LMem gl cap n (onlyL C m i j) w' ∧ ∃ t, Asg n m (cst (onlyL C m i j)) t ∧ costOf n (cst (onlyL C m i j)) t = K2) ∨
       (bb = false ∧ LMem gl cap n C w' ∧ ∀ t, Asg n m (cst (onlyL C m i j)) t → costOf n (cst (onlyL C m i j)) t ≠ K2)) := by
  have HK2 := Lib.hid hK2
  have HM := Lib.hid hM
  have HL := Lib.hid hl
  have HDL := Lib.hid hD
  have HB := Lib.hid hb
  have HGD := Lib.hid hgd
  have HD := Lib.hid hd
  have HNE := Lib.hid hne
  have HK := Lib.hid hK
  obtain ⟨rv, hrv, hro⟩ := hl.at hi
  obtain ⟨ra, rc, rfl⟩ := irest_shape hro.1
  have hrow := hro.1
  rw [hM.row i hi] at hrow hrv
  obtain ⟨-, hrc, hrm, hrt⟩ := ints_at hrow
  rw [hM.row i hi] at hrc hrt
  obtain ⟨-, b2, off2, q2, hb2, f2⟩ := hrt j hj
  subst q2
  have hb2l : b2 ≠ gl := hro.2 b2 off2 _ _ rfl (by rw [hM.row i hi]; omega)
  rw [getDD hM hi hj] at f2
  obtain ⟨x, hx⟩ : ∃ x, x = cst C i j := ⟨_, rfl⟩
  rw [← hx] at f2
  have HX := Lib.hid hx
  have HRV := Lib.hid hrv
  have HF2 := Lib.hid (And.intro f2 (And.intro hb2 hb2l))
  have hm16 := hM.m16
  have hn16 := hM.n16
  obtain ⟨hnc, hcm, hgll⟩ := hl.parts
  have hin : (i : Int) < (n : Int) := by omega
  have hjm : (j : Int) < (m : Int) := by omega
  have k0 : ∀ W, Row W gb 22 [.slice (some ⟨gl, 0, none⟩) n cap] → W.cell? ⟨gb, 0, none⟩ = some (.slice (some ⟨gl, 0, none⟩) n cap) := fun W h => h.cell (i := 0) rfl
  have c0 := k0 w hb
  clear hM hl hD hb hgd hd hne hK hK2 hro hrow hrt f2 hx hb2 hb2l
  go_enter Try.func50, Try.ntmps50
  go_upto_region 2 with (fail)
  clear c0 hrv
  have hB1 : Below w.heap.size w (w.alloc (.cells #[.int .i64 (-1)] 3)).drew := (Joins.below_alloc1 w _).drew
  have HB1 := Lib.hid hB1
  clear hB1
  go_region_held3 (fun W => Row W gb 22 [.slice (some ⟨gl, 0, none⟩) n cap]) (first | assumption | exact HB.out.keep (Below.refl _ _).drew | exact (HB.out.keep HB1.out) | exact (Row.keep (by assumption) (Joins.below_alloc1 _ _)) | exact HS7.out) (first | (go_at_call 47; with_reducible refine (repeat_call (-1) m _ (by omega) _ ((row_new w 3 [.int .i64 (-1)]).keep (Below.refl _ _).drew)).mono ?_; rintro e w5 ⟨gn, rfl, hge9, hrw, hbw⟩; have hge : w.heap.size ≤ gn := Nat.le_trans HB1.out.size hge9; have HW5 := Lib.hid (And.intro hge (And.intro hrw (below_next HB1.out hbw))); have hS5 := (HB.out.keep HB1.out).keep hbw; have c1 : w5.cell? ⟨gl, i, none⟩ = some (.slice (some ⟨b2, off2, none⟩) m rc) := (HW5.out.2.2.cell (p := ⟨gl, i, none⟩) hgll).trans HRV.out; have c1f := (HL.out.keep HW5.out.2.2).free i; have HS7 : Hid (Row (w5.setCell ⟨gl, i, none⟩ (.slice (some ⟨gn, 0, none⟩) m m)) gb 22 [.slice (some ⟨gl, 0, none⟩) n cap]) := Lib.hid (hS5.setFar _ _ (by have := HNE.out; omega)); clear hge hge9 hrw hbw))
  go_upto_region 3 with (fail)
  obtain ⟨w6, hw6⟩ : ∃ w6, w6 = w5.setCell ⟨gl, i, none⟩ (.slice (some ⟨gn, 0, none⟩) m m) := ⟨_, rfl⟩
  rw [← hw6] at HS7 ⊢
  have hgn : gn ≠ gl ∧ gn ≠ b2 := by have := HW5.out.1; have := HF2.out.2.1; omega
  have hr6 : Row w6 gn 3 (nums (List.replicate m (-1))) := by rw [hw6]; exact HW5.out.2.1.setFar _ _ hgn.1
  have d0 := k0 w6 HS7.out
  have d1 : w6.cell? ⟨gl, i, none⟩ = some (.slice (some ⟨gn, 0, none⟩) m m) := by
    rw [hw6]
    obtain ⟨rvs, h1, -⟩ := HL.out.keep HW5.out.2.2
    rcases h1.2 with ⟨h0, _⟩ | ⟨g9, cap2, cur, he, _, hg, h5, h6, h7, _⟩
    · cases h0
    · injection he with e1 e2 e3
      injection e1 with e1
      injection e1 with e1
      subst e1 e3
      have h8 : w5.cell? ⟨gl, i, none⟩ = _ := (HW5.out.2.2.cell (p := ⟨gl, i, none⟩) hgll).trans HRV.out
      rw [cell_of_row w5 gl i cur _ _ hg] at h8
      have h9 := heap_setCell_same w5 gl i cur _ (.slice (some ⟨gn, 0, none⟩) m m) hg
      rw [cell_of_row _ gl i _ _ _ h9]
      have hlt : i < cur.size := (Array.getElem?_eq_some_iff.1 h8).1
      simp [hlt]
  have d2 : w6.cell? ⟨b2, off2 + j, none⟩ = some (.int .i64 x) := by
    rw [hw6, cell_same (heap_setCell_other w5 ⟨gl, i, none⟩ b2 _ (by simp; exact HF2.out.2.2)), cell_same (HW5.out.2.2.block b2 HF2.out.2.1)]
    exact HF2.out.1
  have d3 := hr6.free j
  have d4 := nrow_cell hr6 (u := j) (by simp; exact hj)
  have HW6 := Lib.hid hw6
  clear hw6 hgn hr6 k0 c1 c1f hS5
  go_still_tail 10, (by kernel_rfl)
  go_upto_region 4 with (fail)
  have HTK : Hid (TkM gl cap n m i j C w (w6.setCell ⟨gn, j, none⟩ (.int .i64 x)).drew) := Lib.hid ((TkM.make HM.out hi hj HL.out HW5.out.2.2 HW5.out.1 HW5.out.2.1 HW6.out (by rw [HX.out])).drew)
  obtain ⟨w7, hw7⟩ : ∃ w7, w7 = (w6.setCell ⟨gn, j, none⟩ (.int .i64 x)).drew := ⟨_, rfl⟩
  rw [← hw7] at HTK ⊢
  clear hw7 d0 d1 d2 d3 d4 HW5 HW6 HS7 HB1 HF2
  have hb7 : Row w7 gb 22 [.slice (some ⟨gl, 0, none⟩) n cap] := row_kp HB.out HTK.out.kp (by have := HNE.out; omega)
  have d0 := hb7.cell (i := 0) rfl
  have HB7 := Lib.hid hb7
  have HSE := Lib.hid (settle_law (onlyL C m i j) (.slice (some ⟨gl, 0, none⟩) n cap) w7 (onlyL_mat HM.out hi hj) (mat_cols (onlyL_mat HM.out hi hj) (by omega)) (HTK.out.mem.nrest (by unfold onlyL; rw [List.length_set]; exact HM.out.len)))
  clear hb7
  go_upto_region 5 with (go_at_call 31; refine HSE.out.mono ?_; rintro e w8 ⟨hb8, q, ok, rfl, hs8⟩; have HB8 := Lib.hid hb8; have HS8 := Lib.hid hs8; clear hb8 hs8)
  clear d0
  have HT8 := Lib.hid (HTK.out.keep HB8.out)
  have HR8 := Lib.hid (HB7.out.keep HB8.out)
  clear HSE HB7
  cases ok with
  | false =>
    have HNO : Hid (∀ t, Asg n m (cst (onlyL C m i j)) t → costOf n (cst (onlyL C m i j)) t ≠ K2) := Lib.hid (fun t ht => by
      rcases HS8.out with ⟨h0, -⟩ | ⟨-, R, S, hcr⟩
      · cases h0
      · exact absurd ht (hcr.none t))
    clear HS8
    go_upto_region 7 with (go_quiet (fail))
    obtain ⟨w9, hw9⟩ : ∃ w9, w9 = w8.drewN nq := ⟨_, rfl⟩
    have hb9 : Below w8.heap.size w8 w9 := by rw [hw9]; exact below_drewN (Below.refl _ _) nq
    rw [← hw9]
    have HB9 := Lib.hid hb9
    have HT9 := Lib.hid (HT8.out.keep hb9)
    have d0 := (HR8.out.keep hb9).cell (i := 0) rfl
    obtain ⟨rv9, d1, -⟩ := HT9.out.mem.at hi
    have d1f := HT9.out.mem.free i
    clear hw9 hb9
    go_wp2_with fail
    go_ret
    have hbk := TkM.back HM.out hi HL.out HRV.out HT9.out (Below.refl _ _) rfl
    exact ⟨hbk.2.1, hbk.2.2, false, rfl, .inr ⟨rfl, hbk.1, HNO.out⟩⟩
  | true =>
    obtain ⟨g2, gu2, gv2, gt2, gr2, U2, V2, TO2, RW2, hq, hsd⟩ : ∃ g gu gv gt gr U V TO RW, q = some ⟨g, 0, none⟩ ∧ Sdl n m (onlyL C m i j) (.slice (some ⟨gl, 0, none⟩) n cap) w7 w8 g gu gv gt gr U V TO RW := by
      rcases HS8.out with ⟨-, h⟩ | ⟨h0, -⟩
      · exact h
      · cases h0
    subst hq
    have hd8 : DMem g gu gv gt gr n m vc U V TO RW w8 := (HD.out.off HTK.out.kp (by have := HNE.out; omega)).on HB8.out
    have hg8 : Row w8 gd 47 [.pointer (some ⟨g, 0, none⟩)] := (row_kp HGD.out HTK.out.kp (by have := HNE.out; omega)).keep HB8.out
    obtain ⟨K1, hK1⟩ : ∃ K, K = bnd n m (gI U2 0) (gI V2 0) := ⟨_, rfl⟩
    have H1 : Hid (∀ W, Below w8.heap.size w8 W → Calls Try.prog 33 #[.pointer (some ⟨g2, 0, none⟩)] W fun e w' => e = .returned (.int .i64 K1) ∧ Below W.heap.size W w') := Lib.hid (fun W hW => by rw [hK1]; exact bound_law W (hsd.mem.on hW) hsd.deal)
    have H2 : Hid (∀ W, Below w8.heap.size w8 W → Calls Try.prog 33 #[.pointer (some ⟨g, 0, none⟩)] W fun e w' => e = .returned (.int .i64 K2) ∧ Below W.heap.size W w') := Lib.hid (fun W hW => by rw [HK2.out]; exact bound_law W (hd8.on hW) HDL.out)
    have k1 : ∀ W, Below w8.heap.size w8 W → W.cell? ⟨gd, 0, none⟩ = some (.pointer (some ⟨g, 0, none⟩)) := fun W hW => (hg8.keep hW).cell (i := 0) rfl
    have hls := hsd.least
    rw [← hK1] at hls
    have HLS := Lib.hid hls
    clear HS8 hsd hd8 hg8 hK1 hls
    by_cases hq : K1 = K2
    · have g1 : (K1 == K2) = true := by simp [hq]
      have HYES : Hid (∃ t, Asg n m (cst (onlyL C m i j)) t ∧ costOf n (cst (onlyL C m i j)) t = K2) := Lib.hid (by
        obtain ⟨t, h1, h2⟩ := HLS.out.some
        exact ⟨t, h1, by rw [h2, hq]⟩)
      clear hq
      go_region_held3 (fun W => Below w8.heap.size w8 W) (first | assumption | exact (Below.refl _ _).drew | exact below_next (by assumption) (by assumption)) (first
        | (go_at_call 33; with_reducible refine (H2.out _ (by assumption)).mono ?_; rintro e w5 ⟨rfl, hb5⟩; have hs5 := below_next (show Below w8.heap.size w8 _ by assumption) hb5; clear hb5)
        | (go_at_call 33; with_reducible refine (H1.out _ (by assumption)).mono ?_; rintro e w6 ⟨rfl, hb6⟩; have hs6 := below_next (show Below w8.heap.size w8 _ by assumption) hb6; clear hb6))
      go_wp2_with fail
      go_ret
      exact ⟨(HT8.out.keep (by assumption)).kp, (HT8.out.keep (by assumption)).fresh, true, rfl, .inl ⟨rfl, (HT8.out.keep (by assumption)).mem, HYES.out⟩⟩
    · have g1 : (K1 == K2) = false := by simp [hq]
      have HNO : Hid (∀ t, Asg n m (cst (onlyL C m i j)) t → costOf n (cst (onlyL C m i j)) t ≠ K2) := Lib.hid (fun t ht he => by
        have h1 := HLS.out.all t ht
        obtain ⟨t2, h2, h3⟩ := HLS.out.some
        have h4 := HK.out t2 h2
        omega)
      clear hq
      go_region_held3 (fun W => Below w8.heap.size w8 W) (first | assumption | exact (Below.refl _ _).drew | exact below_next (by assumption) (by assumption)) (first
        | (go_at_call 33; with_reducible refine (H2.out _ (by assumption)).mono ?_; rintro e w5 ⟨rfl, hb5⟩; have hs5 := below_next (show Below w8.heap.size w8 _ by assumption) hb5; clear hb5)
        | (go_at_call 33; with_reducible refine (H1.out _ (by assumption)).mono ?_; rintro e w6 ⟨rfl, hb6⟩; have hs6 := below_next (show Below w8.heap.size w8 _ by assumption) hb6; clear hb6))
      have HB9 : Hid (Below w8.heap.size w8 w5) := Lib.hid (by assumption)
      go_upto_region 7 with (fail)
      have HT9 := Lib.hid (HT8.out.keep HB9.out)
      have d0 := (HR8.out.keep HB9.out).cell (i := 0) rfl
      obtain ⟨rv9, d1, -⟩ := HT9.out.mem.at hi
      have d1f := HT9.out.mem.free i
      go_wp2_with fail
      go_ret
      have hbk := TkM.back HM.out hi HL.out HRV.out HT9.out (Below.refl _ _) rfl
      exact ⟨hbk.2.1, hbk.2.2, false, rfl, .inr ⟨rfl, hbk.1, HNO.out⟩⟩
end Go.Proofs.Ythkmbbgcadfilaa
