/- Climbing: every case; Climb. -/
import Derived.Test.YtbceimbcjijfgaaDoorZq21
namespace Go.Proofs.YtbceimbcjijfgaaDoor.Dig
open Go.RowKit

theorem climbD_len (f : Nat) (n i : Int) (b : List UInt8) (p : List (List UInt8)) (hp : Digs p) : (climbD f n i b p).1.length = 32 := by
  unfold climbD
  split
  · exact zd_len
  · split
    · exact zd_len
    · rename_i h
      rw [← cm_all]
      exact (cmF_inv _ _ p (leafD_len b) hp (by rw [cntP_all]; omega)).1
theorem climb_any (n i : Int) (b : List UInt8) (bv : Value) (p : List (List UInt8)) (pv : Value) (w : World) (hbl : b.length ≤ 1000000) (hb : Rest w.heap.size w b bv) (hr : DRest w.heap.size w p pv) (hT : Tab w) :
    Calls Tryd.prog 31 #[fH, .int .i64 n, .int .i64 i, bv, pv] w fun e w' => e = .returned (.tuple #[dg (climbD 17 n i b p).1, .int .i64 (climbD 17 n i b p).2]) ∧ Below w.heap.size w w' := by
  by_cases hl : isL n i = false
  · have e : climbD 17 n i b p = (zd, 1) := by unfold climbD; rw [if_pos hl]
    rw [e]
    exact climb_bad n i bv pv w hl
  · have hl' : isL n i = true := by cases h : isL n i <;> simp_all
    obtain ⟨h1, h2, h3⟩ := isL_nat hl'
    obtain ⟨m, rfl⟩ : ∃ m : Nat, n = (m : Int) := ⟨n.toNat, by omega⟩
    obtain ⟨j, rfl⟩ : ∃ j : Nat, i = (j : Int) := ⟨i.toNat, by omega⟩
    by_cases hp : p.length = plen 17 m j
    · have e : climbD 17 m j b p = (clm sha Ndd 17 m j (leafD b) p, 0) := by unfold climbD; rw [if_neg hl, Int.toNat_natCast, Int.toNat_natCast, if_neg (by omega)]
      rw [e]
      exact climb_ok 17 m j b bv p pv w (by omega) (by omega) hl' hbl hb hr hp hT
    · have e : climbD 17 m j b p = (zd, 70) := by unfold climbD; rw [if_neg hl, Int.toNat_natCast, Int.toNat_natCast, if_pos (by omega)]
      rw [e]
      exact climb_path 17 m j bv p pv w (by omega) (by omega) hl' hr hp
theorem drest_shape {B : Nat} {w : World} {p : List (List UInt8)} {v : Value} (h : DRest B w p v) : ∃ a c, v = .slice a p.length c := by
  obtain ⟨_, a, c, h, _⟩ := h; exact ⟨a, c, h⟩
set_option maxHeartbeats 4000000 in
set_option maxRecDepth 100000 in
theorem Climb_call (n i : Int) (b : List UInt8) (bv : Value) (p : List (List UInt8)) (pv : Value) (w : World) (hbl : b.length ≤ 1000000) (hb : Rest w.heap.size w b bv) (hr : DRest w.heap.size w p pv) (hT : Tab w) :
    Calls Tryd.prog 17 #[.int .i64 n, .int .i64 i, bv, pv] w fun e w' => e = .returned (.tuple #[dg (climbD 17 n i b p).1, .int .i64 (climbD 17 n i b p).2]) ∧ Below w.heap.size w w' := by
  have HLN := Lib.hid (climbD_len 17 n i b p hr.1)
  have HC := Lib.hid (climb_any n i b bv p pv)
  have HBL := Lib.hid hbl
  have HR := Lib.hid hr
  have HBT := Lib.hid hb
  have HT := Lib.hid hT
  unfold fH at HC
  obtain ⟨cd, hcd⟩ : ∃ cd, cd = climbD 17 n i b p := ⟨_, rfl⟩
  rw [← hcd] at HLN HC ⊢
  obtain ⟨d, e0⟩ := cd
  clear hbl hb hr hT hcd
  dsimp only at HLN HC ⊢
  go_enter Tryd.func17, Tryd.ntmps17
  go_wp2_with (first
    | (refine wpList_alloc_dig rfl 8 rfl rfl ?_; intro g1 w1 hg hrow hb; have H1 := Lib.hid hrow; have hg1 : w.heap.size ≤ g1 := (by omega); have HB1 := Lib.hid hb; clear hg hrow hb)
    | (go_at_call 31; refine (HC.out _ HBL.out (rest_keep HBT.out HB1.out) (HR.out.keep HB1.out) (HT.out.keep HB1.out)).mono ?_; rintro e w2 ⟨rfl, hb2⟩; have H2 := Lib.hid (H1.out.keep hb2); have HB2 := Lib.hid (below_next HB1.out hb2); clear hb2)
    | (refine wpList_store_dig rfl (.tmp 8) (.tmp 15) rfl g1 d HLN.out rfl rfl H2.out HB2.out hg1 ?_; intro w3 hrow hb hoth; have H3 := Lib.hid hrow; have HB3 := Lib.hid hb; clear hrow hb hoth)
    | fail)
  exact bodyPost_ret (results_two rfl _ _ g1 (cellsOf d) rfl _ rfl H3.out (size32' HLN.out)) rfl ⟨rfl, HB3.out⟩
end Go.Proofs.YtbceimbcjijfgaaDoor.Dig

/- Collide refuses. -/
namespace Go.Proofs.YtbceimbcjijfgaaDoor.Dig
open Go.RowKit

set_option maxHeartbeats 8000000 in
set_option maxRecDepth 100000 in
theorem collide_refuse (n i : Int) (a b : List UInt8) (av bv : Value) (p q : List (List UInt8)) (pv qv : Value) (w : World) (hal : a.length ≤ 1000000) (hbl : b.length ≤ 1000000) (ha : Rest w.heap.size w a av) (hb : Rest w.heap.size w b bv) (hp : DRest w.heap.size w p pv) (hq : DRest w.heap.size w q qv) (hT : Tab w)
    (hno : (climbD 17 n i a p).2 ≠ 0 ∨ (climbD 17 n i b q).2 ≠ 0 ∨ (climbD 17 n i a p).1 ≠ (climbD 17 n i b q).1) :
    Calls Tryd.prog 34 #[fH, .int .i64 n, .int .i64 i, av, bv, pv, qv] w fun e w' => e = .returned (.tuple #[.slice none 0 0, .slice none 0 0, .bool false]) ∧ Below w.heap.size w w' := by
  have HL1 := Lib.hid (climbD_len 17 n i a p hp.1)
  have HL2 := Lib.hid (climbD_len 17 n i b q hq.1)
  have HC1 := Lib.hid (climb_any n i a av p pv)
  have HC2 := Lib.hid (climb_any n i b bv q qv)
  have HAL := Lib.hid hal
  have HBL := Lib.hid hbl
  have HA := Lib.hid ha
  have HBT := Lib.hid hb
  have HP := Lib.hid hp
  have HQ := Lib.hid hq
  have HT := Lib.hid hT
  unfold fH at HC1 HC2
  unfold fH
  obtain ⟨cd, hcd⟩ : ∃ cd, cd = climbD 17 n i a p := ⟨_, rfl⟩
  obtain ⟨ce, hce⟩ : ∃ ce, ce = climbD 17 n i b q := ⟨_, rfl⟩
  rw [← hcd] at HL1 HC1 hno
  rw [← hce] at HL2 HC2 hno
  obtain ⟨c, e1⟩ := cd
  obtain ⟨d, e2⟩ := ce
  clear hal hbl ha hb hp hq hT hcd hce
  dsimp only at HL1 HL2 HC1 HC2 hno
  have hcase : ((e1 != 0) = true) ∨ ((e1 = 0) ∧ (e2 != 0) = true) ∨ (e1 = 0 ∧ e2 = 0 ∧ c ≠ d) := by
    by_cases h1 : e1 = 0
    · by_cases h2 : e2 = 0
      · rcases hno with h | h | h
        · exact absurd h1 h
        · exact absurd h2 h
        · exact .inr (.inr ⟨h1, h2, h⟩)
      · exact .inr (.inl ⟨h1, by simpa using h2⟩)
    · exact .inl (by simpa using h1)
  clear hno
  rcases hcase with he | ⟨rfl, he⟩ | ⟨rfl, rfl, he⟩
  · go_enter Tryd.func34, Tryd.ntmps34
    go_wp2_with (first
      | (refine wpList_alloc_dig rfl 17 rfl rfl ?_; intro g1 w1 hg hrow hb; have H1 := Lib.hid hrow; have hg1 : w.heap.size ≤ g1 := (by have := HB1.out.size; omega); have HB2 := Lib.hid (below_next HB1.out hb); clear hg hrow hb)
      | (refine wpList_alloc_dig rfl 19 rfl rfl ?_; intro g2 w5 hg hrow hb; have H5 := Lib.hid hrow; have hg2 : w.heap.size ≤ g2 := (by have := HB4.out.size; omega); have HB5 := Lib.hid (below_next HB4.out hb); have H15 := Lib.hid (H14.out.keep hb); have HNE : Hid (g1 ≠ g2) := Lib.hid (by have := H14.out.lt; omega); clear hg hrow hb)
      | (go_at_call 31; refine (HC2.out w3 HBL.out (rest_keep HBT.out HB3.out) (HQ.out.keep HB3.out) (HT.out.keep HB3.out)).mono ?_; rintro e wb ⟨rfl, hb1⟩; have HB4 := Lib.hid (below_next HB3.out hb1); have H14 := Lib.hid (H13.out.keep hb1); clear hb1)
      | (go_at_call 31; refine (HC1.out w HAL.out HA.out HP.out HT.out).mono ?_; rintro e wa ⟨rfl, hb1⟩; have HB1 := Lib.hid hb1; clear hb1)
      | (refine wpList_store_dig rfl (.tmp 17) (.tmp 28) rfl g1 c HL1.out rfl rfl H1.out HB2.out hg1 ?_; intro w3 hrow hb hoth; have H13 := Lib.hid hrow; have HB3 := Lib.hid hb; clear hrow hb hoth)
      | (refine wpList_store_dig rfl (.tmp 19) (.tmp 37) rfl g2 d HL2.out rfl rfl H5.out HB5.out hg2 ?_; intro w6 hrow hb hoth; have H6 := Lib.hid hrow; have HB6 := Lib.hid hb; have H16 := Lib.hid (hoth _ _ _ HNE.out H15.out); clear hrow hb hoth)
      | fail)
    exact bodyPost_ret (v := .tuple #[.slice none 0 0, .slice none 0 0, .bool false]) (by simp [results, Tryd.results34, go_sem]) rfl ⟨rfl, HB6.out⟩
  · go_enter Tryd.func34, Tryd.ntmps34
    go_wp2_with (first
      | (refine wpList_alloc_dig rfl 17 rfl rfl ?_; intro g1 w1 hg hrow hb; have H1 := Lib.hid hrow; have hg1 : w.heap.size ≤ g1 := (by have := HB1.out.size; omega); have HB2 := Lib.hid (below_next HB1.out hb); clear hg hrow hb)
      | (refine wpList_alloc_dig rfl 19 rfl rfl ?_; intro g2 w5 hg hrow hb; have H5 := Lib.hid hrow; have hg2 : w.heap.size ≤ g2 := (by have := HB4.out.size; omega); have HB5 := Lib.hid (below_next HB4.out hb); have H15 := Lib.hid (H14.out.keep hb); have HNE : Hid (g1 ≠ g2) := Lib.hid (by have := H14.out.lt; omega); clear hg hrow hb)
      | (go_at_call 31; refine (HC2.out w3 HBL.out (rest_keep HBT.out HB3.out) (HQ.out.keep HB3.out) (HT.out.keep HB3.out)).mono ?_; rintro e wb ⟨rfl, hb1⟩; have HB4 := Lib.hid (below_next HB3.out hb1); have H14 := Lib.hid (H13.out.keep hb1); clear hb1)
      | (go_at_call 31; refine (HC1.out w HAL.out HA.out HP.out HT.out).mono ?_; rintro e wa ⟨rfl, hb1⟩; have HB1 := Lib.hid hb1; clear hb1)
      | (refine wpList_store_dig rfl (.tmp 17) (.tmp 28) rfl g1 c HL1.out rfl rfl H1.out HB2.out hg1 ?_; intro w3 hrow hb hoth; have H13 := Lib.hid hrow; have HB3 := Lib.hid hb; clear hrow hb hoth)
      | (refine wpList_store_dig rfl (.tmp 19) (.tmp 37) rfl g2 d HL2.out rfl rfl H5.out HB5.out hg2 ?_; intro w6 hrow hb hoth; have H6 := Lib.hid hrow; have HB6 := Lib.hid hb; have H16 := Lib.hid (hoth _ _ _ HNE.out H15.out); clear hrow hb hoth)
      | fail)
    exact bodyPost_ret (v := .tuple #[.slice none 0 0, .slice none 0 0, .bool false]) (by simp [results, Tryd.results34, go_sem]) rfl ⟨rfl, HB6.out⟩
  · go_enter Tryd.func34, Tryd.ntmps34
    go_wp2_with (first
      | (refine wpList_alloc_dig rfl 17 rfl rfl ?_; intro g1 w1 hg hrow hb; have H1 := Lib.hid hrow; have hg1 : w.heap.size ≤ g1 := (by have := HB1.out.size; omega); have HB2 := Lib.hid (below_next HB1.out hb); clear hg hrow hb)
      | (refine wpList_alloc_dig rfl 19 rfl rfl ?_; intro g2 w5 hg hrow hb; have H5 := Lib.hid hrow; have hg2 : w.heap.size ≤ g2 := (by have := HB4.out.size; omega); have HB5 := Lib.hid (below_next HB4.out hb); have H15 := Lib.hid (H14.out.keep hb); have HNE : Hid (g1 ≠ g2) := Lib.hid (by have := H14.out.lt; omega); clear hg hrow hb)
      | (go_at_call 31; refine (HC2.out w3 HBL.out (rest_keep HBT.out HB3.out) (HQ.out.keep HB3.out) (HT.out.keep HB3.out)).mono ?_; rintro e wb ⟨rfl, hb1⟩; have HB4 := Lib.hid (below_next HB3.out hb1); have H14 := Lib.hid (H13.out.keep hb1); clear hb1)
      | (go_at_call 31; refine (HC1.out w HAL.out HA.out HP.out HT.out).mono ?_; rintro e wa ⟨rfl, hb1⟩; have HB1 := Lib.hid hb1; clear hb1)
      | (refine wpList_store_dig rfl (.tmp 17) (.tmp 28) rfl g1 c HL1.out rfl rfl H1.out HB2.out hg1 ?_; intro w3 hrow hb hoth; have H13 := Lib.hid hrow; have HB3 := Lib.hid hb; clear hrow hb hoth)
      | (refine wpList_store_dig rfl (.tmp 19) (.tmp 37) rfl g2 d HL2.out rfl rfl H5.out HB5.out hg2 ?_; intro w6 hrow hb hoth; have H6 := Lib.hid hrow; have HB6 := Lib.hid hb; have H16 := Lib.hid (hoth _ _ _ HNE.out H15.out); clear hrow hb hoth)
      | (refine wpList_row_want (.tmp 17) rfl g1 c HL1.out rfl H16.out (by rfl) ?_)
      | (refine wpList_row_want (.tmp 19) rfl g2 d HL2.out rfl H6.out (by rfl) ?_)
      | (refine wpList_neq_dig (.tmp 46) (.tmp 47) rfl c d HL1.out HL2.out rfl rfl (by rfl) ?_; rw [show (!(c == d)) = true by simp [he]])
      | fail)
    exact bodyPost_ret (v := .tuple #[.slice none 0 0, .slice none 0 0, .bool false]) (by simp [results, Tryd.results34, go_sem]) rfl ⟨rfl, HB6.out⟩
set_option maxHeartbeats 4000000 in
set_option maxRecDepth 100000 in
theorem Collide_refuse (n i : Int) (a b : List UInt8) (av bv : Value) (p q : List (List UInt8)) (pv qv : Value) (w : World) (hal : a.length ≤ 1000000) (hbl : b.length ≤ 1000000) (ha : Rest w.heap.size w a av) (hb : Rest w.heap.size w b bv) (hp : DRest w.heap.size w p pv) (hq : DRest w.heap.size w q qv) (hT : Tab w)
    (hno : (climbD 17 n i a p).2 ≠ 0 ∨ (climbD 17 n i b q).2 ≠ 0 ∨ (climbD 17 n i a p).1 ≠ (climbD 17 n i b q).1) :
    Calls Tryd.prog 19 #[.int .i64 n, .int .i64 i, av, bv, pv, qv] w fun e w' => e = .returned (.tuple #[.slice none 0 0, .slice none 0 0, .bool false]) ∧ Below w.heap.size w w' := by
  have HC := Lib.hid (collide_refuse n i a b av bv p q pv qv w hal hbl ha hb hp hq hT hno)
  unfold fH at HC
  clear hal hbl ha hb hp hq hT hno
  go_enter Tryd.func19, Tryd.ntmps19
  go_wp2_with (first
    | (go_at_call 34; refine HC.out.mono ?_; rintro e w2 ⟨rfl, hb2⟩)
    | fail)
  exact bodyPost_ret (v := .tuple #[.slice none 0 0, .slice none 0 0, .bool false]) (by simp [results, Tryd.results19, go_sem]) rfl ⟨rfl, hb2⟩
end Go.Proofs.YtbceimbcjijfgaaDoor.Dig
