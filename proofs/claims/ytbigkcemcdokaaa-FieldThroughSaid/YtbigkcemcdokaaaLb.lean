/- Points through a polynomial: the walk of the law FieldThrough. -/
import Derived.Test.YtbigkcemcdokaaaLa
namespace Go.Proofs.Ytbigkcemcdokaaa
open Go.RowKit

theorem through_no (l : List (Int × Int)) (poly : List Int) (v u : Value) (t : Int) (w : World) (h : PRest w.heap.size w l v) (hp : IRest w.heap.size w poly u) (hn : ¬ (l.length ≤ 64 ∧ Dif (l.map (·.1)) ∧ poly.length ≤ l.length)) :
    Calls Try.prog 5 #[v, u, .int .i64 t] w fun e w' => e = .returned (.bool true) ∧ Below w.heap.size w w' := by
  have HRD : Hid (∀ W, Below w.heap.size w W → Calls Try.prog 17 #[v] W fun e w' => (∃ b, e = .returned (.bool b) ∧ (b = true ↔ Dif (l.map (·.1)))) ∧ Below W.heap.size W w') := Lib.hid (fun W hW => refDifferent_call l v W (h.keep hW))
  obtain ⟨a, n, cap, rfl⟩ := h.shape
  obtain ⟨hnl, hc1, hc2, _⟩ := h.cells
  obtain ⟨a2, cap2, rfl, hp1, hp2, hq1, hq2⟩ := hp
  clear hq1 hq2
  rw [← hnl] at hn
  have HN := Lib.hid hn
  generalize poly.length = m at *
  clear h hn hnl
  unfold maxLen at hc2 hp2
  go_enter Try.func5, Try.ntmps5
  go_wp2_with fail
  refine (sane_call w).mono ?_
  rintro e w1 ⟨rfl, hb1⟩
  have HB := Lib.hid hb1
  clear hb1
  by_cases h1 : n ≤ 64
  · have hn1 : ¬ (64 : Int) < (n : Int) := by omega
    go_wp2_with fail
    refine (HRD.out w1 HB.out).mono ?_
    rintro e w2 ⟨⟨b, rfl, hb⟩, hb2⟩
    replace HB := Lib.hid (below_next HB.out hb2)
    clear hb2
    cases b with
    | false =>
      clear hb
      go_wp2_with fail
      go_ret
      exact ⟨rfl, HB.out⟩
    | true =>
      have h2 : ¬ m ≤ n := fun h => HN.out ⟨h1, hb.1 rfl, h⟩
      have hm : (n : Int) < (m : Int) := by omega
      clear hb h2
      go_wp2_with fail
      go_ret
      exact ⟨rfl, HB.out⟩
  · have hn1 : (64 : Int) < (n : Int) := by omega
    go_wp2_with fail
    go_ret
    exact ⟨rfl, HB.out⟩
def ThHead (own : List (Int × Int)) (n : Nat) (w : World) (s7 s33 : Value) (wr : World) : Prop :=
  ∃ k : Nat, k ≤ n ∧ (PBuf 0 wr s7 (own.take k) ∧ ∀ g, s7.ownBlock = some g → w.heap.size ≤ g) ∧ s33 = .int .i64 (k : Int) ∧ Below w.heap.size w wr
set_option maxHeartbeats 4000000 in
set_option maxRecDepth 100000 in
theorem through_walk (l : List (Int × Int)) (poly : List Int) (v u : Value) (t : Int) (w : World) (h : PRest w.heap.size w l v) (hp : IRest w.heap.size w poly u) (ht : I64 t) :
    Calls Try.prog 5 #[v, u, .int .i64 t] w fun e w' => e = .returned (.bool true) ∧ Below w.heap.size w w' := by
  by_cases hgo : ¬ (l.length ≤ 64 ∧ Dif (l.map (·.1)) ∧ poly.length ≤ l.length)
  · exact through_no l poly v u t w h hp hgo
  obtain ⟨h64, hd, hpl⟩ := Classical.not_not.1 hgo
  clear hgo
  have HRD : Hid (∀ W, Below w.heap.size w W → Calls Try.prog 17 #[v] W fun e w' => (∃ b, e = .returned (.bool b) ∧ (b = true ↔ Dif (l.map (·.1)))) ∧ Below W.heap.size W w') := Lib.hid (fun W hW => refDifferent_call l v W (h.keep hW))
  have HAT : Hid (∀ W, Below w.heap.size w W → ∀ j, j < l.length → Calls Try.prog 18 #[v, .int .i64 ((l.map (·.1)).getD j 0)] W fun e w' => e = .returned (.tuple #[.int .i64 ((l.map (·.2)).getD j 0 % 1073741789), .int .i64 0]) ∧ Below W.heap.size W w') := Lib.hid (fun W hW j hj => by
    have h1 := at_call l v ((l.map (·.1)).getD j 0) W (h.keep hW) h64 hd (by rw [← getD_fst]; exact (h.i64 j).1)
    rwa [(lag_at (l.map (·.1)) (l.map (·.2)) hd j (by simpa using hj) (Cg.refl _)).eq] at h1)
  have HVA : Hid (∀ W, Below w.heap.size w W → ∀ x, I64 x → Calls Try.prog 19 #[u, .int .i64 x] W fun e w' => e = .returned (.int .i64 (evalP poly x % 1073741789)) ∧ Below W.heap.size W w') := Lib.hid (fun W hW x hx => value_call poly u x W (hp.keep hW) hx)
  have HXI : Hid (∀ k, I64 ((l.map (·.1)).getD k 0)) := Lib.hid (fun k => by rw [← getD_fst]; exact (h.i64 k).1)
  have HYI : Hid (∀ k, I64 ((l.map (·.2)).getD k 0)) := Lib.hid (fun k => by rw [← getD_snd]; exact (h.i64 k).2)
  have HOT : Hid (∀ k, k < l.length → (ownL l poly).take (k + 1) = (ownL l poly).take k ++ [((l.map (·.1)).getD k 0, evalP poly ((l.map (·.1)).getD k 0) % 1073741789)]) := Lib.hid (fun k hk => ownL_take l poly hk)
  have HFIN : Hid (∀ W vo, PBuf 0 W vo (ownL l poly) → Calls Try.prog 18 #[vo, .int .i64 t] W fun e w' => e = .returned (.tuple #[.int .i64 (evalP poly t % 1073741789), .int .i64 0]) ∧ Below W.heap.size W w') := Lib.hid (fun W vo hW => by
    have h1 := at_call (ownL l poly) vo t W (hW.rest (ownL_i64 l poly (fun p hp => by
      obtain ⟨_, _, _, _, _, h4, _⟩ := h; exact (h4 p hp).1))) (by rw [ownL_len]; exact h64) (by rw [ownL_fst]; exact hd) ht
    rwa [ownL_through l poly hd hpl] at h1)
  have HOL : Hid ((ownL l poly).take l.length = ownL l poly) := Lib.hid (by rw [← ownL_len l poly, List.take_length])
  have HTL : Hid (∀ k, k ≤ l.length → ((ownL l poly).take k).length = k) := Lib.hid (fun k hk => by rw [List.length_take, ownL_len]; omega)
  have HDD := Lib.hid hd
  obtain ⟨a, n, cap, rfl⟩ := h.shape
  obtain ⟨hnl, hc1, hc2, hcl⟩ := h.cells
  obtain ⟨a2, cap2, rfl, hp1, hp2, hq1, hq2⟩ := hp
  clear hq1 hq2
  have HCL := Lib.hid hcl
  rw [← hnl] at h64 hpl HAT HOT HOL HTL
  generalize poly.length = m at *
  clear h hnl hcl hd
  unfold maxLen at hc2 hp2
  have hn1 : ¬ (64 : Int) < (n : Int) := by omega
  have hn2 : (n : Int) ≤ 64 := by omega
  have hm1 : ¬ (n : Int) < (m : Int) := by omega
  go_enter Try.func5, Try.ntmps5
  go_wp2_with fail
  refine (sane_call w).mono ?_
  rintro e w1 ⟨rfl, hb1⟩
  have HB := Lib.hid hb1
  clear hb1
  go_wp2_with fail
  refine (HRD.out w1 HB.out).mono ?_
  rintro e w2 ⟨⟨b, rfl, hb⟩, hb2⟩
  obtain rfl : b = true := hb.2 HDD.out
  replace HB := Lib.hid (below_next HB.out hb2)
  clear hb2 hb
  go_wp2_with fail
  rw [show decide ((64 : Int) < (n : Int)) = false by simp; omega, show decide (n < m) = false by simp; omega, show (false || false) = false from rfl]
  clear h64 hpl hc1 hc2 hp1 hp2 hm1 hn1
  go_loopw [7, 33] (fun s7 s33 wr => ThHead (ownL l poly) n w s7 s33 wr) (fun _ s33 _ => n - (intOf s33).toNat)
  case atStart => exact ⟨0, by omega, ⟨by rw [List.take_zero]; exact pbuf_nil _ _, fun g h => (by cases h)⟩, rfl, HB.out⟩
  case round =>
    obtain ⟨k, hk, ⟨hown, hob⟩, rfl, hB2⟩ := hrel
    rcases Nat.lt_or_ge k n with hlt | hge
    · obtain ⟨b, off, rfl, hbl, hcx, hcy⟩ := HCL.out _ hB2 k hlt
      have hkn : (k : Int) < (n : Int) := by omega
      have HATK : Hid (∀ W, Below w.heap.size w W → Calls Try.prog 18 #[.slice (some ⟨b, off, none⟩) n cap, .int .i64 ((l.map (·.1)).getD k 0)] W fun e w' => e = .returned (.tuple #[.int .i64 ((l.map (·.2)).getD k 0 % 1073741789), .int .i64 0]) ∧ Below W.heap.size W w') := Lib.hid (fun W hW => HAT.out W hW k hlt)
      have HOTK := Lib.hid (HOT.out k hlt)
      have HXK := Lib.hid (HXI.out k)
      have hyk := HYI.out k
      have HTK := Lib.hid (HTL.out k hk)
      generalize (l.map (·.1)).getD k 0 = x at *
      generalize (l.map (·.2)).getD k 0 = y at *
      have hB3 : Below w.heap.size w (wr.alloc (.cells #[.int .i64 x, .int .i64 y] 35)) := hB2.trans ((Joins.below_alloc1 wr _).mono hB2.size)
      have hr3 : Row (wr.alloc (.cells #[.int .i64 x, .int .i64 y] 35)) wr.heap.size 35 [.int .i64 x, .int .i64 y] := row_new wr 35 _
      have ho3 := hown.keep (Joins.below_alloc1 wr (.cells #[.int .i64 x, .int .i64 y] 35))
      have HWR : Hid (w.heap.size ≤ wr.heap.size) := Lib.hid hB2.size
      go_wp2_with fail
      refine (HATK.out _ hB3).mono ?_
      rintro e w4 ⟨rfl, hb4⟩
      replace hB3 := hB3.trans (hb4.mono hB3.size)
      replace hr3 := hr3.keep hb4
      replace ho3 := ho3.keep hb4
      have c0 := hr3.cell (i := 0) rfl
      have c1 := hr3.cell (i := 1) rfl
      clear hb4 hcx hcy hown hB2
      go_wp2_with fail
      refine (mod_call y w4 hyk).mono ?_
      rintro e w5 ⟨rfl, rfl⟩
      go_wp2_with fail
      have HB3 := Lib.hid hB3
      have HR3 := Lib.hid hr3
      have HO3 := Lib.hid ho3
      have HOB := Lib.hid hob
      clear hB3 hr3 ho3 hob
      obtain ⟨y2, hy2⟩ : ∃ y2, y2 = evalP poly x % 1073741789 := ⟨_, rfl⟩
      rw [← hy2] at HOTK
      have HY2 : Hid (I64 y2) := Lib.hid (by rw [hy2]; exact i64_mod _)
      have HVX : Hid (∀ W, Below w.heap.size w W → Calls Try.prog 19 #[.slice a2 m cap2, .int .i64 x] W fun e w' => e = .returned (.int .i64 y2) ∧ Below W.heap.size W w') := Lib.hid (fun W hW => by rw [hy2]; exact HVA.out W hW x HXK.out)
      clear hy2
      go_region_law (first
        | (go_simp; go_at_call 19; refine (HVX.out _ (below_drewN HB3.out 1)).mono ?_; rintro e w6 ⟨rfl, hb6⟩; have hb7 := below_undrew hb6; have d0 := (HR3.out.keep hb7).cell (i := 0) rfl)
        | (refine step_pts rfl (.tmp 53) (.tmp 61) rfl u7 ((ownL l poly).take k) rfl ((HO3.out.keep hb7).keep (Joins.below_alloc1 _ _)) _ _ [(x, y2)] rfl (prest_one (x, y2) ⟨HXK.out, HY2.out⟩ (row_new w6 35 _)) ⟨_, _, _, rfl⟩ (by rw [HTK.out]; simp; omega) ?_; intro v8 w8 hp8 hw8))
      all_goals
        have hs6 : w.heap.size ≤ w6.heap.size := Nat.le_trans HB3.out.size hb7.size
        have HF : Hid (Below w.heap.size w w8) := Lib.hid (((HB3.out.trans (hb7.mono HB3.out.size)).trans ((Joins.below_alloc1 w6 _).mono hs6)).trans (hw8.toBelow (by simp; omega) HOB.out))
        have HOB8 : Hid (∀ g, v8.ownBlock = some g → w.heap.size ≤ g) := Lib.hid (fun g hg => by
          rcases hw8.own with h1 | h1
          · exact HOB.out g (h1 ▸ hg)
          · have := h1 g hg; simp at this; omega)
        rw [← HOTK.out] at hp8
        have HP8 := Lib.hid hp8
        clear hp8 hw8 hs6
        go_wp2_with fail
        exact ⟨⟨k + 1, by omega, ⟨HP8.out, HOB8.out⟩, by go_num, HF.out⟩, by simp [intOf]; omega⟩
    · obtain rfl : k = n := by omega
      rw [HOL.out] at hown
      have HFN := Lib.hid (HFIN.out _ _ hown)
      have HB2 := Lib.hid hB2
      have HVT : Hid (∀ W, Below w.heap.size w W → Calls Try.prog 19 #[.slice a2 m cap2, .int .i64 t] W fun e w' => e = .returned (.int .i64 (evalP poly t % 1073741789)) ∧ Below W.heap.size W w') := Lib.hid (fun W hW => HVA.out W hW t ht)
      have HRG := Lib.hid (mod_rng (evalP poly t))
      clear hown hB2 hob
      generalize evalP poly t % 1073741789 = E at *
      go_wp2_with fail
      refine HFN.out.mono ?_
      rintro e w5 ⟨rfl, hb5⟩
      replace HB2 := Lib.hid (below_next HB2.out hb5)
      clear hb5
      go_wp2_with fail
      refine (in_call E _ HRG.out).mono ?_
      rintro e w6 ⟨rfl, rfl⟩
      go_wp2_with fail
      refine (HVT.out _ HB2.out).mono ?_
      rintro e w7 ⟨rfl, hb7⟩
      replace HB2 := Lib.hid (below_next HB2.out hb7)
      clear hb7
      go_wp2_with fail
      go_ret
      exact ⟨rfl, HB2.out⟩
end Go.Proofs.Ytbigkcemcdokaaa
