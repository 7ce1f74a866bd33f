/- The value of the polynomial through points. -/
import Derived.Test.YtbigkcemcdokaaaH
namespace Go.Proofs.Ytbigkcemcdokaaa
open Go.RowKit

theorem many_call (l : List (Int × Int)) (v : Value) (t : Int) (w : World) (h : PRest w.heap.size w l v) (hm : 64 < l.length) :
    Calls Try.prog 18 #[v, .int .i64 t] w fun e w' => e = .returned (.tuple #[.int .i64 0, .int .i64 2]) ∧ w' = w := by
  obtain ⟨a, n, cap, rfl⟩ := h.shape
  obtain ⟨rfl, hc1, hc2, _⟩ := h.cells
  have hn : (64 : Int) < (l.length : Int) := by omega
  go_enter Try.func18, Try.ntmps18
  go_wp2_with fail
  exact bodyPost_ret (results_tmps (p := 4) (q := 5) rfl _ _ (.int .i64 0) (.int .i64 2) rfl rfl) rfl ⟨rfl, rfl⟩
theorem same_call (l : List (Int × Int)) (v : Value) (t : Int) (w : World) (h : PRest w.heap.size w l v) (hm : l.length ≤ 64) (hd : ¬ Dif (l.map (·.1))) :
    Calls Try.prog 18 #[v, .int .i64 t] w fun e w' => e = .returned (.tuple #[.int .i64 0, .int .i64 90]) ∧ Below w.heap.size w w' := by
  have HD := Lib.hid (different_call l v w h)
  obtain ⟨a, n, cap, rfl⟩ := h.shape
  obtain ⟨rfl, hc1, hc2, _⟩ := h.cells
  have hn : ¬ (64 : Int) < (l.length : Int) := by omega
  have HDD := Lib.hid hd
  clear hd h
  go_enter Try.func18, Try.ntmps18
  go_wp2_with fail
  refine HD.out.mono ?_
  rintro e w1 ⟨⟨b, rfl, hb⟩, hB⟩
  obtain rfl : b = false := by cases b with
    | false => rfl
    | true => exact absurd (hb.1 rfl) HDD.out
  clear hb
  go_wp2_with fail
  exact bodyPost_ret (results_tmps (p := 4) (q := 5) rfl _ _ (.int .i64 0) (.int .i64 90) rfl rfl) rfl ⟨rfl, hB⟩
def AtHead (xs ys : List Int) (t : Int) (n : Nat) (w : World) (s4 s18 : Value) (wr : World) : Prop :=
  ∃ k : Nat, k ≤ n ∧ s4 = .int .i64 (lagN xs ys t k % 1073741789) ∧ s18 = .int .i64 (k : Int) ∧ Below w.heap.size w wr
theorem lag_step (L y W : Int) : (L % 1073741789 + y * (W % 1073741789) % 1073741789) % 1073741789 = (L + y * W) % 1073741789 :=
  ((cg_mod L).add ((cg_mod _).trans ((Cg.refl y).mul (cg_mod W)))).eq
set_option maxHeartbeats 4000000 in
set_option maxRecDepth 100000 in
theorem at_call (l : List (Int × Int)) (v : Value) (t : Int) (w : World) (h : PRest w.heap.size w l v) (hm : l.length ≤ 64) (hd : Dif (l.map (·.1))) (ht : I64 t) :
    Calls Try.prog 18 #[v, .int .i64 t] w fun e w' => e = .returned (.tuple #[.int .i64 (lag (l.map (·.1)) (l.map (·.2)) t % 1073741789), .int .i64 0]) ∧ Below w.heap.size w w' := by
  have HD := Lib.hid (different_call l v w h)
  have HW : Hid (∀ W, Below w.heap.size w W → ∀ i, i < l.length → Calls Try.prog 24 #[v, .int .i64 (i : Int), .int .i64 t] W fun e w' => e = .returned (.int .i64 (wgt (l.map (·.1)) i t % 1073741789)) ∧ Below W.heap.size W w') := Lib.hid (fun W hW i hi => weight_call l v i t W (h.keep hW) hi ht)
  have HYI : Hid (∀ k, I64 (l.map (·.2) |>.getD k 0)) := Lib.hid (fun k => by rw [← getD_snd]; exact (h.i64 k).2)
  obtain ⟨a, n, cap, rfl⟩ := h.shape
  obtain ⟨hnl, hc1, hc2, hcl⟩ := h.cells
  rw [← hnl] at hm HW
  have HN : Hid (n = (l.map (·.1)).length) := Lib.hid (by rw [List.length_map]; exact hnl)
  have hn : ¬ (64 : Int) < (n : Int) := by omega
  have hn2 : (n : Int) ≤ 64 := by omega
  have HCL := Lib.hid hcl
  have HDD := Lib.hid hd
  clear hd h hcl hc1 hc2 hnl
  go_enter Try.func18, Try.ntmps18
  go_wp2_with fail
  refine HD.out.mono ?_
  rintro e w1 ⟨⟨b, rfl, hb⟩, hB⟩
  obtain rfl : b = true := hb.2 HDD.out
  clear hb
  go_wp2_with fail
  clear hm
  go_loopw [4, 18] (fun s4 s18 wr => AtHead (l.map (·.1)) (l.map (·.2)) t n w s4 s18 wr) (fun _ s18 _ => n - (intOf s18).toNat)
  case atStart => exact ⟨0, by omega, rfl, rfl, hB⟩
  case round =>
    obtain ⟨k, hk, rfl, rfl, hB2⟩ := hrel
    rcases Nat.lt_or_ge k n with hlt | hge
    · obtain ⟨b, off, rfl, hbl, hcx, hcy⟩ := HCL.out _ hB2 k hlt
      have hkn : (k : Int) < (n : Int) := by omega
      have HST := Lib.hid (lag_step (lagN (l.map (·.1)) (l.map (·.2)) t k) ((l.map (·.2)).getD k 0) (wgt (l.map (·.1)) k t))
      have HLN : Hid (lagN (l.map (·.1)) (l.map (·.2)) t (k + 1) = lagN (l.map (·.1)) (l.map (·.2)) t k + (l.map (·.2)).getD k 0 * wgt (l.map (·.1)) k t) := Lib.hid rfl
      have HYK := Lib.hid (HYI.out k)
      have HWK : Hid (∀ W, Below w.heap.size w W → Calls Try.prog 24 #[.slice (some ⟨b, off, none⟩) n cap, .int .i64 (k : Int), .int .i64 t] W fun e w' => e = .returned (.int .i64 (wgt (l.map (·.1)) k t % 1073741789)) ∧ Below W.heap.size W w') := Lib.hid (fun W hW => HW.out W hW k hlt)
      generalize (l.map (·.2)).getD k 0 = y at *
      generalize (l.map (·.1)).getD k 0 = x at *
      generalize wgt (l.map (·.1)) k t = g at *
      generalize lagN (l.map (·.1)) (l.map (·.2)) t k = L at *
      have hB3 : Below w.heap.size w (wr.alloc (.cells #[.int .i64 x, .int .i64 y] 35)) := hB2.trans ((Joins.below_alloc1 wr _).mono hB2.size)
      have hr3 : Row (wr.alloc (.cells #[.int .i64 x, .int .i64 y] 35)) wr.heap.size 35 [.int .i64 x, .int .i64 y] := row_new wr 35 _
      go_wp2_with fail
      generalize hW3 : wr.alloc (.cells #[.int .i64 x, .int .i64 y] 35) = W3 at *
      clear hW3
      have HB3 := Lib.hid hB3
      have HR3 := Lib.hid hr3
      have cy := hr3.cell (i := 1) rfl
      have hgI := i64_mod g
      clear hB3 hB2 hr3 hcx hcy
      go_region_with (first
        | (go_at_call 24; refine (HWK.out _ (below_drewN HB3.out 1)).mono ?_; rintro e w4 ⟨rfl, hb4⟩; have hb5 := below_undrew hb4; have cy4 := (HR3.out.keep hb5).cell (i := 1) rfl)
        | (go_at_call 14; refine (mul_call y (g % 1073741789) _ HYK.out hgI).mono ?_; rintro e w5 ⟨rfl, rfl⟩)
        | (go_at_call 22; refine (sum_two (L % 1073741789) (y * (g % 1073741789) % 1073741789) _ _ (i64_mod _) (i64_mod _) (by simp) (by simp)).mono ?_; rintro e w6 ⟨rfl, rfl⟩))
      all_goals
        have hfin : Below w.heap.size w (w5.alloc (.cells #[.int .i64 (L % 1073741789), .int .i64 (y * (g % 1073741789) % 1073741789)] 3)) := (HB3.out.trans (hb5.mono HB3.out.size)).trans ((Joins.below_alloc1 w5 _).mono (Nat.le_trans HB3.out.size hb5.size))
        have HFIN := Lib.hid hfin
        clear hfin
        go_wp2_with fail
        refine ⟨⟨k + 1, by omega, ?_, by go_num, HFIN.out⟩, by simp [intOf]; omega⟩
        rw [HLN.out, ← HST.out]
        simp only [Int.emod_add_emod, Int.add_emod_emod]
    · obtain rfl : k = n := by omega
      have HLL : Hid (lag (l.map (·.1)) (l.map (·.2)) t = lagN (l.map (·.1)) (l.map (·.2)) t k) := Lib.hid (by unfold lag; rw [← HN.out])
      generalize lagN (l.map (·.1)) (l.map (·.2)) t k = L at *
      go_wp2_with fail
      exact bodyPost_ret (results_tmps (p := 4) (q := 5) rfl _ _ (.int .i64 (L % 1073741789)) (.int .i64 0) rfl rfl) rfl ⟨by rw [HLL.out], hB2⟩
end Go.Proofs.Ytbigkcemcdokaaa
