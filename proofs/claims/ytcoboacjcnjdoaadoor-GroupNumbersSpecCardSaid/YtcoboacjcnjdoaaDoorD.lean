/- Powers, by squares that an iterator yields; powers of the specification. -/
import Derived.Test.YtcoboacjcnjdoaaDoorB
namespace Go.Proofs.YtcoboacjcnjdoaaDoor
open Go.RowKit Go.Shelf
attribute [local go_sem] Oper.semAt_some

/-- the power, modulo P -/
def fpw (x : Int) (n : Nat) : Int := x ^ n % 2147483579
theorem fpw_rng (x : Int) (n : Nat) : Rp (fpw x n) := rp_mod _
theorem fpw_step (y x : Int) (n : Nat) : Cp (y * x ^ n) ((if n % 2 = 1 then y * x % 2147483579 else y) * (x * x % 2147483579) ^ (n / 2)) := by
  have h1 : x ^ n = (x * x) ^ (n / 2) * x ^ (n % 2) := by
    rw [show x * x = x ^ 2 by rw [Int.pow_succ, Int.pow_succ, Int.pow_zero, Int.one_mul], ← Int.pow_mul, ← Int.pow_add, Nat.div_add_mod]
  have h2 : Cp ((x * x) ^ (n / 2)) ((x * x % 2147483579) ^ (n / 2)) := ((cp_mod (x * x)).symm).pow _
  rw [h1]
  split
  · rename_i h
    rw [h, Int.pow_one, show y * ((x * x) ^ (n / 2) * x) = y * x * (x * x) ^ (n / 2) by grind]
    exact ((cp_mod (y * x)).symm).mul h2
  · rename_i h
    rw [show n % 2 = 0 by omega, Int.pow_zero, Int.mul_one]
    exact (Cp.refl y).mul h2
/-- a round: the power on its way, and what is left of the exponent -/
def stS (x : Int) (s : Int × Nat) (k : Nat) : Int × Nat := (if s.2 % 2 = 1 then s.1 * sqr x k % 2147483579 else s.1, s.2 / 2)
def stF (x : Int) (n : Nat) (pre : List Nat) : Int × Nat := pre.foldl (stS x) (1, n)
theorem stF_snoc (x : Int) (n : Nat) (pre : List Nat) (k : Nat) : stF x n (pre ++ [k]) = stS x (stF x n pre) k := by simp [stF]
theorem stS_rng (x : Int) (s : Int × Nat) (k : Nat) (h : Rp s.1) : Rp (stS x s k).1 ∧ (stS x s k).2 ≤ s.2 := by
  refine ⟨?_, by show s.2 / 2 ≤ s.2; omega⟩
  unfold stS
  by_cases h2 : s.2 % 2 = 1
  · rw [if_pos h2]; exact rp_mod _
  · rw [if_neg h2]; exact h
theorem foldS_rng (x : Int) : ∀ (pre : List Nat) (s : Int × Nat), Rp s.1 → Rp (pre.foldl (stS x) s).1 ∧ (pre.foldl (stS x) s).2 ≤ s.2
  | [], s, h => ⟨h, Nat.le_refl _⟩
  | k :: pre, s, h => by
    obtain ⟨h1, h2⟩ := stS_rng x s k h
    obtain ⟨h3, h4⟩ := foldS_rng x pre _ h1
    exact ⟨h3, Nat.le_trans h4 h2⟩
theorem stF_rng (x : Int) (n : Nat) (pre : List Nat) : Rp (stF x n pre).1 ∧ (stF x n pre).2 ≤ n :=
  foldS_rng x pre (1, n) ⟨by show (0 : Int) ≤ 1; omega, by show (1 : Int) < 2147483579; omega⟩
theorem stF_range (x : Int) (n : Nat) : ∀ k, Cp ((stF x n (List.range k)).1 * sqr x k ^ (stF x n (List.range k)).2) (x ^ n) ∧ (stF x n (List.range k)).2 = n / 2 ^ k
  | 0 => by
    refine ⟨?_, by simp [stF]⟩
    show Cp (1 * x ^ n) (x ^ n)
    rw [Int.one_mul]; exact Cp.refl _
  | k + 1 => by
    obtain ⟨h1, h2⟩ := stF_range x n k
    rw [List.range_succ, stF_snoc]
    refine ⟨?_, ?_⟩
    · refine Cp.trans ?_ h1
      exact (fpw_step _ _ _).symm
    · show (stF x n (List.range k)).2 / 2 = _
      rw [h2, Nat.pow_succ, Nat.div_div_eq_div_mul]
theorem stF_all (x : Int) (n : Nat) (hn : n < 1073741824) : (stF x n (List.range 30)).1 = fpw x n ∧ (stF x n (List.range 30)).2 = 0 := by
  obtain ⟨h1, h2⟩ := stF_range x n 30
  have h3 : (stF x n (List.range 30)).2 = 0 := by rw [h2]; omega
  refine ⟨?_, h3⟩
  rw [h3, Int.pow_zero, Int.mul_one] at h1
  have h4 := h1.eq
  obtain ⟨h5, h6⟩ := (stF_rng x n (List.range 30)).1
  unfold fpw
  omega
set_option maxRecDepth 100000 in
set_option maxHeartbeats 4000000 in
theorem power_call (x : Int) (n : Nat) (w : World) (hx : Rp x) (hn : n < 1073741824) :
    Calls Tryd.prog 21 #[.int .i64 x, .int .i64 (n : Int)] w fun e w' => e = .returned (.int .i64 (fpw x n)) ∧ Below w.heap.size w w' := by
  have HX := Lib.hid hx
  have HN := Lib.hid hn
  have HVA := Lib.hid (stF_all x n hn)
  clear hx hn
  obtain ⟨W0, hW0⟩ : ∃ W0, W0 = (w.alloc (.cells #[.int .i64 (n : Int)] 3)).alloc (.cells #[.int .i64 1] 3) := ⟨_, rfl⟩
  have hB0 : Below w.heap.size w W0 := by rw [hW0]; exact below_next (Joins.below_alloc1 w _) (Joins.below_alloc1 _ _)
  have hs0 : W0.heap.size = w.heap.size + 2 := by rw [hW0]; simp
  have hr0 : Row W0 w.heap.size 3 [.int .i64 (n : Int)] := by rw [hW0]; exact (row_new w 3 _).keep (Joins.below_alloc1 _ _)
  have hr1 : Row W0 (w.heap.size + 1) 3 [.int .i64 1] := by
    have := row_new (w.alloc (.cells #[.int .i64 (n : Int)] 3)) 3 [.int .i64 1]
    rw [hW0]; rwa [World.size_alloc] at this
  refine (callsIn_wide (n := 6)).1 ?_
  refine callsIn_of_wp_marks Tryd.func21 rfl trivial ?_ rfl
  simp only [Tryd.ntmps21, List.size_toArray, List.length_cons, List.length_nil, Nat.reduceAdd, Nat.reduceSub, Array.replicate_succ, Array.replicate_zero, List.push_toArray, List.append_toArray, List.nil_append, List.cons_append]
  gi_wp2
  refine ⟨trivial, ?_⟩
  rw [← hW0]
  clear hW0
  refine (squares_in 5 x W0).mono ?_
  rintro e w1 ⟨rfl, rfl⟩
  have hb03 : Below W0.heap.size W0 (W0.alloc (.cells #[.int .i64 x] 3)) := Joins.below_alloc1 W0 _
  have hc3 : Row (W0.alloc (.cells #[.int .i64 x] 3)) W0.heap.size 3 [.int .i64 x] := row_new W0 3 _
  have hs3 : (W0.alloc (.cells #[.int .i64 x] 3)).heap.size = W0.heap.size + 1 := by simp
  generalize W0.alloc (.cells #[.int .i64 x] 3) = W3 at *
  rw [hs0] at hc3 hs3
  have HR0 := hr0.keep hb03
  have HR1 := hr1.keep hb03
  have HB3 : Below w.heap.size w W3 := below_next hB0 hb03
  clear hr0 hr1 hB0
  gi_wp2
  clear hs0 hb03
  refine range_told (F := Fence.wide) (n := 6) rfl (by omega) (gf := 38) (lb := #[.pointer (some ⟨w.heap.size + 2, 0, none⟩)]) rfl trivial (enters_of Tryd.func38 (by kernel_rfl) rfl)
    (encs := encS x) (T := fun _ _ => True) (fun x => ownFrom_pure _ _) (B := fun b => b < w.heap.size + 3 ∧ b ≠ w.heap.size ∧ b ≠ w.heap.size + 1) (fun b hb => by omega) (S := fun ys => ys = List.range 30) (N := 30)
    (fun W hW => squares_tells 5 (by omega) (w.heap.size + 2) _ x HX.out W ⟨by omega, by omega, by omega⟩ (fun b hb => by have := hW.size; omega) ((hW.cell (p := ⟨w.heap.size + 2, 0, none⟩) (show w.heap.size + 2 < W3.heap.size by omega)).trans (hc3.cell (i := 0) rfl))) (fun _ => rfl)
    (fun pre W => Row W (w.heap.size + 1) 3 [.int .i64 (stF x n pre).1] ∧ Row W w.heap.size 3 [.int .i64 ((stF x n pre).2 : Int)] ∧ Below w.heap.size w W)
    ?own ⟨HR1, HR0, HB3⟩
    (fun k => { tmps := #[.int .i64 x, .int .i64 (n : Int), undef, .pointer (some ⟨w.heap.size, 0, none⟩), .int .i64 0, .pointer (some ⟨w.heap.size + 1, 0, none⟩), .int .i64 (sqr x k), .int .i64 x, .func (.func 38) #[] #[.pointer (some ⟨w.heap.size + 2, 0, none⟩)], .int .i64 (sqr x k), undef, undef, undef, undef, undef, undef, undef, undef, undef], defers := [] }) ?assign ?body ?done
  case own =>
    intro pre A B row hs hg hr
    obtain ⟨h2, h3, h4⟩ := hs
    have hnc : ∀ r, row = some r → ∃ o : Obj, A.heap[r]? = some o ∧ o.isCells = false := fun r e => (hr r e).2
    exact ⟨row_kept h2 hg hnc, row_kept h3 hg hnc, ownFrom_below (Nat.le_refl _) (by omega) pre A B row h4 hg hr⟩
  case assign =>
    intro l k W K hK
    unfold encS
    gi_wp2
    exact hK
  case body =>
    rintro l pre k W ⟨hy, ht0, hB⟩ - hlen
    have HSR := Lib.hid (stF_rng x n pre)
    have HSQ := Lib.hid (sqr_rng HX.out k)
    have HVS := Lib.hid (stF_snoc x n pre k)
    have c1 := hy.cell (i := 0) rfl
    have c0 := ht0.cell (i := 0) rfl
    have HW := Lib.hid hB.size
    generalize stF x n pre = st at *
    obtain ⟨y, m⟩ := st
    obtain ⟨sq, hsq⟩ : ∃ sq, sq = sqr x k := ⟨_, rfl⟩
    rw [← hsq] at HSQ ⊢
    have HSE := Lib.hid hsq.symm
    clear hsq
    obtain ⟨M, hM⟩ : ∃ M : Int, M = (m : Int) := ⟨_, rfl⟩
    have HM := Lib.hid hM
    replace c0 : W.cell? ⟨w.heap.size, 0, none⟩ = some (.int .i64 M) := by rw [hM]; exact c0
    replace ht0 : Row W w.heap.size 3 [.int .i64 M] := by rw [hM]; exact ht0
    replace c1 : W.cell? ⟨w.heap.size + 1, 0, none⟩ = some (.int .i64 y) := c1
    replace hy : Row W (w.heap.size + 1) 3 [.int .i64 y] := hy
    have hm0 : 0 ≤ M := by omega
    have hm1 : M ≤ 1073741823 := by have := HSR.out.2; have := HN.out; simp only at *; omega
    have hand : bits .and .i64 M 1 = ((m % 2 : Nat) : Int) := by rw [hM]; exact Go.Proofs.and_one m (by omega)
    clear hM
    by_cases h2 : m % 2 = 1
    · rw [h2] at hand
      replace HVS : Hid (stF x n (pre ++ [k]) = (y * sq % 2147483579, m / 2)) := Lib.hid (by rw [HVS.out]; unfold stS; rw [if_pos h2, HSE.out])
      have f0 := ht0.free 0
      gi_wp2
      refine ⟨trivial, ?_⟩
      refine (CallsIn.inRound l (callsIn_wide.2 (product_call y sq W HSR.out.1 HSQ.out))).mono ?_
      rintro e w4 ⟨rfl, rfl⟩
      have f1 := hy.free 0
      gi_wp2
      have HHALF : Hid (M / 2 = ((m / 2 : Nat) : Int)) := Lib.hid (by have := HM.out; omega)
      refine ⟨((KeepsOthers.setCell _ _ _).trans (KeepsOthers.setCell _ _ _)).from _, ⟨by simp, (KeepS.setCell _ _ _ _ (fun h => h.2.2 rfl)).trans (by simp) (KeepS.setCell _ _ _ _ (fun h => h.2.1 rfl))⟩, ?_, ?_, below_setCell (below_setCell hB _ 0 _ (by omega)) _ 0 _ (by omega)⟩
      · rw [HVS.out]; exact ((hy.set (cs' := [.int .i64 (y * sq % 2147483579)]) 0 _ rfl).setFar 0 _ (by omega))
      · rw [HVS.out]; exact ((ht0.setFar 0 _ (by omega)).set (cs' := [.int .i64 ((m / 2 : Nat) : Int)]) 0 _ (by rw [HHALF.out]; rfl))
    · have h2' : m % 2 = 0 := by omega
      rw [h2'] at hand
      replace HVS : Hid (stF x n (pre ++ [k]) = (y, m / 2)) := Lib.hid (by rw [HVS.out]; unfold stS; rw [if_neg h2])
      have f0 := ht0.free 0
      gi_wp2
      have HHALF : Hid (M / 2 = ((m / 2 : Nat) : Int)) := Lib.hid (by have := HM.out; omega)
      refine ⟨(KeepsOthers.setCell _ _ _).from _, ⟨by simp, (KeepS.setCell _ _ _ _ (fun h => h.2.1 rfl))⟩, ?_, ?_, below_setCell hB _ 0 _ (by omega)⟩
      · rw [HVS.out]; exact hy.setFar 0 _ (by omega)
      · rw [HVS.out]; exact ht0.set (cs' := [.int .i64 ((m / 2 : Nat) : Int)]) 0 _ (by rw [HHALF.out]; rfl)
  case done =>
    rintro D ys W hD rfl ⟨hy, ht0, hB⟩ hK
    rw [HVA.out.1] at hy
    have c1 := hy.cell (i := 0) rfl
    have f1 := hy.free 0
    obtain ⟨y, hyy⟩ : ∃ y, y = fpw x n := ⟨_, rfl⟩
    rw [← hyy] at c1 hy
    have HYY := Lib.hid hyy
    clear hyy
    gi_wp2
    have hK' := hK
    refine ⟨by simp, .inl ⟨_, _, rfl, run_takeDeferred hK', ?_⟩⟩
    exact ⟨.int .i64 y, by simp [results, Tryd.results21, go_sem], ret_i64 HYY.out, hB.trans (belowK_b (w := w) (Nat.le_refl _) W D _ _ (by omega) hK' rfl rfl)⟩
end Go.Proofs.YtcoboacjcnjdoaaDoor
