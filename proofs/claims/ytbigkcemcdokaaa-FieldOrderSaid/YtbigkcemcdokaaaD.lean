/- Numbers from the last one to the first, and the value of a polynomial. -/
import Derived.Test.YtbigkcemcdokaaaC
import Derived.Deep.DeepCutAuto
namespace Go.Proofs.Ytbigkcemcdokaaa
open Go.RowKit Go.Shelf
attribute [local go_sem] Oper.semAt_some

/-- what has come when k rounds are over: the places n - 1, n - 2 and so on -/
def down (n k : Nat) : List Nat := (List.range k).map fun i => n - 1 - i
theorem down_succ (n k : Nat) : down n (k + 1) = down n k ++ [n - 1 - k] := by simp [down, List.range_succ]
theorem down_len (n k : Nat) : (down n k).length = k := by simp [down]
def encI (xs : List Int) (x : Nat) : Array Value := #[.int .i64 (x : Int), .int .i64 (xs.getD x 0)]
set_option maxRecDepth 100000 in
set_option maxHeartbeats 2000000 in
theorem back_tells (q : Nat) (hq : 1 ≤ q) (Bs : Nat) (B : Nat → Prop) (xs : List Int) (a : Option Addr) (cap : Nat) (w : World) (hBs : B Bs) (hBn : ∀ b, B b → b < w.heap.size) (hc : w.cell? ⟨Bs, 0, none⟩ = some (.slice a xs.length cap))
    (hcap : xs.length ≤ cap ∧ cap ≤ maxLen) (hel : xs.length = 0 ∨ ∃ b off, a = some ⟨b, off, none⟩ ∧ B b ∧ ∀ i (h : i < xs.length), w.cell? ⟨b, off + i, none⟩ = some (.int .i64 xs[i])) :
    Tells Fence.wide q Try.prog 29 #[.pointer (some ⟨Bs, 0, none⟩)] (encI xs) (fun _ _ => True) B (fun ys => ys = down xs.length xs.length) xs.length w := by
  intro l J W hW hJ hY h0
  have hBs' := (hW.cell (p := ⟨Bs, 0, none⟩) (hBn Bs hBs)).trans hc
  have HE : Hid (∀ i, i < xs.length → ∀ W', Kp2 B W W' → ∃ b off, a = some ⟨b, off, none⟩ ∧ W'.cell? ⟨b, off + i, none⟩ = some (.int .i64 (xs.getD i 0))) := Lib.hid (fun i hi W' hk => by
    rcases hel with h | ⟨b, off, ha, hb, hcl⟩
    · omega
    · refine ⟨b, off, ha, hk.2.cell hb ?_⟩
      rw [(hW.cell (p := ⟨b, off + i, none⟩) (hBn b hb)), hcl i hi]
      simp [hi])
  obtain ⟨hc1, hc2⟩ := hcap
  unfold maxLen at hc2
  obtain ⟨n, hn⟩ : ∃ n, n = xs.length := ⟨_, rfl⟩
  rw [← hn] at hBs' hY HE hc1 ⊢
  clear hel hc hW hn
  refine callsIn_of_wp Try.func29 rfl trivial ?_ rfl
  simp only [Try.ntmps29, List.size_toArray, List.length_cons, List.length_nil, Nat.reduceAdd, Nat.reduceSub, Array.replicate_succ, Array.replicate_zero, List.push_toArray, List.append_toArray, List.nil_append, List.cons_append]
  gi_wp2
  gi_loopw [3] (fun i wr => ∃ (k : Nat) (j : Int), (j + 1 + k = n ∧ k ≤ n) ∧ i = .int .i64 j ∧ J (down n k) wr ∧ Kp2 B W wr)
    (fun i _ => (intOf i + 1).toNat)
  case atStart => exact ⟨0, (n : Int) - 1, ⟨by omega, by omega⟩, rfl, h0, Kp2.refl _ _⟩
  case round =>
    obtain ⟨k, j, ⟨hjk, hkn0⟩, rfl, hJs, hnx⟩ := hrel
    have hbs : wr.cell? ⟨Bs, 0, none⟩ = some (.slice a n cap) := hnx.2.cell hBs hBs'
    by_cases hlt : 0 ≤ j
    · obtain ⟨i, rfl⟩ : ∃ i : Nat, j = i := ⟨j.toNat, by omega⟩
      have hnn : n = i + 1 + k := by omega
      obtain ⟨b, off, rfl, hcx⟩ := HE.out i (by omega) wr hnx
      obtain ⟨fn, tmps, assign, body, hy, hR⟩ := hY _ i wr hJs trivial (by rw [down_len]; omega)
      replace hy : (Instr.yield l #[.int .i64 (i : Int), .int .i64 (xs.getD i 0)]).run Try.prog wr = .ok (.round l fn tmps assign body) wr := hy
      have hin : (i : Int) < (n : Int) := by omega
      have HDS : Hid (down n (k + 1) = down n k ++ [i]) := Lib.hid (by rw [down_succ, show n - 1 - k = i by omega])
      have HNN := Lib.hid hnn
      have HKN : Hid (k + 1 ≤ n) := Lib.hid (by omega)
      have HX := Lib.hid hnx
      clear hjk hnn hnx
      generalize xs.getD i 0 = xi at *
      gi_wp2
      refine hR.mono ?_
      rintro e W3 ⟨rfl, hJ3, hk3⟩
      gi_wp2
      go_roundw
      case rel => exact ⟨k + 1, (i : Int) - 1, ⟨by have := HNN.out; omega, HKN.out⟩, rfl, by rw [HDS.out]; exact hJ3, HX.out.trans hk3⟩
      case measure => simp [intOf] <;> omega
    · obtain rfl : k = n := by omega
      gi_wp2
      go_end0
      exact ⟨⟨_, rfl⟩, hJs⟩
set_option maxHeartbeats 1000000 in
theorem backI_in (q : Nat) (a : Option Addr) (n cap : Nat) (w : World) :
    CallsIn Fence.wide q Try.prog 25 #[.slice a n cap] w fun e w' => e = .returned (.func (.func 29) #[] #[.pointer (some ⟨w.heap.size, 0, none⟩)]) ∧ w' = w.alloc (.cells #[.slice a n cap] 32) := by
  refine callsIn_of_wp Try.func25 rfl trivial ?_ rfl
  simp only [Try.ntmps25, List.size_toArray, List.length_cons, List.length_nil, Nat.reduceAdd, Nat.reduceSub, Array.replicate_succ, Array.replicate_zero, List.push_toArray, List.append_toArray, List.nil_append, List.cons_append]
  gi_wp2
  go_ret
  exact ⟨rfl, rfl⟩

theorem evalP_drop (xs : List Int) (t : Int) (i : Nat) (h : i < xs.length) : evalP (xs.drop i) t = xs.getD i 0 + t * evalP (xs.drop (i + 1)) t := by
  rw [List.drop_eq_getElem_cons h, evalP]; simp [h]
/-- the value on its way, when k coefficients have come -/
def valK (xs : List Int) (t : Int) (k : Nat) : Int := evalP (xs.drop (xs.length - k)) t % 1073741789
theorem valK_zero (xs : List Int) (t : Int) : valK xs t 0 = 0 := by simp [valK, evalP]
theorem valK_succ (xs : List Int) (t : Int) (k : Nat) (h : k < xs.length) : valK xs t (k + 1) = (valK xs t k * t % 1073741789 + xs.getD (xs.length - 1 - k) 0) % 1073741789 := by
  unfold valK
  rw [evalP_drop xs t (xs.length - (k + 1)) (by omega), show xs.length - (k + 1) + 1 = xs.length - k by omega, show xs.length - (k + 1) = xs.length - 1 - k by omega]
  refine Cg.eq ?_
  refine Cg.trans ?_ (((cg_mod (evalP (xs.drop (xs.length - k)) t % 1073741789 * t)).add (Cg.refl _)).symm)
  rw [Int.add_comm, Int.mul_comm]
  exact ((cg_mod _).symm.mul (Cg.refl t)).add (Cg.refl _)
/-- the value when the coefficients at pre have come -/
def valF (xs : List Int) (t : Int) (pre : List Nat) : Int := pre.foldl (fun y x => (y * t + xs.getD x 0) % 1073741789) 0
theorem valF_snoc (xs : List Int) (t : Int) (pre : List Nat) (x : Nat) : valF xs t (pre ++ [x]) = (valF xs t pre * t + xs.getD x 0) % 1073741789 := by simp [valF]
theorem valF_rng (xs : List Int) (t : Int) (pre : List Nat) : I64 (valF xs t pre) := by
  rcases List.eq_nil_or_concat pre with rfl | ⟨l, x, rfl⟩
  · exact ⟨by simp [valF], by simp [valF]⟩
  · rw [List.concat_eq_append, valF_snoc]; exact i64_mod _
theorem valF_down (xs : List Int) (t : Int) : ∀ k, k ≤ xs.length → valF xs t (down xs.length k) = valK xs t k
  | 0, _ => by rw [valK_zero]; rfl
  | k + 1, h => by rw [down_succ, valF_snoc, valF_down xs t k (by omega), valK_succ xs t k (by omega), Int.emod_add_emod]
theorem valK_all (xs : List Int) (t : Int) : valK xs t xs.length = evalP xs t % 1073741789 := by simp [valK]
set_option maxRecDepth 100000 in
set_option maxHeartbeats 4000000 in
theorem value_call (xs : List Int) (v : Value) (t : Int) (w : World) (h : IRest w.heap.size w xs v) (ht : I64 t) :
    Calls Try.prog 19 #[v, .int .i64 t] w fun e w' => e = .returned (.int .i64 (evalP xs t % 1073741789)) ∧ Below w.heap.size w w' := by
  obtain ⟨a, cap, rfl, hc1, hc2, hI, hel⟩ := h
  have HXI : Hid (∀ i, I64 (xs.getD i 0)) := Lib.hid (fun i => by
    by_cases hi : i < xs.length
    · rw [show xs.getD i 0 = xs[i] by simp [hi]]; exact hI _ (List.getElem_mem hi)
    · rw [show xs.getD i 0 = 0 by simp [List.getD, List.getElem?_eq_none (show xs.length ≤ i by omega)]]; exact ⟨by omega, by omega⟩)
  have HVA : Hid (valF xs t (down xs.length xs.length) = evalP xs t % 1073741789) := Lib.hid (by rw [valF_down _ _ _ (Nat.le_refl _), valK_all])
  obtain ⟨W0, hW0⟩ : ∃ W0, W0 = (w.alloc (.cells #[.int .i64 t] 3)).alloc (.cells #[.int .i64 0] 3) := ⟨_, rfl⟩
  have hB0 : Below w.heap.size w W0 := by rw [hW0]; exact below_next (Joins.below_alloc1 w _) (Joins.below_alloc1 _ _)
  have hs0 : W0.heap.size = w.heap.size + 2 := by rw [hW0]; simp
  have hr0 : Row W0 w.heap.size 3 [.int .i64 t] := by rw [hW0]; exact (row_new w 3 _).keep (Joins.below_alloc1 _ _)
  have hr1 : Row W0 (w.heap.size + 1) 3 [.int .i64 0] := by
    have := row_new (w.alloc (.cells #[.int .i64 t] 3)) 3 [.int .i64 0]
    rw [hW0]; rwa [World.size_alloc] at this
  refine (callsIn_wide (n := 6)).1 ?_
  refine callsIn_of_wp_marks Try.func19 rfl trivial ?_ rfl
  simp only [Try.ntmps19, List.size_toArray, List.length_cons, List.length_nil, Nat.reduceAdd, Nat.reduceSub, Array.replicate_succ, Array.replicate_zero, List.push_toArray, List.append_toArray, List.nil_append, List.cons_append]
  gi_wp2
  refine ⟨trivial, ?_⟩
  rw [← hW0]
  clear hW0
  refine (backI_in 5 a xs.length cap W0).mono ?_
  rintro e w1 ⟨rfl, rfl⟩
  have hb03 : Below W0.heap.size W0 (W0.alloc (.cells #[.slice a xs.length cap] 32)) := Joins.below_alloc1 W0 _
  have hc3 : Row (W0.alloc (.cells #[.slice a xs.length cap] 32)) W0.heap.size 32 [.slice a xs.length cap] := row_new W0 32 _
  have hs3 : (W0.alloc (.cells #[.slice a xs.length cap] 32)).heap.size = W0.heap.size + 1 := by simp
  generalize W0.alloc (.cells #[.slice a xs.length cap] 32) = W3 at *
  rw [hs0] at hc3 hs3
  have HR0 := hr0.keep hb03
  have HR1 := hr1.keep hb03
  have HB3 : Below w.heap.size w W3 := below_next hB0 hb03
  clear hr0 hr1 hB0
  gi_wp2
  clear hs0 hb03
  have HXA : Hid (xs.length = 0 ∨ ∃ b off, a = some ⟨b, off, none⟩ ∧ b < w.heap.size ∧ ∀ i (h : i < xs.length), W3.cell? ⟨b, off + i, none⟩ = some (.int .i64 xs[i])) := Lib.hid (by
    rcases hel with h | ⟨b, off, ha, hb, hcl⟩
    · exact .inl h
    · exact .inr ⟨b, off, ha, hb, fun i hi => (HB3.cell (p := ⟨b, off + i, none⟩) hb).trans (hcl i hi)⟩)
  clear hel
  refine range_told (F := Fence.wide) (n := 6) rfl (by omega) (gf := 29) (lb := #[.pointer (some ⟨w.heap.size + 2, 0, none⟩)]) rfl trivial (enters_of Try.func29 (by kernel_rfl) rfl)
    (encs := encI xs) (T := fun _ _ => True) (fun x => ownFrom_pure _ _) (B := fun b => b < w.heap.size + 3 ∧ b ≠ w.heap.size + 1) (fun b hb => by omega) (S := fun ys => ys = down xs.length xs.length) (N := xs.length)
    (fun W hW => back_tells 5 (by omega) (w.heap.size + 2) _ xs a cap W ⟨by omega, by omega⟩ (fun b hb => by have := hW.size; omega) ((hW.cell (p := ⟨w.heap.size + 2, 0, none⟩) (show w.heap.size + 2 < W3.heap.size by omega)).trans (hc3.cell (i := 0) rfl)) ⟨hc1, hc2⟩ (by
      rcases HXA.out with h | ⟨b, off, ha, hb, hcl⟩
      · exact .inl h
      · exact .inr ⟨b, off, ha, ⟨by omega, by omega⟩, fun i hi => (hW.cell (p := ⟨b, off + i, none⟩) (show b < W3.heap.size by omega)).trans (hcl i hi)⟩)) (fun _ => rfl)
    (fun pre W => Row W (w.heap.size + 1) 3 [.int .i64 (valF xs t pre)] ∧ Row W w.heap.size 3 [.int .i64 t] ∧ Below w.heap.size w W)
    ?own ⟨HR1, HR0, HB3⟩
    (fun x => { tmps := #[.slice a xs.length cap, .int .i64 t, undef, .pointer (some ⟨w.heap.size, 0, none⟩), .pointer (some ⟨w.heap.size + 1, 0, none⟩), undef, .int .i64 (xs.getD x 0), .slice a xs.length cap, .func (.func 29) #[] #[.pointer (some ⟨w.heap.size + 2, 0, none⟩)], .int .i64 (x : Int), .int .i64 (xs.getD x 0), undef, undef, undef, undef, undef, undef, undef], defers := [] }) ?assign ?body ?done
  case own =>
    intro pre A B row hs hg hr
    obtain ⟨h2, h3, h4⟩ := hs
    have hnc : ∀ r, row = some r → ∃ o : Obj, A.heap[r]? = some o ∧ o.isCells = false := fun r e => (hr r e).2
    exact ⟨row_kept h2 hg hnc, row_kept h3 hg hnc, ownFrom_below (Nat.le_refl _) (by omega) pre A B row h4 hg hr⟩
  case assign =>
    intro l x W K hK
    unfold encI
    gi_wp2
    exact hK
  case body =>
    rintro l pre x W ⟨hy, ht0, hB⟩ - hlen
    have hxi := HXI.out x
    have HYI := Lib.hid (valF_rng xs t pre)
    have HVS := Lib.hid (valF_snoc xs t pre x)
    have c1 := hy.cell (i := 0) rfl
    have c0 := ht0.cell (i := 0) rfl
    have HW := Lib.hid hB.size
    generalize valF xs t pre = y at *
    generalize xs.getD x 0 = xi at *
    gi_wp2
    refine ⟨trivial, ?_⟩
    refine (CallsIn.inRound l (callsIn_wide.2 (mul_call y t W HYI.out ht))).mono ?_
    rintro e w4 ⟨rfl, rfl⟩
    gi_wp2
    refine ⟨trivial, ?_⟩
    refine (CallsIn.inRound l (callsIn_wide.2 (sum_two (y * t % 1073741789) xi w4.heap.size _ (i64_mod _) hxi (by simp) (by simp)))).mono ?_
    rintro e w5 ⟨rfl, rfl⟩
    have hb : Below w4.heap.size w4 (w4.alloc (.cells #[.int .i64 (y * t % 1073741789), .int .i64 xi] 3)) := Joins.below_alloc1 w4 _
    generalize w4.alloc (.cells #[.int .i64 (y * t % 1073741789), .int .i64 xi] 3) = w5 at *
    have hy5 := hy.keep hb
    have d1 := hy5.cell (i := 0) rfl
    have f1 := hy5.free 0
    rw [Int.emod_add_emod, ← HVS.out]
    obtain ⟨y2, hy2⟩ : ∃ y2, y2 = valF xs t (pre ++ [x]) := ⟨_, rfl⟩
    rw [← hy2]
    have HY2 := Lib.hid hy2
    clear hy2
    gi_wp2
    have hset := hy5.set (cs' := [.int .i64 y2]) 0 (.int .i64 y2) rfl
    refine ⟨((others_below hb).trans (KeepsOthers.setCell _ _ _)).from _, ⟨by have := hb.size; simpa using this, (KeepS.below hb).trans hb.size (KeepS.setCell _ _ _ _ (fun h => h.2 rfl))⟩, by rw [← HY2.out]; exact hset, ?_, ?_⟩
    · exact ((ht0.keep hb).setFar 0 _ (by omega))
    · exact below_setCell (hB.trans (hb.mono hB.size)) _ 0 _ (by omega)
  case done =>
    rintro D ys W hD rfl ⟨hy, ht0, hB⟩ hK
    rw [HVA.out] at hy
    have c1 := hy.cell (i := 0) rfl
    have f1 := hy.free 0
    obtain ⟨y, hyy⟩ : ∃ y, y = evalP xs t % 1073741789 := ⟨_, rfl⟩
    rw [← hyy] at c1 hy
    have HYY := Lib.hid hyy
    clear hyy
    gi_wp2
    have r1 := hy.set (cs' := [.int .i64 y]) 0 (.int .i64 y) rfl
    have hb9 := below_setCell hB (w.heap.size + 1) 0 (.int .i64 y) (by omega)
    have hK' := (KeepsOthers.setCell W ⟨w.heap.size + 1, 0, none⟩ (.int .i64 y)).same D _ hK rfl
    generalize W.setCell ⟨w.heap.size + 1, 0, none⟩ (.int .i64 y) = W5 at r1 hb9 hK' ⊢
    refine ⟨by simp, .inl ⟨_, _, rfl, run_takeDeferred hK', ?_⟩⟩
    have s1 := (row_kept r1 (grownBy_putObj' W5 D (.deferred none)) (fun r e => by cases e; exact ⟨_, hK', rfl⟩)).cell (i := 0) rfl
    refine ⟨.int .i64 y, by simp [results, Try.results19, go_sem, s1], ret_i64 HYY.out, hb9.trans (belowK_b (w := w) (Nat.le_refl _) W5 D _ _ (by omega) hK' rfl rfl)⟩
end Go.Proofs.Ytbigkcemcdokaaa
