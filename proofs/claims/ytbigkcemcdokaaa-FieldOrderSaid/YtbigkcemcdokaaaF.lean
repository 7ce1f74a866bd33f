/- The weight of a point. -/
import Derived.Test.YtbigkcemcdokaaaE
import Derived.Stop.RegionWithIn
import Derived.Sort.CutIn
namespace Go.Proofs.Ytbigkcemcdokaaa
open Go.RowKit Go.Shelf
attribute [local go_sem] Oper.semAt_some

/-- the product of t - x over the places pre, modulo Q -/
def prodF (xs : List Int) (t : Int) (pre : List Nat) : Int := pre.foldl (fun a k => a * (t - xs.getD k 0) % 1073741789) 1
theorem prodF_snoc (xs : List Int) (t : Int) (pre : List Nat) (k : Nat) : prodF xs t (pre ++ [k]) = prodF xs t pre * (t - xs.getD k 0) % 1073741789 := by simp [prodF]
theorem prodF_rng (xs : List Int) (t : Int) (pre : List Nat) : 0 ≤ prodF xs t pre ∧ prodF xs t pre < 1073741789 := by
  rcases List.eq_nil_or_concat pre with rfl | ⟨l, x, rfl⟩
  · simp [prodF]
  · rw [List.concat_eq_append, prodF_snoc]; exact mod_rng _
theorem prodF_oth (xs : List Int) (t : Int) (i : Nat) : ∀ k, prodF xs t (oth i k) = prodN xs i t k % 1073741789
  | 0 => rfl
  | k + 1 => by
    by_cases h : k = i
    · subst h
      rw [oth_same, prodF_oth xs t k k, prodN, if_pos rfl]
    · rw [oth_succ h, prodF_snoc, prodF_oth xs t i k, prodN, if_neg h]; exact ((cg_mod _).mul (Cg.refl _)).eq
theorem fpow_cg {a b : Int} (h : Cg a b) (n : Nat) : fpow a n = fpow b n := (h.pow n).eq
theorem finv_cg {a b : Int} (h : Cg a b) : finv a = finv b := fpow_cg h _
theorem wgt_mod (xs : List Int) (i : Nat) (t : Int) : prodF xs t (oth i xs.length) * finv (prodF xs (xs.getD i 0) (oth i xs.length)) % 1073741789 = wgt xs i t % 1073741789 := by
  rw [prodF_oth, prodF_oth, finv_cg (cg_mod _)]; exact ((cg_mod _).mul (Cg.refl _)).eq
theorem getD_fst (l : List (Int × Int)) (k : Nat) : (l.getD k (0, 0)).1 = (l.map (·.1)).getD k 0 := by
  simp only [List.getD, List.getElem?_map]; cases l[k]? <;> rfl
theorem getD_snd (l : List (Int × Int)) (k : Nat) : (l.getD k (0, 0)).2 = (l.map (·.2)).getD k 0 := by
  simp only [List.getD, List.getElem?_map]; cases l[k]? <;> rfl
theorem PRest.i64 {B : Nat} {w : World} {l : List (Int × Int)} {v : Value} (h : PRest B w l v) (k : Nat) : I64 (l.getD k (0, 0)).1 ∧ I64 (l.getD k (0, 0)).2 := by
  obtain ⟨_, _, _, _, _, h4, _⟩ := h
  by_cases hk : k < l.length
  · rw [show l.getD k (0, 0) = l[k] by simp [hk]]; exact h4 _ (List.getElem_mem hk)
  · rw [show l.getD k (0, 0) = (0, 0) by simp [List.getD, List.getElem?_eq_none (show l.length ≤ k by omega)]]; exact ⟨⟨by simp, by simp⟩, ⟨by simp, by simp⟩⟩
theorem anyG {F : Fence} {n : Nat} {P : Program} {md : Region.Mode} {ops : Array Oper} {Q : Exit → Act → World → Prop} {fuel : Nat} {listed : Array Bool} {a : Act} {w : World} (h : ∀ G, G = wpAnyIn F n P md ops Q → G fuel listed a w) : wpAnyIn F n P md ops Q fuel listed a w := h _ rfl
theorem toG {F : Fence} {n : Nat} {P : Program} {md : Region.Mode} {ops : Array Oper} {Q : Exit → Act → World → Prop} {G : Nat → Array Bool → Act → World → Prop} (hG : G = wpAnyIn F n P md ops Q) {fuel : Nat} {l l' : Array Bool} {a : Act} {w : World} (h : G fuel l a w) (e : l = l') : wpAnyIn F n P md ops Q fuel l' a w := by
  rw [← hG, ← e]; exact h
theorem below_drewN {B : Nat} {a w : World} (h : Below B a w) (n : Nat) : Below B a (w.drewN n) := ⟨h.os, h.tape, h.output, h.size, h.block⟩
theorem below_undrew {B : Nat} {a w : World} (h : Below B a.drew w) : Below B a w := ⟨h.os, h.tape, h.output, h.size, h.block⟩
/-- what a round of weight keeps -/
structure WRel (w : World) (sl : Value) (i t : Int) (Bx : Nat) (px py A1 A2 : Int) (W W' : World) : Prop where
  keeps : KeepsFrom (w.heap.size + 7) W W'
  kp : Kp2 (fun b => b < w.heap.size + 7 ∧ b ≠ w.heap.size + 3 ∧ b ≠ w.heap.size + 4) W W'
  r0 : Row W' w.heap.size 31 [sl]
  r1 : Row W' (w.heap.size + 1) 3 [.int .i64 i]
  r2 : Row W' (w.heap.size + 2) 3 [.int .i64 t]
  r3 : Row W' (w.heap.size + 3) 3 [.int .i64 A1]
  r4 : Row W' (w.heap.size + 4) 3 [.int .i64 A2]
  rx : Row W' Bx 35 [.int .i64 px, .int .i64 py]
  bel : Below w.heap.size w W'
  big : w.heap.size + 7 ≤ W'.heap.size
theorem WRel.one {w : World} {sl : Value} {i t : Int} {Bx : Nat} {px py A1 A2 : Int} {W W1 W2 : World} (h : WRel w sl i t Bx px py A1 A2 W W1) (hx : w.heap.size + 7 ≤ Bx) (hb : Below W1.heap.size W1 W2) (A1' : Int) :
    WRel w sl i t Bx px py A1' A2 W (W2.setCell ⟨w.heap.size + 3, 0, none⟩ (.int .i64 A1')) :=
  ⟨h.keeps.trans (((others_below hb).trans (KeepsOthers.setCell _ _ _)).from _),
    ⟨by have := h.kp.1; have := hb.size; simp; omega, (h.kp.2.trans h.kp.1 (KeepS.below hb)).trans (by have := h.kp.1; have := hb.size; omega) (KeepS.setCell _ _ _ _ (fun h => h.2.1 rfl))⟩,
    (h.r0.keep hb).setFar 0 _ (by omega), (h.r1.keep hb).setFar 0 _ (by omega), (h.r2.keep hb).setFar 0 _ (by omega), (h.r3.keep hb).set 0 _ rfl, (h.r4.keep hb).setFar 0 _ (by omega), (h.rx.keep hb).setFar 0 _ (by omega),
    below_setCell (h.bel.trans (hb.mono h.bel.size)) _ 0 _ (by omega), by have := h.big; have := hb.size; simp; omega⟩
theorem WRel.two {w : World} {sl : Value} {i t : Int} {Bx : Nat} {px py A1 A2 : Int} {W W1 W2 : World} (h : WRel w sl i t Bx px py A1 A2 W W1) (hx : w.heap.size + 7 ≤ Bx) (hb : Below W1.heap.size W1 W2) (A2' : Int) :
    WRel w sl i t Bx px py A1 A2' W (W2.setCell ⟨w.heap.size + 4, 0, none⟩ (.int .i64 A2')) :=
  ⟨h.keeps.trans (((others_below hb).trans (KeepsOthers.setCell _ _ _)).from _),
    ⟨by have := h.kp.1; have := hb.size; simp; omega, (h.kp.2.trans h.kp.1 (KeepS.below hb)).trans (by have := h.kp.1; have := hb.size; omega) (KeepS.setCell _ _ _ _ (fun h => h.2.2 rfl))⟩,
    (h.r0.keep hb).setFar 0 _ (by omega), (h.r1.keep hb).setFar 0 _ (by omega), (h.r2.keep hb).setFar 0 _ (by omega), (h.r3.keep hb).setFar 0 _ (by omega), (h.r4.keep hb).set 0 _ rfl, (h.rx.keep hb).setFar 0 _ (by omega),
    below_setCell (h.bel.trans (hb.mono h.bel.size)) _ 0 _ (by omega), by have := h.big; have := hb.size; simp; omega⟩
set_option maxRecDepth 100000 in
set_option maxHeartbeats 8000000 in
theorem weight_call (l : List (Int × Int)) (v : Value) (i : Nat) (t : Int) (w : World) (h : PRest w.heap.size w l v) (hi : i < l.length) (ht : I64 t) :
    Calls Try.prog 24 #[v, .int .i64 (i : Int), .int .i64 t] w fun e w' => e = .returned (.int .i64 (wgt (l.map (·.1)) i t % 1073741789)) ∧ Below w.heap.size w w' := by
  have HPI : Hid (∀ k, I64 (l.map (·.1) |>.getD k 0)) := Lib.hid (fun k => by rw [← getD_fst]; exact (h.i64 k).1)
  obtain ⟨a, cap, rfl, hc1, hc2, hI, hel⟩ := h
  have HWG := Lib.hid (wgt_mod (l.map (·.1)) i t)
  rw [List.length_map] at HWG
  obtain ⟨W0, hW0⟩ : ∃ W0, W0 = ((((w.alloc (.cells #[.slice a l.length cap] 31)).alloc (.cells #[.int .i64 (i : Int)] 3)).alloc (.cells #[.int .i64 t] 3)).alloc (.cells #[.int .i64 1] 3)).alloc (.cells #[.int .i64 1] 3) := ⟨_, rfl⟩
  refine (callsIn_wide (n := 6)).1 ?_
  refine callsIn_of_wp_marks Try.func24 rfl trivial ?_ rfl
  simp only [Try.ntmps24, List.size_toArray, List.length_cons, List.length_nil, Nat.reduceAdd, Nat.reduceSub, Array.replicate_succ, Array.replicate_zero, List.push_toArray, List.append_toArray, List.nil_append, List.cons_append]
  have hB0 : Below w.heap.size w W0 := by rw [hW0]; exact below_next (below_next (below_next (below_next (Joins.below_alloc1 w _) (Joins.below_alloc1 _ _)) (Joins.below_alloc1 _ _)) (Joins.below_alloc1 _ _)) (Joins.below_alloc1 _ _)
  have hs0 : W0.heap.size = w.heap.size + 5 := by rw [hW0]; simp
  have q0 : Row W0 w.heap.size 31 [.slice a l.length cap] := by
    rw [hW0]; exact ((((row_new w 31 _).keep (Joins.below_alloc1 _ _)).keep (Joins.below_alloc1 _ _)).keep (Joins.below_alloc1 _ _)).keep (Joins.below_alloc1 _ _)
  have q1 : Row W0 (w.heap.size + 1) 3 [.int .i64 (i : Int)] := by
    have := (((row_new (w.alloc (.cells #[.slice a l.length cap] 31)) 3 [.int .i64 (i : Int)]).keep (Joins.below_alloc1 _ (.cells #[.int .i64 t] 3))).keep (Joins.below_alloc1 _ (.cells #[.int .i64 1] 3))).keep (Joins.below_alloc1 _ (.cells #[.int .i64 1] 3))
    rw [hW0]; rwa [World.size_alloc] at this
  have q2 : Row W0 (w.heap.size + 2) 3 [.int .i64 t] := by
    have := ((row_new ((w.alloc (.cells #[.slice a l.length cap] 31)).alloc (.cells #[.int .i64 (i : Int)] 3)) 3 [.int .i64 t]).keep (Joins.below_alloc1 _ (.cells #[.int .i64 1] 3))).keep (Joins.below_alloc1 _ (.cells #[.int .i64 1] 3))
    rw [hW0]; rwa [World.size_alloc, World.size_alloc] at this
  have q3 : Row W0 (w.heap.size + 3) 3 [.int .i64 1] := by
    have := (row_new (((w.alloc (.cells #[.slice a l.length cap] 31)).alloc (.cells #[.int .i64 (i : Int)] 3)).alloc (.cells #[.int .i64 t] 3)) 3 [.int .i64 1]).keep (Joins.below_alloc1 _ (.cells #[.int .i64 1] 3))
    rw [hW0]; rwa [World.size_alloc, World.size_alloc, World.size_alloc] at this
  have q4 : Row W0 (w.heap.size + 4) 3 [.int .i64 1] := by
    have := row_new ((((w.alloc (.cells #[.slice a l.length cap] 31)).alloc (.cells #[.int .i64 (i : Int)] 3)).alloc (.cells #[.int .i64 t] 3)).alloc (.cells #[.int .i64 1] 3)) 3 [.int .i64 1]
    rw [hW0]; rwa [World.size_alloc, World.size_alloc, World.size_alloc, World.size_alloc] at this
  have HW0 := Lib.hid hW0
  clear hW0
  gi_wp2
  refine ⟨trivial, ?_⟩
  rw [← HW0.out]
  clear HW0
  refine (others_in 5 a l.length cap (i : Int) W0).mono ?_
  rintro e w1 ⟨rfl, rfl⟩
  have hb03 : Below W0.heap.size W0 ((W0.alloc (.cells #[.slice a l.length cap] 31)).alloc (.cells #[.int .i64 (i : Int)] 3)) := below_next (Joins.below_alloc1 W0 _) (Joins.below_alloc1 _ _)
  have q5 : Row ((W0.alloc (.cells #[.slice a l.length cap] 31)).alloc (.cells #[.int .i64 (i : Int)] 3)) W0.heap.size 31 [.slice a l.length cap] := (row_new W0 31 _).keep (Joins.below_alloc1 _ _)
  have q6 : Row ((W0.alloc (.cells #[.slice a l.length cap] 31)).alloc (.cells #[.int .i64 (i : Int)] 3)) (W0.heap.size + 1) 3 [.int .i64 (i : Int)] := by
    have := row_new (W0.alloc (.cells #[.slice a l.length cap] 31)) 3 [.int .i64 (i : Int)]
    rwa [World.size_alloc] at this
  have hs3 : ((W0.alloc (.cells #[.slice a l.length cap] 31)).alloc (.cells #[.int .i64 (i : Int)] 3)).heap.size = W0.heap.size + 2 := by simp
  generalize (W0.alloc (.cells #[.slice a l.length cap] 31)).alloc (.cells #[.int .i64 (i : Int)] 3) = W3 at *
  rw [hs0] at q5 q6 hs3
  have HB3 : Below w.heap.size w W3 := below_next hB0 hb03
  have r0 := q0.keep hb03
  have r1 := q1.keep hb03
  have r2 := q2.keep hb03
  have r3 := q3.keep hb03
  have r4 := q4.keep hb03
  clear q0 q1 q2 q3 q4 hB0
  gi_wp2
  clear hs0 hb03
  have HXA : Hid (l.length = 0 ∨ ∃ b off, a = some ⟨b, off, none⟩ ∧ b < w.heap.size ∧ ∀ W, Below w.heap.size w W → ∀ i (h : i < l.length), W.cell? ⟨b, off + i * 2, none⟩ = some (.int .i64 l[i].1) ∧ W.cell? ⟨b, off + i * 2 + 1, none⟩ = some (.int .i64 l[i].2)) := Lib.hid (by
    rcases hel with h | ⟨b, off, ha, hb, hcl⟩
    · exact .inl h
    · exact .inr ⟨b, off, ha, hb, fun W hW i hi => ⟨(hW.cell (p := ⟨b, off + i * 2, none⟩) hb).trans (hcl i hi).1, (hW.cell (p := ⟨b, off + i * 2 + 1, none⟩) hb).trans (hcl i hi).2⟩⟩)
  clear hel
  refine range_toldA (F := Fence.wide) (n := 6) rfl (by omega) (gf := 30) (lb := #[.pointer (some ⟨w.heap.size + 5, 0, none⟩), .pointer (some ⟨w.heap.size + 5 + 1, 0, none⟩)]) rfl trivial (enters_of Try.func30 (by kernel_rfl) rfl)
    (encs := encP l) (T := fun _ _ => True) (fun x => ownFrom_pure _ _) (B := fun b => b < w.heap.size + 7 ∧ b ≠ w.heap.size + 3 ∧ b ≠ w.heap.size + 4) (fun b hb => by omega) (S := fun ys => ys = oth i l.length) (N := l.length)
    (fun W hW => others_tells 5 (by omega) (w.heap.size + 5) (w.heap.size + 5 + 1) _ l i a cap W ⟨by omega, by omega, by omega⟩ ⟨by omega, by omega, by omega⟩ (fun b hb => by have := hW.size; omega)
      ((hW.cell (p := ⟨w.heap.size + 5, 0, none⟩) (show w.heap.size + 5 < W3.heap.size by omega)).trans (q5.cell (i := 0) rfl)) ((hW.cell (p := ⟨w.heap.size + 5 + 1, 0, none⟩) (show w.heap.size + 5 + 1 < W3.heap.size by omega)).trans (q6.cell (i := 0) rfl)) ⟨hc1, hc2⟩ (by
      rcases HXA.out with h | ⟨b, off, ha, hb, hcl⟩
      · exact .inl h
      · exact .inr ⟨b, off, ha, ⟨by omega, by omega, by omega⟩, fun i hi => hcl W (HB3.trans (hW.mono (by omega))) i hi⟩)) (fun _ => rfl)
    (fun pre W => (Row W (w.heap.size + 3) 3 [.int .i64 (prodF (l.map (·.1)) t pre)] ∧ Row W (w.heap.size + 4) 3 [.int .i64 (prodF (l.map (·.1)) ((l.map (·.1)).getD i 0) pre)]) ∧ (Row W w.heap.size 31 [.slice a l.length cap] ∧ Row W (w.heap.size + 1) 3 [.int .i64 (i : Int)] ∧ Row W (w.heap.size + 2) 3 [.int .i64 t]) ∧ Below w.heap.size w W ∧ W3.heap.size ≤ W.heap.size)
    ?own ⟨⟨r3, r4⟩, ⟨r0, r1, r2⟩, HB3, Nat.le_refl _⟩
    (fun x a' W => ∃ Bx, W3.heap.size ≤ Bx ∧ Row W Bx 35 [.int .i64 ((l.map (·.1)).getD x 0), .int .i64 ((l.map (·.2)).getD x 0)] ∧ ∃ u, a' = { tmps := #[.slice a l.length cap, .int .i64 (i : Int), .int .i64 t, .pointer (some ⟨w.heap.size, 0, none⟩), .pointer (some ⟨w.heap.size + 1, 0, none⟩), .pointer (some ⟨w.heap.size + 2, 0, none⟩), .int .i64 0, .pointer (some ⟨w.heap.size + 3, 0, none⟩), .pointer (some ⟨w.heap.size + 4, 0, none⟩), .pointer (some ⟨Bx, 0, none⟩), .slice a l.length cap, .int .i64 (i : Int), .func (.func 30) #[] #[.pointer (some ⟨w.heap.size + 5, 0, none⟩), .pointer (some ⟨w.heap.size + 5 + 1, 0, none⟩)], u, undef, undef, undef, undef, undef, undef, undef, undef, undef, undef, undef, undef, undef, undef, undef, undef, undef, undef, undef, undef], defers := [] })
    ?owna ?assign ?body ?done
  case own =>
    intro pre A B row hs hg hr
    obtain ⟨⟨h1, h2⟩, ⟨h3, h4, h5⟩, h6, h7⟩ := hs
    have hnc : ∀ r, row = some r → ∃ o : Obj, A.heap[r]? = some o ∧ o.isCells = false := fun r e => (hr r e).2
    exact ⟨⟨row_kept h1 hg hnc, row_kept h2 hg hnc⟩, ⟨row_kept h3 hg hnc, row_kept h4 hg hnc, row_kept h5 hg hnc⟩, ownFrom_below (Nat.le_refl _) (by omega) pre A B row h6 hg hr, Nat.le_trans h7 hg.size⟩
  case owna =>
    intro x a' _ A B row hs hg hr
    obtain ⟨Bx, h1, h2, h3⟩ := hs
    have hnc : ∀ r, row = some r → ∃ o : Obj, A.heap[r]? = some o ∧ o.isCells = false := fun r e => (hr r e).2
    exact ⟨Bx, h1, row_kept h2 hg hnc, h3⟩
  case assign =>
    rintro y pre x W K ⟨⟨h1, h2⟩, ⟨h3, h4, h5⟩, h6, h7⟩ - hlen hK
    unfold encP
    rw [getD_fst, getD_snd]
    obtain ⟨px, hpx⟩ : ∃ px, px = (l.map (·.1)).getD x 0 := ⟨_, rfl⟩
    obtain ⟨py, hpy⟩ : ∃ py, py = (l.map (·.2)).getD x 0 := ⟨_, rfl⟩
    rw [← hpx, ← hpy]
    have HPX := Lib.hid hpx
    have HPY := Lib.hid hpy
    clear hpx hpy
    gi_wp2
    have hb := Joins.below_alloc1 W (.cells #[.int .i64 px, .int .i64 py] 35)
    exact hK _ _ ((others_below hb).from _) (Kp2.below hb) ⟨⟨h1.keep hb, h2.keep hb⟩, ⟨h3.keep hb, h4.keep hb, h5.keep hb⟩, h6.trans (hb.mono h6.size), Nat.le_trans h7 hb.size⟩ ⟨W.heap.size, h7, by rw [← HPX.out, ← HPY.out]; exact row_new W 35 _, _, rfl⟩
  case body =>
    rintro y pre x a' W ⟨⟨h1, h2⟩, ⟨h3, h4, h5⟩, h6, h7⟩ ⟨Bx, hBx, hx, u, rfl⟩ hlen
    have HPS := Lib.hid (prodF_snoc (l.map (·.1)) t pre x)
    have HPS2 := Lib.hid (prodF_snoc (l.map (·.1)) ((l.map (·.1)).getD i 0) pre x)
    obtain ⟨b, off, rfl, hbl, hcl⟩ : ∃ b off, a = some ⟨b, off, none⟩ ∧ b < w.heap.size ∧ ∀ W, Below w.heap.size w W → W.cell? ⟨b, off + i * 2, none⟩ = some (.int .i64 ((l.map (·.1)).getD i 0)) := by
      rcases HXA.out with h | ⟨b, off, ha, hb, hcl⟩
      · omega
      · exact ⟨b, off, ha, hb, fun W hW => by rw [← getD_fst, show l.getD i (0, 0) = l[i] by simp [hi]]; exact (hcl W hW i hi).1⟩
    have pi := HPI.out i
    have px := HPI.out x
    have pr1 := prodF_rng (l.map (·.1)) t pre
    have pr2 := prodF_rng (l.map (·.1)) ((l.map (·.1)).getD i 0) pre
    have HC1 := Lib.hid hcl
    generalize (l.map (·.1)).getD i 0 = xi at *
    generalize (l.map (·.1)).getD x 0 = xx at *
    generalize (l.map (·.2)).getD x 0 = yy at *
    generalize prodF (l.map (·.1)) t pre = A1 at *
    generalize prodF (l.map (·.1)) xi pre = A2 at *
    have h0 : WRel w (.slice (some ⟨b, off, none⟩) l.length cap) i t Bx xx yy A1 A2 W W :=
      ⟨KeepsFrom.refl _ _, Kp2.refl _ _, h3, h4, h5, h1, h2, hx, h6, by omega⟩
    have hBx7 : w.heap.size + 7 ≤ Bx := by omega
    have HS7 : Hid (W3.heap.size = w.heap.size + 7) := Lib.hid (by omega)
    have HR := Lib.hid h0
    have HPR := Lib.hid pr1
    have HPR2 := Lib.hid pr2
    have a1I : I64 A1 := ⟨by omega, by omega⟩
    have a2I : I64 A2 := ⟨by omega, by omega⟩
    have HMM : Hid (∀ u v : Int, u * (v % 1073741789) % 1073741789 = u * v % 1073741789) := Lib.hid (fun u v => ((Cg.refl u).mul (cg_mod v)).eq)
    have c3 := h1.cell (i := 0) rfl
    have c2 := h5.cell (i := 0) rfl
    have cx := hx.cell (i := 0) rfl
    have f3 := h1.free 0
    clear h0 pr1 pr2 h1 h2 h3 h4 h5 h6 h7
    gi_wp2
    gi_cut [] from 14 (fun wr => WRel w (.slice (some ⟨b, off, none⟩) l.length cap) i t Bx xx yy (A1 * ((t - xx) % 1073741789) % 1073741789) A2 W wr)
    case first =>
      gi_region_with (first
        | (refine ⟨trivial, ?_⟩; gi_at_call 28; refine (CallsIn.inRound y (callsIn_wide.2 (difference_call t xx _ ht px))).mono ?_; rintro e w4 ⟨rfl, hb4⟩; have hb4' := below_undrew hb4; have d3 := (HR.out.r3.keep hb4').cell (i := 0) rfl; have d2 := (HR.out.r2.keep hb4').cell (i := 0) rfl; have dx := (HR.out.rx.keep hb4').cell (i := 0) rfl; have g3 := (HR.out.r3.keep hb4').free 0)
        | (refine ⟨trivial, ?_⟩; gi_at_call 14; refine (CallsIn.inRound y (callsIn_wide.2 (mul_call A1 ((t - xx) % 1073741789) _ a1I (i64_mod _)))).mono ?_; rintro e w5 ⟨rfl, rfl⟩))
      all_goals (gi_wp2_with fail; gi_meet; case rel => exact HR.out.one hBx7 hb4' _)
    case rest =>
      rw [HMM.out, ← HPS.out] at hcut
      clear HR
      have HR := Lib.hid hcut
      have c4 := hcut.r4.cell (i := 0) rfl
      have c0 := hcut.r0.cell (i := 0) rfl
      have c1 := hcut.r1.cell (i := 0) rfl
      have cx' := hcut.rx.cell (i := 0) rfl
      have ci := HC1.out wc hcut.bel
      have f4 := hcut.r4.free 0
      have hii : (i : Int) < (l.length : Int) := by omega
      clear hcut c3 c2 cx f3
      gi_wp2
      refine wpIn_region_any (by kernel_rfl) ?_
      refine anyG (fun G hG => ?_)
      have S0123456789a : ∀ (w4 : World) (_ : Below wc.heap.size wc w4), G 0 #[true, true, true, true, true, true, true, true, true, true, true] ⟨#[.slice (some ⟨b, off, none⟩) l.length cap, .int .i64 (i : Int), .int .i64 t, .pointer (some ⟨w.heap.size, 0, none⟩), .pointer (some ⟨w.heap.size + 1, 0, none⟩), .pointer (some ⟨w.heap.size + 2, 0, none⟩), .int .i64 0, .pointer (some ⟨w.heap.size + 3, 0, none⟩), .pointer (some ⟨w.heap.size + 4, 0, none⟩), .pointer (some ⟨Bx, 0, none⟩), .slice (some ⟨b, off, none⟩) l.length cap, .int .i64 (i : Int), .func (.func 30) #[] #[.pointer (some ⟨w.heap.size + 5, 0, none⟩), .pointer (some ⟨w.heap.size + 5 + 1, 0, none⟩)], u, u14, u15, u16, u17, u18, u19, .int .i64 A2, .slice (some ⟨b, off, none⟩) l.length cap, .int .i64 (i : Int), .pointer (some ⟨b, off + i * 2, none⟩), .pointer (some ⟨b, off + i * 2, none⟩), .int .i64 xi, .pointer (some ⟨Bx, 0, none⟩), .int .i64 xx, .int .i64 ((xi - xx) % 1073741789), .int .i64 (A2 * ((xi - xx) % 1073741789) % 1073741789), u30, u31, u32, u33], []⟩ (w4.setCell ⟨w.heap.size + 4, 0, none⟩ (.int .i64 (A2 * ((xi - xx) % 1073741789) % 1073741789))) := by
        intro w4 hb4
        rw [hG]
        refine wpAnyIn_done (by kernel_rfl) ?_ _
        have h := HR.out.two hBx7 hb4 (A2 * ((xi - xx) % 1073741789) % 1073741789)
        rw [HMM.out] at h ⊢
        gi_wp2_with fail
        exact ⟨by first | exact h.keeps | (rw [HS7.out]; exact h.keeps), h.kp, ⟨h.r3, by rw [HPS2.out]; exact h.r4⟩, ⟨h.r0, h.r1, h.r2⟩, h.bel, by first | exact h.big | (rw [HS7.out]; exact h.big)⟩
      have S0123456789 : ∀ (w4 : World) (_ : Below wc.heap.size wc w4), G 1 #[true, true, true, true, true, true, true, true, true, true, false] ⟨#[.slice (some ⟨b, off, none⟩) l.length cap, .int .i64 (i : Int), .int .i64 t, .pointer (some ⟨w.heap.size, 0, none⟩), .pointer (some ⟨w.heap.size + 1, 0, none⟩), .pointer (some ⟨w.heap.size + 2, 0, none⟩), .int .i64 0, .pointer (some ⟨w.heap.size + 3, 0, none⟩), .pointer (some ⟨w.heap.size + 4, 0, none⟩), .pointer (some ⟨Bx, 0, none⟩), .slice (some ⟨b, off, none⟩) l.length cap, .int .i64 (i : Int), .func (.func 30) #[] #[.pointer (some ⟨w.heap.size + 5, 0, none⟩), .pointer (some ⟨w.heap.size + 5 + 1, 0, none⟩)], u, u14, u15, u16, u17, u18, u19, .int .i64 A2, .slice (some ⟨b, off, none⟩) l.length cap, .int .i64 (i : Int), .pointer (some ⟨b, off + i * 2, none⟩), .pointer (some ⟨b, off + i * 2, none⟩), .int .i64 xi, .pointer (some ⟨Bx, 0, none⟩), .int .i64 xx, .int .i64 ((xi - xx) % 1073741789), .int .i64 (A2 * ((xi - xx) % 1073741789) % 1073741789), u30, u31, u32, u33], []⟩ w4 := by
        intro w4 hb4
        have d4 := (HR.out.r4.keep hb4).cell (i := 0) rfl; have g4 := (HR.out.r4.keep hb4).free 0
        rw [hG]
        refine wpAnyIn_ready (rs := [10]) (by kernel_rfl) (by simp) ?_
        refine AllReadyIn.cons rfl (fun K hK => ?_) ?_
        · go_simp
          refine hK _ _ ?_
          exact toG hG (S0123456789a w4 hb4) (by kernel_rfl)
        exact AllReadyIn.nil
      have S012345678 : ∀ (w4 : World) (_ : Below wc.heap.size wc w4), G 2 #[true, true, true, true, true, true, true, true, true, false, false] ⟨#[.slice (some ⟨b, off, none⟩) l.length cap, .int .i64 (i : Int), .int .i64 t, .pointer (some ⟨w.heap.size, 0, none⟩), .pointer (some ⟨w.heap.size + 1, 0, none⟩), .pointer (some ⟨w.heap.size + 2, 0, none⟩), .int .i64 0, .pointer (some ⟨w.heap.size + 3, 0, none⟩), .pointer (some ⟨w.heap.size + 4, 0, none⟩), .pointer (some ⟨Bx, 0, none⟩), .slice (some ⟨b, off, none⟩) l.length cap, .int .i64 (i : Int), .func (.func 30) #[] #[.pointer (some ⟨w.heap.size + 5, 0, none⟩), .pointer (some ⟨w.heap.size + 5 + 1, 0, none⟩)], u, u14, u15, u16, u17, u18, u19, .int .i64 A2, .slice (some ⟨b, off, none⟩) l.length cap, .int .i64 (i : Int), .pointer (some ⟨b, off + i * 2, none⟩), .pointer (some ⟨b, off + i * 2, none⟩), .int .i64 xi, .pointer (some ⟨Bx, 0, none⟩), .int .i64 xx, .int .i64 ((xi - xx) % 1073741789), u29, u30, u31, u32, u33], []⟩ w4 := by
        intro w4 hb4
        have d4 := (HR.out.r4.keep hb4).cell (i := 0) rfl; have g4 := (HR.out.r4.keep hb4).free 0
        rw [hG]
        refine wpAnyIn_ready (rs := [9]) (by kernel_rfl) (by simp) ?_
        refine AllReadyIn.cons rfl (fun K hK => ?_) ?_
        · go_simp
          gi_wp2_with (refine ⟨trivial, ?_⟩; gi_at_call 14; refine (CallsIn.inRound y (callsIn_wide.2 (mul_call A2 ((xi - xx) % 1073741789) _ a2I (i64_mod _)))).mono ?_; rintro e w5 ⟨rfl, rfl⟩)
          exact toG hG (S0123456789 w5 hb4) (by kernel_rfl)
        exact AllReadyIn.nil
      have S01234567 : G 3 #[true, true, true, true, true, true, true, true, false, false, false] ⟨#[.slice (some ⟨b, off, none⟩) l.length cap, .int .i64 (i : Int), .int .i64 t, .pointer (some ⟨w.heap.size, 0, none⟩), .pointer (some ⟨w.heap.size + 1, 0, none⟩), .pointer (some ⟨w.heap.size + 2, 0, none⟩), .int .i64 0, .pointer (some ⟨w.heap.size + 3, 0, none⟩), .pointer (some ⟨w.heap.size + 4, 0, none⟩), .pointer (some ⟨Bx, 0, none⟩), .slice (some ⟨b, off, none⟩) l.length cap, .int .i64 (i : Int), .func (.func 30) #[] #[.pointer (some ⟨w.heap.size + 5, 0, none⟩), .pointer (some ⟨w.heap.size + 5 + 1, 0, none⟩)], u, u14, u15, u16, u17, u18, u19, .int .i64 A2, .slice (some ⟨b, off, none⟩) l.length cap, .int .i64 (i : Int), .pointer (some ⟨b, off + i * 2, none⟩), .pointer (some ⟨b, off + i * 2, none⟩), .int .i64 xi, .pointer (some ⟨Bx, 0, none⟩), .int .i64 xx, u28, u29, u30, u31, u32, u33], []⟩ wc.drew := by
        rw [hG]
        refine wpAnyIn_ready (rs := [8]) (by kernel_rfl) (by simp) ?_
        refine AllReadyIn.cons rfl (fun K hK => ?_) ?_
        · go_simp
          gi_wp2_with (refine ⟨trivial, ?_⟩; gi_at_call 28; refine (CallsIn.inRound y (callsIn_wide.2 (difference_call xi xx _ pi px))).mono ?_; rintro e w4 ⟨rfl, hb4⟩)
          exact toG hG (S012345678 w4 (below_undrew hb4)) (by kernel_rfl)
        exact AllReadyIn.nil
      have S12345678 : ∀ (w4 : World) (_ : Below wc.heap.size wc w4), G 3 #[false, true, true, true, true, true, true, true, true, false, false] ⟨#[.slice (some ⟨b, off, none⟩) l.length cap, .int .i64 (i : Int), .int .i64 t, .pointer (some ⟨w.heap.size, 0, none⟩), .pointer (some ⟨w.heap.size + 1, 0, none⟩), .pointer (some ⟨w.heap.size + 2, 0, none⟩), .int .i64 0, .pointer (some ⟨w.heap.size + 3, 0, none⟩), .pointer (some ⟨w.heap.size + 4, 0, none⟩), .pointer (some ⟨Bx, 0, none⟩), .slice (some ⟨b, off, none⟩) l.length cap, .int .i64 (i : Int), .func (.func 30) #[] #[.pointer (some ⟨w.heap.size + 5, 0, none⟩), .pointer (some ⟨w.heap.size + 5 + 1, 0, none⟩)], u, u14, u15, u16, u17, u18, u19, u20, .slice (some ⟨b, off, none⟩) l.length cap, .int .i64 (i : Int), .pointer (some ⟨b, off + i * 2, none⟩), .pointer (some ⟨b, off + i * 2, none⟩), .int .i64 xi, .pointer (some ⟨Bx, 0, none⟩), .int .i64 xx, .int .i64 ((xi - xx) % 1073741789), u29, u30, u31, u32, u33], []⟩ w4 := by
        intro w4 hb4
        have d4 := (HR.out.r4.keep hb4).cell (i := 0) rfl; have g4 := (HR.out.r4.keep hb4).free 0
        rw [hG]
        refine wpAnyIn_ready (rs := [0]) (by kernel_rfl) (by simp) ?_
        refine AllReadyIn.cons rfl (fun K hK => ?_) ?_
        · go_simp
          refine hK _ _ ?_
          exact toG hG (S012345678 w4 hb4) (by kernel_rfl)
        exact AllReadyIn.nil
      have S0123456 : G 4 #[true, true, true, true, true, true, true, false, false, false, false] ⟨#[.slice (some ⟨b, off, none⟩) l.length cap, .int .i64 (i : Int), .int .i64 t, .pointer (some ⟨w.heap.size, 0, none⟩), .pointer (some ⟨w.heap.size + 1, 0, none⟩), .pointer (some ⟨w.heap.size + 2, 0, none⟩), .int .i64 0, .pointer (some ⟨w.heap.size + 3, 0, none⟩), .pointer (some ⟨w.heap.size + 4, 0, none⟩), .pointer (some ⟨Bx, 0, none⟩), .slice (some ⟨b, off, none⟩) l.length cap, .int .i64 (i : Int), .func (.func 30) #[] #[.pointer (some ⟨w.heap.size + 5, 0, none⟩), .pointer (some ⟨w.heap.size + 5 + 1, 0, none⟩)], u, u14, u15, u16, u17, u18, u19, .int .i64 A2, .slice (some ⟨b, off, none⟩) l.length cap, .int .i64 (i : Int), .pointer (some ⟨b, off + i * 2, none⟩), .pointer (some ⟨b, off + i * 2, none⟩), .int .i64 xi, .pointer (some ⟨Bx, 0, none⟩), u27, u28, u29, u30, u31, u32, u33], []⟩ wc.drew := by
        rw [hG]
        refine wpAnyIn_ready (rs := [7]) (by kernel_rfl) (by simp) ?_
        refine AllReadyIn.cons rfl (fun K hK => ?_) ?_
        · go_simp
          refine hK _ _ ?_
          exact toG hG (S01234567) (by kernel_rfl)
        exact AllReadyIn.nil
      have S0123467 : G 4 #[true, true, true, true, true, false, true, true, false, false, false] ⟨#[.slice (some ⟨b, off, none⟩) l.length cap, .int .i64 (i : Int), .int .i64 t, .pointer (some ⟨w.heap.size, 0, none⟩), .pointer (some ⟨w.heap.size + 1, 0, none⟩), .pointer (some ⟨w.heap.size + 2, 0, none⟩), .int .i64 0, .pointer (some ⟨w.heap.size + 3, 0, none⟩), .pointer (some ⟨w.heap.size + 4, 0, none⟩), .pointer (some ⟨Bx, 0, none⟩), .slice (some ⟨b, off, none⟩) l.length cap, .int .i64 (i : Int), .func (.func 30) #[] #[.pointer (some ⟨w.heap.size + 5, 0, none⟩), .pointer (some ⟨w.heap.size + 5 + 1, 0, none⟩)], u, u14, u15, u16, u17, u18, u19, .int .i64 A2, .slice (some ⟨b, off, none⟩) l.length cap, .int .i64 (i : Int), .pointer (some ⟨b, off + i * 2, none⟩), .pointer (some ⟨b, off + i * 2, none⟩), u25, .pointer (some ⟨Bx, 0, none⟩), .int .i64 xx, u28, u29, u30, u31, u32, u33], []⟩ wc.drew := by
        rw [hG]
        refine wpAnyIn_ready (rs := [5]) (by kernel_rfl) (by simp) ?_
        refine AllReadyIn.cons rfl (fun K hK => ?_) ?_
        · go_simp
          refine hK _ _ ?_
          exact toG hG (S01234567) (by kernel_rfl)
        exact AllReadyIn.nil
      have S1234567 : G 4 #[false, true, true, true, true, true, true, true, false, false, false] ⟨#[.slice (some ⟨b, off, none⟩) l.length cap, .int .i64 (i : Int), .int .i64 t, .pointer (some ⟨w.heap.size, 0, none⟩), .pointer (some ⟨w.heap.size + 1, 0, none⟩), .pointer (some ⟨w.heap.size + 2, 0, none⟩), .int .i64 0, .pointer (some ⟨w.heap.size + 3, 0, none⟩), .pointer (some ⟨w.heap.size + 4, 0, none⟩), .pointer (some ⟨Bx, 0, none⟩), .slice (some ⟨b, off, none⟩) l.length cap, .int .i64 (i : Int), .func (.func 30) #[] #[.pointer (some ⟨w.heap.size + 5, 0, none⟩), .pointer (some ⟨w.heap.size + 5 + 1, 0, none⟩)], u, u14, u15, u16, u17, u18, u19, u20, .slice (some ⟨b, off, none⟩) l.length cap, .int .i64 (i : Int), .pointer (some ⟨b, off + i * 2, none⟩), .pointer (some ⟨b, off + i * 2, none⟩), .int .i64 xi, .pointer (some ⟨Bx, 0, none⟩), .int .i64 xx, u28, u29, u30, u31, u32, u33], []⟩ wc.drew := by
        rw [hG]
        refine wpAnyIn_ready (rs := [0, 8]) (by kernel_rfl) (by simp) ?_
        refine AllReadyIn.cons rfl (fun K hK => ?_) ?_
        · go_simp
          refine hK _ _ ?_
          exact toG hG (S01234567) (by kernel_rfl)
        refine AllReadyIn.cons rfl (fun K hK => ?_) ?_
        · go_simp
          gi_wp2_with (refine ⟨trivial, ?_⟩; gi_at_call 28; refine (CallsIn.inRound y (callsIn_wide.2 (difference_call xi xx _ pi px))).mono ?_; rintro e w4 ⟨rfl, hb4⟩)
          exact toG hG (S12345678 w4 (below_undrew hb4)) (by kernel_rfl)
        exact AllReadyIn.nil
      have S012345 : G 5 #[true, true, true, true, true, true, false, false, false, false, false] ⟨#[.slice (some ⟨b, off, none⟩) l.length cap, .int .i64 (i : Int), .int .i64 t, .pointer (some ⟨w.heap.size, 0, none⟩), .pointer (some ⟨w.heap.size + 1, 0, none⟩), .pointer (some ⟨w.heap.size + 2, 0, none⟩), .int .i64 0, .pointer (some ⟨w.heap.size + 3, 0, none⟩), .pointer (some ⟨w.heap.size + 4, 0, none⟩), .pointer (some ⟨Bx, 0, none⟩), .slice (some ⟨b, off, none⟩) l.length cap, .int .i64 (i : Int), .func (.func 30) #[] #[.pointer (some ⟨w.heap.size + 5, 0, none⟩), .pointer (some ⟨w.heap.size + 5 + 1, 0, none⟩)], u, u14, u15, u16, u17, u18, u19, .int .i64 A2, .slice (some ⟨b, off, none⟩) l.length cap, .int .i64 (i : Int), .pointer (some ⟨b, off + i * 2, none⟩), .pointer (some ⟨b, off + i * 2, none⟩), .int .i64 xi, u26, u27, u28, u29, u30, u31, u32, u33], []⟩ wc.drew := by
        rw [hG]
        refine wpAnyIn_ready (rs := [6]) (by kernel_rfl) (by simp) ?_
        refine AllReadyIn.cons rfl (fun K hK => ?_) ?_
        · go_simp
          refine hK _ _ ?_
          exact toG hG (S0123456) (by kernel_rfl)
        exact AllReadyIn.nil
      have S012346 : G 5 #[true, true, true, true, true, false, true, false, false, false, false] ⟨#[.slice (some ⟨b, off, none⟩) l.length cap, .int .i64 (i : Int), .int .i64 t, .pointer (some ⟨w.heap.size, 0, none⟩), .pointer (some ⟨w.heap.size + 1, 0, none⟩), .pointer (some ⟨w.heap.size + 2, 0, none⟩), .int .i64 0, .pointer (some ⟨w.heap.size + 3, 0, none⟩), .pointer (some ⟨w.heap.size + 4, 0, none⟩), .pointer (some ⟨Bx, 0, none⟩), .slice (some ⟨b, off, none⟩) l.length cap, .int .i64 (i : Int), .func (.func 30) #[] #[.pointer (some ⟨w.heap.size + 5, 0, none⟩), .pointer (some ⟨w.heap.size + 5 + 1, 0, none⟩)], u, u14, u15, u16, u17, u18, u19, .int .i64 A2, .slice (some ⟨b, off, none⟩) l.length cap, .int .i64 (i : Int), .pointer (some ⟨b, off + i * 2, none⟩), .pointer (some ⟨b, off + i * 2, none⟩), u25, .pointer (some ⟨Bx, 0, none⟩), u27, u28, u29, u30, u31, u32, u33], []⟩ wc.drew := by
        rw [hG]
        refine wpAnyIn_ready (rs := [5, 7]) (by kernel_rfl) (by simp) ?_
        refine AllReadyIn.cons rfl (fun K hK => ?_) ?_
        · go_simp
          refine hK _ _ ?_
          exact toG hG (S0123456) (by kernel_rfl)
        refine AllReadyIn.cons rfl (fun K hK => ?_) ?_
        · go_simp
          refine hK _ _ ?_
          exact toG hG (S0123467) (by kernel_rfl)
        exact AllReadyIn.nil
      have S012367 : G 5 #[true, true, true, true, false, false, true, true, false, false, false] ⟨#[.slice (some ⟨b, off, none⟩) l.length cap, .int .i64 (i : Int), .int .i64 t, .pointer (some ⟨w.heap.size, 0, none⟩), .pointer (some ⟨w.heap.size + 1, 0, none⟩), .pointer (some ⟨w.heap.size + 2, 0, none⟩), .int .i64 0, .pointer (some ⟨w.heap.size + 3, 0, none⟩), .pointer (some ⟨w.heap.size + 4, 0, none⟩), .pointer (some ⟨Bx, 0, none⟩), .slice (some ⟨b, off, none⟩) l.length cap, .int .i64 (i : Int), .func (.func 30) #[] #[.pointer (some ⟨w.heap.size + 5, 0, none⟩), .pointer (some ⟨w.heap.size + 5 + 1, 0, none⟩)], u, u14, u15, u16, u17, u18, u19, .int .i64 A2, .slice (some ⟨b, off, none⟩) l.length cap, .int .i64 (i : Int), .pointer (some ⟨b, off + i * 2, none⟩), u24, u25, .pointer (some ⟨Bx, 0, none⟩), .int .i64 xx, u28, u29, u30, u31, u32, u33], []⟩ wc.drew := by
        rw [hG]
        refine wpAnyIn_ready (rs := [4]) (by kernel_rfl) (by simp) ?_
        refine AllReadyIn.cons rfl (fun K hK => ?_) ?_
        · go_simp
          refine hK _ _ ?_
          exact toG hG (S0123467) (by kernel_rfl)
        exact AllReadyIn.nil
      have S123456 : G 5 #[false, true, true, true, true, true, true, false, false, false, false] ⟨#[.slice (some ⟨b, off, none⟩) l.length cap, .int .i64 (i : Int), .int .i64 t, .pointer (some ⟨w.heap.size, 0, none⟩), .pointer (some ⟨w.heap.size + 1, 0, none⟩), .pointer (some ⟨w.heap.size + 2, 0, none⟩), .int .i64 0, .pointer (some ⟨w.heap.size + 3, 0, none⟩), .pointer (some ⟨w.heap.size + 4, 0, none⟩), .pointer (some ⟨Bx, 0, none⟩), .slice (some ⟨b, off, none⟩) l.length cap, .int .i64 (i : Int), .func (.func 30) #[] #[.pointer (some ⟨w.heap.size + 5, 0, none⟩), .pointer (some ⟨w.heap.size + 5 + 1, 0, none⟩)], u, u14, u15, u16, u17, u18, u19, u20, .slice (some ⟨b, off, none⟩) l.length cap, .int .i64 (i : Int), .pointer (some ⟨b, off + i * 2, none⟩), .pointer (some ⟨b, off + i * 2, none⟩), .int .i64 xi, .pointer (some ⟨Bx, 0, none⟩), u27, u28, u29, u30, u31, u32, u33], []⟩ wc.drew := by
        rw [hG]
        refine wpAnyIn_ready (rs := [0, 7]) (by kernel_rfl) (by simp) ?_
        refine AllReadyIn.cons rfl (fun K hK => ?_) ?_
        · go_simp
          refine hK _ _ ?_
          exact toG hG (S0123456) (by kernel_rfl)
        refine AllReadyIn.cons rfl (fun K hK => ?_) ?_
        · go_simp
          refine hK _ _ ?_
          exact toG hG (S1234567) (by kernel_rfl)
        exact AllReadyIn.nil
      have S123467 : G 5 #[false, true, true, true, true, false, true, true, false, false, false] ⟨#[.slice (some ⟨b, off, none⟩) l.length cap, .int .i64 (i : Int), .int .i64 t, .pointer (some ⟨w.heap.size, 0, none⟩), .pointer (some ⟨w.heap.size + 1, 0, none⟩), .pointer (some ⟨w.heap.size + 2, 0, none⟩), .int .i64 0, .pointer (some ⟨w.heap.size + 3, 0, none⟩), .pointer (some ⟨w.heap.size + 4, 0, none⟩), .pointer (some ⟨Bx, 0, none⟩), .slice (some ⟨b, off, none⟩) l.length cap, .int .i64 (i : Int), .func (.func 30) #[] #[.pointer (some ⟨w.heap.size + 5, 0, none⟩), .pointer (some ⟨w.heap.size + 5 + 1, 0, none⟩)], u, u14, u15, u16, u17, u18, u19, u20, .slice (some ⟨b, off, none⟩) l.length cap, .int .i64 (i : Int), .pointer (some ⟨b, off + i * 2, none⟩), .pointer (some ⟨b, off + i * 2, none⟩), u25, .pointer (some ⟨Bx, 0, none⟩), .int .i64 xx, u28, u29, u30, u31, u32, u33], []⟩ wc.drew := by
        rw [hG]
        refine wpAnyIn_ready (rs := [0, 5]) (by kernel_rfl) (by simp) ?_
        refine AllReadyIn.cons rfl (fun K hK => ?_) ?_
        · go_simp
          refine hK _ _ ?_
          exact toG hG (S0123467) (by kernel_rfl)
        refine AllReadyIn.cons rfl (fun K hK => ?_) ?_
        · go_simp
          refine hK _ _ ?_
          exact toG hG (S1234567) (by kernel_rfl)
        exact AllReadyIn.nil
      have S01234 : G 6 #[true, true, true, true, true, false, false, false, false, false, false] ⟨#[.slice (some ⟨b, off, none⟩) l.length cap, .int .i64 (i : Int), .int .i64 t, .pointer (some ⟨w.heap.size, 0, none⟩), .pointer (some ⟨w.heap.size + 1, 0, none⟩), .pointer (some ⟨w.heap.size + 2, 0, none⟩), .int .i64 0, .pointer (some ⟨w.heap.size + 3, 0, none⟩), .pointer (some ⟨w.heap.size + 4, 0, none⟩), .pointer (some ⟨Bx, 0, none⟩), .slice (some ⟨b, off, none⟩) l.length cap, .int .i64 (i : Int), .func (.func 30) #[] #[.pointer (some ⟨w.heap.size + 5, 0, none⟩), .pointer (some ⟨w.heap.size + 5 + 1, 0, none⟩)], u, u14, u15, u16, u17, u18, u19, .int .i64 A2, .slice (some ⟨b, off, none⟩) l.length cap, .int .i64 (i : Int), .pointer (some ⟨b, off + i * 2, none⟩), .pointer (some ⟨b, off + i * 2, none⟩), u25, u26, u27, u28, u29, u30, u31, u32, u33], []⟩ wc.drew := by
        rw [hG]
        refine wpAnyIn_ready (rs := [5, 6]) (by kernel_rfl) (by simp) ?_
        refine AllReadyIn.cons rfl (fun K hK => ?_) ?_
        · go_simp
          refine hK _ _ ?_
          exact toG hG (S012345) (by kernel_rfl)
        refine AllReadyIn.cons rfl (fun K hK => ?_) ?_
        · go_simp
          refine hK _ _ ?_
          exact toG hG (S012346) (by kernel_rfl)
        exact AllReadyIn.nil
      have S01236 : G 6 #[true, true, true, true, false, false, true, false, false, false, false] ⟨#[.slice (some ⟨b, off, none⟩) l.length cap, .int .i64 (i : Int), .int .i64 t, .pointer (some ⟨w.heap.size, 0, none⟩), .pointer (some ⟨w.heap.size + 1, 0, none⟩), .pointer (some ⟨w.heap.size + 2, 0, none⟩), .int .i64 0, .pointer (some ⟨w.heap.size + 3, 0, none⟩), .pointer (some ⟨w.heap.size + 4, 0, none⟩), .pointer (some ⟨Bx, 0, none⟩), .slice (some ⟨b, off, none⟩) l.length cap, .int .i64 (i : Int), .func (.func 30) #[] #[.pointer (some ⟨w.heap.size + 5, 0, none⟩), .pointer (some ⟨w.heap.size + 5 + 1, 0, none⟩)], u, u14, u15, u16, u17, u18, u19, .int .i64 A2, .slice (some ⟨b, off, none⟩) l.length cap, .int .i64 (i : Int), .pointer (some ⟨b, off + i * 2, none⟩), u24, u25, .pointer (some ⟨Bx, 0, none⟩), u27, u28, u29, u30, u31, u32, u33], []⟩ wc.drew := by
        rw [hG]
        refine wpAnyIn_ready (rs := [4, 7]) (by kernel_rfl) (by simp) ?_
        refine AllReadyIn.cons rfl (fun K hK => ?_) ?_
        · go_simp
          refine hK _ _ ?_
          exact toG hG (S012346) (by kernel_rfl)
        refine AllReadyIn.cons rfl (fun K hK => ?_) ?_
        · go_simp
          refine hK _ _ ?_
          exact toG hG (S012367) (by kernel_rfl)
        exact AllReadyIn.nil
      have S01267 : G 6 #[true, true, true, false, false, false, true, true, false, false, false] ⟨#[.slice (some ⟨b, off, none⟩) l.length cap, .int .i64 (i : Int), .int .i64 t, .pointer (some ⟨w.heap.size, 0, none⟩), .pointer (some ⟨w.heap.size + 1, 0, none⟩), .pointer (some ⟨w.heap.size + 2, 0, none⟩), .int .i64 0, .pointer (some ⟨w.heap.size + 3, 0, none⟩), .pointer (some ⟨w.heap.size + 4, 0, none⟩), .pointer (some ⟨Bx, 0, none⟩), .slice (some ⟨b, off, none⟩) l.length cap, .int .i64 (i : Int), .func (.func 30) #[] #[.pointer (some ⟨w.heap.size + 5, 0, none⟩), .pointer (some ⟨w.heap.size + 5 + 1, 0, none⟩)], u, u14, u15, u16, u17, u18, u19, .int .i64 A2, .slice (some ⟨b, off, none⟩) l.length cap, .int .i64 (i : Int), u23, u24, u25, .pointer (some ⟨Bx, 0, none⟩), .int .i64 xx, u28, u29, u30, u31, u32, u33], []⟩ wc.drew := by
        rw [hG]
        refine wpAnyIn_ready (rs := [3]) (by kernel_rfl) (by simp) ?_
        refine AllReadyIn.cons rfl (fun K hK => ?_) ?_
        · go_simp
          refine hK _ _ ?_
          exact toG hG (S012367) (by kernel_rfl)
        exact AllReadyIn.nil
      have S12345 : G 6 #[false, true, true, true, true, true, false, false, false, false, false] ⟨#[.slice (some ⟨b, off, none⟩) l.length cap, .int .i64 (i : Int), .int .i64 t, .pointer (some ⟨w.heap.size, 0, none⟩), .pointer (some ⟨w.heap.size + 1, 0, none⟩), .pointer (some ⟨w.heap.size + 2, 0, none⟩), .int .i64 0, .pointer (some ⟨w.heap.size + 3, 0, none⟩), .pointer (some ⟨w.heap.size + 4, 0, none⟩), .pointer (some ⟨Bx, 0, none⟩), .slice (some ⟨b, off, none⟩) l.length cap, .int .i64 (i : Int), .func (.func 30) #[] #[.pointer (some ⟨w.heap.size + 5, 0, none⟩), .pointer (some ⟨w.heap.size + 5 + 1, 0, none⟩)], u, u14, u15, u16, u17, u18, u19, u20, .slice (some ⟨b, off, none⟩) l.length cap, .int .i64 (i : Int), .pointer (some ⟨b, off + i * 2, none⟩), .pointer (some ⟨b, off + i * 2, none⟩), .int .i64 xi, u26, u27, u28, u29, u30, u31, u32, u33], []⟩ wc.drew := by
        rw [hG]
        refine wpAnyIn_ready (rs := [0, 6]) (by kernel_rfl) (by simp) ?_
        refine AllReadyIn.cons rfl (fun K hK => ?_) ?_
        · go_simp
          refine hK _ _ ?_
          exact toG hG (S012345) (by kernel_rfl)
        refine AllReadyIn.cons rfl (fun K hK => ?_) ?_
        · go_simp
          refine hK _ _ ?_
          exact toG hG (S123456) (by kernel_rfl)
        exact AllReadyIn.nil
      have S12346 : G 6 #[false, true, true, true, true, false, true, false, false, false, false] ⟨#[.slice (some ⟨b, off, none⟩) l.length cap, .int .i64 (i : Int), .int .i64 t, .pointer (some ⟨w.heap.size, 0, none⟩), .pointer (some ⟨w.heap.size + 1, 0, none⟩), .pointer (some ⟨w.heap.size + 2, 0, none⟩), .int .i64 0, .pointer (some ⟨w.heap.size + 3, 0, none⟩), .pointer (some ⟨w.heap.size + 4, 0, none⟩), .pointer (some ⟨Bx, 0, none⟩), .slice (some ⟨b, off, none⟩) l.length cap, .int .i64 (i : Int), .func (.func 30) #[] #[.pointer (some ⟨w.heap.size + 5, 0, none⟩), .pointer (some ⟨w.heap.size + 5 + 1, 0, none⟩)], u, u14, u15, u16, u17, u18, u19, u20, .slice (some ⟨b, off, none⟩) l.length cap, .int .i64 (i : Int), .pointer (some ⟨b, off + i * 2, none⟩), .pointer (some ⟨b, off + i * 2, none⟩), u25, .pointer (some ⟨Bx, 0, none⟩), u27, u28, u29, u30, u31, u32, u33], []⟩ wc.drew := by
        rw [hG]
        refine wpAnyIn_ready (rs := [0, 5, 7]) (by kernel_rfl) (by simp) ?_
        refine AllReadyIn.cons rfl (fun K hK => ?_) ?_
        · go_simp
          refine hK _ _ ?_
          exact toG hG (S012346) (by kernel_rfl)
        refine AllReadyIn.cons rfl (fun K hK => ?_) ?_
        · go_simp
          refine hK _ _ ?_
          exact toG hG (S123456) (by kernel_rfl)
        refine AllReadyIn.cons rfl (fun K hK => ?_) ?_
        · go_simp
          refine hK _ _ ?_
          exact toG hG (S123467) (by kernel_rfl)
        exact AllReadyIn.nil
      have S12367 : G 6 #[false, true, true, true, false, false, true, true, false, false, false] ⟨#[.slice (some ⟨b, off, none⟩) l.length cap, .int .i64 (i : Int), .int .i64 t, .pointer (some ⟨w.heap.size, 0, none⟩), .pointer (some ⟨w.heap.size + 1, 0, none⟩), .pointer (some ⟨w.heap.size + 2, 0, none⟩), .int .i64 0, .pointer (some ⟨w.heap.size + 3, 0, none⟩), .pointer (some ⟨w.heap.size + 4, 0, none⟩), .pointer (some ⟨Bx, 0, none⟩), .slice (some ⟨b, off, none⟩) l.length cap, .int .i64 (i : Int), .func (.func 30) #[] #[.pointer (some ⟨w.heap.size + 5, 0, none⟩), .pointer (some ⟨w.heap.size + 5 + 1, 0, none⟩)], u, u14, u15, u16, u17, u18, u19, u20, .slice (some ⟨b, off, none⟩) l.length cap, .int .i64 (i : Int), .pointer (some ⟨b, off + i * 2, none⟩), u24, u25, .pointer (some ⟨Bx, 0, none⟩), .int .i64 xx, u28, u29, u30, u31, u32, u33], []⟩ wc.drew := by
        rw [hG]
        refine wpAnyIn_ready (rs := [0, 4]) (by kernel_rfl) (by simp) ?_
        refine AllReadyIn.cons rfl (fun K hK => ?_) ?_
        · go_simp
          refine hK _ _ ?_
          exact toG hG (S012367) (by kernel_rfl)
        refine AllReadyIn.cons rfl (fun K hK => ?_) ?_
        · go_simp
          refine hK _ _ ?_
          exact toG hG (S123467) (by kernel_rfl)
        exact AllReadyIn.nil
      have S0123 : G 7 #[true, true, true, true, false, false, false, false, false, false, false] ⟨#[.slice (some ⟨b, off, none⟩) l.length cap, .int .i64 (i : Int), .int .i64 t, .pointer (some ⟨w.heap.size, 0, none⟩), .pointer (some ⟨w.heap.size + 1, 0, none⟩), .pointer (some ⟨w.heap.size + 2, 0, none⟩), .int .i64 0, .pointer (some ⟨w.heap.size + 3, 0, none⟩), .pointer (some ⟨w.heap.size + 4, 0, none⟩), .pointer (some ⟨Bx, 0, none⟩), .slice (some ⟨b, off, none⟩) l.length cap, .int .i64 (i : Int), .func (.func 30) #[] #[.pointer (some ⟨w.heap.size + 5, 0, none⟩), .pointer (some ⟨w.heap.size + 5 + 1, 0, none⟩)], u, u14, u15, u16, u17, u18, u19, .int .i64 A2, .slice (some ⟨b, off, none⟩) l.length cap, .int .i64 (i : Int), .pointer (some ⟨b, off + i * 2, none⟩), u24, u25, u26, u27, u28, u29, u30, u31, u32, u33], []⟩ wc.drew := by
        rw [hG]
        refine wpAnyIn_ready (rs := [4, 6]) (by kernel_rfl) (by simp) ?_
        refine AllReadyIn.cons rfl (fun K hK => ?_) ?_
        · go_simp
          refine hK _ _ ?_
          exact toG hG (S01234) (by kernel_rfl)
        refine AllReadyIn.cons rfl (fun K hK => ?_) ?_
        · go_simp
          refine hK _ _ ?_
          exact toG hG (S01236) (by kernel_rfl)
        exact AllReadyIn.nil
      have S0126 : G 7 #[true, true, true, false, false, false, true, false, false, false, false] ⟨#[.slice (some ⟨b, off, none⟩) l.length cap, .int .i64 (i : Int), .int .i64 t, .pointer (some ⟨w.heap.size, 0, none⟩), .pointer (some ⟨w.heap.size + 1, 0, none⟩), .pointer (some ⟨w.heap.size + 2, 0, none⟩), .int .i64 0, .pointer (some ⟨w.heap.size + 3, 0, none⟩), .pointer (some ⟨w.heap.size + 4, 0, none⟩), .pointer (some ⟨Bx, 0, none⟩), .slice (some ⟨b, off, none⟩) l.length cap, .int .i64 (i : Int), .func (.func 30) #[] #[.pointer (some ⟨w.heap.size + 5, 0, none⟩), .pointer (some ⟨w.heap.size + 5 + 1, 0, none⟩)], u, u14, u15, u16, u17, u18, u19, .int .i64 A2, .slice (some ⟨b, off, none⟩) l.length cap, .int .i64 (i : Int), u23, u24, u25, .pointer (some ⟨Bx, 0, none⟩), u27, u28, u29, u30, u31, u32, u33], []⟩ wc.drew := by
        rw [hG]
        refine wpAnyIn_ready (rs := [3, 7]) (by kernel_rfl) (by simp) ?_
        refine AllReadyIn.cons rfl (fun K hK => ?_) ?_
        · go_simp
          refine hK _ _ ?_
          exact toG hG (S01236) (by kernel_rfl)
        refine AllReadyIn.cons rfl (fun K hK => ?_) ?_
        · go_simp
          refine hK _ _ ?_
          exact toG hG (S01267) (by kernel_rfl)
        exact AllReadyIn.nil
      have S0167 : G 7 #[true, true, false, false, false, false, true, true, false, false, false] ⟨#[.slice (some ⟨b, off, none⟩) l.length cap, .int .i64 (i : Int), .int .i64 t, .pointer (some ⟨w.heap.size, 0, none⟩), .pointer (some ⟨w.heap.size + 1, 0, none⟩), .pointer (some ⟨w.heap.size + 2, 0, none⟩), .int .i64 0, .pointer (some ⟨w.heap.size + 3, 0, none⟩), .pointer (some ⟨w.heap.size + 4, 0, none⟩), .pointer (some ⟨Bx, 0, none⟩), .slice (some ⟨b, off, none⟩) l.length cap, .int .i64 (i : Int), .func (.func 30) #[] #[.pointer (some ⟨w.heap.size + 5, 0, none⟩), .pointer (some ⟨w.heap.size + 5 + 1, 0, none⟩)], u, u14, u15, u16, u17, u18, u19, .int .i64 A2, .slice (some ⟨b, off, none⟩) l.length cap, u22, u23, u24, u25, .pointer (some ⟨Bx, 0, none⟩), .int .i64 xx, u28, u29, u30, u31, u32, u33], []⟩ wc.drew := by
        rw [hG]
        refine wpAnyIn_ready (rs := [2]) (by kernel_rfl) (by simp) ?_
        refine AllReadyIn.cons rfl (fun K hK => ?_) ?_
        · go_simp
          refine hK _ _ ?_
          exact toG hG (S01267) (by kernel_rfl)
        exact AllReadyIn.nil
      have S0267 : G 7 #[true, false, true, false, false, false, true, true, false, false, false] ⟨#[.slice (some ⟨b, off, none⟩) l.length cap, .int .i64 (i : Int), .int .i64 t, .pointer (some ⟨w.heap.size, 0, none⟩), .pointer (some ⟨w.heap.size + 1, 0, none⟩), .pointer (some ⟨w.heap.size + 2, 0, none⟩), .int .i64 0, .pointer (some ⟨w.heap.size + 3, 0, none⟩), .pointer (some ⟨w.heap.size + 4, 0, none⟩), .pointer (some ⟨Bx, 0, none⟩), .slice (some ⟨b, off, none⟩) l.length cap, .int .i64 (i : Int), .func (.func 30) #[] #[.pointer (some ⟨w.heap.size + 5, 0, none⟩), .pointer (some ⟨w.heap.size + 5 + 1, 0, none⟩)], u, u14, u15, u16, u17, u18, u19, .int .i64 A2, u21, .int .i64 (i : Int), u23, u24, u25, .pointer (some ⟨Bx, 0, none⟩), .int .i64 xx, u28, u29, u30, u31, u32, u33], []⟩ wc.drew := by
        rw [hG]
        refine wpAnyIn_ready (rs := [1]) (by kernel_rfl) (by simp) ?_
        refine AllReadyIn.cons rfl (fun K hK => ?_) ?_
        · go_simp
          refine hK _ _ ?_
          exact toG hG (S01267) (by kernel_rfl)
        exact AllReadyIn.nil
      have S1234 : G 7 #[false, true, true, true, true, false, false, false, false, false, false] ⟨#[.slice (some ⟨b, off, none⟩) l.length cap, .int .i64 (i : Int), .int .i64 t, .pointer (some ⟨w.heap.size, 0, none⟩), .pointer (some ⟨w.heap.size + 1, 0, none⟩), .pointer (some ⟨w.heap.size + 2, 0, none⟩), .int .i64 0, .pointer (some ⟨w.heap.size + 3, 0, none⟩), .pointer (some ⟨w.heap.size + 4, 0, none⟩), .pointer (some ⟨Bx, 0, none⟩), .slice (some ⟨b, off, none⟩) l.length cap, .int .i64 (i : Int), .func (.func 30) #[] #[.pointer (some ⟨w.heap.size + 5, 0, none⟩), .pointer (some ⟨w.heap.size + 5 + 1, 0, none⟩)], u, u14, u15, u16, u17, u18, u19, u20, .slice (some ⟨b, off, none⟩) l.length cap, .int .i64 (i : Int), .pointer (some ⟨b, off + i * 2, none⟩), .pointer (some ⟨b, off + i * 2, none⟩), u25, u26, u27, u28, u29, u30, u31, u32, u33], []⟩ wc.drew := by
        rw [hG]
        refine wpAnyIn_ready (rs := [0, 5, 6]) (by kernel_rfl) (by simp) ?_
        refine AllReadyIn.cons rfl (fun K hK => ?_) ?_
        · go_simp
          refine hK _ _ ?_
          exact toG hG (S01234) (by kernel_rfl)
        refine AllReadyIn.cons rfl (fun K hK => ?_) ?_
        · go_simp
          refine hK _ _ ?_
          exact toG hG (S12345) (by kernel_rfl)
        refine AllReadyIn.cons rfl (fun K hK => ?_) ?_
        · go_simp
          refine hK _ _ ?_
          exact toG hG (S12346) (by kernel_rfl)
        exact AllReadyIn.nil
      have S1236 : G 7 #[false, true, true, true, false, false, true, false, false, false, false] ⟨#[.slice (some ⟨b, off, none⟩) l.length cap, .int .i64 (i : Int), .int .i64 t, .pointer (some ⟨w.heap.size, 0, none⟩), .pointer (some ⟨w.heap.size + 1, 0, none⟩), .pointer (some ⟨w.heap.size + 2, 0, none⟩), .int .i64 0, .pointer (some ⟨w.heap.size + 3, 0, none⟩), .pointer (some ⟨w.heap.size + 4, 0, none⟩), .pointer (some ⟨Bx, 0, none⟩), .slice (some ⟨b, off, none⟩) l.length cap, .int .i64 (i : Int), .func (.func 30) #[] #[.pointer (some ⟨w.heap.size + 5, 0, none⟩), .pointer (some ⟨w.heap.size + 5 + 1, 0, none⟩)], u, u14, u15, u16, u17, u18, u19, u20, .slice (some ⟨b, off, none⟩) l.length cap, .int .i64 (i : Int), .pointer (some ⟨b, off + i * 2, none⟩), u24, u25, .pointer (some ⟨Bx, 0, none⟩), u27, u28, u29, u30, u31, u32, u33], []⟩ wc.drew := by
        rw [hG]
        refine wpAnyIn_ready (rs := [0, 4, 7]) (by kernel_rfl) (by simp) ?_
        refine AllReadyIn.cons rfl (fun K hK => ?_) ?_
        · go_simp
          refine hK _ _ ?_
          exact toG hG (S01236) (by kernel_rfl)
        refine AllReadyIn.cons rfl (fun K hK => ?_) ?_
        · go_simp
          refine hK _ _ ?_
          exact toG hG (S12346) (by kernel_rfl)
        refine AllReadyIn.cons rfl (fun K hK => ?_) ?_
        · go_simp
          refine hK _ _ ?_
          exact toG hG (S12367) (by kernel_rfl)
        exact AllReadyIn.nil
      have S1267 : G 7 #[false, true, true, false, false, false, true, true, false, false, false] ⟨#[.slice (some ⟨b, off, none⟩) l.length cap, .int .i64 (i : Int), .int .i64 t, .pointer (some ⟨w.heap.size, 0, none⟩), .pointer (some ⟨w.heap.size + 1, 0, none⟩), .pointer (some ⟨w.heap.size + 2, 0, none⟩), .int .i64 0, .pointer (some ⟨w.heap.size + 3, 0, none⟩), .pointer (some ⟨w.heap.size + 4, 0, none⟩), .pointer (some ⟨Bx, 0, none⟩), .slice (some ⟨b, off, none⟩) l.length cap, .int .i64 (i : Int), .func (.func 30) #[] #[.pointer (some ⟨w.heap.size + 5, 0, none⟩), .pointer (some ⟨w.heap.size + 5 + 1, 0, none⟩)], u, u14, u15, u16, u17, u18, u19, u20, .slice (some ⟨b, off, none⟩) l.length cap, .int .i64 (i : Int), u23, u24, u25, .pointer (some ⟨Bx, 0, none⟩), .int .i64 xx, u28, u29, u30, u31, u32, u33], []⟩ wc.drew := by
        rw [hG]
        refine wpAnyIn_ready (rs := [0, 3]) (by kernel_rfl) (by simp) ?_
        refine AllReadyIn.cons rfl (fun K hK => ?_) ?_
        · go_simp
          refine hK _ _ ?_
          exact toG hG (S01267) (by kernel_rfl)
        refine AllReadyIn.cons rfl (fun K hK => ?_) ?_
        · go_simp
          refine hK _ _ ?_
          exact toG hG (S12367) (by kernel_rfl)
        exact AllReadyIn.nil
      have S012 : G 8 #[true, true, true, false, false, false, false, false, false, false, false] ⟨#[.slice (some ⟨b, off, none⟩) l.length cap, .int .i64 (i : Int), .int .i64 t, .pointer (some ⟨w.heap.size, 0, none⟩), .pointer (some ⟨w.heap.size + 1, 0, none⟩), .pointer (some ⟨w.heap.size + 2, 0, none⟩), .int .i64 0, .pointer (some ⟨w.heap.size + 3, 0, none⟩), .pointer (some ⟨w.heap.size + 4, 0, none⟩), .pointer (some ⟨Bx, 0, none⟩), .slice (some ⟨b, off, none⟩) l.length cap, .int .i64 (i : Int), .func (.func 30) #[] #[.pointer (some ⟨w.heap.size + 5, 0, none⟩), .pointer (some ⟨w.heap.size + 5 + 1, 0, none⟩)], u, u14, u15, u16, u17, u18, u19, .int .i64 A2, .slice (some ⟨b, off, none⟩) l.length cap, .int .i64 (i : Int), u23, u24, u25, u26, u27, u28, u29, u30, u31, u32, u33], []⟩ wc.drew := by
        rw [hG]
        refine wpAnyIn_ready (rs := [3, 6]) (by kernel_rfl) (by simp) ?_
        refine AllReadyIn.cons rfl (fun K hK => ?_) ?_
        · go_simp
          refine hK _ _ ?_
          exact toG hG (S0123) (by kernel_rfl)
        refine AllReadyIn.cons rfl (fun K hK => ?_) ?_
        · go_simp
          refine hK _ _ ?_
          exact toG hG (S0126) (by kernel_rfl)
        exact AllReadyIn.nil
      have S016 : G 8 #[true, true, false, false, false, false, true, false, false, false, false] ⟨#[.slice (some ⟨b, off, none⟩) l.length cap, .int .i64 (i : Int), .int .i64 t, .pointer (some ⟨w.heap.size, 0, none⟩), .pointer (some ⟨w.heap.size + 1, 0, none⟩), .pointer (some ⟨w.heap.size + 2, 0, none⟩), .int .i64 0, .pointer (some ⟨w.heap.size + 3, 0, none⟩), .pointer (some ⟨w.heap.size + 4, 0, none⟩), .pointer (some ⟨Bx, 0, none⟩), .slice (some ⟨b, off, none⟩) l.length cap, .int .i64 (i : Int), .func (.func 30) #[] #[.pointer (some ⟨w.heap.size + 5, 0, none⟩), .pointer (some ⟨w.heap.size + 5 + 1, 0, none⟩)], u, u14, u15, u16, u17, u18, u19, .int .i64 A2, .slice (some ⟨b, off, none⟩) l.length cap, u22, u23, u24, u25, .pointer (some ⟨Bx, 0, none⟩), u27, u28, u29, u30, u31, u32, u33], []⟩ wc.drew := by
        rw [hG]
        refine wpAnyIn_ready (rs := [2, 7]) (by kernel_rfl) (by simp) ?_
        refine AllReadyIn.cons rfl (fun K hK => ?_) ?_
        · go_simp
          refine hK _ _ ?_
          exact toG hG (S0126) (by kernel_rfl)
        refine AllReadyIn.cons rfl (fun K hK => ?_) ?_
        · go_simp
          refine hK _ _ ?_
          exact toG hG (S0167) (by kernel_rfl)
        exact AllReadyIn.nil
      have S026 : G 8 #[true, false, true, false, false, false, true, false, false, false, false] ⟨#[.slice (some ⟨b, off, none⟩) l.length cap, .int .i64 (i : Int), .int .i64 t, .pointer (some ⟨w.heap.size, 0, none⟩), .pointer (some ⟨w.heap.size + 1, 0, none⟩), .pointer (some ⟨w.heap.size + 2, 0, none⟩), .int .i64 0, .pointer (some ⟨w.heap.size + 3, 0, none⟩), .pointer (some ⟨w.heap.size + 4, 0, none⟩), .pointer (some ⟨Bx, 0, none⟩), .slice (some ⟨b, off, none⟩) l.length cap, .int .i64 (i : Int), .func (.func 30) #[] #[.pointer (some ⟨w.heap.size + 5, 0, none⟩), .pointer (some ⟨w.heap.size + 5 + 1, 0, none⟩)], u, u14, u15, u16, u17, u18, u19, .int .i64 A2, u21, .int .i64 (i : Int), u23, u24, u25, .pointer (some ⟨Bx, 0, none⟩), u27, u28, u29, u30, u31, u32, u33], []⟩ wc.drew := by
        rw [hG]
        refine wpAnyIn_ready (rs := [1, 7]) (by kernel_rfl) (by simp) ?_
        refine AllReadyIn.cons rfl (fun K hK => ?_) ?_
        · go_simp
          refine hK _ _ ?_
          exact toG hG (S0126) (by kernel_rfl)
        refine AllReadyIn.cons rfl (fun K hK => ?_) ?_
        · go_simp
          refine hK _ _ ?_
          exact toG hG (S0267) (by kernel_rfl)
        exact AllReadyIn.nil
      have S067 : G 8 #[true, false, false, false, false, false, true, true, false, false, false] ⟨#[.slice (some ⟨b, off, none⟩) l.length cap, .int .i64 (i : Int), .int .i64 t, .pointer (some ⟨w.heap.size, 0, none⟩), .pointer (some ⟨w.heap.size + 1, 0, none⟩), .pointer (some ⟨w.heap.size + 2, 0, none⟩), .int .i64 0, .pointer (some ⟨w.heap.size + 3, 0, none⟩), .pointer (some ⟨w.heap.size + 4, 0, none⟩), .pointer (some ⟨Bx, 0, none⟩), .slice (some ⟨b, off, none⟩) l.length cap, .int .i64 (i : Int), .func (.func 30) #[] #[.pointer (some ⟨w.heap.size + 5, 0, none⟩), .pointer (some ⟨w.heap.size + 5 + 1, 0, none⟩)], u, u14, u15, u16, u17, u18, u19, .int .i64 A2, u21, u22, u23, u24, u25, .pointer (some ⟨Bx, 0, none⟩), .int .i64 xx, u28, u29, u30, u31, u32, u33], []⟩ wc.drew := by
        rw [hG]
        refine wpAnyIn_ready (rs := [1, 2]) (by kernel_rfl) (by simp) ?_
        refine AllReadyIn.cons rfl (fun K hK => ?_) ?_
        · go_simp
          refine hK _ _ ?_
          exact toG hG (S0167) (by kernel_rfl)
        refine AllReadyIn.cons rfl (fun K hK => ?_) ?_
        · go_simp
          refine hK _ _ ?_
          exact toG hG (S0267) (by kernel_rfl)
        exact AllReadyIn.nil
      have S123 : G 8 #[false, true, true, true, false, false, false, false, false, false, false] ⟨#[.slice (some ⟨b, off, none⟩) l.length cap, .int .i64 (i : Int), .int .i64 t, .pointer (some ⟨w.heap.size, 0, none⟩), .pointer (some ⟨w.heap.size + 1, 0, none⟩), .pointer (some ⟨w.heap.size + 2, 0, none⟩), .int .i64 0, .pointer (some ⟨w.heap.size + 3, 0, none⟩), .pointer (some ⟨w.heap.size + 4, 0, none⟩), .pointer (some ⟨Bx, 0, none⟩), .slice (some ⟨b, off, none⟩) l.length cap, .int .i64 (i : Int), .func (.func 30) #[] #[.pointer (some ⟨w.heap.size + 5, 0, none⟩), .pointer (some ⟨w.heap.size + 5 + 1, 0, none⟩)], u, u14, u15, u16, u17, u18, u19, u20, .slice (some ⟨b, off, none⟩) l.length cap, .int .i64 (i : Int), .pointer (some ⟨b, off + i * 2, none⟩), u24, u25, u26, u27, u28, u29, u30, u31, u32, u33], []⟩ wc.drew := by
        rw [hG]
        refine wpAnyIn_ready (rs := [0, 4, 6]) (by kernel_rfl) (by simp) ?_
        refine AllReadyIn.cons rfl (fun K hK => ?_) ?_
        · go_simp
          refine hK _ _ ?_
          exact toG hG (S0123) (by kernel_rfl)
        refine AllReadyIn.cons rfl (fun K hK => ?_) ?_
        · go_simp
          refine hK _ _ ?_
          exact toG hG (S1234) (by kernel_rfl)
        refine AllReadyIn.cons rfl (fun K hK => ?_) ?_
        · go_simp
          refine hK _ _ ?_
          exact toG hG (S1236) (by kernel_rfl)
        exact AllReadyIn.nil
      have S126 : G 8 #[false, true, true, false, false, false, true, false, false, false, false] ⟨#[.slice (some ⟨b, off, none⟩) l.length cap, .int .i64 (i : Int), .int .i64 t, .pointer (some ⟨w.heap.size, 0, none⟩), .pointer (some ⟨w.heap.size + 1, 0, none⟩), .pointer (some ⟨w.heap.size + 2, 0, none⟩), .int .i64 0, .pointer (some ⟨w.heap.size + 3, 0, none⟩), .pointer (some ⟨w.heap.size + 4, 0, none⟩), .pointer (some ⟨Bx, 0, none⟩), .slice (some ⟨b, off, none⟩) l.length cap, .int .i64 (i : Int), .func (.func 30) #[] #[.pointer (some ⟨w.heap.size + 5, 0, none⟩), .pointer (some ⟨w.heap.size + 5 + 1, 0, none⟩)], u, u14, u15, u16, u17, u18, u19, u20, .slice (some ⟨b, off, none⟩) l.length cap, .int .i64 (i : Int), u23, u24, u25, .pointer (some ⟨Bx, 0, none⟩), u27, u28, u29, u30, u31, u32, u33], []⟩ wc.drew := by
        rw [hG]
        refine wpAnyIn_ready (rs := [0, 3, 7]) (by kernel_rfl) (by simp) ?_
        refine AllReadyIn.cons rfl (fun K hK => ?_) ?_
        · go_simp
          refine hK _ _ ?_
          exact toG hG (S0126) (by kernel_rfl)
        refine AllReadyIn.cons rfl (fun K hK => ?_) ?_
        · go_simp
          refine hK _ _ ?_
          exact toG hG (S1236) (by kernel_rfl)
        refine AllReadyIn.cons rfl (fun K hK => ?_) ?_
        · go_simp
          refine hK _ _ ?_
          exact toG hG (S1267) (by kernel_rfl)
        exact AllReadyIn.nil
      have S167 : G 8 #[false, true, false, false, false, false, true, true, false, false, false] ⟨#[.slice (some ⟨b, off, none⟩) l.length cap, .int .i64 (i : Int), .int .i64 t, .pointer (some ⟨w.heap.size, 0, none⟩), .pointer (some ⟨w.heap.size + 1, 0, none⟩), .pointer (some ⟨w.heap.size + 2, 0, none⟩), .int .i64 0, .pointer (some ⟨w.heap.size + 3, 0, none⟩), .pointer (some ⟨w.heap.size + 4, 0, none⟩), .pointer (some ⟨Bx, 0, none⟩), .slice (some ⟨b, off, none⟩) l.length cap, .int .i64 (i : Int), .func (.func 30) #[] #[.pointer (some ⟨w.heap.size + 5, 0, none⟩), .pointer (some ⟨w.heap.size + 5 + 1, 0, none⟩)], u, u14, u15, u16, u17, u18, u19, u20, .slice (some ⟨b, off, none⟩) l.length cap, u22, u23, u24, u25, .pointer (some ⟨Bx, 0, none⟩), .int .i64 xx, u28, u29, u30, u31, u32, u33], []⟩ wc.drew := by
        rw [hG]
        refine wpAnyIn_ready (rs := [0, 2]) (by kernel_rfl) (by simp) ?_
        refine AllReadyIn.cons rfl (fun K hK => ?_) ?_
        · go_simp
          refine hK _ _ ?_
          exact toG hG (S0167) (by kernel_rfl)
        refine AllReadyIn.cons rfl (fun K hK => ?_) ?_
        · go_simp
          refine hK _ _ ?_
          exact toG hG (S1267) (by kernel_rfl)
        exact AllReadyIn.nil
      have S267 : G 8 #[false, false, true, false, false, false, true, true, false, false, false] ⟨#[.slice (some ⟨b, off, none⟩) l.length cap, .int .i64 (i : Int), .int .i64 t, .pointer (some ⟨w.heap.size, 0, none⟩), .pointer (some ⟨w.heap.size + 1, 0, none⟩), .pointer (some ⟨w.heap.size + 2, 0, none⟩), .int .i64 0, .pointer (some ⟨w.heap.size + 3, 0, none⟩), .pointer (some ⟨w.heap.size + 4, 0, none⟩), .pointer (some ⟨Bx, 0, none⟩), .slice (some ⟨b, off, none⟩) l.length cap, .int .i64 (i : Int), .func (.func 30) #[] #[.pointer (some ⟨w.heap.size + 5, 0, none⟩), .pointer (some ⟨w.heap.size + 5 + 1, 0, none⟩)], u, u14, u15, u16, u17, u18, u19, u20, u21, .int .i64 (i : Int), u23, u24, u25, .pointer (some ⟨Bx, 0, none⟩), .int .i64 xx, u28, u29, u30, u31, u32, u33], []⟩ wc.drew := by
        rw [hG]
        refine wpAnyIn_ready (rs := [0, 1]) (by kernel_rfl) (by simp) ?_
        refine AllReadyIn.cons rfl (fun K hK => ?_) ?_
        · go_simp
          refine hK _ _ ?_
          exact toG hG (S0267) (by kernel_rfl)
        refine AllReadyIn.cons rfl (fun K hK => ?_) ?_
        · go_simp
          refine hK _ _ ?_
          exact toG hG (S1267) (by kernel_rfl)
        exact AllReadyIn.nil
      have S01 : G 9 #[true, true, false, false, false, false, false, false, false, false, false] ⟨#[.slice (some ⟨b, off, none⟩) l.length cap, .int .i64 (i : Int), .int .i64 t, .pointer (some ⟨w.heap.size, 0, none⟩), .pointer (some ⟨w.heap.size + 1, 0, none⟩), .pointer (some ⟨w.heap.size + 2, 0, none⟩), .int .i64 0, .pointer (some ⟨w.heap.size + 3, 0, none⟩), .pointer (some ⟨w.heap.size + 4, 0, none⟩), .pointer (some ⟨Bx, 0, none⟩), .slice (some ⟨b, off, none⟩) l.length cap, .int .i64 (i : Int), .func (.func 30) #[] #[.pointer (some ⟨w.heap.size + 5, 0, none⟩), .pointer (some ⟨w.heap.size + 5 + 1, 0, none⟩)], u, u14, u15, u16, u17, u18, u19, .int .i64 A2, .slice (some ⟨b, off, none⟩) l.length cap, u22, u23, u24, u25, u26, u27, u28, u29, u30, u31, u32, u33], []⟩ wc.drew := by
        rw [hG]
        refine wpAnyIn_ready (rs := [2, 6]) (by kernel_rfl) (by simp) ?_
        refine AllReadyIn.cons rfl (fun K hK => ?_) ?_
        · go_simp
          refine hK _ _ ?_
          exact toG hG (S012) (by kernel_rfl)
        refine AllReadyIn.cons rfl (fun K hK => ?_) ?_
        · go_simp
          refine hK _ _ ?_
          exact toG hG (S016) (by kernel_rfl)
        exact AllReadyIn.nil
      have S02 : G 9 #[true, false, true, false, false, false, false, false, false, false, false] ⟨#[.slice (some ⟨b, off, none⟩) l.length cap, .int .i64 (i : Int), .int .i64 t, .pointer (some ⟨w.heap.size, 0, none⟩), .pointer (some ⟨w.heap.size + 1, 0, none⟩), .pointer (some ⟨w.heap.size + 2, 0, none⟩), .int .i64 0, .pointer (some ⟨w.heap.size + 3, 0, none⟩), .pointer (some ⟨w.heap.size + 4, 0, none⟩), .pointer (some ⟨Bx, 0, none⟩), .slice (some ⟨b, off, none⟩) l.length cap, .int .i64 (i : Int), .func (.func 30) #[] #[.pointer (some ⟨w.heap.size + 5, 0, none⟩), .pointer (some ⟨w.heap.size + 5 + 1, 0, none⟩)], u, u14, u15, u16, u17, u18, u19, .int .i64 A2, u21, .int .i64 (i : Int), u23, u24, u25, u26, u27, u28, u29, u30, u31, u32, u33], []⟩ wc.drew := by
        rw [hG]
        refine wpAnyIn_ready (rs := [1, 6]) (by kernel_rfl) (by simp) ?_
        refine AllReadyIn.cons rfl (fun K hK => ?_) ?_
        · go_simp
          refine hK _ _ ?_
          exact toG hG (S012) (by kernel_rfl)
        refine AllReadyIn.cons rfl (fun K hK => ?_) ?_
        · go_simp
          refine hK _ _ ?_
          exact toG hG (S026) (by kernel_rfl)
        exact AllReadyIn.nil
      have S06 : G 9 #[true, false, false, false, false, false, true, false, false, false, false] ⟨#[.slice (some ⟨b, off, none⟩) l.length cap, .int .i64 (i : Int), .int .i64 t, .pointer (some ⟨w.heap.size, 0, none⟩), .pointer (some ⟨w.heap.size + 1, 0, none⟩), .pointer (some ⟨w.heap.size + 2, 0, none⟩), .int .i64 0, .pointer (some ⟨w.heap.size + 3, 0, none⟩), .pointer (some ⟨w.heap.size + 4, 0, none⟩), .pointer (some ⟨Bx, 0, none⟩), .slice (some ⟨b, off, none⟩) l.length cap, .int .i64 (i : Int), .func (.func 30) #[] #[.pointer (some ⟨w.heap.size + 5, 0, none⟩), .pointer (some ⟨w.heap.size + 5 + 1, 0, none⟩)], u, u14, u15, u16, u17, u18, u19, .int .i64 A2, u21, u22, u23, u24, u25, .pointer (some ⟨Bx, 0, none⟩), u27, u28, u29, u30, u31, u32, u33], []⟩ wc.drew := by
        rw [hG]
        refine wpAnyIn_ready (rs := [1, 2, 7]) (by kernel_rfl) (by simp) ?_
        refine AllReadyIn.cons rfl (fun K hK => ?_) ?_
        · go_simp
          refine hK _ _ ?_
          exact toG hG (S016) (by kernel_rfl)
        refine AllReadyIn.cons rfl (fun K hK => ?_) ?_
        · go_simp
          refine hK _ _ ?_
          exact toG hG (S026) (by kernel_rfl)
        refine AllReadyIn.cons rfl (fun K hK => ?_) ?_
        · go_simp
          refine hK _ _ ?_
          exact toG hG (S067) (by kernel_rfl)
        exact AllReadyIn.nil
      have S12 : G 9 #[false, true, true, false, false, false, false, false, false, false, false] ⟨#[.slice (some ⟨b, off, none⟩) l.length cap, .int .i64 (i : Int), .int .i64 t, .pointer (some ⟨w.heap.size, 0, none⟩), .pointer (some ⟨w.heap.size + 1, 0, none⟩), .pointer (some ⟨w.heap.size + 2, 0, none⟩), .int .i64 0, .pointer (some ⟨w.heap.size + 3, 0, none⟩), .pointer (some ⟨w.heap.size + 4, 0, none⟩), .pointer (some ⟨Bx, 0, none⟩), .slice (some ⟨b, off, none⟩) l.length cap, .int .i64 (i : Int), .func (.func 30) #[] #[.pointer (some ⟨w.heap.size + 5, 0, none⟩), .pointer (some ⟨w.heap.size + 5 + 1, 0, none⟩)], u, u14, u15, u16, u17, u18, u19, u20, .slice (some ⟨b, off, none⟩) l.length cap, .int .i64 (i : Int), u23, u24, u25, u26, u27, u28, u29, u30, u31, u32, u33], []⟩ wc.drew := by
        rw [hG]
        refine wpAnyIn_ready (rs := [0, 3, 6]) (by kernel_rfl) (by simp) ?_
        refine AllReadyIn.cons rfl (fun K hK => ?_) ?_
        · go_simp
          refine hK _ _ ?_
          exact toG hG (S012) (by kernel_rfl)
        refine AllReadyIn.cons rfl (fun K hK => ?_) ?_
        · go_simp
          refine hK _ _ ?_
          exact toG hG (S123) (by kernel_rfl)
        refine AllReadyIn.cons rfl (fun K hK => ?_) ?_
        · go_simp
          refine hK _ _ ?_
          exact toG hG (S126) (by kernel_rfl)
        exact AllReadyIn.nil
      have S16 : G 9 #[false, true, false, false, false, false, true, false, false, false, false] ⟨#[.slice (some ⟨b, off, none⟩) l.length cap, .int .i64 (i : Int), .int .i64 t, .pointer (some ⟨w.heap.size, 0, none⟩), .pointer (some ⟨w.heap.size + 1, 0, none⟩), .pointer (some ⟨w.heap.size + 2, 0, none⟩), .int .i64 0, .pointer (some ⟨w.heap.size + 3, 0, none⟩), .pointer (some ⟨w.heap.size + 4, 0, none⟩), .pointer (some ⟨Bx, 0, none⟩), .slice (some ⟨b, off, none⟩) l.length cap, .int .i64 (i : Int), .func (.func 30) #[] #[.pointer (some ⟨w.heap.size + 5, 0, none⟩), .pointer (some ⟨w.heap.size + 5 + 1, 0, none⟩)], u, u14, u15, u16, u17, u18, u19, u20, .slice (some ⟨b, off, none⟩) l.length cap, u22, u23, u24, u25, .pointer (some ⟨Bx, 0, none⟩), u27, u28, u29, u30, u31, u32, u33], []⟩ wc.drew := by
        rw [hG]
        refine wpAnyIn_ready (rs := [0, 2, 7]) (by kernel_rfl) (by simp) ?_
        refine AllReadyIn.cons rfl (fun K hK => ?_) ?_
        · go_simp
          refine hK _ _ ?_
          exact toG hG (S016) (by kernel_rfl)
        refine AllReadyIn.cons rfl (fun K hK => ?_) ?_
        · go_simp
          refine hK _ _ ?_
          exact toG hG (S126) (by kernel_rfl)
        refine AllReadyIn.cons rfl (fun K hK => ?_) ?_
        · go_simp
          refine hK _ _ ?_
          exact toG hG (S167) (by kernel_rfl)
        exact AllReadyIn.nil
      have S26 : G 9 #[false, false, true, false, false, false, true, false, false, false, false] ⟨#[.slice (some ⟨b, off, none⟩) l.length cap, .int .i64 (i : Int), .int .i64 t, .pointer (some ⟨w.heap.size, 0, none⟩), .pointer (some ⟨w.heap.size + 1, 0, none⟩), .pointer (some ⟨w.heap.size + 2, 0, none⟩), .int .i64 0, .pointer (some ⟨w.heap.size + 3, 0, none⟩), .pointer (some ⟨w.heap.size + 4, 0, none⟩), .pointer (some ⟨Bx, 0, none⟩), .slice (some ⟨b, off, none⟩) l.length cap, .int .i64 (i : Int), .func (.func 30) #[] #[.pointer (some ⟨w.heap.size + 5, 0, none⟩), .pointer (some ⟨w.heap.size + 5 + 1, 0, none⟩)], u, u14, u15, u16, u17, u18, u19, u20, u21, .int .i64 (i : Int), u23, u24, u25, .pointer (some ⟨Bx, 0, none⟩), u27, u28, u29, u30, u31, u32, u33], []⟩ wc.drew := by
        rw [hG]
        refine wpAnyIn_ready (rs := [0, 1, 7]) (by kernel_rfl) (by simp) ?_
        refine AllReadyIn.cons rfl (fun K hK => ?_) ?_
        · go_simp
          refine hK _ _ ?_
          exact toG hG (S026) (by kernel_rfl)
        refine AllReadyIn.cons rfl (fun K hK => ?_) ?_
        · go_simp
          refine hK _ _ ?_
          exact toG hG (S126) (by kernel_rfl)
        refine AllReadyIn.cons rfl (fun K hK => ?_) ?_
        · go_simp
          refine hK _ _ ?_
          exact toG hG (S267) (by kernel_rfl)
        exact AllReadyIn.nil
      have S67 : G 9 #[false, false, false, false, false, false, true, true, false, false, false] ⟨#[.slice (some ⟨b, off, none⟩) l.length cap, .int .i64 (i : Int), .int .i64 t, .pointer (some ⟨w.heap.size, 0, none⟩), .pointer (some ⟨w.heap.size + 1, 0, none⟩), .pointer (some ⟨w.heap.size + 2, 0, none⟩), .int .i64 0, .pointer (some ⟨w.heap.size + 3, 0, none⟩), .pointer (some ⟨w.heap.size + 4, 0, none⟩), .pointer (some ⟨Bx, 0, none⟩), .slice (some ⟨b, off, none⟩) l.length cap, .int .i64 (i : Int), .func (.func 30) #[] #[.pointer (some ⟨w.heap.size + 5, 0, none⟩), .pointer (some ⟨w.heap.size + 5 + 1, 0, none⟩)], u, u14, u15, u16, u17, u18, u19, u20, u21, u22, u23, u24, u25, .pointer (some ⟨Bx, 0, none⟩), .int .i64 xx, u28, u29, u30, u31, u32, u33], []⟩ wc.drew := by
        rw [hG]
        refine wpAnyIn_ready (rs := [0, 1, 2]) (by kernel_rfl) (by simp) ?_
        refine AllReadyIn.cons rfl (fun K hK => ?_) ?_
        · go_simp
          refine hK _ _ ?_
          exact toG hG (S067) (by kernel_rfl)
        refine AllReadyIn.cons rfl (fun K hK => ?_) ?_
        · go_simp
          refine hK _ _ ?_
          exact toG hG (S167) (by kernel_rfl)
        refine AllReadyIn.cons rfl (fun K hK => ?_) ?_
        · go_simp
          refine hK _ _ ?_
          exact toG hG (S267) (by kernel_rfl)
        exact AllReadyIn.nil
      have S0 : G 10 #[true, false, false, false, false, false, false, false, false, false, false] ⟨#[.slice (some ⟨b, off, none⟩) l.length cap, .int .i64 (i : Int), .int .i64 t, .pointer (some ⟨w.heap.size, 0, none⟩), .pointer (some ⟨w.heap.size + 1, 0, none⟩), .pointer (some ⟨w.heap.size + 2, 0, none⟩), .int .i64 0, .pointer (some ⟨w.heap.size + 3, 0, none⟩), .pointer (some ⟨w.heap.size + 4, 0, none⟩), .pointer (some ⟨Bx, 0, none⟩), .slice (some ⟨b, off, none⟩) l.length cap, .int .i64 (i : Int), .func (.func 30) #[] #[.pointer (some ⟨w.heap.size + 5, 0, none⟩), .pointer (some ⟨w.heap.size + 5 + 1, 0, none⟩)], u, u14, u15, u16, u17, u18, u19, .int .i64 A2, u21, u22, u23, u24, u25, u26, u27, u28, u29, u30, u31, u32, u33], []⟩ wc.drew := by
        rw [hG]
        refine wpAnyIn_ready (rs := [1, 2, 6]) (by kernel_rfl) (by simp) ?_
        refine AllReadyIn.cons rfl (fun K hK => ?_) ?_
        · go_simp
          refine hK _ _ ?_
          exact toG hG (S01) (by kernel_rfl)
        refine AllReadyIn.cons rfl (fun K hK => ?_) ?_
        · go_simp
          refine hK _ _ ?_
          exact toG hG (S02) (by kernel_rfl)
        refine AllReadyIn.cons rfl (fun K hK => ?_) ?_
        · go_simp
          refine hK _ _ ?_
          exact toG hG (S06) (by kernel_rfl)
        exact AllReadyIn.nil
      have S1 : G 10 #[false, true, false, false, false, false, false, false, false, false, false] ⟨#[.slice (some ⟨b, off, none⟩) l.length cap, .int .i64 (i : Int), .int .i64 t, .pointer (some ⟨w.heap.size, 0, none⟩), .pointer (some ⟨w.heap.size + 1, 0, none⟩), .pointer (some ⟨w.heap.size + 2, 0, none⟩), .int .i64 0, .pointer (some ⟨w.heap.size + 3, 0, none⟩), .pointer (some ⟨w.heap.size + 4, 0, none⟩), .pointer (some ⟨Bx, 0, none⟩), .slice (some ⟨b, off, none⟩) l.length cap, .int .i64 (i : Int), .func (.func 30) #[] #[.pointer (some ⟨w.heap.size + 5, 0, none⟩), .pointer (some ⟨w.heap.size + 5 + 1, 0, none⟩)], u, u14, u15, u16, u17, u18, u19, u20, .slice (some ⟨b, off, none⟩) l.length cap, u22, u23, u24, u25, u26, u27, u28, u29, u30, u31, u32, u33], []⟩ wc.drew := by
        rw [hG]
        refine wpAnyIn_ready (rs := [0, 2, 6]) (by kernel_rfl) (by simp) ?_
        refine AllReadyIn.cons rfl (fun K hK => ?_) ?_
        · go_simp
          refine hK _ _ ?_
          exact toG hG (S01) (by kernel_rfl)
        refine AllReadyIn.cons rfl (fun K hK => ?_) ?_
        · go_simp
          refine hK _ _ ?_
          exact toG hG (S12) (by kernel_rfl)
        refine AllReadyIn.cons rfl (fun K hK => ?_) ?_
        · go_simp
          refine hK _ _ ?_
          exact toG hG (S16) (by kernel_rfl)
        exact AllReadyIn.nil
      have S2 : G 10 #[false, false, true, false, false, false, false, false, false, false, false] ⟨#[.slice (some ⟨b, off, none⟩) l.length cap, .int .i64 (i : Int), .int .i64 t, .pointer (some ⟨w.heap.size, 0, none⟩), .pointer (some ⟨w.heap.size + 1, 0, none⟩), .pointer (some ⟨w.heap.size + 2, 0, none⟩), .int .i64 0, .pointer (some ⟨w.heap.size + 3, 0, none⟩), .pointer (some ⟨w.heap.size + 4, 0, none⟩), .pointer (some ⟨Bx, 0, none⟩), .slice (some ⟨b, off, none⟩) l.length cap, .int .i64 (i : Int), .func (.func 30) #[] #[.pointer (some ⟨w.heap.size + 5, 0, none⟩), .pointer (some ⟨w.heap.size + 5 + 1, 0, none⟩)], u, u14, u15, u16, u17, u18, u19, u20, u21, .int .i64 (i : Int), u23, u24, u25, u26, u27, u28, u29, u30, u31, u32, u33], []⟩ wc.drew := by
        rw [hG]
        refine wpAnyIn_ready (rs := [0, 1, 6]) (by kernel_rfl) (by simp) ?_
        refine AllReadyIn.cons rfl (fun K hK => ?_) ?_
        · go_simp
          refine hK _ _ ?_
          exact toG hG (S02) (by kernel_rfl)
        refine AllReadyIn.cons rfl (fun K hK => ?_) ?_
        · go_simp
          refine hK _ _ ?_
          exact toG hG (S12) (by kernel_rfl)
        refine AllReadyIn.cons rfl (fun K hK => ?_) ?_
        · go_simp
          refine hK _ _ ?_
          exact toG hG (S26) (by kernel_rfl)
        exact AllReadyIn.nil
      have S6 : G 10 #[false, false, false, false, false, false, true, false, false, false, false] ⟨#[.slice (some ⟨b, off, none⟩) l.length cap, .int .i64 (i : Int), .int .i64 t, .pointer (some ⟨w.heap.size, 0, none⟩), .pointer (some ⟨w.heap.size + 1, 0, none⟩), .pointer (some ⟨w.heap.size + 2, 0, none⟩), .int .i64 0, .pointer (some ⟨w.heap.size + 3, 0, none⟩), .pointer (some ⟨w.heap.size + 4, 0, none⟩), .pointer (some ⟨Bx, 0, none⟩), .slice (some ⟨b, off, none⟩) l.length cap, .int .i64 (i : Int), .func (.func 30) #[] #[.pointer (some ⟨w.heap.size + 5, 0, none⟩), .pointer (some ⟨w.heap.size + 5 + 1, 0, none⟩)], u, u14, u15, u16, u17, u18, u19, u20, u21, u22, u23, u24, u25, .pointer (some ⟨Bx, 0, none⟩), u27, u28, u29, u30, u31, u32, u33], []⟩ wc.drew := by
        rw [hG]
        refine wpAnyIn_ready (rs := [0, 1, 2, 7]) (by kernel_rfl) (by simp) ?_
        refine AllReadyIn.cons rfl (fun K hK => ?_) ?_
        · go_simp
          refine hK _ _ ?_
          exact toG hG (S06) (by kernel_rfl)
        refine AllReadyIn.cons rfl (fun K hK => ?_) ?_
        · go_simp
          refine hK _ _ ?_
          exact toG hG (S16) (by kernel_rfl)
        refine AllReadyIn.cons rfl (fun K hK => ?_) ?_
        · go_simp
          refine hK _ _ ?_
          exact toG hG (S26) (by kernel_rfl)
        refine AllReadyIn.cons rfl (fun K hK => ?_) ?_
        · go_simp
          refine hK _ _ ?_
          exact toG hG (S67) (by kernel_rfl)
        exact AllReadyIn.nil
      have S_ : G 11 #[false, false, false, false, false, false, false, false, false, false, false] ⟨#[.slice (some ⟨b, off, none⟩) l.length cap, .int .i64 (i : Int), .int .i64 t, .pointer (some ⟨w.heap.size, 0, none⟩), .pointer (some ⟨w.heap.size + 1, 0, none⟩), .pointer (some ⟨w.heap.size + 2, 0, none⟩), .int .i64 0, .pointer (some ⟨w.heap.size + 3, 0, none⟩), .pointer (some ⟨w.heap.size + 4, 0, none⟩), .pointer (some ⟨Bx, 0, none⟩), .slice (some ⟨b, off, none⟩) l.length cap, .int .i64 (i : Int), .func (.func 30) #[] #[.pointer (some ⟨w.heap.size + 5, 0, none⟩), .pointer (some ⟨w.heap.size + 5 + 1, 0, none⟩)], u, u14, u15, u16, u17, u18, u19, u20, u21, u22, u23, u24, u25, u26, u27, u28, u29, u30, u31, u32, u33], []⟩ wc.drew := by
        rw [hG]
        refine wpAnyIn_ready (rs := [0, 1, 2, 6]) (by kernel_rfl) (by simp) ?_
        refine AllReadyIn.cons rfl (fun K hK => ?_) ?_
        · go_simp
          refine hK _ _ ?_
          exact toG hG (S0) (by kernel_rfl)
        refine AllReadyIn.cons rfl (fun K hK => ?_) ?_
        · go_simp
          refine hK _ _ ?_
          exact toG hG (S1) (by kernel_rfl)
        refine AllReadyIn.cons rfl (fun K hK => ?_) ?_
        · go_simp
          refine hK _ _ ?_
          exact toG hG (S2) (by kernel_rfl)
        refine AllReadyIn.cons rfl (fun K hK => ?_) ?_
        · go_simp
          refine hK _ _ ?_
          exact toG hG (S6) (by kernel_rfl)
        exact AllReadyIn.nil
      exact S_
  case done =>
    rintro D ys W hD rfl ⟨⟨h1, h2⟩, ⟨h3, h4, h5⟩, h6, h7⟩ hK
    have HF1 := Lib.hid (prodF_rng (l.map (·.1)) t (oth i l.length))
    have HF2 := Lib.hid (prodF_rng (l.map (·.1)) ((l.map (·.1)).getD i 0) (oth i l.length))
    have HWG2 := Lib.hid HWG.out
    generalize prodF (l.map (·.1)) t (oth i l.length) = P1 at *
    generalize prodF (l.map (·.1)) ((l.map (·.1)).getD i 0) (oth i l.length) = P2 at *
    have c3 := h1.cell (i := 0) rfl
    have c4 := h2.cell (i := 0) rfl
    have i1 : I64 P1 := ⟨by have := HF1.out; omega, by have := HF1.out; omega⟩
    have iv : I64 (finv P2) := ⟨by have := finv_rng P2; omega, by have := finv_rng P2; omega⟩
    have i2 : I64 P2 := ⟨by have := HF2.out; omega, by have := HF2.out; omega⟩
    gi_wp2
    refine wpIn_region_any (by kernel_rfl) ?_
    refine anyG (fun G hG => ?_)
    have S01234 : G 0 #[true, true, true, true, true] ⟨#[.slice a l.length cap, .int .i64 (i : Int), .int .i64 t, .pointer (some ⟨w.heap.size, 0, none⟩), .pointer (some ⟨w.heap.size + 1, 0, none⟩), .pointer (some ⟨w.heap.size + 2, 0, none⟩), .int .i64 (P1 * finv P2 % 1073741789), .pointer (some ⟨w.heap.size + 3, 0, none⟩), .pointer (some ⟨w.heap.size + 4, 0, none⟩), undef, .slice a l.length cap, .int .i64 (i : Int), .func (.func 30) #[] #[.pointer (some ⟨w.heap.size + 5, 0, none⟩), .pointer (some ⟨w.heap.size + 5 + 1, 0, none⟩)], undef, undef, undef, undef, undef, undef, undef, undef, undef, undef, undef, undef, undef, undef, undef, undef, undef, .int .i64 P1, .int .i64 P2, .int .i64 (finv P2), .int .i64 (P1 * finv P2 % 1073741789)], [{ target := .collected D, args := #[] }]⟩ W.drew := by
      rw [hG]
      refine wpAnyIn_done (by kernel_rfl) ?_ _
      gi_wp2
      refine ⟨by simp, .inl ⟨_, _, rfl, run_takeDeferred (w := W.drew) hK, ?_⟩⟩
      exact ⟨_, results_tmp (t := 6) rfl _ _ _, ret_i64 HWG2.out, (below_drewN h6 1).trans (belowK_b (w := w) (Nat.le_refl _) W.drew D _ _ (by omega) hK rfl rfl)⟩
    have S0123 : G 1 #[true, true, true, true, false] ⟨#[.slice a l.length cap, .int .i64 (i : Int), .int .i64 t, .pointer (some ⟨w.heap.size, 0, none⟩), .pointer (some ⟨w.heap.size + 1, 0, none⟩), .pointer (some ⟨w.heap.size + 2, 0, none⟩), .int .i64 0, .pointer (some ⟨w.heap.size + 3, 0, none⟩), .pointer (some ⟨w.heap.size + 4, 0, none⟩), undef, .slice a l.length cap, .int .i64 (i : Int), .func (.func 30) #[] #[.pointer (some ⟨w.heap.size + 5, 0, none⟩), .pointer (some ⟨w.heap.size + 5 + 1, 0, none⟩)], undef, undef, undef, undef, undef, undef, undef, undef, undef, undef, undef, undef, undef, undef, undef, undef, undef, .int .i64 P1, .int .i64 P2, .int .i64 (finv P2), .int .i64 (P1 * finv P2 % 1073741789)], [{ target := .collected D, args := #[] }]⟩ W.drew := by
      rw [hG]
      refine wpAnyIn_ready (rs := [4]) (by kernel_rfl) (by simp) ?_
      refine AllReadyIn.cons rfl (fun K hK => ?_) ?_
      · go_simp
        refine hK _ _ ?_
        exact toG hG (S01234) (by kernel_rfl)
      exact AllReadyIn.nil
    have S012 : G 2 #[true, true, true, false, false] ⟨#[.slice a l.length cap, .int .i64 (i : Int), .int .i64 t, .pointer (some ⟨w.heap.size, 0, none⟩), .pointer (some ⟨w.heap.size + 1, 0, none⟩), .pointer (some ⟨w.heap.size + 2, 0, none⟩), .int .i64 0, .pointer (some ⟨w.heap.size + 3, 0, none⟩), .pointer (some ⟨w.heap.size + 4, 0, none⟩), undef, .slice a l.length cap, .int .i64 (i : Int), .func (.func 30) #[] #[.pointer (some ⟨w.heap.size + 5, 0, none⟩), .pointer (some ⟨w.heap.size + 5 + 1, 0, none⟩)], undef, undef, undef, undef, undef, undef, undef, undef, undef, undef, undef, undef, undef, undef, undef, undef, undef, .int .i64 P1, .int .i64 P2, .int .i64 (finv P2), undef], [{ target := .collected D, args := #[] }]⟩ W.drew := by
      rw [hG]
      refine wpAnyIn_ready (rs := [3]) (by kernel_rfl) (by simp) ?_
      refine AllReadyIn.cons rfl (fun K hK => ?_) ?_
      · go_simp
        gi_wp2_with (refine ⟨trivial, ?_⟩; gi_at_call 14; refine (callsIn_wide.2 (mul_call P1 (finv P2) _ i1 iv)).mono ?_; rintro e w4 ⟨rfl, rfl⟩)
        exact toG hG (S0123) (by kernel_rfl)
      exact AllReadyIn.nil
    have S01 : G 3 #[true, true, false, false, false] ⟨#[.slice a l.length cap, .int .i64 (i : Int), .int .i64 t, .pointer (some ⟨w.heap.size, 0, none⟩), .pointer (some ⟨w.heap.size + 1, 0, none⟩), .pointer (some ⟨w.heap.size + 2, 0, none⟩), .int .i64 0, .pointer (some ⟨w.heap.size + 3, 0, none⟩), .pointer (some ⟨w.heap.size + 4, 0, none⟩), undef, .slice a l.length cap, .int .i64 (i : Int), .func (.func 30) #[] #[.pointer (some ⟨w.heap.size + 5, 0, none⟩), .pointer (some ⟨w.heap.size + 5 + 1, 0, none⟩)], undef, undef, undef, undef, undef, undef, undef, undef, undef, undef, undef, undef, undef, undef, undef, undef, undef, .int .i64 P1, .int .i64 P2, undef, undef], [{ target := .collected D, args := #[] }]⟩ W.drew := by
      rw [hG]
      refine wpAnyIn_ready (rs := [2]) (by kernel_rfl) (by simp) ?_
      refine AllReadyIn.cons rfl (fun K hK => ?_) ?_
      · go_simp
        gi_wp2_with (refine ⟨trivial, ?_⟩; gi_at_call 20; refine (callsIn_wide.2 (inverse_call P2 _ i2)).mono ?_; rintro e w4 ⟨rfl, rfl⟩)
        exact toG hG (S012) (by kernel_rfl)
      exact AllReadyIn.nil
    have S12 : G 3 #[false, true, true, false, false] ⟨#[.slice a l.length cap, .int .i64 (i : Int), .int .i64 t, .pointer (some ⟨w.heap.size, 0, none⟩), .pointer (some ⟨w.heap.size + 1, 0, none⟩), .pointer (some ⟨w.heap.size + 2, 0, none⟩), .int .i64 0, .pointer (some ⟨w.heap.size + 3, 0, none⟩), .pointer (some ⟨w.heap.size + 4, 0, none⟩), undef, .slice a l.length cap, .int .i64 (i : Int), .func (.func 30) #[] #[.pointer (some ⟨w.heap.size + 5, 0, none⟩), .pointer (some ⟨w.heap.size + 5 + 1, 0, none⟩)], undef, undef, undef, undef, undef, undef, undef, undef, undef, undef, undef, undef, undef, undef, undef, undef, undef, undef, .int .i64 P2, .int .i64 (finv P2), undef], [{ target := .collected D, args := #[] }]⟩ W.drew := by
      rw [hG]
      refine wpAnyIn_ready (rs := [0]) (by kernel_rfl) (by simp) ?_
      refine AllReadyIn.cons rfl (fun K hK => ?_) ?_
      · go_simp
        refine hK _ _ ?_
        exact toG hG (S012) (by kernel_rfl)
      exact AllReadyIn.nil
    have S0 : G 4 #[true, false, false, false, false] ⟨#[.slice a l.length cap, .int .i64 (i : Int), .int .i64 t, .pointer (some ⟨w.heap.size, 0, none⟩), .pointer (some ⟨w.heap.size + 1, 0, none⟩), .pointer (some ⟨w.heap.size + 2, 0, none⟩), .int .i64 0, .pointer (some ⟨w.heap.size + 3, 0, none⟩), .pointer (some ⟨w.heap.size + 4, 0, none⟩), undef, .slice a l.length cap, .int .i64 (i : Int), .func (.func 30) #[] #[.pointer (some ⟨w.heap.size + 5, 0, none⟩), .pointer (some ⟨w.heap.size + 5 + 1, 0, none⟩)], undef, undef, undef, undef, undef, undef, undef, undef, undef, undef, undef, undef, undef, undef, undef, undef, undef, .int .i64 P1, undef, undef, undef], [{ target := .collected D, args := #[] }]⟩ W.drew := by
      rw [hG]
      refine wpAnyIn_ready (rs := [1]) (by kernel_rfl) (by simp) ?_
      refine AllReadyIn.cons rfl (fun K hK => ?_) ?_
      · go_simp
        refine hK _ _ ?_
        exact toG hG (S01) (by kernel_rfl)
      exact AllReadyIn.nil
    have S1 : G 4 #[false, true, false, false, false] ⟨#[.slice a l.length cap, .int .i64 (i : Int), .int .i64 t, .pointer (some ⟨w.heap.size, 0, none⟩), .pointer (some ⟨w.heap.size + 1, 0, none⟩), .pointer (some ⟨w.heap.size + 2, 0, none⟩), .int .i64 0, .pointer (some ⟨w.heap.size + 3, 0, none⟩), .pointer (some ⟨w.heap.size + 4, 0, none⟩), undef, .slice a l.length cap, .int .i64 (i : Int), .func (.func 30) #[] #[.pointer (some ⟨w.heap.size + 5, 0, none⟩), .pointer (some ⟨w.heap.size + 5 + 1, 0, none⟩)], undef, undef, undef, undef, undef, undef, undef, undef, undef, undef, undef, undef, undef, undef, undef, undef, undef, undef, .int .i64 P2, undef, undef], [{ target := .collected D, args := #[] }]⟩ W.drew := by
      rw [hG]
      refine wpAnyIn_ready (rs := [0, 2]) (by kernel_rfl) (by simp) ?_
      refine AllReadyIn.cons rfl (fun K hK => ?_) ?_
      · go_simp
        refine hK _ _ ?_
        exact toG hG (S01) (by kernel_rfl)
      refine AllReadyIn.cons rfl (fun K hK => ?_) ?_
      · go_simp
        gi_wp2_with (refine ⟨trivial, ?_⟩; gi_at_call 20; refine (callsIn_wide.2 (inverse_call P2 _ i2)).mono ?_; rintro e w4 ⟨rfl, rfl⟩)
        exact toG hG (S12) (by kernel_rfl)
      exact AllReadyIn.nil
    have S_ : G 5 #[false, false, false, false, false] ⟨#[.slice a l.length cap, .int .i64 (i : Int), .int .i64 t, .pointer (some ⟨w.heap.size, 0, none⟩), .pointer (some ⟨w.heap.size + 1, 0, none⟩), .pointer (some ⟨w.heap.size + 2, 0, none⟩), .int .i64 0, .pointer (some ⟨w.heap.size + 3, 0, none⟩), .pointer (some ⟨w.heap.size + 4, 0, none⟩), undef, .slice a l.length cap, .int .i64 (i : Int), .func (.func 30) #[] #[.pointer (some ⟨w.heap.size + 5, 0, none⟩), .pointer (some ⟨w.heap.size + 5 + 1, 0, none⟩)], undef, undef, undef, undef, undef, undef, undef, undef, undef, undef, undef, undef, undef, undef, undef, undef, undef, undef, undef, undef, undef], [{ target := .collected D, args := #[] }]⟩ W.drew := by
      rw [hG]
      refine wpAnyIn_ready (rs := [0, 1]) (by kernel_rfl) (by simp) ?_
      refine AllReadyIn.cons rfl (fun K hK => ?_) ?_
      · go_simp
        refine hK _ _ ?_
        exact toG hG (S0) (by kernel_rfl)
      refine AllReadyIn.cons rfl (fun K hK => ?_) ?_
      · go_simp
        refine hK _ _ ?_
        exact toG hG (S1) (by kernel_rfl)
      exact AllReadyIn.nil
    exact S_
end Go.Proofs.Ytbigkcemcdokaaa
