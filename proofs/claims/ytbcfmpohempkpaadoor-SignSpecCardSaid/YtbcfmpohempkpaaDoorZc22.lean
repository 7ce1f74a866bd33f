/- Hashes as exponents: the program's function. -/
import Derived.Deep.DeepCutAuto
import Derived.Test.YtbcfmpohempkpaaDoorZc4
import Derived.Test.YtbcfmpohempkpaaDoorZc15
import Derived.Test.YtbcfmpohempkpaaDoorZc21
namespace Go.Proofs.YtbcfmpohempkpaaDoor.Dig
open Go.RowKit

/-- a byte of a digest, the first one without its highest bit -/
def dm (d : List UInt8) (k : Nat) : Nat := if k = 0 then (d.getD 0 0).toNat % 128 else (d.getD k 0).toNat
/-- the number that k bytes form, modulo Q -/
def hsh (d : List UInt8) : Nat → Int
  | 0 => 0
  | k + 1 => (hsh d k * 256 + (dm d k : Int)) % 1073741789
theorem dm_lt (d : List UInt8) (k : Nat) : dm d k < 256 := by
  unfold dm
  split
  · omega
  · exact UInt8.toNat_lt _
theorem hsh_rng (d : List UInt8) : ∀ k, 0 ≤ hsh d k ∧ hsh d k < 1073741789
  | 0 => by simp [hsh]
  | k + 1 => modq_rng _
theorem and_127 (x : Nat) (h : x < 256) : bits .and .u8 (x : Int) 127 = ((x % 128 : Nat) : Int) := by
  have hall : ((List.range 256).all fun x => decide (bits .and .u8 (x : Int) 127 = ((x % 128 : Nat) : Int))) = true := by kernel_rfl
  have := List.all_eq_true.1 hall x (List.mem_range.2 h)
  simpa using this
theorem row_at0 {w : World} {g : Nat} {d : List UInt8} (h : Row w g 59 (cellsOf d)) (hd : d.length = 32) (k : Nat) (hk : k < 32) : w.cell? ⟨g, k, none⟩ = some (.int .u8 ((d.getD k 0).toNat : Int)) := by
  have := row_cells h hd k hk
  rwa [Nat.zero_add] at this
/-- the digest, its first byte without the highest bit -/
def cut0 (d : List UInt8) : List Value := (cellsOf d).set 0 (.int .u8 (((d.getD 0 0).toNat % 128 : Nat) : Int))
theorem cut0_at (d : List UInt8) (hd : d.length = 32) (k : Nat) (hk : k < 32) : (cut0 d)[k]? = some (.int .u8 (dm d k : Int)) := by
  unfold cut0 dm
  rw [List.getElem?_set]
  by_cases h : k = 0
  · subst h
    simp [cellsOf_len, hd]
  · rw [if_neg (by omega), if_neg h, cellsOf_get (show k < d.length by omega)]
    simp [show k < d.length by omega]
def HHead (d : List UInt8) (W0 : World) (s4 s14 : Value) (wr : World) : Prop := ∃ k : Nat, k ≤ 8 ∧ s4 = .int .i64 (hsh d k) ∧ s14 = .int .i64 (k : Int) ∧ Below W0.heap.size W0 wr
set_option maxHeartbeats 1000000 in
set_option maxRecDepth 100000 in
theorem Hash_call (tag : ByteArray) (l : List UInt8) (v : Value) (w : World) (ht : tag.size ≤ 549755813888) (hl : l.length ≤ 549755813888) (hr : Rest w.heap.size w l v) (hT : Tab w) :
    Calls Tryd.prog 16 #[.string tag, v] w fun e w' => e = .returned (.int .i64 (hsh (tagged tag.data.toList l) 8)) ∧ Below w.heap.size w w' := by
  have HC := Lib.hid (tagged_call tag l v w ht hl hr hT)
  obtain ⟨d, hd⟩ : ∃ d, d = tagged tag.data.toList l := ⟨_, rfl⟩
  have HLD : Hid (d.length = 32) := Lib.hid (by rw [hd]; exact tagged_len _ _)
  rw [← hd] at HC ⊢
  obtain ⟨n0, hn0⟩ : ∃ n0, n0 = (d.getD 0 0).toNat := ⟨_, rfl⟩
  have HN0 := Lib.hid hn0
  obtain ⟨z, h127, hz⟩ : ∃ z : Int, bits .and .u8 (n0 : Int) 127 = z ∧ Hid ((cellsOf d).set 0 (.int .u8 z) = cut0 d) := ⟨_, and_127 n0 (by rw [hn0]; exact UInt8.toNat_lt _), by rw [hn0]; rfl⟩
  clear hn0
  clear hr hT hd ht hl
  go_enter Tryd.func16, Tryd.ntmps16
  go_wp2_with fail
  refine HC.out.mono ?_
  rintro e w1 ⟨rfl, hb1⟩
  have HB1 := Lib.hid hb1
  clear hb1 HC
  go_wp2_with (first
    | (refine wpList_alloc_dig rfl 5 rfl rfl ?_; intro g5 w4 hg hrow hb; have H5 := Lib.hid hrow; have hg5 : w.heap.size ≤ g5 := (by have := HB1.out.size; omega); have HB2 := Lib.hid (below_next HB1.out hb); clear hg hrow hb)
    | (refine wpList_store_dig rfl (.tmp 5) (.tmp 9) rfl g5 d HLD.out rfl rfl H5.out HB2.out hg5 ?_; intro w5 hrow hb hoth; have H5 := Lib.hid hrow; have HB3 := Lib.hid hb; have c0 : w5.cell? ⟨g5, 0, none⟩ = some (.int .u8 (n0 : Int)) := (by rw [HN0.out]; exact row_at0 hrow HLD.out 0 (by omega)); have f0 := hrow.free 0; clear hrow hb hoth)
    | fail)
  have H6 := Lib.hid (H5.out.set (cs' := cut0 d) 0 (.int .u8 z) hz.out)
  have HB6 : Hid (Below w.heap.size w (w5.setCell ⟨g5, 0, none⟩ (.int .u8 z))) := Lib.hid (below_setCell HB3.out _ 0 _ hg5)
  obtain ⟨W0, hW0⟩ : ∃ W0, W0 = w5.setCell ⟨g5, 0, none⟩ (.int .u8 z) := ⟨_, rfl⟩
  rw [← hW0] at H6 HB6 ⊢
  clear hW0 c0 f0 h127
  go_loopw [4, 14] (fun s4 s14 wr => HHead d W0 s4 s14 wr) (fun _ s14 _ => 8 - (intOf s14).toNat)
  case atStart => exact ⟨0, by omega, rfl, rfl, Below.refl _ _⟩
  case round =>
    obtain ⟨k, hk, rfl, rfl, hb⟩ := hrel
    rcases Nat.lt_or_ge k 8 with hlt | hge
    · have hki : (k : Int) < 8 := by omega
      have HR := Lib.hid (hsh_rng d k)
      have HS : Hid (hsh d (k + 1) = (hsh d k * 256 + (dm d k : Int)) % 1073741789) := Lib.hid rfl
      have HL := Lib.hid (dm_lt d k)
      have cB := fun W (hW : Below wr.heap.size wr W) => ((H6.out.keep hb).keep hW).cell (cut0_at d HLD.out k (by omega))
      have ck := cB wr (Below.refl _ _)
      have HB := Lib.hid hb
      obtain ⟨y, hy⟩ : ∃ y, y = hsh d k := ⟨_, rfl⟩
      obtain ⟨x, hx⟩ : ∃ x : Int, x = (dm d k : Int) := ⟨_, rfl⟩
      rw [← hy] at HR HS ⊢
      rw [← hx] at HS ck
      have hx0 : 0 ≤ x := by omega
      have hx1 : x < 256 := by have := HL.out; omega
      have hy0 : 0 ≤ y := HR.out.1
      have hy1 : y < 1073741789 := HR.out.2
      clear cB hb hx hy hk
      go_wp2_with fail
      have HB9 := Lib.hid (Joins.below_alloc1 wr (.cells #[.int .i64 (y * 256), .int .i64 x] 3))
      refine (exponent_two (y * 256) x wr.heap.size _ ⟨by omega, by omega⟩ ⟨by omega, by omega⟩ (by simp) (by simp)).mono ?_
      rintro e w9 ⟨rfl, rfl⟩
      go_wp2_with fail
      exact ⟨⟨k + 1, by omega, by rw [HS.out], by go_num, below_next HB.out HB9.out⟩, by simp [intOf]; omega⟩
    · obtain rfl : k = 8 := by omega
      go_wp2_with fail
      go_ret
      exact ⟨rfl, below_next HB6.out hb⟩
end Go.Proofs.YtbcfmpohempkpaaDoor.Dig

/- Powers, by squares that an iterator yields; powers of the specification. -/
namespace Go.Proofs.YtbcfmpohempkpaaDoor
open Go.RowKit Go.Shelf
attribute [local go_sem] Oper.semAt_some

/-- the power, modulo P -/
def fpw (x : Int) (n : Nat) : Int := x ^ n % 2147483579
theorem fpw_rng (x : Int) (n : Nat) : Rp (fpw x n) := rp_mod _
theorem fpw_step (y x : Int) (n : Nat) : Cp (y * x ^ n) ((if n % 2 = 1 then y * x % 2147483579 else y) * (x * x % 2147483579) ^ (n / 2)) := by
  have h1 : x ^ n = (x * x) ^ (n / 2) * x ^ (n % 2) := by
    rw [show x * x = x ^ 2 by rw [Int.pow_succ, Int.pow_succ, Int.pow_zero, Int.one_mul], ← Int.pow_mul, ← Int.pow_add, Nat.div_add_mod]
  have h2 : Cp ((x * x) ^ (n / 2)) ((x * x % 2147483579) ^ (n / 2)) := ((cp_mod (x * x)).symm).pow _
  rw [h1]
  split
  · rename_i h
    rw [h, Int.pow_one, show y * ((x * x) ^ (n / 2) * x) = y * x * (x * x) ^ (n / 2) by grind]
    exact ((cp_mod (y * x)).symm).mul h2
  · rename_i h
    rw [show n % 2 = 0 by omega, Int.pow_zero, Int.mul_one]
    exact (Cp.refl y).mul h2
/-- a round: the power on its way, and what is left of the exponent -/
def stS (x : Int) (s : Int × Nat) (k : Nat) : Int × Nat := (if s.2 % 2 = 1 then s.1 * sqr x k % 2147483579 else s.1, s.2 / 2)
def stF (x : Int) (n : Nat) (pre : List Nat) : Int × Nat := pre.foldl (stS x) (1, n)
theorem stF_snoc (x : Int) (n : Nat) (pre : List Nat) (k : Nat) : stF x n (pre ++ [k]) = stS x (stF x n pre) k := by simp [stF]
theorem stS_rng (x : Int) (s : Int × Nat) (k : Nat) (h : Rp s.1) : Rp (stS x s k).1 ∧ (stS x s k).2 ≤ s.2 := by
  refine ⟨?_, by show s.2 / 2 ≤ s.2; omega⟩
  unfold stS
  by_cases h2 : s.2 % 2 = 1
  · rw [if_pos h2]; exact rp_mod _
  · rw [if_neg h2]; exact h
theorem foldS_rng (x : Int) : ∀ (pre : List Nat) (s : Int × Nat), Rp s.1 → Rp (pre.foldl (stS x) s).1 ∧ (pre.foldl (stS x) s).2 ≤ s.2
  | [], s, h => ⟨h, Nat.le_refl _⟩
  | k :: pre, s, h => by
    obtain ⟨h1, h2⟩ := stS_rng x s k h
    obtain ⟨h3, h4⟩ := foldS_rng x pre _ h1
    exact ⟨h3, Nat.le_trans h4 h2⟩
theorem stF_rng (x : Int) (n : Nat) (pre : List Nat) : Rp (stF x n pre).1 ∧ (stF x n pre).2 ≤ n :=
  foldS_rng x pre (1, n) ⟨by show (0 : Int) ≤ 1; omega, by show (1 : Int) < 2147483579; omega⟩
theorem stF_range (x : Int) (n : Nat) : ∀ k, Cp ((stF x n (List.range k)).1 * sqr x k ^ (stF x n (List.range k)).2) (x ^ n) ∧ (stF x n (List.range k)).2 = n / 2 ^ k
  | 0 => by
    refine ⟨?_, by simp [stF]⟩
    show Cp (1 * x ^ n) (x ^ n)
    rw [Int.one_mul]; exact Cp.refl _
  | k + 1 => by
    obtain ⟨h1, h2⟩ := stF_range x n k
    rw [List.range_succ, stF_snoc]
    refine ⟨?_, ?_⟩
    · refine Cp.trans ?_ h1
      exact (fpw_step _ _ _).symm
    · show (stF x n (List.range k)).2 / 2 = _
      rw [h2, Nat.pow_succ, Nat.div_div_eq_div_mul]
theorem stF_all (x : Int) (n : Nat) (hn : n < 1073741824) : (stF x n (List.range 30)).1 = fpw x n ∧ (stF x n (List.range 30)).2 = 0 := by
  obtain ⟨h1, h2⟩ := stF_range x n 30
  have h3 : (stF x n (List.range 30)).2 = 0 := by rw [h2]; omega
  refine ⟨?_, h3⟩
  rw [h3, Int.pow_zero, Int.mul_one] at h1
  have h4 := h1.eq
  obtain ⟨h5, h6⟩ := (stF_rng x n (List.range 30)).1
  unfold fpw
  omega
set_option maxRecDepth 100000 in
set_option maxHeartbeats 4000000 in
theorem power_call (x : Int) (n : Nat) (w : World) (hx : Rp x) (hn : n < 1073741824) :
    Calls Tryd.prog 34 #[.int .i64 x, .int .i64 (n : Int)] w fun e w' => e = .returned (.int .i64 (fpw x n)) ∧ Below w.heap.size w w' := by
  have HX := Lib.hid hx
  have HN := Lib.hid hn
  have HVA := Lib.hid (stF_all x n hn)
  clear hx hn
  obtain ⟨W0, hW0⟩ : ∃ W0, W0 = (w.alloc (.cells #[.int .i64 (n : Int)] 3)).alloc (.cells #[.int .i64 1] 3) := ⟨_, rfl⟩
  have hB0 : Below w.heap.size w W0 := by rw [hW0]; exact below_next (Joins.below_alloc1 w _) (Joins.below_alloc1 _ _)
  have hs0 : W0.heap.size = w.heap.size + 2 := by rw [hW0]; simp
  have hr0 : Row W0 w.heap.size 3 [.int .i64 (n : Int)] := by rw [hW0]; exact (row_new w 3 _).keep (Joins.below_alloc1 _ _)
  have hr1 : Row W0 (w.heap.size + 1) 3 [.int .i64 1] := by
    have := row_new (w.alloc (.cells #[.int .i64 (n : Int)] 3)) 3 [.int .i64 1]
    rw [hW0]; rwa [World.size_alloc] at this
  refine (callsIn_wide (n := 6)).1 ?_
  refine callsIn_of_wp_marks Tryd.func34 rfl trivial ?_ rfl
  simp only [Tryd.ntmps34, List.size_toArray, List.length_cons, List.length_nil, Nat.reduceAdd, Nat.reduceSub, Array.replicate_succ, Array.replicate_zero, List.push_toArray, List.append_toArray, List.nil_append, List.cons_append]
  gi_wp2
  refine ⟨trivial, ?_⟩
  rw [← hW0]
  clear hW0
  refine (squares_in 5 x W0).mono ?_
  rintro e w1 ⟨rfl, rfl⟩
  have hb03 : Below W0.heap.size W0 (W0.alloc (.cells #[.int .i64 x] 3)) := Joins.below_alloc1 W0 _
  have hc3 : Row (W0.alloc (.cells #[.int .i64 x] 3)) W0.heap.size 3 [.int .i64 x] := row_new W0 3 _
  have hs3 : (W0.alloc (.cells #[.int .i64 x] 3)).heap.size = W0.heap.size + 1 := by simp
  generalize W0.alloc (.cells #[.int .i64 x] 3) = W3 at *
  rw [hs0] at hc3 hs3
  have HR0 := hr0.keep hb03
  have HR1 := hr1.keep hb03
  have HB3 : Below w.heap.size w W3 := below_next hB0 hb03
  clear hr0 hr1 hB0
  gi_wp2
  clear hs0 hb03
  refine range_told (F := Fence.wide) (n := 6) rfl (by omega) (gf := 62) (lb := #[.pointer (some ⟨w.heap.size + 2, 0, none⟩)]) rfl trivial (enters_of Tryd.func62 (by kernel_rfl) rfl)
    (encs := encS x) (T := fun _ _ => True) (fun x => ownFrom_pure _ _) (B := fun b => b < w.heap.size + 3 ∧ b ≠ w.heap.size ∧ b ≠ w.heap.size + 1) (fun b hb => by omega) (S := fun ys => ys = List.range 30) (N := 30)
    (fun W hW => squares_tells 5 (by omega) (w.heap.size + 2) _ x HX.out W ⟨by omega, by omega, by omega⟩ (fun b hb => by have := hW.size; omega) ((hW.cell (p := ⟨w.heap.size + 2, 0, none⟩) (show w.heap.size + 2 < W3.heap.size by omega)).trans (hc3.cell (i := 0) rfl))) (fun _ => rfl)
    (fun pre W => Row W (w.heap.size + 1) 3 [.int .i64 (stF x n pre).1] ∧ Row W w.heap.size 3 [.int .i64 ((stF x n pre).2 : Int)] ∧ Below w.heap.size w W)
    ?own ⟨HR1, HR0, HB3⟩
    (fun k => { tmps := #[.int .i64 x, .int .i64 (n : Int), undef, .pointer (some ⟨w.heap.size, 0, none⟩), .int .i64 0, .pointer (some ⟨w.heap.size + 1, 0, none⟩), .int .i64 (sqr x k), .int .i64 x, .func (.func 62) #[] #[.pointer (some ⟨w.heap.size + 2, 0, none⟩)], .int .i64 (sqr x k), undef, undef, undef, undef, undef, undef, undef, undef, undef], defers := [] }) ?assign ?body ?done
  case own =>
    intro pre A B row hs hg hr
    obtain ⟨h2, h3, h4⟩ := hs
    have hnc : ∀ r, row = some r → ∃ o : Obj, A.heap[r]? = some o ∧ o.isCells = false := fun r e => (hr r e).2
    exact ⟨row_kept h2 hg hnc, row_kept h3 hg hnc, ownFrom_below (Nat.le_refl _) (by omega) pre A B row h4 hg hr⟩
  case assign =>
    intro l k W K hK
    unfold encS
    gi_wp2
    exact hK
  case body =>
    rintro l pre k W ⟨hy, ht0, hB⟩ - hlen
    have HSR := Lib.hid (stF_rng x n pre)
    have HSQ := Lib.hid (sqr_rng HX.out k)
    have HVS := Lib.hid (stF_snoc x n pre k)
    have c1 := hy.cell (i := 0) rfl
    have c0 := ht0.cell (i := 0) rfl
    have HW := Lib.hid hB.size
    generalize stF x n pre = st at *
    obtain ⟨y, m⟩ := st
    obtain ⟨sq, hsq⟩ : ∃ sq, sq = sqr x k := ⟨_, rfl⟩
    rw [← hsq] at HSQ ⊢
    have HSE := Lib.hid hsq.symm
    clear hsq
    obtain ⟨M, hM⟩ : ∃ M : Int, M = (m : Int) := ⟨_, rfl⟩
    have HM := Lib.hid hM
    replace c0 : W.cell? ⟨w.heap.size, 0, none⟩ = some (.int .i64 M) := by rw [hM]; exact c0
    replace ht0 : Row W w.heap.size 3 [.int .i64 M] := by rw [hM]; exact ht0
    replace c1 : W.cell? ⟨w.heap.size + 1, 0, none⟩ = some (.int .i64 y) := c1
    replace hy : Row W (w.heap.size + 1) 3 [.int .i64 y] := hy
    have hm0 : 0 ≤ M := by omega
    have hm1 : M ≤ 1073741823 := by have := HSR.out.2; have := HN.out; simp only at *; omega
    have hand : bits .and .i64 M 1 = ((m % 2 : Nat) : Int) := by rw [hM]; exact Go.Proofs.and_one m (by omega)
    clear hM
    by_cases h2 : m % 2 = 1
    · rw [h2] at hand
      replace HVS : Hid (stF x n (pre ++ [k]) = (y * sq % 2147483579, m / 2)) := Lib.hid (by rw [HVS.out]; unfold stS; rw [if_pos h2, HSE.out])
      have f0 := ht0.free 0
      gi_wp2
      refine ⟨trivial, ?_⟩
      refine (CallsIn.inRound l (callsIn_wide.2 (product_call y sq W HSR.out.1 HSQ.out))).mono ?_
      rintro e w4 ⟨rfl, rfl⟩
      have f1 := hy.free 0
      gi_wp2
      have HHALF : Hid (M / 2 = ((m / 2 : Nat) : Int)) := Lib.hid (by have := HM.out; omega)
      refine ⟨((KeepsOthers.setCell _ _ _).trans (KeepsOthers.setCell _ _ _)).from _, ⟨by simp, (KeepS.setCell _ _ _ _ (fun h => h.2.2 rfl)).trans (by simp) (KeepS.setCell _ _ _ _ (fun h => h.2.1 rfl))⟩, ?_, ?_, below_setCell (below_setCell hB _ 0 _ (by omega)) _ 0 _ (by omega)⟩
      · rw [HVS.out]; exact ((hy.set (cs' := [.int .i64 (y * sq % 2147483579)]) 0 _ rfl).setFar 0 _ (by omega))
      · rw [HVS.out]; exact ((ht0.setFar 0 _ (by omega)).set (cs' := [.int .i64 ((m / 2 : Nat) : Int)]) 0 _ (by rw [HHALF.out]; rfl))
    · have h2' : m % 2 = 0 := by omega
      rw [h2'] at hand
      replace HVS : Hid (stF x n (pre ++ [k]) = (y, m / 2)) := Lib.hid (by rw [HVS.out]; unfold stS; rw [if_neg h2])
      have f0 := ht0.free 0
      gi_wp2
      have HHALF : Hid (M / 2 = ((m / 2 : Nat) : Int)) := Lib.hid (by have := HM.out; omega)
      refine ⟨(KeepsOthers.setCell _ _ _).from _, ⟨by simp, (KeepS.setCell _ _ _ _ (fun h => h.2.1 rfl))⟩, ?_, ?_, below_setCell hB _ 0 _ (by omega)⟩
      · rw [HVS.out]; exact hy.setFar 0 _ (by omega)
      · rw [HVS.out]; exact ht0.set (cs' := [.int .i64 ((m / 2 : Nat) : Int)]) 0 _ (by rw [HHALF.out]; rfl)
  case done =>
    rintro D ys W hD rfl ⟨hy, ht0, hB⟩ hK
    rw [HVA.out.1] at hy
    have c1 := hy.cell (i := 0) rfl
    have f1 := hy.free 0
    obtain ⟨y, hyy⟩ : ∃ y, y = fpw x n := ⟨_, rfl⟩
    rw [← hyy] at c1 hy
    have HYY := Lib.hid hyy
    clear hyy
    gi_wp2
    have hK' := hK
    refine ⟨by simp, .inl ⟨_, _, rfl, run_takeDeferred hK', ?_⟩⟩
    exact ⟨.int .i64 y, by simp [results, Tryd.results34, go_sem], ret_i64 HYY.out, hB.trans (belowK_b (w := w) (Nat.le_refl _) W D _ _ (by omega) hK' rfl rfl)⟩
end Go.Proofs.YtbcfmpohempkpaaDoor

/- Elements and their powers: plain mathematics. -/
namespace Go.Proofs.YtbcfmpohempkpaaDoor
open Go

theorem cp_ne (h : Cp (-1) 1) : False := by obtain ⟨c, hc⟩ := h; omega
theorem cp_ne0 (h : Cp 0 1) : False := by obtain ⟨c, hc⟩ := h; omega
theorem cp_nat (x : Int) (h0 : 0 ≤ x) : ((x.toNat : Nat) : Int) = x := by omega
theorem euler_valid {x : Int} (h1 : 1 ≤ x) (h2 : x < 2147483579) {h : Nat} (hh : h = 1073741789) : Cp (x ^ h) (sgI (!valid x)) := by
  have hc := p_coprime (x := x.toNat) (by omega) (by omega)
  have he := euler_cp hh hc
  rw [cp_nat x (by omega)] at he
  have hv : valid x = !J x.toNat 2147483579 := by unfold valid; rw [decide_eq_true h1, decide_eq_true h2, Bool.true_and, Bool.true_and]
  rw [hv, Bool.not_not]
  exact he
theorem valid_rng {x : Int} (h : valid x = true) : 1 ≤ x ∧ x < 2147483579 := by
  unfold valid at h
  rw [Bool.and_eq_true, Bool.and_eq_true, decide_eq_true_eq, decide_eq_true_eq] at h
  exact ⟨h.1, h.2.1⟩
theorem valid_rp {x : Int} (h : valid x = true) : Rp x := ⟨by have := (valid_rng h).1; omega, (valid_rng h).2⟩
theorem valid_cp {x : Int} (hv : valid x = true) {h : Nat} (hh : h = 1073741789) : Cp (x ^ h) 1 := by
  have := euler_valid (valid_rng hv).1 (valid_rng hv).2 hh
  rw [hv] at this
  exact this
theorem valid_of {x : Int} (h1 : 1 ≤ x) (h2 : x < 2147483579) (hx : ∀ h : Nat, h = 1073741789 → Cp (x ^ h) 1) : valid x = true := by
  have he := euler_valid h1 h2 rfl
  have h3 := hx _ rfl
  cases hv : valid x
  · rw [hv] at he
    exact (cp_ne (he.symm.trans h3)).elim
  · rfl
theorem valid_out {x : Int} (h : ¬ (1 ≤ x ∧ x < 2147483579)) : valid x = false := by
  cases hv : valid x
  · rfl
  · exact absurd (valid_rng hv) h
theorem zero_pow' : ∀ h : Nat, 0 < h → (0 : Int) ^ h = 0
  | 0, h => by omega
  | h + 1, _ => by rw [Int.pow_succ, Int.mul_zero]
theorem one_pow' : ∀ h : Nat, (1 : Int) ^ h = 1
  | 0 => rfl
  | h + 1 => by rw [Int.pow_succ, one_pow' h]; rfl
theorem mul_pow' (a b : Int) : ∀ n : Nat, (a * b) ^ n = a ^ n * b ^ n
  | 0 => by rw [Int.pow_zero, Int.pow_zero, Int.pow_zero]; rfl
  | n + 1 => by rw [Int.pow_succ, Int.pow_succ, Int.pow_succ, mul_pow' a b n]; grind
/-- a number whose power to Q is 1 stands for an element -/
theorem valid_mod {x : Int} (hx : ∀ h : Nat, h = 1073741789 → Cp (x ^ h) 1) : valid (x % 2147483579) = true := by
  have hr := rp_mod x
  have key : ∀ h : Nat, h = 1073741789 → Cp ((x % 2147483579) ^ h) 1 := fun h hh => ((cp_mod x).pow h).trans (hx h hh)
  refine valid_of ?_ hr.2 key
  rcases Int.lt_or_le (x % 2147483579) 1 with h | h
  · exfalso
    have h0 : x % 2147483579 = 0 := by have := hr.1; omega
    obtain ⟨n, hn⟩ : ∃ n : Nat, n = 1073741789 := ⟨_, rfl⟩
    have h1 := key n hn
    rw [h0, zero_pow' n (by omega)] at h1
    exact cp_ne0 h1
  · exact h
theorem valid_mul {a b : Int} (ha : valid a = true) (hb : valid b = true) : valid (a * b % 2147483579) = true :=
  valid_mod fun h hh => by
    rw [mul_pow']
    have := (valid_cp ha hh).mul (valid_cp hb hh)
    rwa [Int.one_mul] at this
theorem valid_fpw {a : Int} (ha : valid a = true) (n : Nat) : valid (fpw a n) = true :=
  valid_mod fun h hh => by
    rw [← Int.pow_mul, Nat.mul_comm, Int.pow_mul]
    have := (valid_cp ha hh).pow n
    rwa [one_pow'] at this
theorem valid_square {n : Int} (h1 : 1 ≤ n) (h2 : n < 2147483579) : valid (n * n % 2147483579) = true :=
  valid_mod fun h hh => by
    rw [mul_pow']
    have := (euler_valid h1 h2 hh).mul (euler_valid h1 h2 hh)
    rwa [show ∀ b : Bool, sgI b * sgI b = 1 from fun b => by cases b <;> rfl] at this
theorem neg_pow_odd (x : Int) : ∀ k : Nat, (-x) ^ (2 * k + 1) = -(x ^ (2 * k + 1))
  | 0 => by rw [Int.pow_succ, Int.pow_succ, Int.pow_zero, Int.pow_zero]; omega
  | k + 1 => by
    rw [show 2 * (k + 1) + 1 = 2 * k + 1 + 1 + 1 by omega, Int.pow_succ, Int.pow_succ, Int.pow_succ x, Int.pow_succ x, neg_pow_odd x k]
    grind
theorem valid_neg {n : Int} (h1 : 1 ≤ n) (h2 : n < 2147483579) : valid (2147483579 - n) = !valid n := by
  obtain ⟨h, hh⟩ : ∃ h : Nat, h = 1073741789 := ⟨_, rfl⟩
  obtain ⟨k, hk⟩ : ∃ k, h = 2 * k + 1 := ⟨h / 2, by omega⟩
  have e1 := euler_valid h1 h2 hh
  have e2 := euler_valid (x := 2147483579 - n) (by omega) (by omega) hh
  have e3 : Cp ((2147483579 - n) ^ h) ((-n) ^ h) := Cp.pow ⟨1, by omega⟩ h
  have e4 : (-n) ^ h = -(n ^ h) := by rw [hk]; exact neg_pow_odd n k
  rw [e4] at e3
  have e5 : Cp (-(n ^ h)) (-(sgI (!valid n))) := by
    have := (Cp.refl 0).sub e1
    rwa [Int.zero_sub, Int.zero_sub] at this
  have e6 := e2.symm.trans (e3.trans e5)
  cases hv : valid n <;> cases hw : valid (2147483579 - n)
  · rw [hv, hw] at e6; exact (cp_ne e6).elim
  · rfl
  · rfl
  · rw [hv, hw] at e6; exact (cp_ne e6.symm).elim

/-! ### powers -/
/-- the power of a to n, counted modulo Q -/
def powQ (a n : Int) : Int := fpw a (n % 1073741789).toNat
theorem powQ_rng (a n : Int) : Rp (powQ a n) := fpw_rng _ _
theorem powQ_valid {a : Int} (ha : valid a = true) (n : Int) : valid (powQ a n) = true := valid_fpw ha _
theorem rp_eq {x y : Int} (hx : Rp x) (hy : Rp y) (h : Cp x y) : x = y := by
  have := h.eq
  have := hx.1; have := hx.2; have := hy.1; have := hy.2
  omega
theorem fpw_cp (a : Int) (n : Nat) : Cp (fpw a n) (a ^ n) := cp_mod _
theorem pow_red {a : Int} (ha : valid a = true) (m : Nat) : Cp (a ^ m) (a ^ (m % 1073741789)) := by
  obtain ⟨h, hh⟩ : ∃ h : Nat, h = 1073741789 := ⟨_, rfl⟩
  rw [← hh]
  have h1 := (valid_cp ha hh).pow (m / h)
  rw [one_pow', ← Int.pow_mul] at h1
  have h2 := h1.mul (Cp.refl (a ^ (m % h)))
  rw [← Int.pow_add, Nat.div_add_mod, Int.one_mul] at h2
  exact h2
theorem toNat_mod (n : Int) : (((n % 1073741789).toNat : Nat) : Int) = n % 1073741789 := by
  have := Int.emod_nonneg n (show (1073741789 : Int) ≠ 0 by omega); omega
theorem powQ_add {a : Int} (ha : valid a = true) (i k : Int) : powQ a i * powQ a k % 2147483579 = powQ a (i + k) := by
  refine rp_eq (rp_mod _) (powQ_rng _ _) ?_
  refine (cp_mod _).trans (((fpw_cp a _).mul (fpw_cp a _)).trans ?_)
  rw [← Int.pow_add]
  refine (pow_red ha _).trans ?_
  rw [show ((i % 1073741789).toNat + (k % 1073741789).toNat) % 1073741789 = ((i + k) % 1073741789).toNat by
    have := toNat_mod i; have := toNat_mod k; have := toNat_mod (i + k); omega]
  exact (fpw_cp a _).symm
theorem powQ_mul {a : Int} (ha : valid a = true) (i k : Int) : powQ (powQ a i) k = powQ a (i * k) := by
  refine rp_eq (powQ_rng _ _) (powQ_rng _ _) ?_
  refine (fpw_cp _ _).trans (((fpw_cp a _).pow _).trans ?_)
  rw [← Int.pow_mul]
  refine (pow_red ha _).trans ?_
  have h1 := toNat_mod i
  have h2 := toNat_mod k
  have e : i * k % 1073741789 = (((i % 1073741789).toNat * (k % 1073741789).toNat : Nat) : Int) % 1073741789 := by
    rw [Int.mul_emod, ← h1, ← h2, ← Int.natCast_mul]; rfl
  have e2 : ((i % 1073741789).toNat * (k % 1073741789).toNat) % 1073741789 = (i * k % 1073741789).toNat := by
    rw [e]
    generalize (i % 1073741789).toNat * (k % 1073741789).toNat = m
    omega
  rw [e2]
  exact (fpw_cp a _).symm
theorem powQ_prod (a b i : Int) : powQ (a * b % 2147483579) i = powQ a i * powQ b i % 2147483579 := by
  refine rp_eq (powQ_rng _ _) (rp_mod _) ?_
  refine (fpw_cp _ _).trans (((cp_mod (a * b)).pow _).trans ?_)
  rw [mul_pow']
  exact (((fpw_cp a _).mul (fpw_cp b _)).symm).trans (cp_mod _).symm
theorem powQ_mod {a i k : Int} (h : i % 1073741789 = k % 1073741789) : powQ a i = powQ a k := by
  unfold powQ; rw [h]
theorem powQ_zero (a : Int) : powQ a 0 = 1 := by
  unfold powQ fpw
  rw [show ((0 : Int) % 1073741789).toNat = 0 from rfl, Int.pow_zero]; rfl
theorem powQ_one {a : Int} (ha : valid a = true) : powQ a 1 = a := by
  refine rp_eq (powQ_rng _ _) (valid_rp ha) ?_
  refine (fpw_cp a _).trans ?_
  show Cp (a ^ 1) a
  rw [Int.pow_succ, Int.pow_zero, Int.one_mul]; exact Cp.refl _
theorem mul_one_mod {a : Int} (ha : Rp a) : a * 1 % 2147483579 = a := by rw [Int.mul_one]; have := ha.1; have := ha.2; omega
theorem powQ_inv {a : Int} (ha : valid a = true) : a * powQ a (-1) % 2147483579 = 1 := by
  have h := powQ_add ha 1 (-1)
  rw [powQ_one ha] at h
  exact h.trans (powQ_zero a)
theorem mul_comm_mod (a b : Int) : a * b % 2147483579 = b * a % 2147483579 := by rw [Int.mul_comm]
theorem mul_assoc_mod (a b c : Int) : a * b % 2147483579 * c % 2147483579 = a * (b * c % 2147483579) % 2147483579 := by
  refine Cp.eq ?_
  refine ((cp_mod (a * b)).mul (Cp.refl c)).trans ?_
  rw [Int.mul_assoc]
  exact (Cp.refl a).mul (cp_mod (b * c)).symm
theorem mul_back {a b : Int} (ha : valid a = true) (hb : valid b = true) : a * b % 2147483579 * powQ b (-1) % 2147483579 = a := by
  rw [mul_assoc_mod, powQ_inv hb]; exact mul_one_mod (valid_rp ha)

/-! ### examples -/
theorem valid_1 : valid 1 = true := by
  refine valid_of (by omega) (by omega) fun h _ => ?_
  rw [one_pow']; exact Cp.refl _
theorem valid_4 : valid 4 = true := by
  have := valid_square (n := 2) (by omega) (by omega)
  exact this
theorem valid_2 : valid 2 = false := by
  unfold valid
  rw [show (2 : Int).toNat = 2 from rfl, J_two (by omega)]
  rfl
theorem valid_p1 : valid 2147483578 = false := by
  have := valid_neg (n := 1) (by omega) (by omega)
  rw [valid_1] at this
  exact this
theorem valid_p2 : valid 2147483577 = true := by
  have := valid_neg (n := 2) (by omega) (by omega)
  rw [valid_2] at this
  exact this
theorem powQ_42 : powQ 4 2 = 16 := by
  unfold powQ fpw
  rw [show ((2 : Int) % 1073741789).toNat = 2 from rfl]; rfl
theorem powQ_4q : powQ 4 1073741789 = 1 := by
  rw [powQ_mod (k := 0) (by omega), powQ_zero]
theorem inv_4 {z : Int} (h : 4 * z % 2147483579 = 1) (h1 : Rp z) : z = 536870895 := by
  refine rp_eq h1 ⟨by decide, by decide⟩ ?_
  obtain ⟨c, hc⟩ : Cp (4 * z) 1 := (cp_iff _ _).2 (by rw [h]; rfl)
  refine ⟨536870895 * c - z, ?_⟩
  have h2 : 536870895 * (4 * z - 1) = 536870895 * (2147483579 * c) := by rw [hc]
  clear h hc
  grind
theorem powQ_4n : powQ 4 (-1) = 536870895 := inv_4 (powQ_inv valid_4) (powQ_rng 4 (-1))
end Go.Proofs.YtbcfmpohempkpaaDoor

/- The program's and the specification's functions on elements. -/
namespace Go.Proofs.YtbcfmpohempkpaaDoor
open Go.RowKit Go.Shelf

def mulT (a b : Int) : Value := if (valid a && valid b) = true then .tuple #[.int .i64 (a * b % 2147483579), .int .i64 0] else .tuple #[.int .i64 0, .int .i64 100]
def powT (a n : Int) : Value := if valid a = true then .tuple #[.int .i64 (powQ a n), .int .i64 0] else .tuple #[.int .i64 0, .int .i64 100]
def elT (n : Int) : Value := if 1 ≤ n ∧ n ≤ 1073741789 then (if valid n = true then .tuple #[.int .i64 n, .int .i64 0] else .tuple #[.int .i64 (2147483579 - n), .int .i64 0]) else .tuple #[.int .i64 0, .int .i64 1]
def numT (x : Int) : Value := if valid x = true then (if x ≤ 1073741789 then .tuple #[.int .i64 x, .int .i64 0] else .tuple #[.int .i64 (2147483579 - x), .int .i64 0]) else .tuple #[.int .i64 0, .int .i64 100]

/-! ### the specification -/
def PowHead (x0 : Int) (n0 : Nat) (w : World) (s0 s1 s5 : Value) (wr : World) : Prop :=
  ∃ (x y : Int) (n : Nat), s0 = .int .i64 x ∧ s1 = .int .i64 (n : Int) ∧ s5 = .int .i64 y ∧ Rp x ∧ Rp y ∧ n ≤ n0 ∧ Cp (y * x ^ n) (x0 ^ n0) ∧ wr = w
set_option maxHeartbeats 1000000 in
set_option maxRecDepth 100000 in
theorem refpower_call (x : Int) (n : Nat) (w : World) (hx : Rp x) (hn : n < 1073741824) :
    Calls Tryd.prog 47 #[.int .i64 x, .int .i64 (n : Int)] w fun e w' => e = .returned (.int .i64 (fpw x n)) ∧ w' = w := by
  have HS : Hid (∀ y x : Int, ∀ n : Nat, Cp (y * x ^ n) ((if n % 2 = 1 then y * x % 2147483579 else y) * (x * x % 2147483579) ^ (n / 2))) := Lib.hid fpw_step
  have HN := Lib.hid hn
  have HX := Lib.hid hx
  clear hn hx
  go_enter Tryd.func47, Tryd.ntmps47
  go_wp2_with fail
  go_loopw [0, 1, 5] (fun s0 s1 s5 wr => PowHead x n w s0 s1 s5 wr) (fun _ s1 _ _ => (intOf s1).toNat)
  case atStart => exact ⟨x, 1, n, rfl, rfl, rfl, HX.out, ⟨by omega, by omega⟩, Nat.le_refl _, by rw [Int.one_mul]; exact Cp.refl _, rfl⟩
  case round =>
    obtain ⟨x1, y1, m, rfl, rfl, rfl, hx1, hy1, hm, hc, rfl⟩ := hrel
    have HM := Lib.hid hm
    have HC := Lib.hid hc
    have HY := Lib.hid hy1
    have hmb : (m : Int) ≤ 1073741823 := by have := HN.out; omega
    have hmz : (0 : Int) ≤ (m : Int) := by omega
    have hxx := mulp_rng hx1 hx1
    have hyx := mulp_rng hy1 hx1
    have hw1 : wrap64 (x1 * x1) = x1 * x1 := by unfold wrap64; omega
    have hw2 : wrap64 (y1 * x1) = y1 * x1 := by unfold wrap64; omega
    obtain ⟨hxx1, hxx2⟩ := hxx
    obtain ⟨hyx1, hyx2⟩ := hyx
    clear hc hy1 hm hx1
    obtain ⟨M, hMM⟩ : ∃ M : Int, M = (m : Int) := ⟨_, rfl⟩
    have HMM := Lib.hid hMM
    rw [← hMM] at hmb hmz ⊢
    clear hMM
    by_cases h0 : m = 0
    · have hM0 : M = 0 := by have := HMM.out; omega
      subst hM0 h0
      go_wp2_with fail
      try rw [Exit.noGoto_ret]
      go_ret
      refine ⟨ret_i64 ?_, rfl⟩
      have h1 := HC.out.eq
      have h2 := HY.out.1
      have h3 := HY.out.2
      rw [Int.pow_zero, Int.mul_one] at h1
      unfold fpw
      omega
    · have hm0 : 0 < M := by have := HMM.out; omega
      by_cases h2 : m % 2 = 1
      · have hmm : M % 2 = 1 := by have := HMM.out; omega
        have HS1 := HS.out y1 x1 m
        rw [if_pos h2] at HS1
        replace HS1 := Lib.hid HS1
        go_wp2_with fail
        exact ⟨⟨_, _, m / 2, rfl, by have := HMM.out; exact congrArg _ (by omega), rfl, rp_mod _, rp_mod _, by have := HM.out; omega, HS1.out.symm.trans HC.out, rfl⟩, by have := HMM.out; simp [intOf]; omega⟩
      · have h2' : m % 2 = 0 := by omega
        have hmm : M % 2 = 0 := by have := HMM.out; omega
        have HS1 := HS.out y1 x1 m
        rw [if_neg h2] at HS1
        replace HS1 := Lib.hid HS1
        go_wp2_with fail
        exact ⟨⟨_, _, m / 2, rfl, by have := HMM.out; exact congrArg _ (by omega), rfl, rp_mod _, HY.out, by have := HM.out; omega, HS1.out.symm.trans HC.out, rfl⟩, by have := HMM.out; simp [intOf]; omega⟩
theorem fpw_valid {x : Int} (h1 : 1 ≤ x) (h2 : x < 2147483579) (n : Nat) (hn : n = 1073741789) : (fpw x n == 1) = valid x := by
  have he := euler_valid h1 h2 hn
  have h3 := fpw_cp x n
  have hr := fpw_rng x n
  cases hv : valid x
  · rw [hv] at he
    have h4 := (h3.trans he).eq
    rw [show sgI (!false) % 2147483579 = 2147483578 from rfl] at h4
    have := hr.1; have := hr.2
    simp only [beq_eq_false_iff_ne]; omega
  · rw [hv] at he
    have h4 := (h3.trans he).eq
    rw [show sgI (!true) % 2147483579 = 1 from rfl] at h4
    have := hr.1; have := hr.2
    simp only [beq_iff_eq]; omega
set_option maxHeartbeats 400000 in
set_option maxRecDepth 100000 in
theorem refValid_call (x : Int) (w : World) (hx : I64 x) :
    Calls Tryd.prog 32 #[.int .i64 x] w fun e w' => e = .returned (.bool (valid x)) ∧ w' = w := by
  obtain ⟨hx1, hx2⟩ := hx
  by_cases h1 : 1 ≤ x
  · by_cases h2 : x < 2147483579
    · obtain ⟨y, HY, HC⟩ : ∃ y : Int, Hid ((y == 1) = valid x) ∧ Hid (Calls Tryd.prog 47 #[.int .i64 x, .int .i64 1073741789] w fun e w' => e = .returned (.int .i64 y) ∧ w' = w) := by
        obtain ⟨n, hn⟩ : ∃ n : Nat, n = 1073741789 := ⟨_, rfl⟩
        have h := refpower_call x n w ⟨by omega, h2⟩ (by omega)
        rw [show (n : Int) = 1073741789 by omega] at h
        exact ⟨_, Lib.hid (fpw_valid h1 h2 n hn), Lib.hid h⟩
      go_enter Tryd.func32, Tryd.ntmps32
      go_wp2_with fail
      refine HC.out.mono ?_
      rintro e w1 ⟨rfl, rfl⟩
      go_wp2_with fail
      go_ret
      exact ⟨ret_bool HY.out, rfl⟩
    · have HV : Hid (valid x = false) := Lib.hid (valid_out (by omega))
      go_enter Tryd.func32, Tryd.ntmps32
      go_wp2_with fail
      go_ret
      exact ⟨ret_bool HV.out.symm, rfl⟩
  · have HV : Hid (valid x = false) := Lib.hid (valid_out (by omega))
    go_enter Tryd.func32, Tryd.ntmps32
    go_wp2_with fail
    go_ret
    exact ⟨ret_bool HV.out.symm, rfl⟩
set_option maxHeartbeats 400000 in
set_option maxRecDepth 100000 in
theorem refexponent_call (n : Int) (w : World) (hn : I64 n) :
    Calls Tryd.prog 48 #[.int .i64 n] w fun e w' => e = .returned (.int .i64 (n % 1073741789)) ∧ w' = w := by
  have HT := Lib.hid (tmodq_or n)
  obtain ⟨hn1, hn2⟩ := hn
  go_enter Tryd.func48, Tryd.ntmps48
  go_wp2_with fail
  all_goals
    go_ret
    refine ⟨ret_i64 ?_, rfl⟩
    have := HT.out
    try unfold wrap64
    omega
end Go.Proofs.YtbcfmpohempkpaaDoor

/- Products, powers, elements and numbers: the program's functions, the specification's, and the laws' own. -/
namespace Go.Proofs.YtbcfmpohempkpaaDoor
open Go.RowKit Go.Shelf

set_option maxHeartbeats 400000 in
set_option maxRecDepth 100000 in
theorem Mul_call (a b : Int) (w : World) (ha : I64 a) (hb : I64 b) :
    Calls Tryd.prog 37 #[.int .i64 a, .int .i64 b] w fun e w' => e = .returned (mulT a b) ∧ w' = w := by
  cases h1 : valid a with
  | false =>
    have HV : Hid (mulT a b = .tuple #[.int .i64 0, .int .i64 100]) := Lib.hid (by unfold mulT; rw [h1]; rfl)
    have HC := Lib.hid (Valid_call a w ha)
    rw [h1] at HC
    clear h1
    go_enter Tryd.func37, Tryd.ntmps37
    go_wp2_with fail
    refine HC.out.mono ?_
    rintro e w1 ⟨rfl, rfl⟩
    go_wp2_with fail
    exact bodyPost_ret (results_tmps (p := 4) (q := 5) rfl _ _ _ _ rfl rfl) rfl ⟨congrArg Ending.returned HV.out.symm, rfl⟩
  | true =>
    have HC := Lib.hid (Valid_call a w ha)
    have HC2 := Lib.hid (Valid_call b w hb)
    have HRA := Lib.hid (valid_rp h1)
    cases h2 : valid b with
    | false =>
      have HV : Hid (mulT a b = .tuple #[.int .i64 0, .int .i64 100]) := Lib.hid (by unfold mulT; rw [h1, h2]; rfl)
      rw [h1] at HC
      rw [h2] at HC2
      clear h1 h2
      go_enter Tryd.func37, Tryd.ntmps37
      go_wp2_with fail
      refine HC.out.mono ?_
      rintro e w1 ⟨rfl, rfl⟩
      go_wp2_with fail
      refine HC2.out.mono ?_
      rintro e w1 ⟨rfl, rfl⟩
      go_wp2_with fail
      exact bodyPost_ret (results_tmps (p := 4) (q := 5) rfl _ _ _ _ rfl rfl) rfl ⟨congrArg Ending.returned HV.out.symm, rfl⟩
    | true =>
      have HV : Hid (mulT a b = .tuple #[.int .i64 (a * b % 2147483579), .int .i64 0]) := Lib.hid (by unfold mulT; rw [h1, h2]; rfl)
      have HRB := Lib.hid (valid_rp h2)
      rw [h1] at HC
      rw [h2] at HC2
      clear h1 h2
      go_enter Tryd.func37, Tryd.ntmps37
      go_wp2_with fail
      refine HC.out.mono ?_
      rintro e w1 ⟨rfl, rfl⟩
      go_wp2_with fail
      refine HC2.out.mono ?_
      rintro e w1 ⟨rfl, rfl⟩
      go_wp2_with fail
      refine (product_call a b _ HRA.out HRB.out).mono ?_
      rintro e w1 ⟨rfl, rfl⟩
      go_wp2_with fail
      exact bodyPost_ret (results_tmps (p := 4) (q := 5) rfl _ _ _ _ rfl rfl) rfl ⟨congrArg Ending.returned HV.out.symm, rfl⟩
set_option maxHeartbeats 400000 in
set_option maxRecDepth 100000 in
theorem Pow_call (a n : Int) (w : World) (ha : I64 a) (hn : I64 n) :
    Calls Tryd.prog 12 #[.int .i64 a, .int .i64 n] w fun e w' => e = .returned (powT a n) ∧ Below w.heap.size w w' := by
  have HC := Lib.hid (Valid_call a w ha)
  cases h1 : valid a with
  | false =>
    have HV : Hid (powT a n = .tuple #[.int .i64 0, .int .i64 100]) := Lib.hid (by unfold powT; rw [h1]; rfl)
    rw [h1] at HC
    clear h1
    go_enter Tryd.func12, Tryd.ntmps12
    go_wp2_with fail
    refine HC.out.mono ?_
    rintro e w1 ⟨rfl, rfl⟩
    go_wp2_with fail
    exact bodyPost_ret (results_tmps (p := 4) (q := 5) rfl _ _ _ _ rfl rfl) rfl ⟨congrArg Ending.returned HV.out.symm, Below.refl _ _⟩
  | true =>
    have HV : Hid (powT a n = .tuple #[.int .i64 (powQ a n), .int .i64 0]) := Lib.hid (by unfold powT; rw [h1]; rfl)
    have HRA := Lib.hid (valid_rp h1)
    have HM := Lib.hid (modq_rng n)
    rw [h1] at HC
    clear h1
    have HP : Hid (∀ W, Calls Tryd.prog 34 #[.int .i64 a, .int .i64 (n % 1073741789)] W fun e w' => e = .returned (.int .i64 (powQ a n)) ∧ Below W.heap.size W w') := Lib.hid (fun W => by
      have := power_call a (n % 1073741789).toNat W HRA.out (by have := HM.out; omega)
      rw [toNat_mod] at this
      exact this)
    have HB := Lib.hid (Joins.below_alloc1 w (.cells #[.int .i64 n] 3))
    go_enter Tryd.func12, Tryd.ntmps12
    go_wp2_with fail
    refine HC.out.mono ?_
    rintro e w1 ⟨rfl, rfl⟩
    go_wp2_with fail
    refine (exponent_one n _ _ hn (by simp)).mono ?_
    rintro e w1 ⟨rfl, rfl⟩
    go_wp2_with fail
    refine (HP.out _).mono ?_
    rintro e w1 ⟨rfl, hb⟩
    go_wp2_with fail
    exact bodyPost_ret (results_tmps (p := 4) (q := 5) rfl _ _ _ _ rfl rfl) rfl ⟨congrArg Ending.returned HV.out.symm, below_next HB.out hb⟩
end Go.Proofs.YtbcfmpohempkpaaDoor

/- Products, powers, elements and numbers: the program's functions, the specification's, and the laws' own. -/
namespace Go.Proofs.YtbcfmpohempkpaaDoor
open Go.RowKit Go.Shelf

set_option maxHeartbeats 400000 in
set_option maxRecDepth 100000 in
theorem refMul_call (a b : Int) (w : World) (ha : I64 a) (hb : I64 b) :
    Calls Tryd.prog 49 #[.int .i64 a, .int .i64 b] w fun e w' => e = .returned (mulT a b) ∧ w' = w := by
  cases h1 : valid a with
  | false =>
    have HV : Hid (mulT a b = .tuple #[.int .i64 0, .int .i64 100]) := Lib.hid (by unfold mulT; rw [h1]; rfl)
    have HC := Lib.hid (refValid_call a w ha)
    rw [h1] at HC
    clear h1
    go_enter Tryd.func49, Tryd.ntmps49
    go_wp2_with fail
    refine HC.out.mono ?_
    rintro e w1 ⟨rfl, rfl⟩
    go_wp2_with fail
    exact bodyPost_ret (results_tmps (p := 4) (q := 5) rfl _ _ _ _ rfl rfl) rfl ⟨congrArg Ending.returned HV.out.symm, rfl⟩
  | true =>
    have HC := Lib.hid (refValid_call a w ha)
    have HC2 := Lib.hid (refValid_call b w hb)
    have HRA := Lib.hid (valid_rp h1)
    cases h2 : valid b with
    | false =>
      have HV : Hid (mulT a b = .tuple #[.int .i64 0, .int .i64 100]) := Lib.hid (by unfold mulT; rw [h1, h2]; rfl)
      rw [h1] at HC
      rw [h2] at HC2
      clear h1 h2
      go_enter Tryd.func49, Tryd.ntmps49
      go_wp2_with fail
      refine HC.out.mono ?_
      rintro e w1 ⟨rfl, rfl⟩
      go_wp2_with fail
      refine HC2.out.mono ?_
      rintro e w1 ⟨rfl, rfl⟩
      go_wp2_with fail
      exact bodyPost_ret (results_tmps (p := 4) (q := 5) rfl _ _ _ _ rfl rfl) rfl ⟨congrArg Ending.returned HV.out.symm, rfl⟩
    | true =>
      have HV : Hid (mulT a b = .tuple #[.int .i64 (a * b % 2147483579), .int .i64 0]) := Lib.hid (by unfold mulT; rw [h1, h2]; rfl)
      have HRB := Lib.hid (valid_rp h2)
      rw [h1] at HC
      rw [h2] at HC2
      clear h1 h2
      go_enter Tryd.func49, Tryd.ntmps49
      go_wp2_with fail
      refine HC.out.mono ?_
      rintro e w1 ⟨rfl, rfl⟩
      go_wp2_with fail
      refine HC2.out.mono ?_
      rintro e w1 ⟨rfl, rfl⟩
      have hab := mulp_rng HRA.out HRB.out
      have hw : wrap64 (a * b) = a * b := by unfold wrap64; omega
      obtain ⟨hab1, hab2⟩ := hab
      go_wp2_with fail
      exact bodyPost_ret (results_tmps (p := 4) (q := 5) rfl _ _ _ _ rfl rfl) rfl ⟨congrArg Ending.returned HV.out.symm, rfl⟩
set_option maxHeartbeats 400000 in
set_option maxRecDepth 100000 in
theorem refPow_call (a n : Int) (w : World) (ha : I64 a) (hn : I64 n) :
    Calls Tryd.prog 28 #[.int .i64 a, .int .i64 n] w fun e w' => e = .returned (powT a n) ∧ w' = w := by
  have HC := Lib.hid (refValid_call a w ha)
  cases h1 : valid a with
  | false =>
    have HV : Hid (powT a n = .tuple #[.int .i64 0, .int .i64 100]) := Lib.hid (by unfold powT; rw [h1]; rfl)
    rw [h1] at HC
    clear h1
    go_enter Tryd.func28, Tryd.ntmps28
    go_wp2_with fail
    refine HC.out.mono ?_
    rintro e w1 ⟨rfl, rfl⟩
    go_wp2_with fail
    exact bodyPost_ret (results_tmps (p := 4) (q := 5) rfl _ _ _ _ rfl rfl) rfl ⟨congrArg Ending.returned HV.out.symm, rfl⟩
  | true =>
    have HV : Hid (powT a n = .tuple #[.int .i64 (powQ a n), .int .i64 0]) := Lib.hid (by unfold powT; rw [h1]; rfl)
    have HRA := Lib.hid (valid_rp h1)
    have HM := Lib.hid (modq_rng n)
    rw [h1] at HC
    clear h1
    have HP : Hid (∀ W, Calls Tryd.prog 47 #[.int .i64 a, .int .i64 (n % 1073741789)] W fun e w' => e = .returned (.int .i64 (powQ a n)) ∧ w' = W) := Lib.hid (fun W => by
      have := refpower_call a (n % 1073741789).toNat W HRA.out (by have := HM.out; omega)
      rw [toNat_mod] at this
      exact this)
    go_enter Tryd.func28, Tryd.ntmps28
    go_wp2_with fail
    refine HC.out.mono ?_
    rintro e w1 ⟨rfl, rfl⟩
    go_wp2_with fail
    refine (refexponent_call n _ hn).mono ?_
    rintro e w1 ⟨rfl, rfl⟩
    go_wp2_with fail
    refine (HP.out _).mono ?_
    rintro e w1 ⟨rfl, rfl⟩
    go_wp2_with fail
    exact bodyPost_ret (results_tmps (p := 4) (q := 5) rfl _ _ _ _ rfl rfl) rfl ⟨congrArg Ending.returned HV.out.symm, rfl⟩
end Go.Proofs.YtbcfmpohempkpaaDoor
