/- Sums of exponents; the squares that an iterator yields; powers. -/
import Derived.Deep.DeepCutAuto
import Derived.Lib.LaidTab
import Derived.Test.YtbcfmpohempkpaaDoorZc3
namespace Go.Proofs.YtbcfmpohempkpaaDoor
open Go.RowKit Go.Shelf
attribute [local go_sem] Oper.semAt_some

theorem tmodq_or (n : Int) : 0 ≤ n ∧ n.tmod 1073741789 = n % 1073741789 ∨ n.tmod 1073741789 = -((-n) % 1073741789) ∧ n < 0 := by
  rcases Int.lt_or_le n 0 with h | h
  · right
    refine ⟨?_, h⟩
    have := Int.neg_tmod (-n) 1073741789
    rw [Int.neg_neg] at this
    rw [this, Int.tmod_eq_emod_of_nonneg (by omega)]
  · exact .inl ⟨h, Int.tmod_eq_emod_of_nonneg h⟩
/-- In world w the slice v holds the numbers xs, in a block below B. -/
def IRest (B : Nat) (w : World) (xs : List Int) (v : Value) : Prop :=
  ∃ (a : Option Addr) (cap : Nat), v = .slice a xs.length cap ∧ xs.length ≤ cap ∧ cap ≤ maxLen ∧ (∀ x, x ∈ xs → I64 x) ∧
    (xs.length = 0 ∨ ∃ b off, a = some ⟨b, off, none⟩ ∧ b < B ∧ ∀ i (h : i < xs.length), w.cell? ⟨b, off + i, none⟩ = some (.int .i64 xs[i]))
/-- the sum of the first k numbers, modulo Q -/
def sumK (l : List Int) : Nat → Int
  | 0 => 0
  | k + 1 => (sumK l k + l.getD k 0) % 1073741789
theorem modq_rng (n : Int) : 0 ≤ n % 1073741789 ∧ n % 1073741789 < 1073741789 := ⟨Int.emod_nonneg _ (by omega), Int.emod_lt_of_pos _ (by omega)⟩
theorem sumK_rng (l : List Int) : ∀ k, 0 ≤ sumK l k ∧ sumK l k < 1073741789
  | 0 => by simp [sumK]
  | k + 1 => modq_rng _
theorem sumK_two (x y : Int) : sumK [x, y] 2 = (x + y) % 1073741789 := by
  simp [sumK]
theorem sumK_one (x : Int) : sumK [x] 1 = x % 1073741789 := by
  simp [sumK]
def SumHead (l : List Int) (w : World) (s2 s7 : Value) (wr : World) : Prop := ∃ k : Nat, k ≤ l.length ∧ s2 = .int .i64 (sumK l k) ∧ s7 = .int .i64 (k : Int) ∧ wr = w
set_option maxHeartbeats 1000000 in
set_option maxRecDepth 100000 in
theorem exponent_call (xs : List Int) (v : Value) (B : Nat) (w : World) (h : IRest B w xs v) :
    Calls Tryd.prog 35 #[v] w fun e w' => e = .returned (.int .i64 (sumK xs xs.length)) ∧ w' = w := by
  obtain ⟨a, cap, rfl, hl, hm, hI, hc⟩ := h
  have HC : Hid (∀ i (h : i < xs.length), I64 (xs.getD i 0) ∧ ∃ b off, a = some ⟨b, off, none⟩ ∧ w.cell? ⟨b, off + i, none⟩ = some (.int .i64 (xs.getD i 0))) := Lib.hid (fun i hi => by
    have e : xs.getD i 0 = xs[i] := by simp [hi]
    rw [e]
    refine ⟨hI _ (List.getElem_mem hi), ?_⟩
    rcases hc with hc | ⟨b, off, rfl, _, hc⟩
    · omega
    · exact ⟨b, off, rfl, hc i hi⟩)
  unfold maxLen at hm
  obtain ⟨m, hm2⟩ : ∃ m, m = xs.length := ⟨_, rfl⟩
  have HM := Lib.hid hm2
  rw [← hm2] at HC hl ⊢
  have HL := Lib.hid hl
  have HMX := Lib.hid (show (m : Int) ≤ 9223372036854775807 by omega)
  clear hc hm2 hI hl hm
  go_enter Tryd.func35, Tryd.ntmps35
  go_wp2_with fail
  go_loopw [2, 7] (fun s2 s7 wr => SumHead xs w s2 s7 wr) (fun _ s7 _ => m - (intOf s7).toNat)
  case atStart => exact ⟨0, by omega, rfl, rfl, rfl⟩
  case round =>
    obtain ⟨k, hk, rfl, rfl, rfl⟩ := hrel
    rw [← HM.out] at hk
    rcases Nat.lt_or_ge k m with hlt | hge
    · obtain ⟨hx, b, off, rfl, hcu⟩ := HC.out k hlt
      have HS : Hid (sumK xs (k + 1) = (sumK xs k + xs.getD k 0) % 1073741789) := Lib.hid rfl
      have hki : (k : Int) < (m : Int) := by omega
      have hmx := HMX.out
      have HR := Lib.hid (sumK_rng xs k)
      generalize xs.getD k 0 = x at *
      generalize sumK xs k = y at *
      obtain ⟨t, ht⟩ : ∃ t, t = x.tmod 1073741789 := ⟨_, rfl⟩
      have HTM := Lib.hid (tmodq_or x)
      rw [← ht] at HTM
      have hw : wrap64 (y + t) = y + t := by have := HR.out; have := HTM.out; unfold wrap64; omega
      have hw2 : wrap64 (y + t + 1073741789) = y + t + 1073741789 := by have := HR.out; have := HTM.out; unfold wrap64; omega
      have hp : 0 ≤ y + t + 1073741789 := by have := HR.out; have := HTM.out; omega
      have HE := Lib.hid (show (y + t + 1073741789) % 1073741789 = (y + x) % 1073741789 by have := HR.out; have := HTM.out; omega)
      have ht' := ht.symm
      clear ht
      go_wp2_with fail
      refine ⟨⟨k + 1, by rw [← HM.out]; omega, ?_, by go_num, rfl⟩, by simp [intOf]; omega⟩
      rw [HS.out, ← HE.out, ← Int.tmod_eq_emod_of_nonneg hp]
    · obtain rfl : k = m := by omega
      go_wp2_with fail
      go_ret
      exact ⟨rfl, rfl⟩
/-- the sum of one number, in a block of the call's own -/
theorem exponent_one (x : Int) (b : Nat) (w : World) (hx : I64 x) (h0 : w.cell? ⟨b, 0, none⟩ = some (.int .i64 x)) :
    Calls Tryd.prog 35 #[.slice (some ⟨b, 0, none⟩) 1 1] w fun e w' => e = .returned (.int .i64 (x % 1073741789)) ∧ w' = w := by
  rw [← sumK_one]
  refine exponent_call [x] _ (b + 1) w ⟨some ⟨b, 0, none⟩, 1, rfl, by simp, by simp [maxLen], by simp [hx], .inr ⟨b, 0, rfl, by omega, fun i hi => ?_⟩⟩
  match i, hi with
  | 0, _ => exact h0
theorem exponent_two (x y : Int) (b : Nat) (w : World) (hx : I64 x) (hy : I64 y) (h0 : w.cell? ⟨b, 0, none⟩ = some (.int .i64 x)) (h1 : w.cell? ⟨b, 1, none⟩ = some (.int .i64 y)) :
    Calls Tryd.prog 35 #[.slice (some ⟨b, 0, none⟩) 2 2] w fun e w' => e = .returned (.int .i64 ((x + y) % 1073741789)) ∧ w' = w := by
  rw [← sumK_two]
  refine exponent_call [x, y] _ (b + 1) w ⟨some ⟨b, 0, none⟩, 2, rfl, by simp, by simp [maxLen], by simp [hx, hy], .inr ⟨b, 0, rfl, by omega, fun i hi => ?_⟩⟩
  match i, hi with
  | 0, _ => exact h0
  | 1, _ => exact h1

/-! ### squares -/
/-- the square of the square .. of x, k times -/
def sqr (x : Int) : Nat → Int
  | 0 => x
  | k + 1 => sqr x k * sqr x k % 2147483579
theorem sqr_rng {x : Int} (hx : Rp x) : ∀ k, Rp (sqr x k)
  | 0 => hx
  | _ + 1 => rp_mod _
def encS (x : Int) (k : Nat) : Array Value := #[.int .i64 (sqr x k)]
set_option maxRecDepth 100000 in
set_option maxHeartbeats 4000000 in
theorem squares_tells (q : Nat) (hq : 1 ≤ q) (Bx : Nat) (B : Nat → Prop) (x : Int) (hx : Rp x) (w : World) (hBx : B Bx) (hBn : ∀ b, B b → b < w.heap.size) (hc : w.cell? ⟨Bx, 0, none⟩ = some (.int .i64 x)) :
    Tells Fence.wide q Tryd.prog 62 #[.pointer (some ⟨Bx, 0, none⟩)] (encS x) (fun _ _ => True) B (fun ys => ys = List.range 30) 30 w := by
  intro l J W hW hJ hY h0
  have hBx' := (hW.cell (p := ⟨Bx, 0, none⟩) (hBn Bx hBx)).trans hc
  have HX := Lib.hid hx
  clear hW hc hBn hx
  obtain ⟨x0, hx0⟩ : ∃ x0, x0 = sqr x 0 := ⟨_, rfl⟩
  have HX0 := Lib.hid hx0
  rw [show x = x0 from hx0.symm] at hBx'
  clear hx0
  refine callsIn_of_wp Tryd.func62 rfl trivial ?_ rfl
  simp only [Tryd.ntmps62, List.size_toArray, List.length_cons, List.length_nil, Nat.reduceAdd, Nat.reduceSub, Array.replicate_succ, Array.replicate_zero, List.push_toArray, List.append_toArray, List.nil_append, List.cons_append]
  gi_wp2
  gi_loopw [3, 5] (fun sq i wr => ∃ (k : Nat), k ≤ 30 ∧ i = .int .i64 (k : Int) ∧ sq = .int .i64 (sqr x k) ∧ J (List.range k) wr ∧ Kp2 B W wr)
    (fun _ i _ => 30 - (intOf i).toNat)
  case atStart => exact ⟨0, by omega, rfl, by rw [HX0.out], h0, Kp2.refl _ _⟩
  case round =>
    obtain ⟨k, hkn, rfl, rfl, hJs, hnx⟩ := hrel
    rcases Nat.lt_or_ge k 30 with hlt | hge
    · obtain ⟨fn, tmps, assign, body, hy, hR⟩ := hY _ k wr hJs trivial (by simpa using hlt)
      replace hy : (Instr.yield l #[.int .i64 (sqr x k)]).run Tryd.prog wr = .ok (.round l fn tmps assign body) wr := hy
      have HRS : Hid (List.range (k + 1) = List.range k ++ [k]) := Lib.hid List.range_succ
      have HSS : Hid (sqr x (k + 1) = sqr x k * sqr x k % 2147483579) := Lib.hid rfl
      have HRP := Lib.hid (sqr_rng HX.out k)
      have hki : (k : Int) < 30 := by omega
      have HNX := Lib.hid hnx
      clear hnx hkn
      generalize sqr x k = s at *
      gi_wp2
      refine hR.mono ?_
      rintro e W3 ⟨rfl, hJ3, hk3⟩
      gi_wp2
      refine ⟨trivial, ?_⟩
      refine (callsIn_wide.2 (product_call s s W3 HRP.out HRP.out)).mono ?_
      rintro e w4 ⟨rfl, rfl⟩
      gi_wp2
      exact ⟨⟨k + 1, by omega, by go_num, by rw [HSS.out], by rw [HRS.out]; exact hJ3, HNX.out.trans hk3⟩, by simp [intOf]; omega⟩
    · obtain rfl : k = 30 := by omega
      gi_wp2
      go_end0
      exact ⟨⟨_, rfl⟩, _, rfl, hJs⟩
set_option maxHeartbeats 1000000 in
theorem squares_in (q : Nat) (x : Int) (w : World) :
    CallsIn Fence.wide q Tryd.prog 50 #[.int .i64 x] w fun e w' => e = .returned (.func (.func 62) #[] #[.pointer (some ⟨w.heap.size, 0, none⟩)]) ∧ w' = w.alloc (.cells #[.int .i64 x] 3) := by
  refine callsIn_of_wp Tryd.func50 rfl trivial ?_ rfl
  simp only [Tryd.ntmps50, List.size_toArray, List.length_cons, List.length_nil, Nat.reduceAdd, Nat.reduceSub, Array.replicate_succ, Array.replicate_zero, List.push_toArray, List.append_toArray, List.nil_append, List.cons_append]
  gi_wp2
  go_ret
  exact ⟨rfl, rfl⟩
end Go.Proofs.YtbcfmpohempkpaaDoor
