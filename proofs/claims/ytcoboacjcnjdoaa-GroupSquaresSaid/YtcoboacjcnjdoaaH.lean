/- The laws' own functions. -/
import Derived.Test.YtcoboacjcnjdoaaF
namespace Go.Proofs.Ytcoboacjcnjdoaa
open Go.RowKit Go.Shelf

/-- the element that a law makes of any number -/
def elm (n : Int) : Int := if valid (n % 1073741789 + 1) = true then n % 1073741789 + 1 else 2147483579 - (n % 1073741789 + 1)
theorem elm_valid (n : Int) : valid (elm n) = true := by
  have h := modq_rng n
  unfold elm
  split
  · assumption
  · rename_i h1
    rw [valid_neg (by omega) (by omega)]
    simp [h1]
theorem elm_elT (n : Int) : elT (n % 1073741789 + 1) = .tuple #[.int .i64 (elm n), .int .i64 0] := by
  have h := modq_rng n
  unfold elT elm
  rw [if_pos (by omega)]
  split <;> rfl
set_option maxHeartbeats 400000 in
set_option maxRecDepth 100000 in
theorem element_call (n : Int) (w : World) (hn : I64 n) :
    Calls Try.prog 15 #[.int .i64 n] w fun e w' => e = .returned (.int .i64 (elm n)) ∧ w' = w := by
  have HT := Lib.hid (tmodq_or n)
  have HM := Lib.hid (modq_rng n)
  have HE := Lib.hid (Element_call (n % 1073741789 + 1) w ⟨by have := HM.out; omega, by have := HM.out; omega⟩)
  rw [elm_elT] at HE
  generalize elm n = x at *
  obtain ⟨t, ht⟩ : ∃ t, t = n.tmod 1073741789 := ⟨_, rfl⟩
  rw [← ht] at HT
  have ht' := ht.symm
  clear ht
  by_cases h0 : t < 0
  · have hw : wrap64 (t + 1073741789) = t + 1073741789 := by have := HT.out; unfold wrap64; omega
    have hw2 : wrap64 (t + 1073741789 + 1) = t + 1073741789 + 1 := by have := HT.out; unfold wrap64; omega
    have HEQ : Hid (n % 1073741789 + 1 = t + 1073741789 + 1) := Lib.hid (by have := HT.out; omega)
    rw [HEQ.out] at HE
    go_enter Try.func15, Try.ntmps15
    go_wp2_with fail
    refine HE.out.mono ?_
    rintro e w1 ⟨rfl, rfl⟩
    go_wp2_with fail
    go_ret
    exact ⟨rfl, rfl⟩
  · have hw2 : wrap64 (t + 1) = t + 1 := by have := HT.out; unfold wrap64; omega
    have HEQ : Hid (n % 1073741789 + 1 = t + 1) := Lib.hid (by have := HT.out; omega)
    rw [HEQ.out] at HE
    go_enter Try.func15, Try.ntmps15
    go_wp2_with fail
    refine HE.out.mono ?_
    rintro e w1 ⟨rfl, rfl⟩
    go_wp2_with fail
    go_ret
    exact ⟨rfl, rfl⟩
set_option maxHeartbeats 400000 in
set_option maxRecDepth 100000 in
theorem pow_call (a n : Int) (w : World) (ha : valid a = true) (hn : I64 n) :
    Calls Try.prog 17 #[.int .i64 a, .int .i64 n] w fun e w' => e = .returned (.int .i64 (powQ a n)) ∧ Below w.heap.size w w' := by
  have HP := Lib.hid (Pow_call a n w (valid_rp ha).i64 hn)
  unfold powT at HP
  rw [if_pos ha] at HP
  clear ha
  generalize powQ a n = p at *
  go_enter Try.func17, Try.ntmps17
  go_wp2_with fail
  refine HP.out.mono ?_
  rintro e w1 ⟨rfl, hb⟩
  go_wp2_with fail
  go_ret
  exact ⟨rfl, hb⟩
/-- the product of the first k numbers, modulo P -/
def prodK (l : List Int) : Nat → Int
  | 0 => 1
  | k + 1 => prodK l k * l.getD k 0 % 2147483579
theorem prodK_valid (l : List Int) (hl : ∀ i, i < l.length → valid (l.getD i 0) = true) : ∀ k, k ≤ l.length → valid (prodK l k) = true
  | 0, _ => valid_1
  | k + 1, h => valid_mul (prodK_valid l hl k (by omega)) (hl k (by omega))
theorem prodK_two (a b : Int) (ha : Rp a) : prodK [a, b] 2 = a * b % 2147483579 := by
  show 1 * a % 2147483579 * b % 2147483579 = a * b % 2147483579
  rw [Int.one_mul, show a % 2147483579 = a by have := ha.1; have := ha.2; omega]
def ProdHead (l : List Int) (w : World) (s3 s10 : Value) (wr : World) : Prop := ∃ k : Nat, k ≤ l.length ∧ s3 = .int .i64 (prodK l k) ∧ s10 = .int .i64 (k : Int) ∧ wr = w
set_option maxHeartbeats 1000000 in
set_option maxRecDepth 100000 in
theorem mul_call (xs : List Int) (v : Value) (B : Nat) (w : World) (h : IRest B w xs v) (hv : ∀ i, i < xs.length → valid (xs.getD i 0) = true) :
    Calls Try.prog 16 #[v] w fun e w' => e = .returned (.int .i64 (prodK xs xs.length)) ∧ w' = w := by
  obtain ⟨a, cap, rfl, hl, hm, hI, hc⟩ := h
  have HC : Hid (∀ i (h : i < xs.length), valid (xs.getD i 0) = true ∧ ∃ b off, a = some ⟨b, off, none⟩ ∧ w.cell? ⟨b, off + i, none⟩ = some (.int .i64 (xs.getD i 0))) := Lib.hid (fun i hi => by
    refine ⟨hv i hi, ?_⟩
    have e : xs.getD i 0 = xs[i] := by simp [hi]
    rw [e]
    rcases hc with hc | ⟨b, off, rfl, _, hc⟩
    · omega
    · exact ⟨b, off, rfl, hc i hi⟩)
  have HPV := Lib.hid (prodK_valid xs hv)
  unfold maxLen at hm
  obtain ⟨m, hm2⟩ : ∃ m, m = xs.length := ⟨_, rfl⟩
  have HM := Lib.hid hm2
  rw [← hm2] at HC hl HPV ⊢
  have HL := Lib.hid hl
  have HMX := Lib.hid (show (m : Int) ≤ 9223372036854775807 by omega)
  clear hc hm2 hI hl hm hv
  go_enter Try.func16, Try.ntmps16
  go_wp2_with fail
  go_loopw [3, 10] (fun s3 s10 wr => ProdHead xs w s3 s10 wr) (fun _ s10 _ => m - (intOf s10).toNat)
  case atStart => exact ⟨0, by omega, rfl, rfl, rfl⟩
  case round =>
    obtain ⟨k, hk, rfl, rfl, rfl⟩ := hrel
    rw [← HM.out] at hk
    rcases Nat.lt_or_ge k m with hlt | hge
    · obtain ⟨hx, b, off, rfl, hcu⟩ := HC.out k hlt
      have HS : Hid (prodK xs (k + 1) = prodK xs k * xs.getD k 0 % 2147483579) := Lib.hid rfl
      have hki : (k : Int) < (m : Int) := by omega
      have hmx := HMX.out
      have hpv := HPV.out k hk
      have HMU := Lib.hid (Mul_call (prodK xs k) (xs.getD k 0) wr (valid_rp hpv).i64 (valid_rp hx).i64)
      unfold mulT at HMU
      obtain ⟨z, hz⟩ : ∃ z, z = prodK xs (k + 1) := ⟨_, rfl⟩
      rw [if_pos (by rw [hpv, hx]; rfl), ← HS.out, ← hz] at HMU
      have HZ := Lib.hid hz
      clear hz
      clear hpv hx
      generalize xs.getD k 0 = x at *
      generalize prodK xs k = y at *
      go_wp2_with fail
      refine HMU.out.mono ?_
      rintro e w1 ⟨rfl, rfl⟩
      go_wp2_with fail
      exact ⟨⟨k + 1, by rw [← HM.out]; omega, by rw [HZ.out], by go_num, rfl⟩, by simp [intOf]; omega⟩
    · obtain rfl : k = m := by omega
      go_wp2_with fail
      go_ret
      exact ⟨rfl, rfl⟩
/-- the product of two elements, in a block of the call's own -/
theorem mul_two (x y : Int) (b : Nat) (w : World) (hx : valid x = true) (hy : valid y = true) (h0 : w.cell? ⟨b, 0, none⟩ = some (.int .i64 x)) (h1 : w.cell? ⟨b, 1, none⟩ = some (.int .i64 y)) :
    Calls Try.prog 16 #[.slice (some ⟨b, 0, none⟩) 2 2] w fun e w' => e = .returned (.int .i64 (x * y % 2147483579)) ∧ w' = w := by
  rw [← prodK_two x y (valid_rp hx)]
  refine mul_call [x, y] _ (b + 1) w ⟨some ⟨b, 0, none⟩, 2, rfl, by simp, by simp [maxLen], by simp [(valid_rp hx).i64, (valid_rp hy).i64], .inr ⟨b, 0, rfl, by omega, fun i hi => ?_⟩⟩ (fun i hi => ?_)
  · match i, hi with
    | 0, _ => exact h0
    | 1, _ => exact h1
  · match i, hi with
    | 0, _ => exact hx
    | 1, _ => exact hy
theorem mul_new (x y : Int) (W : World) (hx : valid x = true) (hy : valid y = true) :
    Calls Try.prog 16 #[.slice (some ⟨W.heap.size, 0, none⟩) 2 2] (W.alloc (.cells #[.int .i64 x, .int .i64 y] 3)) fun e w' => e = .returned (.int .i64 (x * y % 2147483579)) ∧ Below W.heap.size W w' :=
  (mul_two x y W.heap.size _ hx hy (by simp) (by simp)).mono (by rintro e w' ⟨rfl, rfl⟩; exact ⟨rfl, Joins.below_alloc1 W _⟩)
end Go.Proofs.Ytcoboacjcnjdoaa
