/- Slices of numbers and of points in memory; sums of numbers. -/
import Derived.Test.YtbigkcemcdokaaaA
import Derived.Lib.LaidTab
namespace Go.Proofs.Ytbigkcemcdokaaa
open Go.RowKit

/-- In world w the slice v holds the numbers xs, in a block below B. -/
def IRest (B : Nat) (w : World) (xs : List Int) (v : Value) : Prop :=
  ∃ (a : Option Addr) (cap : Nat), v = .slice a xs.length cap ∧ xs.length ≤ cap ∧ cap ≤ maxLen ∧ (∀ x, x ∈ xs → I64 x) ∧
    (xs.length = 0 ∨ ∃ b off, a = some ⟨b, off, none⟩ ∧ b < B ∧ ∀ i (h : i < xs.length), w.cell? ⟨b, off + i, none⟩ = some (.int .i64 xs[i]))
theorem IRest.stays {B : Nat} {w w' : World} {xs : List Int} {v : Value} (h : IRest B w xs v) (hb : Below B w w') : IRest B w' xs v := by
  obtain ⟨a, cap, h1, h2, h3, h4, h5⟩ := h
  refine ⟨a, cap, h1, h2, h3, h4, ?_⟩
  rcases h5 with h0 | ⟨b, off, ha, hl, hc⟩
  · exact .inl h0
  · exact .inr ⟨b, off, ha, hl, fun i hi => (hb.cell (p := ⟨b, off + i, none⟩) hl).trans (hc i hi)⟩
theorem IRest.mono {B B' : Nat} {w : World} {xs : List Int} {v : Value} (h : IRest B w xs v) (hb : B ≤ B') : IRest B' w xs v := by
  obtain ⟨a, cap, h1, h2, h3, h4, h5⟩ := h
  refine ⟨a, cap, h1, h2, h3, h4, ?_⟩
  rcases h5 with h0 | ⟨b, off, ha, hl, hc⟩
  · exact .inl h0
  · exact .inr ⟨b, off, ha, by omega, hc⟩
theorem IRest.keep {w w' : World} {xs : List Int} {v : Value} (h : IRest w.heap.size w xs v) (hb : Below w.heap.size w w') : IRest w'.heap.size w' xs v := (h.stays hb).mono hb.size
theorem irest_nil (B : Nat) (w : World) : IRest B w [] (.slice none 0 0) := ⟨none, 0, rfl, by simp, by simp [maxLen], by simp, .inl rfl⟩

/-- In world w the slice v holds the points l, in a block below B. -/
def PRest (B : Nat) (w : World) (l : List (Int × Int)) (v : Value) : Prop :=
  ∃ (a : Option Addr) (cap : Nat), v = .slice a l.length cap ∧ l.length ≤ cap ∧ cap ≤ maxLen ∧ (∀ p, p ∈ l → I64 p.1 ∧ I64 p.2) ∧
    (l.length = 0 ∨ ∃ b off, a = some ⟨b, off, none⟩ ∧ b < B ∧ ∀ i (h : i < l.length), w.cell? ⟨b, off + i * 2, none⟩ = some (.int .i64 l[i].1) ∧ w.cell? ⟨b, off + i * 2 + 1, none⟩ = some (.int .i64 l[i].2))
theorem PRest.stays {B : Nat} {w w' : World} {l : List (Int × Int)} {v : Value} (h : PRest B w l v) (hb : Below B w w') : PRest B w' l v := by
  obtain ⟨a, cap, h1, h2, h3, h4, h5⟩ := h
  refine ⟨a, cap, h1, h2, h3, h4, ?_⟩
  rcases h5 with h0 | ⟨b, off, ha, hl, hc⟩
  · exact .inl h0
  · exact .inr ⟨b, off, ha, hl, fun i hi => ⟨(hb.cell (p := ⟨b, off + i * 2, none⟩) hl).trans (hc i hi).1, (hb.cell (p := ⟨b, off + i * 2 + 1, none⟩) hl).trans (hc i hi).2⟩⟩
theorem PRest.mono {B B' : Nat} {w : World} {l : List (Int × Int)} {v : Value} (h : PRest B w l v) (hb : B ≤ B') : PRest B' w l v := by
  obtain ⟨a, cap, h1, h2, h3, h4, h5⟩ := h
  refine ⟨a, cap, h1, h2, h3, h4, ?_⟩
  rcases h5 with h0 | ⟨b, off, ha, hl, hc⟩
  · exact .inl h0
  · exact .inr ⟨b, off, ha, by omega, hc⟩
theorem PRest.keep {w w' : World} {l : List (Int × Int)} {v : Value} (h : PRest w.heap.size w l v) (hb : Below w.heap.size w w') : PRest w'.heap.size w' l v := (h.stays hb).mono hb.size
theorem prest_nil (B : Nat) (w : World) : PRest B w [] (.slice none 0 0) := ⟨none, 0, rfl, by simp, by simp [maxLen], by simp, .inl rfl⟩

/-- the sum of the first k numbers, modulo Q -/
def sumK (l : List Int) : Nat → Int
  | 0 => 0
  | k + 1 => (sumK l k + l.getD k 0) % 1073741789
theorem sumK_rng (l : List Int) : ∀ k, 0 ≤ sumK l k ∧ sumK l k < 1073741789
  | 0 => by simp [sumK]
  | k + 1 => mod_rng _
theorem sumK_two (x y : Int) : sumK [x, y] 2 = (x + y) % 1073741789 := by
  simp [sumK]
def SumHead (l : List Int) (w : World) (s2 s7 : Value) (wr : World) : Prop := ∃ k : Nat, k ≤ l.length ∧ s2 = .int .i64 (sumK l k) ∧ s7 = .int .i64 (k : Int) ∧ wr = w
set_option maxHeartbeats 1000000 in
set_option maxRecDepth 100000 in
theorem sum_call (xs : List Int) (v : Value) (B : Nat) (w : World) (h : IRest B w xs v) :
    Calls Try.prog 22 #[v] w fun e w' => e = .returned (.int .i64 (sumK xs xs.length)) ∧ w' = w := by
  obtain ⟨a, cap, rfl, hl, hm, hI, hc⟩ := h
  have HC : Hid (∀ i (h : i < xs.length), I64 (xs.getD i 0) ∧ ∃ b off, a = some ⟨b, off, none⟩ ∧ w.cell? ⟨b, off + i, none⟩ = some (.int .i64 (xs.getD i 0))) := Lib.hid (fun i hi => by
    have e : xs.getD i 0 = xs[i] := by simp [hi]
    rw [e]
    refine ⟨hI _ (List.getElem_mem hi), ?_⟩
    rcases hc with hc | ⟨b, off, rfl, _, hc⟩
    · omega
    · exact ⟨b, off, rfl, hc i hi⟩)
  unfold maxLen at hm
  obtain ⟨m, hm2⟩ : ∃ m, m = xs.length := ⟨_, rfl⟩
  have HM := Lib.hid hm2
  rw [← hm2] at HC hl ⊢
  have HL := Lib.hid hl
  have HMX := Lib.hid (show (m : Int) ≤ 9223372036854775807 by omega)
  clear hc hm2 hI hl hm
  go_enter Try.func22, Try.ntmps22
  go_wp2_with fail
  go_loopw [2, 7] (fun s2 s7 wr => SumHead xs w s2 s7 wr) (fun _ s7 _ => m - (intOf s7).toNat)
  case atStart => exact ⟨0, by omega, rfl, rfl, rfl⟩
  case round =>
    obtain ⟨k, hk, rfl, rfl, rfl⟩ := hrel
    rw [← HM.out] at hk
    rcases Nat.lt_or_ge k m with hlt | hge
    · obtain ⟨hx, b, off, rfl, hcu⟩ := HC.out k hlt
      have HS : Hid (sumK xs (k + 1) = (sumK xs k + xs.getD k 0) % 1073741789) := Lib.hid rfl
      have hki : (k : Int) < (m : Int) := by omega
      have hmx := HMX.out
      have HR := Lib.hid (sumK_rng xs k)
      generalize xs.getD k 0 = x at *
      generalize sumK xs k = y at *
      have hw : wrap64 (y + x % 1073741789) = y + x % 1073741789 := by have := HR.out; have := mod_rng x; unfold wrap64; omega
      have hI2 : I64 (y + x % 1073741789) := by have := HR.out; have := mod_rng x; exact ⟨by omega, by omega⟩
      have HE := Lib.hid (show (y + x % 1073741789) % 1073741789 = (y + x) % 1073741789 by omega)
      go_wp2_with fail
      refine (mod_call x _ hx).mono ?_
      rintro e w1 ⟨rfl, rfl⟩
      go_wp2_with fail
      refine (mod_call _ _ hI2).mono ?_
      rintro e w1 ⟨rfl, rfl⟩
      go_wp2_with fail
      exact ⟨⟨k + 1, by rw [← HM.out]; omega, by first | rw [HS.out] | rw [HS.out, HE.out], by go_num, rfl⟩, by simp [intOf]; omega⟩
    · obtain rfl : k = m := by omega
      go_wp2_with fail
      go_ret
      exact ⟨rfl, rfl⟩
/-- the sum of two numbers, in a block of the call's own -/
theorem sum_two (x y : Int) (b : Nat) (w : World) (hx : I64 x) (hy : I64 y) (h0 : w.cell? ⟨b, 0, none⟩ = some (.int .i64 x)) (h1 : w.cell? ⟨b, 1, none⟩ = some (.int .i64 y)) :
    Calls Try.prog 22 #[.slice (some ⟨b, 0, none⟩) 2 2] w fun e w' => e = .returned (.int .i64 ((x + y) % 1073741789)) ∧ w' = w := by
  rw [← sumK_two]
  refine sum_call [x, y] _ (b + 1) w ⟨some ⟨b, 0, none⟩, 2, rfl, by simp, by simp [maxLen], by simp [hx, hy], .inr ⟨b, 0, rfl, by omega, fun i hi => ?_⟩⟩
  match i, hi with
  | 0, _ => exact h0
  | 1, _ => exact h1
set_option maxRecDepth 100000 in
theorem add_call (a b : Int) (w : World) (ha : I64 a) (hb : I64 b) :
    Calls Try.prog 12 #[.int .i64 a, .int .i64 b] w fun e w' => e = .returned (.int .i64 ((a + b) % 1073741789)) ∧ Below w.heap.size w w' := by
  have HB := Lib.hid (Joins.below_alloc1 w (.cells #[.int .i64 a, .int .i64 b] 3))
  go_enter Try.func12, Try.ntmps12
  go_wp2_with fail
  refine (sum_two a b _ _ ha hb (by simp) (by simp)).mono ?_
  rintro e w1 ⟨rfl, rfl⟩
  go_wp2_with fail
  go_ret
  exact ⟨rfl, HB.out⟩
theorem i64_neg (b : Int) : I64 (-(b % 1073741789)) := by have := mod_rng b; exact ⟨by omega, by omega⟩
set_option maxRecDepth 100000 in
theorem difference_call (a b : Int) (w : World) (ha : I64 a) (hb : I64 b) :
    Calls Try.prog 28 #[.int .i64 a, .int .i64 b] w fun e w' => e = .returned (.int .i64 ((a - b) % 1073741789)) ∧ Below w.heap.size w w' := by
  have hw : wrap64 (-(b % 1073741789)) = -(b % 1073741789) := by have := mod_rng b; unfold wrap64; omega
  have HB := Lib.hid (Joins.below_alloc1 w (.cells #[.int .i64 a, .int .i64 (-(b % 1073741789))] 3))
  have HE := Lib.hid (show (a + -(b % 1073741789)) % 1073741789 = (a - b) % 1073741789 by omega)
  go_enter Try.func28, Try.ntmps28
  go_wp2_with fail
  refine (mod_call b _ hb).mono ?_
  rintro e w1 ⟨rfl, rfl⟩
  go_wp2_with fail
  refine (sum_two a (-(b % 1073741789)) _ _ ha (i64_neg b) (by simp) (by simp)).mono ?_
  rintro e w1 ⟨rfl, rfl⟩
  go_wp2_with fail
  go_ret
  exact ⟨ret_i64 HE.out, HB.out⟩
end Go.Proofs.Ytbigkcemcdokaaa
