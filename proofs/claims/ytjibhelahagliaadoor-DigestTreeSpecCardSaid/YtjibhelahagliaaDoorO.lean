/- How many elements are in the first part, and how long a path is: the program's functions, the specification's and the statements'. -/
import Derived.Test.YtjibhelahagliaaDoorL
import Derived.Test.YtjibhelahagliaaDoorN
import Derived.Test.YtjibhelahagliaaDoorA
import Derived.IntWalk
namespace Go.Proofs.YtjibhelahagliaaDoor
open Go.RowKit

set_option maxHeartbeats 400000 in
theorem len_call (x : Int) (w : World) (h0 : 0 ≤ x) (h1 : x ≤ 18446744073709551615) :
    Calls Tryd.prog 54 #[.int .u64 x] w fun e w' => e = .returned (.int .i64 (Lib.bitLen x.toNat)) ∧ w = w' := by
  go_enter Tryd.func54, Tryd.ntmps54
  go_wp2_with (go_at_call 57; refine (len64_call _ _ h0 h1).mono ?_; rintro e w' ⟨rfl, rfl⟩)
  go_ret
  exact ⟨rfl, rfl⟩

theorem len_call2 (x L : Nat) (hL : L = Lib.bitLen x) (w : World) (h1 : x ≤ 18446744073709551615) :
    Calls Tryd.prog 54 #[.int .u64 (x : Int)] w fun e w' => e = .returned (.int .i64 (L : Int)) ∧ w = w' := by
  have h := len_call (x : Int) w (by omega) (by omega)
  rw [Int.toNat_natCast, ← hL] at h
  exact h
theorem hf_le_pow {n : Nat} (h1 : 2 ≤ n) (h2 : n ≤ 2199023255552) : hf n ≤ 1099511627776 := by
  obtain ⟨a, b, j, c⟩ := hf_spec n h1
  have : 2 ^ j < 2 ^ 41 := by rw [← c]; omega
  have := (Nat.pow_lt_pow_iff_right (a := 2) (by omega)).1 this
  rw [c]
  exact Nat.pow_le_pow_right (n := 2) (by omega) (show j ≤ 40 by omega)

set_option maxHeartbeats 400000 in
theorem first_call (n : Nat) (w : World) (h1 : 2 ≤ n) (h2 : n ≤ 2199023255552) :
    Calls Tryd.prog 36 #[.int .i64 (n : Int)] w fun e w' => e = .returned (.int .i64 (hf n)) ∧ w = w' := by
  have hb := hf_bits n h1 (by omega)
  obtain ⟨b1, b2, b3⟩ := bitLen_spec (n - 1) (by omega) (by omega)
  have hl : Lib.bitLen (n - 1) ≤ 64 := Lib.bitLen_le _ 64 (by omega) (by omega)
  have hx : ((n : Int) - 1).toNat = n - 1 := by omega
  obtain ⟨L, hL⟩ : ∃ L, L = Lib.bitLen (n - 1) := ⟨_, rfl⟩
  rw [← hL] at hb b1 hl
  have HB := Lib.hid hb
  have HL := Lib.hid hL
  have hc : IntKind.u64.wrap ((n : Int) - 1) = ((n - 1 : Nat) : Int) := by rw [IntKind.wrap_u64]; omega
  clear hb hL b2 b3
  go_enter Tryd.func36, Tryd.ntmps36
  go_wp2_with (go_at_call 54; refine (len_call2 (n - 1) L HL.out _ (by omega)).mono ?_; rintro e w' ⟨rfl, rfl⟩)
  go_ret
  have hp : (2 : Int) ^ (L - 1) = (hf n : Int) := by rw [← HB.out]; simp
  have hle := hf_le_pow h1 h2
  exact ⟨ret_i64 (by rw [hp]; unfold wrap64; omega), rfl⟩

def HalfHead (n : Nat) (s3 : Value) : Prop := ∃ k j : Nat, k = 2 ^ j ∧ 1 ≤ k ∧ k < n ∧ s3 = .int .i64 (k : Int)

set_option maxHeartbeats 400000 in
theorem half_call (n : Nat) (w : World) (h1 : 2 ≤ n) (h2 : n ≤ 2199023255552) :
    Calls Tryd.prog 38 #[.int .i64 (n : Int)] w fun e w' => e = .returned (.int .i64 (hf n)) ∧ w = w' := by
  go_enter Tryd.func38, Tryd.ntmps38
  go_wp2
  go_loop [3] (fun s3 => HalfHead n s3) (fun s3 => n - (intOf s3).toNat)
  case atStart => exact ⟨1, 0, rfl, by omega, by omega, rfl⟩
  case round =>
    obtain ⟨k, j, hk, h3, h4, rfl⟩ := hrel
    have HK := Lib.hid hk
    clear hk
    rcases Nat.lt_or_ge (2 * k) n with hlt | hge
    · go_wp2
      go_round
      case rel => exact ⟨2 * k, j + 1, by rw [HK.out, Nat.pow_succ]; omega, by omega, by omega, by go_num⟩
      case measure => simp [intOf]; omega
    · have hd : ¬ ((2 : Int) * k < n) := by omega
      go_wp2
      go_ret
      exact ⟨ret_i64 (by rw [hf_unique h1 HK.out h4 hge]), rfl⟩

def PathHead (k n : Nat) (s0 s1 s4 : Value) : Prop := ∃ a m c : Nat, s0 = .int .i64 (a : Int) ∧ s1 = .int .i64 (m : Int) ∧ s4 = .int .i64 (c : Int) ∧ 1 ≤ m ∧ a < m ∧ m ≤ 1099511627776 ∧ c + steps a m = steps k n

set_option maxHeartbeats 1000000 in
theorem pathLen_call (k n : Nat) (w : World) (h1 : k < n) (h2 : n ≤ 1099511627776) :
    Calls Tryd.prog 42 #[.int .i64 (k : Int), .int .i64 (n : Int)] w fun e w' => e = .returned (.int .i64 (steps k n)) ∧ w = w' := by
  have hsl : steps k n ≤ 40 := steps_le 40 k n (by omega)
  go_enter Tryd.func42, Tryd.ntmps42
  go_wp2
  go_loop [0, 1, 4] (fun s0 s1 s4 => PathHead k n s0 s1 s4) (fun _ s1 _ => (intOf s1).toNat)
  case atStart => exact ⟨k, n, 0, rfl, rfl, rfl, by omega, h1, h2, by omega⟩
  case round =>
    obtain ⟨a, m, c, rfl, rfl, rfl, hm, ha, hm2, hc⟩ := hrel
    have hcb : c ≤ 40 := by omega
    have HC := Lib.hid hc
    clear hc
    rcases Nat.lt_or_ge 1 m with hlt | hge
    · have hf1 := hf_lt (n := m) hlt
      have hf2 := hf_pos (n := m) hlt
      obtain ⟨q, hq⟩ : ∃ q, q = hf m := ⟨_, rfl⟩
      rw [← hq] at hf1 hf2
      have HQ := Lib.hid hq
      have hfc := first_call m w hlt (by omega)
      rw [← hq] at hfc
      have HFC := Lib.hid hfc
      clear hq hfc
      rcases Nat.lt_or_ge a q with hl | hg
      · go_wp2_with (go_at_call 36; refine HFC.out.mono ?_; rintro e w' ⟨rfl, rfl⟩)
        go_round
        case rel => exact ⟨a, q, c + 1, rfl, rfl, by go_num, by omega, by omega, by omega, by have h := HC.out; rw [steps_l a m hlt (by rw [← HQ.out]; exact hl), ← HQ.out] at h; omega⟩
        case measure => simp [intOf]; omega
      · have hd : ¬ ((a : Int) < q) := by omega
        go_wp2_with (go_at_call 36; refine HFC.out.mono ?_; rintro e w' ⟨rfl, rfl⟩)
        go_round
        case rel => exact ⟨a - q, m - q, c + 1, by go_num, by go_num, by go_num, by omega, by omega, by omega, by have h := HC.out; rw [steps_r a m hlt (by rw [← HQ.out]; omega), ← HQ.out] at h; omega⟩
        case measure => simp [intOf]; omega
    · obtain rfl : m = 1 := by omega
      go_wp2
      go_ret
      exact ⟨ret_i64 (by have h := HC.out; rw [steps_1 a 1 (by omega)] at h; omega), rfl⟩
end Go.Proofs.YtjibhelahagliaaDoor
