/- How many steps an index has from the root: the laws' function. -/
import Derived.Test.YtjibhelahagliaaDoorDg
namespace Go.Proofs.YtjibhelahagliaaDoor
open Go.RowKit

def StHead (k n : Nat) (s0 s1 s5 : Value) : Prop := ∃ a m c : Nat, s0 = .int .i64 (a : Int) ∧ s1 = .int .i64 (m : Int) ∧ s5 = .int .i64 (c : Int) ∧ 1 ≤ m ∧ a < m ∧ m ≤ 1099511627776 ∧ c + steps a m = steps k n
def DblHead (m : Nat) (s6 : Value) : Prop := ∃ q j : Nat, q = 2 ^ j ∧ 1 ≤ q ∧ q < m ∧ s6 = .int .i64 (q : Int)

set_option maxHeartbeats 1000000 in
theorem steps_call (k n : Nat) (w : World) (h1 : k < n) (h2 : n ≤ 1099511627776) :
    Calls Tryd.prog 24 #[.int .i64 (k : Int), .int .i64 (n : Int)] w fun e w' => e = .returned (.int .i64 (steps k n)) ∧ w = w' := by
  have hsl : steps k n ≤ 40 := steps_le 40 k n (by omega)
  go_enter Tryd.func24, Tryd.ntmps24
  go_wp2
  go_loop [0, 1, 5] (fun s0 s1 s5 => StHead k n s0 s1 s5) (fun _ s1 _ => (intOf s1).toNat)
  case atStart => exact ⟨k, n, 0, rfl, rfl, rfl, by omega, h1, h2, by omega⟩
  case round =>
    obtain ⟨a, m, c, rfl, rfl, rfl, hm, ha, hm2, hc⟩ := hrel
    have hcb : c ≤ 40 := by omega
    have HC := Lib.hid hc
    clear hc
    rcases Nat.lt_or_ge 1 m with hlt | hge
    · go_wp2
      go_loop [6] (fun s6 => DblHead m s6) (fun s6 => m - (intOf s6).toNat)
      case atStart => exact ⟨1, 0, rfl, by omega, hlt, by go_num⟩
      case round =>
        obtain ⟨q, j, hq, hq1, hqm, rfl⟩ := hrel
        have HQ := Lib.hid hq
        clear hq
        rcases Nat.lt_or_ge (2 * q) m with hl | hg
        · go_wp2
          go_round
          case rel => exact ⟨2 * q, j + 1, by rw [HQ.out, Nat.pow_succ]; omega, by omega, by omega, by go_num⟩
          case measure => simp [intOf]; omega
        · have hd : ¬ ((2 : Int) * q < m) := by omega
          have HF := Lib.hid (hf_unique (n := m) (by omega) HQ.out hqm hg)
          rcases Nat.lt_or_ge a q with hl | hg2
          · go_wp2
            exact ⟨⟨a, q, c + 1, rfl, rfl, by go_num, by omega, by omega, by omega, by have h := HC.out; rw [steps_l a m hlt (by rw [← HF.out]; exact hl), ← HF.out] at h; omega⟩, by simp [intOf]; omega⟩
          · have hd2 : ¬ ((a : Int) < q) := by omega
            go_wp2
            exact ⟨⟨a - q, m - q, c + 1, by go_num, by go_num, by go_num, by omega, by omega, by omega, by have h := HC.out; rw [steps_r a m hlt (by rw [← HF.out]; omega), ← HF.out] at h; omega⟩, by simp [intOf]; omega⟩
    · obtain rfl : m = 1 := by omega
      go_wp2
      go_ret
      exact ⟨ret_i64 (by have h := HC.out; rw [steps_1 a 1 (by omega)] at h; omega), rfl⟩
end Go.Proofs.YtjibhelahagliaaDoor
