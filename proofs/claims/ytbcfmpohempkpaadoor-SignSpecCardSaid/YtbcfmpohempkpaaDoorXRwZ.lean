/- The reference's word: four bytes as a number. -/
import Derived.Test.YtbcfmpohempkpaaDoorZc10
namespace Go.Proofs.YtbcfmpohempkpaaDoor.Dig
open Go.RowKit

theorem word_or (x0 x1 x2 x3 : UInt8) : bits .or .u32 (bits .or .u32 (bits .or .u32 ((x0.toNat : Int) % 4294967296 * 16777216 % 4294967296) ((x1.toNat : Int) % 4294967296 * 65536 % 4294967296)) ((x2.toNat : Int) % 4294967296 * 256 % 4294967296)) ((x3.toNat : Int) % 4294967296)
    = (((x0.toNat * 256 + x1.toNat) * 256 + x2.toNat) * 256 + x3.toNat : Nat) := by
  have h0 := x0.toNat_lt
  have h1 := x1.toNat_lt
  have h2 := x2.toNat_lt
  have h3 := x3.toNat_lt
  rw [show (x0.toNat : Int) % 4294967296 * 16777216 % 4294967296 = ((x0.toNat * 16777216 : Nat) : Int) by omega, show (x1.toNat : Int) % 4294967296 * 65536 % 4294967296 = ((x1.toNat * 65536 : Nat) : Int) by omega,
    show (x2.toNat : Int) % 4294967296 * 256 % 4294967296 = ((x2.toNat * 256 : Nat) : Int) by omega, show (x3.toNat : Int) % 4294967296 = ((x3.toNat : Nat) : Int) by omega]
  have e1 : x0.toNat * 16777216 ||| x1.toNat * 65536 = (x0.toNat * 256 + x1.toNat) * 65536 := by
    exact (nat_join 24 (x0.toNat * 16777216) (x1.toNat * 65536) (by omega) (by omega)).trans (by rw [Nat.add_mul, Nat.mul_assoc])
  have e2 : (x0.toNat * 256 + x1.toNat) * 65536 ||| x2.toNat * 256 = ((x0.toNat * 256 + x1.toNat) * 256 + x2.toNat) * 256 := by
    exact (nat_join 16 ((x0.toNat * 256 + x1.toNat) * 65536) (x2.toNat * 256) (by omega) (by omega)).trans (by rw [Nat.add_mul (_ * 256) x2.toNat 256, Nat.mul_assoc])
  have e3 : ((x0.toNat * 256 + x1.toNat) * 256 + x2.toNat) * 256 ||| x3.toNat = ((x0.toNat * 256 + x1.toNat) * 256 + x2.toNat) * 256 + x3.toNat := by
    exact (nat_join 8 (((x0.toNat * 256 + x1.toNat) * 256 + x2.toNat) * 256) x3.toNat (by omega) (by omega)).trans rfl
  rw [u32_or_nat _ _ (by omega) (by omega), e1, u32_or_nat _ _ (by omega) (by omega), e2, u32_or_nat _ _ (by omega) (by omega), e3]

set_option maxHeartbeats 1000000 in
theorem refword_call (l : List UInt8) (i : Nat) (b off cap : Nat) (hcap : 4 ≤ cap) (w : World) (hc : ∀ j, j < 4 → w.cell? ⟨b, off + j, none⟩ = some (.int .u8 ((l.getD (4 * i + j) 0).toNat : Int))) :
    Calls Tryd.prog 86 #[.slice (some ⟨b, off, none⟩) 4 cap] w fun e w' => e = .returned (.int .u32 (pw l i 4 : Int)) ∧ ∃ k, w' = w.drewN k := by
  have c0 := hc 0 (by omega)
  have c1 := hc 1 (by omega)
  have c2 := hc 2 (by omega)
  have c3 := hc 3 (by omega)
  rw [Nat.add_zero, Nat.add_zero] at c0
  obtain ⟨x0, h0⟩ : ∃ x, x = (l.getD (4 * i) 0) := ⟨_, rfl⟩
  obtain ⟨x1, h1⟩ : ∃ x, x = (l.getD (4 * i + 1) 0) := ⟨_, rfl⟩
  obtain ⟨x2, h2⟩ : ∃ x, x = (l.getD (4 * i + 2) 0) := ⟨_, rfl⟩
  obtain ⟨x3, h3⟩ : ∃ x, x = (l.getD (4 * i + 3) 0) := ⟨_, rfl⟩
  rw [← h0] at c0
  rw [← h1] at c1
  rw [← h2] at c2
  rw [← h3] at c3
  have HP : Hid (pw l i 4 = ((x0.toNat * 256 + x1.toNat) * 256 + x2.toNat) * 256 + x3.toNat) := by rw [h0, h1, h2, h3]; exact Lib.hid (by simp [pw])
  clear hc h0 h1 h2 h3
  go_enter Tryd.func86, Tryd.ntmps86
  go_wp2
  go_quiet (fail)
  go_wp2
  go_ret
  exact ⟨ret_u32 (by rw [word_or, HP.out]), _, rfl⟩
end Go.Proofs.YtbcfmpohempkpaaDoor.Dig
