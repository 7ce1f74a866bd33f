/- A token's text, digit by digit: the law's own function. -/
import Derived.Test.YtilpcchcccbfcaaDoorDe
import Derived.Test.YtilpcchcccbfcaaDoorPm
namespace Go.Proofs.YtilpcchcccbfcaaDoor
open Go.RowKit

theorem dec_split (n : Nat) : Lib.decDigits n = (if n < 10 then [] else Lib.decDigits (n / 10)) ++ [UInt8.ofNat (48 + n % 10)] := front_all n
def SpHead (n0 : Nat) (w : World) (s3 s4 : Value) (wr : World) : Prop := ∃ (n : Nat) (S : ByteArray), s4 = .int .i64 (n : Int) ∧ n ≤ n0 ∧ s3 = .string S ∧ Lib.decDigits n0 = Lib.decDigits n ++ bs S ∧ Below w.heap.size w wr
set_option maxHeartbeats 4000000 in
set_option maxRecDepth 100000 in
theorem spelled_num (x : List UInt8) (n0 : Nat) (p : Int) (w : World) (hn : n0 ≤ 1099511627776) :
    Calls Tryd.prog 23 #[tokOf ⟨2, x, (n0 : Int), p⟩] w fun e w' => e = .returned (str (Lib.itoa n0)) ∧ Below w.heap.size w w' := by
  have HI : Hid (str (Lib.itoa n0) = .string ⟨(Lib.decDigits n0).toArray⟩) := Lib.hid (by rw [Lib.itoa_nonneg]; rfl)
  unfold tokOf tokCells
  unfold str at HI ⊢
  go_enter Tryd.func23, Tryd.ntmps23
  go_wp2_with fail
  go_loopw [3, 4] (fun s3 s4 wr => SpHead n0 w s3 s4 wr) (fun _ s4 _ => (intOf s4).toNat)
  case atStart => exact ⟨n0, ⟨#[]⟩, rfl, Nat.le_refl _, rfl, by simp [bs], Joins.below_alloc1 w _⟩
  case round =>
    obtain ⟨n, S, rfl, hn2, rfl, hdg, hb⟩ := hrel
    have HB := Lib.hid hb
    have HG := Lib.hid hdg
    have hS : S.size ≤ 21 := by
      have h1 := congrArg List.length hdg
      rw [List.length_append, ← Lib.size_eq] at h1
      have h2 := Lib.itoa_length_le (n0 : Int) (by omega) (by omega)
      rw [Lib.itoa_nonneg] at h2
      omega
    clear hb hdg
    have hc := conv_dig _ _ (dig_nat n) wr
    have HF := Lib.hid (dec_split n)
    generalize UInt8.ofNat (48 + n % 10) = c at hc HF
    by_cases h10 : n < 10
    · have h10i : (n : Int) < 10 := by omega
      go_wp2_with fail
      go_ret
      refine ⟨?_, below_next HB.out (Joins.below_alloc1 _ _)⟩
      have h := HG.out
      rw [HF.out, if_pos h10, List.nil_append] at h
      rw [HI.out, h]
      congr 2
    · have h10i : ¬ (n : Int) < 10 := by omega
      go_wp2_with fail
      refine ⟨⟨n / 10, ⟨#[c]⟩ ++ S, by go_num, by omega, rfl, ?_, below_next HB.out (Joins.below_alloc1 _ _)⟩, by simp [intOf]; omega⟩
      have h := HG.out
      rw [HF.out, if_neg h10] at h
      rw [h, bs_one, List.append_assoc]; rfl

set_option maxHeartbeats 4000000 in
set_option maxRecDepth 100000 in
theorem spelled_text (t : Tok) (w : World) (h : ¬ t.kind = 2) :
    Calls Tryd.prog 23 #[tokOf t] w fun e w' => e = .returned (str t.text) ∧ Below w.heap.size w w' := by
  unfold tokOf tokCells
  go_enter Tryd.func23, Tryd.ntmps23
  go_wp2_with fail
  go_ret
  exact ⟨rfl, Joins.below_alloc1 w _⟩
theorem spelled_call (t : Tok) (w : World) (h0 : 0 ≤ t.n) (h1 : t.n ≤ 1099511627776) :
    Calls Tryd.prog 23 #[tokOf t] w fun e w' => e = .returned (str (wordT t)) ∧ Below w.heap.size w w' := by
  unfold wordT
  by_cases hk : t.kind = 2
  · rw [if_pos hk]
    obtain ⟨kd, x, n, p⟩ := t
    obtain ⟨n0, rfl⟩ : ∃ n0 : Nat, n = n0 := ⟨n.toNat, by simp only at h0; omega⟩
    obtain rfl : kd = 2 := hk
    exact spelled_num x n0 p w (by simp only at h1; omega)
  · rw [if_neg hk]; exact spelled_text t w hk
end Go.Proofs.YtilpcchcccbfcaaDoor
