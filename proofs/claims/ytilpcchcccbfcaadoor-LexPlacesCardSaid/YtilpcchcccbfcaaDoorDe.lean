/- A number's text: the reference's function. -/
import Derived.Test.YtilpcchcccbfcaaDoorRn
import Derived.Test.YtilpcchcccbfcaaDoorP
import Derived.BigQuiet
import Derived.Lib.ItoaLen
import Derived.Test.YtilpcchcccbfcaaDoorWr
namespace Go.Proofs.YtilpcchcccbfcaaDoor
open Go.RowKit

/-- the digits in front of the last one -/
def front (n : Nat) : List UInt8 := if n < 10 then [] else Lib.decDigits (n / 10)
def DeHead (n0 : Nat) (w : World) (s0 s3 : Value) (wr : World) : Prop := ∃ (n : Nat) (S : ByteArray), s0 = .int .i64 (n : Int) ∧ n ≤ n0 ∧ s3 = .string S ∧ Lib.decDigits n0 = front n ++ bs S ∧ Below w.heap.size w wr
theorem conv_dig (m : Int) (c : UInt8) (h : m = (c.toNat : Int)) (W : World) : (convert 39 9 (.slice (some ⟨W.heap.size, 0, none⟩) 1 1)).run Tryd.prog (W.alloc (.cells #[.int .u8 m] 5)) = .ok (.string ⟨#[c]⟩) (W.alloc (.cells #[.int .u8 m] 5)) := by
  refine run_convert_bytes_back _ 39 9 5 ⟨W.heap.size, 0, none⟩ 1 [c] Tryd.underlying39 Tryd.underlying5 Tryd.underlying9 (fun j hj => ?_)
  obtain rfl : j = 0 := by simp at hj; exact hj
  subst h
  exact (row_new W 5 [.int .u8 (c.toNat : Int)]).cell (i := 0) rfl
theorem dig_nat (n : Nat) : (48 : Int) + (n : Int) % 10 = ((UInt8.ofNat (48 + n % 10)).toNat : Int) := by
  rw [UInt8.toNat_ofNat_of_lt' (by show 48 + n % 10 < 256; omega)]; omega
theorem front_all (n : Nat) : Lib.decDigits n = front n ++ [UInt8.ofNat (48 + n % 10)] := by
  unfold front
  by_cases h : n < 10
  · rw [if_pos h, Lib.decDigits, dif_pos h, Nat.mod_eq_of_lt h]; rfl
  · rw [if_neg h]; conv => lhs; rw [Lib.decDigits, dif_neg h]
theorem bs_one (c : UInt8) (S : ByteArray) : bs (⟨#[c]⟩ ++ S) = c :: bs S := by rw [bs_append]; rfl
set_option maxHeartbeats 4000000 in
set_option maxRecDepth 100000 in
theorem refdec_call (n0 : Nat) (w : World) (hn : n0 ≤ 1099511627776) :
    Calls Tryd.prog 35 #[.int .i64 (n0 : Int)] w fun e w' => e = .returned (str (Lib.itoa n0)) ∧ Below w.heap.size w w' := by
  have hc := conv_dig _ _ (dig_nat n0) w
  have HF := Lib.hid (front_all n0)
  have HI : Hid (str (Lib.itoa n0) = .string ⟨(Lib.decDigits n0).toArray⟩) := Lib.hid (by rw [Lib.itoa_nonneg]; rfl)
  generalize UInt8.ofNat (48 + n0 % 10) = c at hc HF
  go_enter Tryd.func35, Tryd.ntmps35
  go_wp2_with fail
  go_loopw [0, 3] (fun s0 s3 wr => DeHead n0 w s0 s3 wr) (fun s0 _ _ => (intOf s0).toNat)
  case atStart => exact ⟨n0, ⟨#[c]⟩, rfl, Nat.le_refl _, rfl, HF.out, Joins.below_alloc1 w _⟩
  case round =>
    obtain ⟨n, S, rfl, hn2, rfl, hdg, hb⟩ := hrel
    have HB := Lib.hid hb
    have HG := Lib.hid hdg
    have hS : S.size ≤ 21 := by
      have h1 := congrArg List.length hdg
      rw [List.length_append, ← Lib.size_eq] at h1
      have h2 := Lib.itoa_length_le (n0 : Int) (by omega) (by omega)
      rw [Lib.itoa_nonneg] at h2
      omega
    clear hb hdg hc
    by_cases h10 : n < 10
    · have h10i : ¬ (10 : Int) ≤ (n : Int) := by omega
      go_wp2_with fail
      go_ret
      refine ⟨?_, HB.out⟩
      have h := HG.out
      rw [front, if_pos h10, List.nil_append] at h
      rw [HI.out, h]
      rfl
    · have h10i : (10 : Int) ≤ (n : Int) := by omega
      have hc2 := conv_dig _ _ (dig_nat (n / 10)) wr
      rw [show ((n / 10 : Nat) : Int) = (n : Int) / 10 by omega] at hc2
      have HF2 := Lib.hid (front_all (n / 10))
      generalize UInt8.ofNat (48 + n / 10 % 10) = c2 at hc2 HF2
      go_wp2_with fail
      refine ⟨⟨n / 10, ⟨#[c2]⟩ ++ S, by go_num, by omega, rfl, ?_, below_next HB.out (Joins.below_alloc1 _ _)⟩, by simp [intOf]; omega⟩
      have h := HG.out
      rw [front, if_neg h10, HF2.out] at h
      rw [h, bs_one, List.append_assoc]; rfl
end Go.Proofs.YtilpcchcccbfcaaDoor
