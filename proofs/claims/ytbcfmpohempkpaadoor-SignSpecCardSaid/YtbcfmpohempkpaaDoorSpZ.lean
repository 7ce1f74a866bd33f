/- SignSpec: the law's walk. -/
import Derived.Test.YtbcfmpohempkpaaDoorSwZ
namespace Go.Proofs.YtbcfmpohempkpaaDoor.Dig
open Go.RowKit

theorem signT_some (secret : Int) (b : List UInt8) : ∃ A B C : Int, signT secret b = .tuple #[sgV A B, .int .i64 C] := by
  unfold signT
  split
  · exact ⟨_, _, _, rfl⟩
  · exact ⟨_, _, _, rfl⟩
set_option maxHeartbeats 8000000 in
set_option maxRecDepth 100000 in
theorem spec_walk (secret key : Int) (b : List UInt8) (v : Value) (E S : Int) (w : World) (hs : I64 secret) (hk : I64 key) (hE : I64 E) (hS : I64 S) (hr : Rest w.heap.size w b v) (hT : Tab w) :
    Calls Tryd.prog 3 #[.int .i64 secret, .int .i64 key, v, sgV E S] w fun e w' => e = .returned (.bool true) ∧ Below w.heap.size w w' := by
  obtain ⟨W0, hW0⟩ : ∃ W, W = w.alloc (.cells #[.int .i64 E, .int .i64 S] 24) := ⟨_, rfl⟩
  have HB0 : Hid (Below w.heap.size w W0) := Lib.hid (by rw [hW0]; exact Joins.below_alloc1 _ _)
  have R0 : Hid (Row W0 w.heap.size 24 [.int .i64 E, .int .i64 S]) := Lib.hid (by rw [hW0]; exact row_new w _ _)
  have HT := Lib.hid (hT.keep HB0.out)
  have HR := Lib.hid (rest_keep hr HB0.out)
  have HSN := Lib.hid (sane_call _ HT.out)
  obtain ⟨va, vc, rfl⟩ : ∃ a cap, v = .slice a b.length cap := by obtain ⟨a, cap, h, _⟩ := hr; exact ⟨a, cap, h⟩
  obtain ⟨ln, hln⟩ : ∃ ln, ln = b.length := ⟨_, rfl⟩
  have HLN := Lib.hid hln
  have hlm : (ln : Int) ≤ 9223372036854775807 := by
    obtain ⟨_, _, h, h1, h2, _⟩ := hr
    unfold maxLen at h2
    injection h with _ h3 h4
    omega
  rw [← hln]
  clear hr hT hln
  by_cases h1 : (600 : Int) < (ln : Int)
  · go_enter Tryd.func3, Tryd.ntmps3
    go_wp2_with fail
    rw [← hW0]
    refine HSN.out.mono ?_
    rintro e w1 ⟨rfl, hb1⟩
    go_wp2_with fail
    go_ret
    exact ⟨rfl, below_next HB0.out hb1⟩
  · obtain ⟨A, B, C, hABC⟩ := signT_some secret b
    have HS1 : Hid (∀ W, Below W0.heap.size W0 W → Calls Tryd.prog 8 #[.int .i64 secret, .slice va ln vc] W fun e w' => e = .returned (.tuple #[sgV A B, .int .i64 C]) ∧ Below W.heap.size W w') := Lib.hid (fun W hW => by
      have := Sign_call secret b (.slice va b.length vc) W hs (by rw [← HLN.out]; omega) (rest_keep HR.out hW) (HT.out.keep hW)
      rwa [← HLN.out, hABC] at this)
    have HS2 : Hid (∀ W, Below W0.heap.size W0 W → Calls Tryd.prog 9 #[.int .i64 secret, .slice va ln vc] W fun e w' => e = .returned (.tuple #[sgV A B, .int .i64 C]) ∧ Below W.heap.size W w') := Lib.hid (fun W hW => by
      have := refSign_call secret b (.slice va b.length vc) W (by rw [← HLN.out]; omega) (rest_keep HR.out hW)
      rwa [← HLN.out, hABC] at this)
    have HV1 : Hid (∀ W, Below W0.heap.size W0 W → Calls Tryd.prog 10 #[.int .i64 key, .slice va ln vc, sgV E S] W fun e w' => e = .returned (.bool (verR key b E S)) ∧ Below W.heap.size W w') := Lib.hid (fun W hW => by
      have := Verify_call key b (.slice va b.length vc) E S W hk (by rw [← HLN.out]; omega) (rest_keep HR.out hW) (HT.out.keep hW)
      rwa [← HLN.out] at this)
    have HV2 : Hid (∀ W, Below W0.heap.size W0 W → Calls Tryd.prog 11 #[.int .i64 key, .slice va ln vc, sgV E S] W fun e w' => e = .returned (.bool (verR key b E S)) ∧ Below W.heap.size W w') := Lib.hid (fun W hW => by
      have := refVerify_call key b (.slice va b.length vc) E S W hk (by rw [← HLN.out]; omega) (rest_keep HR.out hW)
      rwa [← HLN.out] at this)
    obtain ⟨r, hr⟩ : ∃ r, r = verR key b E S := ⟨_, rfl⟩
    rw [← hr] at HV1 HV2
    have heq := fun W => eql_sig A B A B W
    rw [show ((A == A) && (B == B)) = true by simp] at heq
    have hgu := fun op x y W => guard_sig op x y A B A B W
    have hcc : (C == C) = true := by simp
    have hrr : (r == r) = true := by simp
    clear hr hABC
    go_enter Tryd.func3, Tryd.ntmps3
    go_wp2_with fail
    rw [← hW0]
    clear hW0
    refine HSN.out.mono ?_
    rintro e w1 ⟨rfl, hb⟩
    have HB1 := Lib.hid hb
    have R1 := Lib.hid (R0.out.keep hb)
    clear hb
    go_wp2_with fail
    refine (HS1.out _ HB1.out).mono ?_
    rintro e w2 ⟨rfl, hb⟩
    have HB2 := Lib.hid (below_next (below_next HB1.out hb) (Joins.below_alloc1 w2 (.cells #[.int .i64 A, .int .i64 B] 24)))
    have R2 := Lib.hid (R1.out.keep (below_next hb (Joins.below_alloc1 w2 (.cells #[.int .i64 A, .int .i64 B] 24))))
    have Q2 := Lib.hid (row_new w2 24 [.int .i64 A, .int .i64 B])
    clear hb
    go_wp2_with fail
    refine (HS2.out _ HB2.out).mono ?_
    rintro e w3 ⟨rfl, hb⟩
    have HB3 := Lib.hid (below_next (below_next HB2.out hb) (Joins.below_alloc1 w3 (.cells #[.int .i64 A, .int .i64 B] 24)))
    have R3 := Lib.hid (R2.out.keep (below_next hb (Joins.below_alloc1 w3 (.cells #[.int .i64 A, .int .i64 B] 24))))
    have Q3 := Lib.hid (Q2.out.keep (below_next hb (Joins.below_alloc1 w3 (.cells #[.int .i64 A, .int .i64 B] 24))))
    have P3 := Lib.hid (row_new w3 24 [.int .i64 A, .int .i64 B])
    clear hb
    go_upto_region 7 with (fail)
    generalize w3.alloc (.cells #[.int .i64 A, .int .i64 B] 24) = W1 at HB3 R3 Q3 P3 ⊢
    have c0 : ∀ W, Below W1.heap.size W1 W → W.cell? ⟨w.heap.size, 0, none⟩ = some (.int .i64 E) := fun W hW => (R3.out.keep hW).cell (i := 0) rfl
    have c1 : ∀ W, Below W1.heap.size W1 W → W.cell? ⟨w.heap.size, 1, none⟩ = some (.int .i64 S) := fun W hW => (R3.out.keep hW).cell (i := 1) rfl
    have d0 : ∀ W, Below W1.heap.size W1 W → W.cell? ⟨w2.heap.size, 0, none⟩ = some (.int .i64 A) := fun W hW => (Q3.out.keep hW).cell (i := 0) rfl
    have d1 : ∀ W, Below W1.heap.size W1 W → W.cell? ⟨w2.heap.size, 1, none⟩ = some (.int .i64 B) := fun W hW => (Q3.out.keep hW).cell (i := 1) rfl
    have k0 : ∀ W, Below W1.heap.size W1 W → W.cell? ⟨w3.heap.size, 0, none⟩ = some (.int .i64 A) := fun W hW => (P3.out.keep hW).cell (i := 0) rfl
    have k1 : ∀ W, Below W1.heap.size W1 W → W.cell? ⟨w3.heap.size, 1, none⟩ = some (.int .i64 B) := fun W hW => (P3.out.keep hW).cell (i := 1) rfl
    go_region_held3 (fun W => Below W1.heap.size W1 W) (first | assumption | exact below_drew (Below.refl _ _)) (first
      | (go_at_call 10; refine (HV1.out _ (below_next HB3.out (by assumption))).mono ?_; rintro e w4 ⟨rfl, hb4⟩; have hB4 : Below W1.heap.size W1 w4 := below_next (by assumption) hb4)
      | (go_at_call 11; refine (HV2.out _ (below_next HB3.out (by assumption))).mono ?_; rintro e w5 ⟨rfl, hb5⟩; have hB5 : Below W1.heap.size W1 w5 := below_next (by assumption) hb5))
    all_goals
      go_wp2_with fail
      go_ret
      exact ⟨ret_bool (by simp), below_next HB0.out (below_next HB3.out (by assumption))⟩
end Go.Proofs.YtbcfmpohempkpaaDoor.Dig
