/- The statement on numbers, as a walk: for every two numbers the law returns true and changes nothing that was there. -/
import Derived.Test.YtgliddedimpgaaaU
import Derived.Test.YtgliddedimpgaaaX
namespace Go.Proofs.Ytgliddedimpgaaa
open Go.RowKit

theorem code_int (n : Int) : code (.mk 1 n ⟨#[]⟩ []) = 0 := by
  unfold code
  rw [show formed (.mk 1 n ⟨#[]⟩ []) = true by rw [formed]; rfl, if_pos rfl, depth]; rfl
theorem size_int (n : Int) : sizeOfV (.mk 1 n ⟨#[]⟩ []) = ((1 + (num (uns n)).length : Nat) : Int) := by
  rw [sizeOfV, if_pos (code_int n), enc_1, List.length_cons, digits_len, Nat.add_comm]

theorem uns_near (a b : Int) (h : 0 ≤ a ∧ a ≤ b ∨ a < 0 ∧ b ≤ a) : uns a ≤ uns b := by
  unfold uns
  rcases h with ⟨h1, h2⟩ | ⟨h1, h2⟩
  · rw [if_pos h1, if_pos (by omega)]; omega
  · rw [if_neg (by omega), if_neg (by omega)]; omega

set_option maxHeartbeats 4000000 in
set_option maxRecDepth 100000 in
theorem numbers_walk (a b : Int) (ha : -9223372036854775808 ≤ a ∧ a ≤ 9223372036854775807) (hb : -9223372036854775808 ≤ b ∧ b ≤ 9223372036854775807) (w : World) :
    Calls Try.prog 9 #[.int .i64 a, .int .i64 b] w fun e w' => e = .returned (.bool true) ∧ Below w.heap.size w w' := by
  obtain ⟨M, hM⟩ : ∃ M : Nat, M = 1 + (num (uns a)).length := ⟨_, rfl⟩
  obtain ⟨N, hN⟩ : ∃ N : Nat, N = 1 + (num (uns b)).length := ⟨_, rfl⟩
  have m2 : 2 ≤ M := by have := num_pos (uns a); omega
  have m11 : M ≤ 11 := by have := num_len (uns a) (uns_lt a ha.1 ha.2); omega
  have n2 : 2 ≤ N := by have := num_pos (uns b); omega
  have n11 : N ≤ 11 := by have := num_len (uns b) (uns_lt b hb.1 hb.2); omega
  have HLE : Hid ((0 ≤ a ∧ a ≤ b ∨ a < 0 ∧ b ≤ a) → M ≤ N) := fun h => by have := num_mono (uns a) (uns b) (uns_near a b h); omega
  have HSA : Hid (sizeOfV (.mk 1 a ⟨#[]⟩ []) = (M : Int)) := by unfold Hid; rw [size_int, hM]
  have HSB : Hid (sizeOfV (.mk 1 b ⟨#[]⟩ []) = (N : Int)) := by unfold Hid; rw [size_int, hN]
  have HLA : Hid ((enc (.mk 1 a ⟨#[]⟩ [])).length ≤ 11) := by unfold Hid; rw [enc_1, List.length_cons, digits_len]; omega
  have HLB : Hid ((enc (.mk 1 b ⟨#[]⟩ [])).length ≤ 11) := by unfold Hid; rw [enc_1, List.length_cons, digits_len]; omega
  clear hM hN
  go_enter Try.func9, Try.ntmps9
  go_wp2_with fail
  refine (sane_call w).mono ?_
  rintro e w1 ⟨rfl, hb1⟩
  go_wp2_with fail
  refine (int_call a w1).mono ?_
  rintro e w2 ⟨rfl, hb2⟩
  go_wp2_with fail
  refine (Size_call (.mk 1 a ⟨#[]⟩ []) _ _ (is_int w2 a ha) (fun _ => Nat.le_trans HLA.out (by omega))).mono ?_
  rintro e w3 ⟨he, hb3⟩
  rw [HSA.out, code_int] at he
  subst he
  have HB3 := Lib.hid (below_next (below_next hb1 hb2) hb3)
  clear hb1 hb2 hb3
  go_wp2_with fail
  refine (int_call b w3).mono ?_
  rintro e w4 ⟨rfl, hb4⟩
  go_wp2_with fail
  refine (Size_call (.mk 1 b ⟨#[]⟩ []) _ _ (is_int w4 b hb) (fun _ => Nat.le_trans HLB.out (by omega))).mono ?_
  rintro e w5 ⟨he, hb5⟩
  rw [HSB.out, code_int] at he
  subst he
  have HB5 := Lib.hid (below_next (below_next HB3.out hb4) hb5)
  clear hb4 hb5
  have c1 : decide ((M : Int) < 2) = false := by simp; omega
  have c2 : decide ((11 : Int) < (M : Int)) = false := by simp; omega
  have c3 : decide ((N : Int) < 2) = false := by simp; omega
  have c4 : decide ((11 : Int) < (N : Int)) = false := by simp; omega
  by_cases h0 : 0 ≤ a
  · have d0 : decide (0 ≤ a) = true := by simpa using h0
    have d0' : decide (a < 0) = false := by simp; omega
    by_cases h1 : a ≤ b
    · have d1 : decide (a ≤ b) = true := by simpa using h1
      have hMN : M ≤ N := HLE.out (.inl ⟨h0, h1⟩)
      have d2 : decide ((N : Int) < (M : Int)) = false := by simp; omega
      have d2' : decide (N < M) = false := by simp; omega
      go_wp2_with fail
      refine (int_call a w5).mono ?_
      rintro e w6 ⟨rfl, hb6⟩
      clear d0 d0' d1
      go_wp2_with fail
      refine (encode_call (.mk 1 a ⟨#[]⟩ []) _ _ (is_int w6 a ha) (fun _ => Nat.le_trans HLA.out (by omega))).mono ?_
      rintro e w7 ⟨vc, he, hb7, hC, _⟩
      rw [code_int] at he hC
      subst he
      obtain ⟨ac, cc, rfl, hRc⟩ := buf_rest (hC rfl).1
      have HR := Lib.hid hRc
      have HB7 := Lib.hid (below_next (below_next HB5.out hb6) hb7)
      clear hb6 hb7 hC hRc
      go_wp2_with fail
      refine (decode_call (enc (.mk 1 a ⟨#[]⟩ [])) ac cc _ HR.out (Nat.le_trans HLA.out (by omega))).mono ?_
      rintro e w8 hq
      rw [decode_int a ha] at hq
      obtain ⟨pk, pn, ps, pa, pl, pc, rfl, hs, hb8⟩ := hq
      obtain ⟨e1, e2, e3, e4⟩ := is_inv hs.is
      subst e1 e3 e4
      rw [e2]
      have HB8 := Lib.hid (below_next HB7.out hb8)
      clear e2 hs hb8
      go_wp2_with fail
      go_ret
      exact ⟨rfl, HB8.out.alloc HB8.out.size _⟩
    · have d1 : decide (a ≤ b) = false := by simpa using h1
      go_wp2_with fail
      refine (int_call a w5).mono ?_
      rintro e w6 ⟨rfl, hb6⟩
      clear d0 d0' d1
      go_wp2_with fail
      refine (encode_call (.mk 1 a ⟨#[]⟩ []) _ _ (is_int w6 a ha) (fun _ => Nat.le_trans HLA.out (by omega))).mono ?_
      rintro e w7 ⟨vc, he, hb7, hC, _⟩
      rw [code_int] at he hC
      subst he
      obtain ⟨ac, cc, rfl, hRc⟩ := buf_rest (hC rfl).1
      have HR := Lib.hid hRc
      have HB7 := Lib.hid (below_next (below_next HB5.out hb6) hb7)
      clear hb6 hb7 hC hRc
      go_wp2_with fail
      refine (decode_call (enc (.mk 1 a ⟨#[]⟩ [])) ac cc _ HR.out (Nat.le_trans HLA.out (by omega))).mono ?_
      rintro e w8 hq
      rw [decode_int a ha] at hq
      obtain ⟨pk, pn, ps, pa, pl, pc, rfl, hs, hb8⟩ := hq
      obtain ⟨e1, e2, e3, e4⟩ := is_inv hs.is
      subst e1 e3 e4
      rw [e2]
      have HB8 := Lib.hid (below_next HB7.out hb8)
      clear e2 hs hb8
      go_wp2_with fail
      go_ret
      exact ⟨rfl, HB8.out.alloc HB8.out.size _⟩
  · have d0 : decide (0 ≤ a) = false := by simpa using h0
    have d0' : decide (a < 0) = true := by simp; omega
    by_cases h1 : b ≤ a
    · have d1 : decide (b ≤ a) = true := by simpa using h1
      have hMN : M ≤ N := HLE.out (.inr ⟨by omega, h1⟩)
      have d2 : decide ((N : Int) < (M : Int)) = false := by simp; omega
      have d2' : decide (N < M) = false := by simp; omega
      go_wp2_with fail
      refine (int_call a w5).mono ?_
      rintro e w6 ⟨rfl, hb6⟩
      clear d0 d0' d1
      go_wp2_with fail
      refine (encode_call (.mk 1 a ⟨#[]⟩ []) _ _ (is_int w6 a ha) (fun _ => Nat.le_trans HLA.out (by omega))).mono ?_
      rintro e w7 ⟨vc, he, hb7, hC, _⟩
      rw [code_int] at he hC
      subst he
      obtain ⟨ac, cc, rfl, hRc⟩ := buf_rest (hC rfl).1
      have HR := Lib.hid hRc
      have HB7 := Lib.hid (below_next (below_next HB5.out hb6) hb7)
      clear hb6 hb7 hC hRc
      go_wp2_with fail
      refine (decode_call (enc (.mk 1 a ⟨#[]⟩ [])) ac cc _ HR.out (Nat.le_trans HLA.out (by omega))).mono ?_
      rintro e w8 hq
      rw [decode_int a ha] at hq
      obtain ⟨pk, pn, ps, pa, pl, pc, rfl, hs, hb8⟩ := hq
      obtain ⟨e1, e2, e3, e4⟩ := is_inv hs.is
      subst e1 e3 e4
      rw [e2]
      have HB8 := Lib.hid (below_next HB7.out hb8)
      clear e2 hs hb8
      go_wp2_with fail
      go_ret
      exact ⟨rfl, HB8.out.alloc HB8.out.size _⟩
    · have d1 : decide (b ≤ a) = false := by simpa using h1
      go_wp2_with fail
      refine (int_call a w5).mono ?_
      rintro e w6 ⟨rfl, hb6⟩
      clear d0 d0' d1
      go_wp2_with fail
      refine (encode_call (.mk 1 a ⟨#[]⟩ []) _ _ (is_int w6 a ha) (fun _ => Nat.le_trans HLA.out (by omega))).mono ?_
      rintro e w7 ⟨vc, he, hb7, hC, _⟩
      rw [code_int] at he hC
      subst he
      obtain ⟨ac, cc, rfl, hRc⟩ := buf_rest (hC rfl).1
      have HR := Lib.hid hRc
      have HB7 := Lib.hid (below_next (below_next HB5.out hb6) hb7)
      clear hb6 hb7 hC hRc
      go_wp2_with fail
      refine (decode_call (enc (.mk 1 a ⟨#[]⟩ [])) ac cc _ HR.out (Nat.le_trans HLA.out (by omega))).mono ?_
      rintro e w8 hq
      rw [decode_int a ha] at hq
      obtain ⟨pk, pn, ps, pa, pl, pc, rfl, hs, hb8⟩ := hq
      obtain ⟨e1, e2, e3, e4⟩ := is_inv hs.is
      subst e1 e3 e4
      rw [e2]
      have HB8 := Lib.hid (below_next HB7.out hb8)
      clear e2 hs hb8
      go_wp2_with fail
      go_ret
      exact ⟨rfl, HB8.out.alloc HB8.out.size _⟩
end Go.Proofs.Ytgliddedimpgaaa
