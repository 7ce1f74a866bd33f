/- SignRight: the law's walk. -/
import Derived.Test.YtbcfmpohempkpaaDoorZc33
namespace Go.Proofs.YtbcfmpohempkpaaDoor.Dig
open Go.RowKit

set_option maxHeartbeats 4000000 in
set_option maxRecDepth 100000 in
theorem right_walk (secret : Int) (b : List UInt8) (v : Value) (w : World) (hs : I64 secret) (hr : Rest w.heap.size w b v) (hT : Tab w) :
    Calls Tryd.prog 4 #[.int .i64 secret, v] w fun e w' => e = .returned (.bool true) ∧ Below w.heap.size w w' := by
  have HT := Lib.hid hT
  have HR := Lib.hid hr
  obtain ⟨va, vc, rfl⟩ : ∃ a cap, v = .slice a b.length cap := by obtain ⟨a, cap, h, _⟩ := hr; exact ⟨a, cap, h⟩
  obtain ⟨ln, hln⟩ : ∃ ln, ln = b.length := ⟨_, rfl⟩
  have HLN := Lib.hid hln
  have hlm : (ln : Int) ≤ 9223372036854775807 := by
    obtain ⟨_, _, h, h1, h2, _⟩ := hr
    unfold maxLen at h2
    injection h with _ h3 h4
    omega
  rw [← hln]
  clear hr hT hln
  by_cases h1 : (600 : Int) < (ln : Int)
  · have HS := Lib.hid (sane_call w HT.out)
    go_enter Tryd.func4, Tryd.ntmps4
    go_wp2_with fail
    refine HS.out.mono ?_
    rintro e w1 ⟨rfl, hb1⟩
    go_wp2_with fail
    go_ret
    exact ⟨rfl, hb1⟩
  · have HSN := Lib.hid (sane_call w HT.out)
    have HSG : Hid (∀ W, Below w.heap.size w W → Calls Tryd.prog 8 #[.int .i64 secret, .slice va ln vc] W fun e w' => e = .returned (signT secret b) ∧ Below W.heap.size W w') := Lib.hid (fun W hW => by
      have := Sign_call secret b (.slice va b.length vc) W hs (by rw [← HLN.out]; omega) (rest_keep HR.out hW) (HT.out.keep hW)
      rwa [← HLN.out] at this)
    by_cases hn : 1 ≤ secret ∧ secret < 1073741789
    · have HVF : Hid (∀ (key E S : Int) W, I64 key → Below w.heap.size w W → Calls Tryd.prog 10 #[.int .i64 key, .slice va ln vc, sgV E S] W fun e w' => e = .returned (.bool (verR key b E S)) ∧ Below W.heap.size W w') :=
        Lib.hid (fun key E S W hk hW => by
          have := Verify_call key b (.slice va b.length vc) E S W hk (by rw [← HLN.out]; omega) (rest_keep HR.out hW) (HT.out.keep hW)
          rwa [← HLN.out] at this)
      have HPW := Lib.hid (fun W => Pow_call 4 secret W ⟨by omega, by omega⟩ hs)
      rw [powT_ok valid_4 rfl] at HPW
      have HKR := Lib.hid ((powQ_rng 4 secret).i64)
      have HV := Lib.hid (sign_right secret b)
      have HER := Lib.hid (inE_rng (sgE_in secret b))
      have HSR := Lib.hid (inE_rng (sgS_in secret b))
      rw [sign_T b hn] at HSG
      obtain ⟨E, hE⟩ : ∃ E, E = sgE secret b := ⟨_, rfl⟩
      obtain ⟨S, hS⟩ : ∃ S, S = sgS secret b := ⟨_, rfl⟩
      obtain ⟨K, hK⟩ : ∃ K, K = powQ 4 secret := ⟨_, rfl⟩
      rw [← hK] at HPW HKR HV
      rw [← hE] at HER HV HSG
      rw [← hS] at HSR HV HSG
      have he0 : 0 ≤ E := HER.out.1
      have he1 : E < 1073741789 := HER.out.2
      have hs0 : 0 ≤ S := HSR.out.1
      have hs1 : S < 1073741789 := HSR.out.2
      have g1 : ¬ secret < 1 := by omega
      have g2 : secret < 1073741789 := hn.2
      have heq := fun W => eql_sig E S E S W
      rw [show ((E == E) && (S == S)) = true by simp] at heq
      have hgu := fun op x y W => guard_sig op x y E S E S W
      clear hE hS hK hn
      go_enter Tryd.func4, Tryd.ntmps4
      go_wp2_with fail
      refine HSN.out.mono ?_
      rintro e w1 ⟨rfl, hb⟩
      have HB1 := Lib.hid hb
      clear hb
      go_wp2_with fail
      refine (HSG.out _ HB1.out).mono ?_
      rintro e w2 ⟨rfl, hb⟩
      have HB2 := Lib.hid (below_next (below_next HB1.out hb) (Joins.below_alloc1 w2 (.cells #[.int .i64 E, .int .i64 S] 24)))
      have R2 := Lib.hid (row_new w2 24 [.int .i64 E, .int .i64 S])
      clear hb
      go_wp2_with fail
      refine (HSG.out _ HB2.out).mono ?_
      rintro e w3 ⟨rfl, hb⟩
      have HB3 := Lib.hid (below_next (below_next HB2.out hb) (Joins.below_alloc1 w3 (.cells #[.int .i64 E, .int .i64 S] 24)))
      replace R2 := Lib.hid (R2.out.keep (below_next hb (Joins.below_alloc1 w3 (.cells #[.int .i64 E, .int .i64 S] 24))))
      have R3 := Lib.hid (row_new w3 24 [.int .i64 E, .int .i64 S])
      clear hb
      go_wp2_with fail
      refine (HPW.out _).mono ?_
      rintro e w4 ⟨rfl, hb⟩
      have HB4 := Lib.hid (below_next HB3.out hb)
      replace R2 := Lib.hid (R2.out.keep hb)
      replace R3 := Lib.hid (R3.out.keep hb)
      have b0 := R2.out.cell (i := 0) rfl
      have b1 := R2.out.cell (i := 1) rfl
      have d0 := R3.out.cell (i := 0) rfl
      have d1 := R3.out.cell (i := 1) rfl
      clear hb
      go_wp2_with fail
      refine (HVF.out K E S _ HKR.out HB4.out).mono ?_
      rintro e w5 ⟨he, hb⟩
      rw [HV.out] at he
      subst he
      go_wp2_with fail
      go_ret
      exact ⟨rfl, below_next HB4.out hb⟩
    · rw [sign_F b hn] at HSG
      have heq := fun W => eql_sig 0 0 0 0 W
      rw [show (((0 : Int) == 0) && ((0 : Int) == 0)) = true by simp] at heq
      have hgu := fun op x y W => guard_sig op x y 0 0 0 0 W
      by_cases g1 : secret < 1
      · clear hn
        go_enter Tryd.func4, Tryd.ntmps4
        go_wp2_with fail
        refine HSN.out.mono ?_
        rintro e w1 ⟨rfl, hb⟩
        have HB1 := Lib.hid hb
        clear hb
        go_wp2_with fail
        refine (HSG.out _ HB1.out).mono ?_
        rintro e w2 ⟨rfl, hb⟩
        have HB2 := Lib.hid (below_next (below_next HB1.out hb) (Joins.below_alloc1 w2 (.cells #[.int .i64 0, .int .i64 0] 24)))
        clear hb
        go_wp2_with fail
        go_ret
        exact ⟨rfl, HB2.out⟩
      · have g2 : ¬ secret < 1073741789 := by omega
        clear hn
        go_enter Tryd.func4, Tryd.ntmps4
        go_wp2_with fail
        refine HSN.out.mono ?_
        rintro e w1 ⟨rfl, hb⟩
        have HB1 := Lib.hid hb
        clear hb
        go_wp2_with fail
        refine (HSG.out _ HB1.out).mono ?_
        rintro e w2 ⟨rfl, hb⟩
        have HB2 := Lib.hid (below_next (below_next HB1.out hb) (Joins.below_alloc1 w2 (.cells #[.int .i64 0, .int .i64 0] 24)))
        clear hb
        go_wp2_with fail
        go_ret
        exact ⟨rfl, HB2.out⟩
end Go.Proofs.YtbcfmpohempkpaaDoor.Dig
