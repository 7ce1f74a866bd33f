/- The specification signs as the program does. -/
import Derived.Test.YtbcfmpohempkpaaDoorSvZ
import Derived.Test.YtbcfmpohempkpaaDoorSqZ
namespace Go.Proofs.YtbcfmpohempkpaaDoor.Dig
open Go.RowKit

set_option maxHeartbeats 4000000 in
set_option maxRecDepth 100000 in
theorem refsign_bad (secret : Int) (b : List UInt8) (v : Value) (w : World) (hn : ¬ (1 ≤ secret ∧ secret < 1073741789)) :
    Calls Tryd.prog 9 #[.int .i64 secret, v] w fun e w' => e = .returned (signT secret b) ∧ Below w.heap.size w w' := by
  rw [sign_F b hn]
  rcases Int.lt_or_le secret 1 with h | h
  · go_enter Tryd.func9, Tryd.ntmps9
    go_wp2_with fail
    exact bodyPost_ret (results_sig rfl _ _ w.heap.size _ rfl rfl _ rfl (heap_alloc_new w _)) rfl ⟨rfl, Joins.below_alloc1 _ _⟩
  · have hk : ¬ secret < 1 := by omega
    have hk2 : ¬ secret < 1073741789 := by omega
    go_enter Tryd.func9, Tryd.ntmps9
    go_wp2_with fail
    exact bodyPost_ret (results_sig rfl _ _ w.heap.size _ rfl rfl _ rfl (heap_alloc_new w _)) rfl ⟨rfl, Joins.below_alloc1 _ _⟩
set_option maxHeartbeats 8000000 in
set_option maxRecDepth 100000 in
theorem refsign_ok (secret : Int) (b : List UInt8) (v : Value) (w : World) (hn : 1 ≤ secret ∧ secret < 1073741789) (hl : b.length ≤ 600) (hr : Rest w.heap.size w b v) :
    Calls Tryd.prog 9 #[.int .i64 secret, v] w fun e w' => e = .returned (signT secret b) ∧ Below w.heap.size w w' := by
  rw [sign_T b hn]
  have hs : I64 secret := ⟨by omega, by omega⟩
  obtain ⟨W0, hW0⟩ : ∃ W, W = w.alloc (.cells #[.int .i64 0, .int .i64 0] 24) := ⟨_, rfl⟩
  have HB0 : Hid (Below w.heap.size w W0) := Lib.hid (by rw [hW0]; exact Joins.below_alloc1 _ _)
  have R0 : Hid (Row W0 w.heap.size 24 [.int .i64 0, .int .i64 0]) := Lib.hid (by rw [hW0]; exact row_new w _ _)
  have HR := Lib.hid (rest_keep hr HB0.out)
  have KP : Hid (∀ {W : World}, Below W0.heap.size W0 W → (Below W0.heap.size W0 W ∧ (convert 22 9 v).run Tryd.prog W = .ok (.string ⟨b.toArray⟩) W)) := Lib.hid (fun h => ⟨h, conv_rest (rest_keep HR.out h)⟩)
  have HL := Lib.hid (fun W => list2 secret b W)
  have HE := Lib.hid (fun g W (h : Row W g 41 (iA secret ++ tA b)) => enc2 tagN secret b g W (by decide) hs hl h)
  have HX := Lib.hid (hsg_rng tagN [secret] b)
  have HK : Hid (nonce secret b = if hsg tagN [secret] b = 0 then 1 else hsg tagN [secret] b) := Lib.hid rfl
  have HKR := Lib.hid (nonce_rng secret b)
  have HER : Hid (0 ≤ sgE secret b ∧ sgE secret b < 1073741789) := Lib.hid (hsg_rng _ _ _)
  have HSR : Hid (sgS secret b = (nonce secret b + sgE secret b * secret) % 1073741789) := Lib.hid rfl
  have HC2 : Hid (∀ W, Below W0.heap.size W0 W → Calls Tryd.prog 29 #[.int .i64 (powQ 4 (nonce secret b)), .int .i64 (powQ 4 secret), v] W fun e w' => e = .returned (.int .i64 (sgE secret b)) ∧ Below W.heap.size W w') :=
    Lib.hid (fun W hW => refhash3_call _ _ b v W (powQ_rng _ _).i64 (powQ_rng _ _).i64 hl (rest_keep HR.out hW))
  have HP1 := Lib.hid (fun W => refPow_call 4 (nonce secret b) W ⟨by omega, by omega⟩ ⟨by have := HKR.out; omega, by have := HKR.out; omega⟩)
  have HP2 := Lib.hid (fun W => refPow_call 4 secret W ⟨by omega, by omega⟩ hs)
  rw [powT_ok valid_4 rfl] at HP1 HP2
  have HTM := Lib.hid (fun W => times_call (sgE secret b) secret W ⟨by have := HER.out; omega, by have := HER.out; omega⟩ hs)
  obtain ⟨x, hx⟩ : ∃ x, x = hsg tagN [secret] b := ⟨_, rfl⟩
  rw [← hx] at HX HK HE
  obtain ⟨k, hkn⟩ : ∃ k, k = nonce secret b := ⟨_, rfl⟩
  rw [← hkn] at HK HKR HSR HC2 HP1
  obtain ⟨E, hEn⟩ : ∃ E, E = sgE secret b := ⟨_, rfl⟩
  rw [← hEn] at HER HSR HC2 HTM ⊢
  obtain ⟨S, hSn⟩ : ∃ S, S = sgS secret b := ⟨_, rfl⟩
  rw [← hSn] at HSR ⊢
  obtain ⟨p, hp⟩ : ∃ p, p = powQ 4 k := ⟨_, rfl⟩
  rw [← hp] at HP1 HC2
  obtain ⟨y, hy⟩ : ∃ y, y = powQ 4 secret := ⟨_, rfl⟩
  rw [← hy] at HP2 HC2
  obtain ⟨t, ht⟩ : ∃ t, t = tmsQ E secret := ⟨_, rfl⟩
  rw [← ht] at HTM
  have htr : Rq t := by rw [ht]; exact modq_rng _
  have HSE : Hid ((k + t) % 1073741789 = S) := Lib.hid (by
    rw [HSR.out, ht]
    unfold tmsQ
    rw [← Int.mul_emod]
    generalize E * secret = m
    omega)
  have hkr := HKR.out
  obtain ⟨ht0, ht1⟩ := htr
  obtain ⟨hk0, hk1⟩ := hkr
  have hw : wrap64 (k + t) = k + t := by unfold wrap64; omega
  have hkt : 0 ≤ k + t := by omega
  have g1 : ¬ secret < 1 := by omega
  have g2 : secret < 1073741789 := hn.2
  clear hx hkn hEn hSn hp hy ht hr hn
  go_enter Tryd.func9, Tryd.ntmps9
  go_upto_region 3 with (fail)
  rw [← hW0]
  clear hW0
  go_region_held3 (fun W => Below W0.heap.size W0 W ∧ (convert 22 9 v).run Tryd.prog W = .ok (.string ⟨b.toArray⟩) W) (first | assumption | exact KP.out (below_drew (Below.refl _ _)) | exact KP.out (by assumption) | exact KP.out (below_next (And.left (by assumption)) (Joins.below_alloc1 _ _))) (first
    | (go_at_call 25; refine (Cod.int_call secret _).mono ?_; rintro e w4 ⟨rfl, hb4⟩; have hB4 : Below W0.heap.size W0 w4 := below_next (by first | assumption | exact And.left (by assumption)) hb4)
    | (go_at_call 26; refine (Cod.text_call ⟨b.toArray⟩ _).mono ?_; rintro e w5 ⟨rfl, hb5⟩; have hB5 : Below W0.heap.size W0 w5 := below_next (by first | assumption | exact And.left (by assumption)) hb5)
    | (go_at_call 24; refine (HL.out _).mono ?_; rintro e w6 ⟨rfl, hb6, hrow6⟩; have hB6 : Below W0.heap.size W0 w6 := below_next (by first | assumption | exact And.left (by assumption)) hb6)
    | (go_at_call 23; refine (HE.out _ _ (by assumption)).mono ?_; rintro e w7 ⟨va, ln, vc, rfl, hb7, hH⟩; have hB7 : Below W0.heap.size W0 w7 := below_next (by first | assumption | exact And.left (by assumption)) hb7))
  all_goals
    go_wp2_with fail
    refine (hH _ (Below.refl _ _)).mono ?_
    rintro e w8 ⟨rfl, hb8⟩
    have HB8 := Lib.hid (below_next hB7 hb8)
    have R8 := Lib.hid (R0.out.keep HB8.out)
    have q0 := R8.out.cell (i := 0) rfl
    have q1 := R8.out.cell (i := 1) rfl
    have f0 := R8.out.free 0
    have f1 := R8.out.free 1
    clear hb8 hB7 hH
    have hb2 : x = 0 ∧ k = 1 ∨ ¬ x = 0 ∧ k = x := by
      have := HK.out
      by_cases hx0 : x = 0
      · rw [if_pos hx0] at this; exact .inl ⟨hx0, this⟩
      · rw [if_neg hx0] at this; exact .inr ⟨hx0, this⟩
    rcases hb2 with ⟨rfl, rfl⟩ | ⟨hx0, rfl⟩
    · clear HK
      go_wp2_with fail
      refine (HP2.out _).mono ?_
      rintro e w9 ⟨rfl, rfl⟩
      go_wp2_with fail
      refine (HP1.out _).mono ?_
      rintro e w10 ⟨rfl, rfl⟩
      go_wp2_with fail
      refine (HC2.out _ HB8.out).mono ?_
      rintro e w11 ⟨rfl, hb11⟩
      have HB11 := Lib.hid (below_next HB8.out hb11)
      have R11 := Lib.hid (R8.out.keep hb11)
      clear q0 q1 f0 f1 hb11
      have q0 := R11.out.cell (i := 0) rfl
      have q1 := R11.out.cell (i := 1) rfl
      have f0 := R11.out.free 0
      have f1 := R11.out.free 1
      go_wp2_with fail
      refine (HTM.out _).mono ?_
      rintro e w12 ⟨rfl, rfl⟩
      go_wp2_with fail
      exact bodyPost_ret (results_sig rfl _ _ w.heap.size _ rfl rfl _ rfl ((R11.out.set 0 (.int .i64 E) rfl).set 1 _ rfl)) rfl
        ⟨by rw [← HSE.out]; rfl, below_setCell (below_setCell (below_next HB0.out HB11.out) _ _ _ (Nat.le_refl _)) _ _ _ (Nat.le_refl _)⟩
    · have hxb : (k == 0) = false := by simpa using hx0
      clear HK
      go_wp2_with fail
      refine (HP2.out _).mono ?_
      rintro e w9 ⟨rfl, rfl⟩
      go_wp2_with fail
      refine (HP1.out _).mono ?_
      rintro e w10 ⟨rfl, rfl⟩
      go_wp2_with fail
      refine (HC2.out _ HB8.out).mono ?_
      rintro e w11 ⟨rfl, hb11⟩
      have HB11 := Lib.hid (below_next HB8.out hb11)
      have R11 := Lib.hid (R8.out.keep hb11)
      clear q0 q1 f0 f1 hb11
      have q0 := R11.out.cell (i := 0) rfl
      have q1 := R11.out.cell (i := 1) rfl
      have f0 := R11.out.free 0
      have f1 := R11.out.free 1
      go_wp2_with fail
      refine (HTM.out _).mono ?_
      rintro e w12 ⟨rfl, rfl⟩
      go_wp2_with fail
      exact bodyPost_ret (results_sig rfl _ _ w.heap.size _ rfl rfl _ rfl ((R11.out.set 0 (.int .i64 E) rfl).set 1 _ rfl)) rfl
        ⟨by rw [← HSE.out]; rfl, below_setCell (below_setCell (below_next HB0.out HB11.out) _ _ _ (Nat.le_refl _)) _ _ _ (Nat.le_refl _)⟩
theorem refSign_call (secret : Int) (b : List UInt8) (v : Value) (w : World) (hl : b.length ≤ 600) (hr : Rest w.heap.size w b v) :
    Calls Tryd.prog 9 #[.int .i64 secret, v] w fun e w' => e = .returned (signT secret b) ∧ Below w.heap.size w w' := by
  by_cases hn : 1 ≤ secret ∧ secret < 1073741789
  · exact refsign_ok secret b v w hn hl hr
  · exact refsign_bad secret b v w hn
end Go.Proofs.YtbcfmpohempkpaaDoor.Dig
