/- SignMeans: the law's walk; the law's point. -/
import Derived.Test.YtbcfmpohempkpaaDoorZc33
namespace Go.Proofs.YtbcfmpohempkpaaDoor.Dig
open Go.RowKit

set_option maxHeartbeats 2000000 in
set_option maxRecDepth 100000 in
theorem lawpoint_call (key E S : Int) (w : World) (hk : valid key = true) (hE : 0 ≤ E ∧ E < 1073741789) (hS : 0 ≤ S ∧ S < 1073741789) :
    Calls Tryd.prog 14 #[.int .i64 key, sgV E S] w fun e w' => e = .returned (.tuple #[.int .i64 (pt key E S), .bool true]) ∧ Below w.heap.size w w' := by
  have HA := Lib.hid (fun W => Pow_call 4 S W ⟨by omega, by omega⟩ ⟨by omega, by omega⟩)
  have HB := Lib.hid (fun W => Pow_call key (-E) W (valid_rp hk).i64 ⟨by omega, by omega⟩)
  have HM := Lib.hid (fun W => Mul_call (powQ 4 S) (powQ key (-E)) W (powQ_rng _ _).i64 (powQ_rng _ _).i64)
  rw [mulT_ok (powQ_valid valid_4 _) (powQ_valid hk _) rfl] at HM
  rw [powT_ok valid_4 rfl] at HA
  rw [powT_ok hk rfl] at HB
  unfold pt
  obtain ⟨x, hx⟩ : ∃ x, x = powQ 4 S := ⟨_, rfl⟩
  obtain ⟨y, hy⟩ : ∃ y, y = powQ key (-E) := ⟨_, rfl⟩
  rw [← hx] at HA HM ⊢
  rw [← hy] at HB HM ⊢
  obtain ⟨z, hz⟩ : ∃ z, z = x * y % 2147483579 := ⟨_, rfl⟩
  rw [← hz] at HM ⊢
  have hw : wrap64 (-E) = -E := by unfold wrap64; omega
  have hwi : IntKind.i64.wrap (-E) = -E := by rw [IntKind.wrap_i64]; omega
  clear hx hy hz hk hS
  go_enter Tryd.func14, Tryd.ntmps14
  go_wp2_with fail
  have HB0 := Lib.hid (Joins.below_alloc1 w (.cells #[.int .i64 E, .int .i64 S] 24))
  have R0 := Lib.hid (row_new w 24 [.int .i64 E, .int .i64 S])
  refine (HA.out _).mono ?_
  rintro e w1 ⟨rfl, hb⟩
  have HB1 := Lib.hid (below_next HB0.out hb)
  replace R0 := Lib.hid (R0.out.keep hb)
  have c0 := R0.out.cell (i := 0) rfl
  clear hb
  go_wp2_with fail
  refine (HB.out _).mono ?_
  rintro e w2 ⟨rfl, hb⟩
  have HB2 := Lib.hid (below_next HB1.out hb)
  clear hb c0
  go_wp2_with fail
  refine (HM.out _).mono ?_
  rintro e w3 ⟨rfl, rfl⟩
  go_wp2_with fail
  exact bodyPost_ret (results_tmps (p := 4) (q := 5) rfl _ _ _ _ rfl rfl) rfl ⟨rfl, HB2.out⟩
theorem of_and3 {a b c : Bool} (h : ¬ (a = true ∧ b = true ∧ c = true)) : (a && (b && c)) = false := by
  revert h
  cases a <;> cases b <;> cases c <;> simp
theorem verR_out {key : Int} {b : List UInt8} {E S : Int} (h : ¬ (valid key = true ∧ inE E = true ∧ inE S = true)) : verR key b E S = false := by
  unfold verR
  revert h
  cases valid key <;> cases inE E <;> cases inE S <;> simp
theorem verR_in {key : Int} {b : List UInt8} {E S : Int} (h : valid key = true) (h1 : inE E = true) (h2 : inE S = true) : verR key b E S = (E == hsg tagS [pt key E S, key] b) := by
  unfold verR
  rw [h, h1, h2]
  simp
set_option maxHeartbeats 4000000 in
set_option maxRecDepth 100000 in
theorem means_walk (key : Int) (b : List UInt8) (v : Value) (E S : Int) (w : World) (hk : I64 key) (hE : I64 E) (hS : I64 S) (hr : Rest w.heap.size w b v) (hT : Tab w) :
    Calls Tryd.prog 5 #[.int .i64 key, v, sgV E S] w fun e w' => e = .returned (.bool true) ∧ Below w.heap.size w w' := by
  have HB0 := Lib.hid (Joins.below_alloc1 w (.cells #[.int .i64 E, .int .i64 S] 24))
  have R0 := Lib.hid (row_new w 24 [.int .i64 E, .int .i64 S])
  have HT := Lib.hid (hT.keep HB0.out)
  have HR := Lib.hid (rest_keep hr HB0.out)
  have HS := Lib.hid (sane_call _ HT.out)
  obtain ⟨va, vc, rfl⟩ : ∃ a cap, v = .slice a b.length cap := by obtain ⟨a, cap, h, _⟩ := hr; exact ⟨a, cap, h⟩
  obtain ⟨ln, hln⟩ : ∃ ln, ln = b.length := ⟨_, rfl⟩
  have HLN := Lib.hid hln
  have hlm : (ln : Int) ≤ 9223372036854775807 := by
    obtain ⟨_, _, h, h1, h2, _⟩ := hr
    unfold maxLen at h2
    injection h with _ h3 h4
    omega
  rw [← hln]
  clear hr hT hln
  by_cases h1 : (600 : Int) < (ln : Int)
  · go_enter Tryd.func5, Tryd.ntmps5
    go_wp2_with fail
    refine HS.out.mono ?_
    rintro e w1 ⟨rfl, hb1⟩
    go_wp2_with fail
    go_ret
    exact ⟨rfl, below_next HB0.out hb1⟩
  · have HVF : Hid (∀ W, Below (w.alloc (.cells #[.int .i64 E, .int .i64 S] 24)).heap.size (w.alloc (.cells #[.int .i64 E, .int .i64 S] 24)) W → Calls Tryd.prog 10 #[.int .i64 key, .slice va ln vc, sgV E S] W fun e w' => e = .returned (.bool (verR key b E S)) ∧ Below W.heap.size W w') :=
      Lib.hid (fun W hW => by
        have := Verify_call key b (.slice va b.length vc) E S W hk (by rw [← HLN.out]; omega) (rest_keep HR.out hW) (HT.out.keep hW)
        rwa [← HLN.out] at this)
    have HVA := Lib.hid (fun W => Valid_call key W hk)
    by_cases hn : valid key = true ∧ inE E = true ∧ inE S = true
    · obtain ⟨n1, n2, n3⟩ := hn
      have he0 : 0 ≤ E := (inE_rng n2).1
      have he1 : E < 1073741789 := (inE_rng n2).2
      have hs0 : 0 ≤ S := (inE_rng n3).1
      have hs1 : S < 1073741789 := (inE_rng n3).2
      have HPT := Lib.hid (fun W => lawpoint_call key E S W n1 ⟨he0, he1⟩ ⟨hs0, hs1⟩)
      have HPR := Lib.hid (pt_rng key E S)
      have HCV : Hid (∀ W, Below (w.alloc (.cells #[.int .i64 E, .int .i64 S] 24)).heap.size (w.alloc (.cells #[.int .i64 E, .int .i64 S] 24)) W → (convert 22 9 (.slice va ln vc)).run Tryd.prog W = .ok (.string ⟨b.toArray⟩) W) := Lib.hid (fun W hW => by
        have := conv_rest (rest_keep HR.out hW)
        rwa [← HLN.out] at this)
      have HL : Hid (b.length ≤ 600) := Lib.hid (by rw [← HLN.out]; omega)
      rw [n1] at HVA
      rw [verR_in n1 n2 n3] at HVF
      obtain ⟨p, hp⟩ : ∃ p, p = pt key E S := ⟨_, rfl⟩
      rw [← hp] at HVF HPT HPR
      have HEN : Hid (∀ W, Calls Tryd.prog 15 #[.agg #[.int .i64 3, .int .i64 0, .string ⟨#[]⟩, .slice (some ⟨W.heap.size, 0, none⟩) 3 3]] (W.alloc (.cells #[.int .i64 1, .int .i64 p, .string ⟨#[]⟩, .slice none 0 0, .int .i64 1, .int .i64 key, .string ⟨#[]⟩, .slice none 0 0, .int .i64 2, .int .i64 0, .string ⟨b.toArray⟩, .slice none 0 0] 41)) fun e w' => ∃ va2 vc2 ln2, e = .returned (.tuple #[.slice va2 ln2 vc2, .int .i64 0]) ∧ Below W.heap.size W w' ∧ Hid (∀ W2, Below w'.heap.size w' W2 → Tab W2 → Calls Tryd.prog 16 #[.string tagS, .slice va2 ln2 vc2] W2 fun e w'' => e = .returned (.int .i64 (hsg tagS [p, key] b)) ∧ Below W2.heap.size W2 w'')) := Lib.hid (fun W => by
        refine (Cod.encode_call (lst [p, key] b) _ _ (is_three (row_new W 41 (iA p ++ iA key ++ tA b)) HPR.out.i64 hk HL.out) (fun _ => by have := enc_three HPR.out.i64 hk HL.out; omega)).mono ?_
        rintro e w2 ⟨v2, rfl, hb2, hbuf, -⟩
        rw [code_three] at hbuf ⊢
        obtain ⟨va2, vc2, rfl, hr2⟩ := buf_rest (hbuf rfl).1
        exact ⟨va2, vc2, _, rfl, below_next (Joins.below_alloc1 _ _) hb2, Lib.hid (fun W2 hW2 ht => Hash_call tagS (Cod.enc (lst [p, key] b)) _ W2 (by decide) (by have := enc_three HPR.out.i64 hk HL.out; omega) (rest_keep hr2 hW2) ht)⟩)
      obtain ⟨h, hh⟩ : ∃ h, h = hsg tagS [p, key] b := ⟨_, rfl⟩
      rw [← hh] at HVF HEN
      clear hp hh n1 n2 n3
      go_enter Tryd.func5, Tryd.ntmps5
      go_wp2_with fail
      generalize w.alloc (.cells #[.int .i64 E, .int .i64 S] 24) = W0 at HB0 R0 HS HVF HCV HR HT ⊢
      refine HS.out.mono ?_
      rintro e w1 ⟨rfl, hb1⟩
      have HB1 := Lib.hid hb1
      have R1 := Lib.hid (R0.out.keep hb1)
      have c0 := R1.out.cell (i := 0) rfl
      have c1 := R1.out.cell (i := 1) rfl
      clear hb1
      go_wp2_with fail
      refine (HVF.out _ HB1.out).mono ?_
      rintro e w2 ⟨rfl, hb2⟩
      have HB2 := Lib.hid (below_next HB1.out hb2)
      have R2 := Lib.hid (R1.out.keep hb2)
      clear hb2 c0 c1
      have c0 := R2.out.cell (i := 0) rfl
      have c1 := R2.out.cell (i := 1) rfl
      go_wp2_with fail
      refine (HVA.out _).mono ?_
      rintro e w3 ⟨rfl, rfl⟩
      go_wp2_with fail
      refine (HPT.out _).mono ?_
      rintro e w4 ⟨rfl, hb4⟩
      have HB4 := Lib.hid (below_next HB2.out hb4)
      have R4 := Lib.hid (R2.out.keep hb4)
      have hcv := HCV.out w4 HB4.out
      clear hb4 c0 c1
      go_wp2_with fail
      refine (HEN.out _).mono ?_
      rintro e w5 ⟨va2, vc2, ln2, rfl, hb5, hH⟩
      have HB5 := Lib.hid (below_next HB4.out hb5)
      have R5 := Lib.hid (R4.out.keep hb5)
      have HHC := Lib.hid (fun W (hW : Below w5.heap.size w5 W) => hH.out W hW ((HT.out.keep HB5.out).keep hW))
      clear hb5 hcv hH
      go_upto_region 10 with (fail)
      have c0 : ∀ W, Below w5.heap.size w5 W → W.cell? ⟨w.heap.size, 0, none⟩ = some (.int .i64 E) := fun W hW => (R5.out.keep hW).cell (i := 0) rfl
      go_region_held3 (fun W => Below w5.heap.size w5 W) (first | assumption | exact below_drew (Below.refl _ _)) (first
        | (go_at_call 16; refine (HHC.out _ (by assumption)).mono ?_; rintro e w6 ⟨rfl, hb6⟩; have hB6 : Below w5.heap.size w5 w6 := below_next (by assumption) hb6))
      all_goals
        go_wp2_with fail
        go_ret
        exact ⟨ret_bool (by simp), below_next HB0.out (below_next HB5.out (by assumption))⟩
    · rw [verR_out hn] at HVF
      have hcs : E < 0 ∨ (0 ≤ E ∧ 1073741789 ≤ E) ∨ (0 ≤ E ∧ E < 1073741789 ∧ S < 0) ∨ (0 ≤ E ∧ E < 1073741789 ∧ 0 ≤ S ∧ 1073741789 ≤ S) ∨ (0 ≤ E ∧ E < 1073741789 ∧ 0 ≤ S ∧ S < 1073741789 ∧ valid key = false) := by
        rcases Int.lt_or_le E 0 with a | a
        · exact .inl a
        rcases Int.lt_or_le E 1073741789 with c | c
        · rcases Int.lt_or_le S 0 with d | d
          · exact .inr (.inr (.inl ⟨a, c, d⟩))
          rcases Int.lt_or_le S 1073741789 with e | e
          · refine .inr (.inr (.inr (.inr ⟨a, c, d, e, ?_⟩)))
            cases hv : valid key
            · rfl
            · exact absurd ⟨hv, inE_of ⟨a, c⟩, inE_of ⟨d, e⟩⟩ hn
          · exact .inr (.inr (.inr (.inl ⟨a, c, d, e⟩)))
        · exact .inr (.inl ⟨a, c⟩)
      clear hn
      rcases hcs with a | ⟨a, c⟩ | ⟨a, c, d⟩ | ⟨a, c, d, f⟩ | ⟨a, c, d, f, g⟩
      · go_enter Tryd.func5, Tryd.ntmps5
        go_wp2_with fail
        generalize w.alloc (.cells #[.int .i64 E, .int .i64 S] 24) = W0 at HB0 R0 HS HVF HR HT ⊢
        refine HS.out.mono ?_
        rintro e w1 ⟨rfl, hb1⟩
        have HB1 := Lib.hid hb1
        have R1 := Lib.hid (R0.out.keep hb1)
        have c0 := R1.out.cell (i := 0) rfl
        have c1 := R1.out.cell (i := 1) rfl
        clear hb1
        go_wp2_with fail
        refine (HVF.out _ HB1.out).mono ?_
        rintro e w2 ⟨rfl, hb2⟩
        have HB2 := Lib.hid (below_next HB1.out hb2)
        have R2 := Lib.hid (R1.out.keep hb2)
        clear hb2 c0 c1
        have c0 := R2.out.cell (i := 0) rfl
        have c1 := R2.out.cell (i := 1) rfl
        go_wp2_with fail
        go_ret
        exact ⟨rfl, below_next HB0.out HB2.out⟩
      · have n1 : ¬ E < 1073741789 := by omega
        have n0 : ¬ E < 0 := by omega
        go_enter Tryd.func5, Tryd.ntmps5
        go_wp2_with fail
        generalize w.alloc (.cells #[.int .i64 E, .int .i64 S] 24) = W0 at HB0 R0 HS HVF HR HT ⊢
        refine HS.out.mono ?_
        rintro e w1 ⟨rfl, hb1⟩
        have HB1 := Lib.hid hb1
        have R1 := Lib.hid (R0.out.keep hb1)
        have c0 := R1.out.cell (i := 0) rfl
        have c1 := R1.out.cell (i := 1) rfl
        clear hb1
        go_wp2_with fail
        refine (HVF.out _ HB1.out).mono ?_
        rintro e w2 ⟨rfl, hb2⟩
        have HB2 := Lib.hid (below_next HB1.out hb2)
        have R2 := Lib.hid (R1.out.keep hb2)
        clear hb2 c0 c1
        have c0 := R2.out.cell (i := 0) rfl
        have c1 := R2.out.cell (i := 1) rfl
        go_wp2_with fail
        go_ret
        exact ⟨rfl, below_next HB0.out HB2.out⟩
      · go_enter Tryd.func5, Tryd.ntmps5
        go_wp2_with fail
        generalize w.alloc (.cells #[.int .i64 E, .int .i64 S] 24) = W0 at HB0 R0 HS HVF HR HT ⊢
        refine HS.out.mono ?_
        rintro e w1 ⟨rfl, hb1⟩
        have HB1 := Lib.hid hb1
        have R1 := Lib.hid (R0.out.keep hb1)
        have c0 := R1.out.cell (i := 0) rfl
        have c1 := R1.out.cell (i := 1) rfl
        clear hb1
        go_wp2_with fail
        refine (HVF.out _ HB1.out).mono ?_
        rintro e w2 ⟨rfl, hb2⟩
        have HB2 := Lib.hid (below_next HB1.out hb2)
        have R2 := Lib.hid (R1.out.keep hb2)
        clear hb2 c0 c1
        have c0 := R2.out.cell (i := 0) rfl
        have c1 := R2.out.cell (i := 1) rfl
        go_wp2_with fail
        go_ret
        exact ⟨rfl, below_next HB0.out HB2.out⟩
      · have n1 : ¬ S < 1073741789 := by omega
        go_enter Tryd.func5, Tryd.ntmps5
        go_wp2_with fail
        generalize w.alloc (.cells #[.int .i64 E, .int .i64 S] 24) = W0 at HB0 R0 HS HVF HR HT ⊢
        refine HS.out.mono ?_
        rintro e w1 ⟨rfl, hb1⟩
        have HB1 := Lib.hid hb1
        have R1 := Lib.hid (R0.out.keep hb1)
        have c0 := R1.out.cell (i := 0) rfl
        have c1 := R1.out.cell (i := 1) rfl
        clear hb1
        go_wp2_with fail
        refine (HVF.out _ HB1.out).mono ?_
        rintro e w2 ⟨rfl, hb2⟩
        have HB2 := Lib.hid (below_next HB1.out hb2)
        have R2 := Lib.hid (R1.out.keep hb2)
        clear hb2 c0 c1
        have c0 := R2.out.cell (i := 0) rfl
        have c1 := R2.out.cell (i := 1) rfl
        go_wp2_with fail
        go_ret
        exact ⟨rfl, below_next HB0.out HB2.out⟩
      · rw [g] at HVA
        go_enter Tryd.func5, Tryd.ntmps5
        go_wp2_with fail
        generalize w.alloc (.cells #[.int .i64 E, .int .i64 S] 24) = W0 at HB0 R0 HS HVF HR HT ⊢
        refine HS.out.mono ?_
        rintro e w1 ⟨rfl, hb1⟩
        have HB1 := Lib.hid hb1
        have R1 := Lib.hid (R0.out.keep hb1)
        have c0 := R1.out.cell (i := 0) rfl
        have c1 := R1.out.cell (i := 1) rfl
        clear hb1
        go_wp2_with fail
        refine (HVF.out _ HB1.out).mono ?_
        rintro e w2 ⟨rfl, hb2⟩
        have HB2 := Lib.hid (below_next HB1.out hb2)
        have R2 := Lib.hid (R1.out.keep hb2)
        clear hb2 c0 c1
        have c0 := R2.out.cell (i := 0) rfl
        have c1 := R2.out.cell (i := 1) rfl
        go_wp2_with fail
        refine (HVA.out _).mono ?_
        rintro e w3 ⟨rfl, rfl⟩
        go_wp2_with fail
        go_ret
        exact ⟨rfl, below_next HB0.out HB2.out⟩
end Go.Proofs.YtbcfmpohempkpaaDoor.Dig
