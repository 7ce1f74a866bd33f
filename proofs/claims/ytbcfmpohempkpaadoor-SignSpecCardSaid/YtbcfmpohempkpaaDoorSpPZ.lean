/- For every secret, every key, all bytes and every signature the law SignSpec returns true, and they read as before: no condition but that the table of round numbers is tied to the text of the program. -/
import Derived.Test.YtbcfmpohempkpaaDoorSpZ
import Derived.Test.YtbcfmpohempkpaaDoorZc35
import Derived.Test.YtbcfmpohempkpaaDoorZc34
import Derived.Test.YtbcfmpohempkpaaDoorTie
import Derived.Test.YtbcfmpohempkpaaDoorCards
import Derived.WalkKit
import Derived.ProofKit
import Derived.OpenShut
import Derived.Carry
import Derived.SevenTiedAt
namespace Go.Proofs.YtbcfmpohempkpaaDoor.Dig.signSpec
open Go.ChangeShapes Go.WideShapes Go.ChangeAt Go.RowKit Go.ChangeMaps

theorem paramsF : Tryd.f3.params = #[3, 3, 22, 24] := by kernel_rfl

set_option maxRecDepth 100000 in
theorem lifted (os : Os) (started : os.Started) (H : Type) (enc : TypeId × Value → H) :
    ReturnsInHanded {} Tryd.checked os 3 .any (fun w args => (Rows.signSpecSpec.pre enc Tryd.prog Tryd.f3 [] false w args ∧ laidMetH Tryd.prog laid1 w) ∧ sizedMet enc Tryd.prog Tryd.f3 (OpenSpec.ofChange Rows.signSpecSpec) false w args)
      (Rows.signSpecSpec.post enc Tryd.prog Tryd.f3 false true false false) := by
  refine returnsInHanded_of_change_and (C := Tryd.checked) (X := fun w _ => laidMetH Tryd.prog laid1 w) (fun _ _ _ hh h => h.of_heap hh) own started (by kernel_rfl) Tryd.func3
    (ChangeSpec.witness_shaped (enc := enc) (C := Tryd.checked) (os := os) (X := fun w _ => laidMetH Tryd.prog laid1 w) false (World.doorLaid Tryd.prog 400 os) #[.int .i64 0, .int .i64 0, .slice none 0 0, .agg #[.int .i64 0, .int .i64 0]] 8 rfl (World.shaped_of_RefB (by kernel_rfl) (by kernel_rfl)) (by kernel_rfl) (by kernel_rfl) (by kernel_rfl) (door_met os _)) ?_
  intro W base args ds gs before hval0 hW _ _ hL _
  have hval : ∀ (j : Nat) t v, Tryd.f3.params[j]? = some t → args[j]? = some v → Value.okWide Tryd.prog W .any base t v := hval0
  have hW' := hW
  obtain ⟨p, q, hA0, hV, rfl, hfz, hnd⟩ := hW
  have hA : DataW.TrodAll enc Tryd.prog W 0 (fun _ => true) true Tryd.f3.params.toList args.toList ds p := hA0
  rw [paramsF] at hA hval
  obtain ⟨v0, vs0, d0, ds0, p0, q0, hargs, rfl, rfl, h0, r0⟩ := trodAll_cons hA
  obtain ⟨v1, vs1, d1, ds1, p1, q1, rfl, rfl, rfl, h1, r1⟩ := trodAll_cons r0
  obtain ⟨v2, vs2, d2, ds2, p2, q2, rfl, rfl, rfl, h2, r2⟩ := trodAll_cons r1
  obtain ⟨v3, vs3, d3, ds3, p3, q3, rfl, rfl, rfl, h3, r3⟩ := trodAll_cons r2
  obtain ⟨rfl, rfl, rfl⟩ := trodAll_nil r3
  obtain rfl : args = #[v0, v1, v2, v3] := by cases args; simp_all
  obtain ⟨rfl, rfl⟩ := trodVars_none hV
  obtain ⟨a0, rfl, rfl, rfl, s0⟩ := open_int Tryd.underlying3 (hval 0 3 v0 rfl rfl) h0
  obtain ⟨a1, rfl, rfl, rfl, s1⟩ := open_int Tryd.underlying3 (hval 1 3 v1 rfl rfl) h1
  obtain ⟨x2, ra2, rc2, rfl, hy2⟩ := open_bytes (hval 2 22 v2 rfl rfl) h2
  obtain ⟨E3, S3, rfl, hE3, hS3⟩ := open_sig (hval 3 24 v3 rfl rfl) h3
  have hT := tab_of_laid hL
  clear hA0 hval0
  have hlt : ∀ z ∈ ([] ++ ([] ++ (p2 ++ (p3 ++ [])))) ++ [], z.block < W.heap.size := fun z hz => hW'.lt z hz
  refine (spec_walk a0 a1 x2 _ E3 S3 W (bounds_i64 s0) (bounds_i64 s1) hE3 hS3 hy2 hT).mono fun e W' ⟨he, hb⟩ => ?_
  subst he
  have t2 := Below.trod Tryd.laidOut Tryd.read22 (of_decide_eq_true (by kernel_rfl)) h2 hb (fun z hz => hlt z (by simp [hz]))
  have t3 := Below.trod Tryd.laidOut read24 (of_decide_eq_true (by kernel_rfl)) h3 hb (fun z hz => hlt z (by simp [hz]))
  exact ⟨_, rfl, _, _, _, [], [] ++ ([] ++ (p2 ++ (p3 ++ []))), [], hW', trodAll_cons_mk (shut_bool Tryd.underlying4 _) trodAll_mk0, trodAll_cons_mk (shut_int Tryd.underlying3 s0) (trodAll_cons_mk (shut_int Tryd.underlying3 s1) (trodAll_cons_mk t2 (trodAll_cons_mk t3 (trodAll_mk0)))), rfl, hb.frame _, fun h => by cases h⟩

theorem over : Rows.SignSpecSaid :=
  OpenClaim.holds_of_wide 3 Tryd.f3 rfl rfl rfl rfl rfl rfl rfl ⟨rfl, rfl, rfl, rfl, rfl⟩ rfl rfl rfl rfl rfl (by kernel_rfl) Tryd.func3 (by kernel_rfl)
    (of_decide_eq_true (by kernel_rfl)) (by unfold Func.isWrapper; first | (rw [if_pos (by decide +kernel)]; kernel_rfl) | (rw [if_neg (by decide +kernel)]; exact ⟨rfl, rfl⟩))
    (fun os started H enc _ => lifted os started H enc)

set_option maxRecDepth 100000 in
theorem proved : Rows.SignSpecCardSaid :=
  Claim7.holds_tied_plain_at .later [] [.data] true (true, "f9a55dcb6c79cefc45112576efcbc9dd9ae4c85fe66a4ad04752fdf19d99e460") true
    over (fun _ h => by cases h) (by kernel_rfl) (fun _ h => by cases h) signSpec_row_tie rfl ⟨rfl, rfl⟩ (by kernel_rfl) rfl
    (fun f fn hf hfn => by
      obtain rfl : f = 3 := Option.some.inj ((show Tryd.prog.funcNamed "fasti/fastilaw11.SignSpec" = some 3 by kernel_rfl).symm.trans hf) |>.symm
      obtain rfl : fn = Tryd.f3 := (Option.some.inj (Tryd.func3.symm.trans hfn)).symm
      exact ⟨by kernel_rfl, fun j t ht => by
        rw [paramsF] at ht
        have hm : t ∈ [3, 3, 22, 24] := by simpa using Array.mem_of_getElem? ht
        have hall : ([3, 3, 22, 24].all fun u => !Tryd.prog.wantsStandIn u) = true := by kernel_rfl
        exact (show Tryd.prog.wantsStandIn t = false by simpa using List.all_eq_true.1 hall t hm)⟩)
    (by kernel_rfl)
#print axioms proved
end Go.Proofs.YtbcfmpohempkpaaDoor.Dig.signSpec
