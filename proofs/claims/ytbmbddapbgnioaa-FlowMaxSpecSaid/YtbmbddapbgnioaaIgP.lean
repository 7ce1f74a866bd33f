/- For every network the law FlowMaxSpec returns true, and it reads as before: no condition. -/
import Derived.Test.YtbmbddapbgnioaaIg
import Derived.Test.YtbmbddapbgnioaaOp
import Derived.WalkKit
import Derived.ProofKit
import Derived.OpenShut
import Derived.Carry
namespace Go.Proofs.Ytbmbddapbgnioaa.flowMaxSpec
open Go.ChangeShapes Go.WideShapes Go.ChangeAt Go.RowKit

theorem paramsF : Try.f4.params = #[24] := by kernel_rfl
theorem own : ownKnob Try.prog.godebug = none := by kernel_rfl

set_option maxRecDepth 100000 in
theorem lifted (os : Os) (started : os.Started) (H : Type) (enc : TypeId × Value → H) :
    ReturnsInHanded {} Try.checked os 4 .any (Rows.flowMaxSpecSpec.pre6 enc Try.prog Try.f4 Rows.flowMaxSpecRow.domain false) (Rows.flowMaxSpecSpec.post enc Try.prog Try.f4 false true false false) := by
  refine returnsInHanded_of_change (C := Try.checked) own started (by kernel_rfl) Try.func4
    (ChangeSpec.witness6 (enc := enc) (C := Try.checked) false ⟨#[], #[.agg #[.int .i64 0, .int .i64 0, .int .i64 0, .slice none 0 0]], []⟩ 8 (by kernel_rfl) (by kernel_rfl) (by kernel_rfl) (by kernel_rfl)) ?_
  intro W base args ds gs before hval0 hW hcnd _
  have hval : ∀ (j : Nat) t v, Try.f4.params[j]? = some t → args[j]? = some v → Value.okWide Try.prog W .any base t v := hval0
  have hW' := hW
  obtain ⟨p, q, hAz, hV, rfl, hfz, hnd⟩ := hW
  have hAa : DataW.TrodAll enc Try.prog W 0 (fun _ => true) true Try.f4.params.toList args.toList ds p := hAz
  rw [paramsF] at hAa hval
  obtain ⟨v0, vs0, d0, ds0, p0, q0, hargs, rfl, rfl, h0, r0⟩ := trodAll_cons hAa
  obtain ⟨rfl, rfl, rfl⟩ := trodAll_nil r0
  obtain rfl : args = #[v0] := by cases args; simp_all
  obtain ⟨rfl, rfl⟩ := trodVars_none hV
  obtain ⟨N, s, t, A, va, hv, iN, is, it, hA0⟩ := open_net_arg (hval 0 24 v0 rfl rfl) h0
  subst hv
  clear hval0 hAz
  have hlt := fun z hz => hW'.lt z hz
  refine (maxspec_walk N s t A va W hA0).mono fun e W' ⟨he, hb0⟩ => ?_
  subst he
  have hb := hb0.below
  have t0 := Below.trod Try.laidOut readN (of_decide_eq_true (by kernel_rfl)) h0 hb (fun z hz => hlt z (by simp [hz]))
  exact ⟨_, rfl, _, _, _, [], _, [], hW', trodAll_cons_mk (shut_bool Try.underlying4 _) trodAll_mk0, trodAll_cons_mk t0 trodAll_mk0, rfl, hb.frame _, fun h => by cases h⟩

theorem over : Rows.flowMaxSpecRow.holds Try.pinned (OpenSpec.ofChange Rows.flowMaxSpecSpec) :=
  OpenClaim.holds_of_wide 4 Try.f4 rfl rfl rfl rfl rfl rfl rfl ⟨rfl, rfl, rfl, rfl, rfl⟩ rfl rfl rfl rfl rfl (by kernel_rfl) Try.func4 (by kernel_rfl)
    (of_decide_eq_true (by kernel_rfl)) (by unfold Func.isWrapper; first | (rw [if_pos (by decide +kernel)]; kernel_rfl) | (rw [if_neg (by decide +kernel)]; exact ⟨rfl, rfl⟩))
    (fun os started H enc _ => lifted os started H enc)

theorem proved : Rows.FlowMaxSpecSaid := over
#print axioms proved
end Go.Proofs.Ytbmbddapbgnioaa.flowMaxSpec
