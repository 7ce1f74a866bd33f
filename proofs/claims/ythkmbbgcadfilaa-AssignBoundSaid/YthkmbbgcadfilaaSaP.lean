/- For all costs, every list of columns and every two lists of prices the law AssignBound returns true, and each argument reads as before: no condition. -/
import Derived.Test.YthkmbbgcadfilaaSa
import Derived.Test.YthkmbbgcadfilaaOp
import Derived.WalkKit
import Derived.ProofKit
import Derived.OpenShut
import Derived.Carry
namespace Go.Proofs.Ythkmbbgcadfilaa.assignBound
open Go.ChangeShapes Go.WideShapes Go.ChangeAt Go.RowKit

theorem paramsF : Try.f6.params = #[22, 23, 23, 23] := by kernel_rfl
theorem own : ownKnob Try.prog.godebug = none := by kernel_rfl

set_option maxRecDepth 100000 in
theorem lifted (os : Os) (started : os.Started) (H : Type) (enc : TypeId × Value → H) :
    ReturnsInHanded {} Try.checked os 6 .any (Rows.assignBoundSpec.pre6 enc Try.prog Try.f6 Rows.assignBoundRow.domain false) (Rows.assignBoundSpec.post enc Try.prog Try.f6 false true false false) := by
  refine returnsInHanded_of_change (C := Try.checked) own started (by kernel_rfl) Try.func6
    (ChangeSpec.witness6 (enc := enc) (C := Try.checked) false ⟨#[], #[.slice none 0 0, .slice none 0 0, .slice none 0 0, .slice none 0 0], []⟩ 8 (by kernel_rfl) (by kernel_rfl) (by kernel_rfl) (by kernel_rfl)) ?_
  intro W base args ds gs before hval0 hW hcnd _
  have hval : ∀ (j : Nat) t v, Try.f6.params[j]? = some t → args[j]? = some v → Value.okWide Try.prog W .any base t v := hval0
  have hW' := hW
  obtain ⟨p, q, hAz, hV, rfl, hfz, hnd⟩ := hW
  have hAa : DataW.TrodAll enc Try.prog W 0 (fun _ => true) true Try.f6.params.toList args.toList ds p := hAz
  rw [paramsF] at hAa hval
  obtain ⟨v0, vs0, d0, ds0, p0, q0, hargs, rfl, rfl, h0, r0⟩ := trodAll_cons hAa
  obtain ⟨v1, vs1, d1, ds1, p1, q1, rfl, rfl, rfl, h1, r1⟩ := trodAll_cons r0
  obtain ⟨v2, vs2, d2, ds2, p2, q2, rfl, rfl, rfl, h2, r2⟩ := trodAll_cons r1
  obtain ⟨v3, vs3, d3, ds3, p3, q3, rfl, rfl, rfl, h3, r3⟩ := trodAll_cons r2
  obtain ⟨rfl, rfl, rfl⟩ := trodAll_nil r3
  obtain rfl : args = #[v0, v1, v2, v3] := by cases args; simp_all
  obtain ⟨rfl, rfl⟩ := trodVars_none hV
  obtain ⟨x0, m0⟩ := open_rows_arg (hval 0 22 v0 rfl rfl) h0
  obtain ⟨x1, m1⟩ := open_ints_arg (hval 1 23 v1 rfl rfl) h1
  obtain ⟨x2, m2⟩ := open_ints_arg (hval 2 23 v2 rfl rfl) h2
  obtain ⟨x3, m3⟩ := open_ints_arg (hval 3 23 v3 rfl rfl) h3
  clear hval0 hAz
  have hlt := fun z hz => hW'.lt z hz
  refine (bound_walk x0 x1 x2 x3 v0 v1 v2 v3 W m0 m1 m2 m3).mono fun e W' ⟨he, hb⟩ => ?_
  subst he
  have t0 := Below.trod Try.laidOut readR (of_decide_eq_true (by kernel_rfl)) h0 hb (fun z hz => hlt z (by simp [hz]))
  have t1 := Below.trod Try.laidOut readI (of_decide_eq_true (by kernel_rfl)) h1 hb (fun z hz => hlt z (by simp [hz]))
  have t2 := Below.trod Try.laidOut readI (of_decide_eq_true (by kernel_rfl)) h2 hb (fun z hz => hlt z (by simp [hz]))
  have t3 := Below.trod Try.laidOut readI (of_decide_eq_true (by kernel_rfl)) h3 hb (fun z hz => hlt z (by simp [hz]))
  exact ⟨_, rfl, _, _, _, [], _, [], hW', trodAll_cons_mk (shut_bool Try.underlying4 _) trodAll_mk0, trodAll_cons_mk t0 (trodAll_cons_mk t1 (trodAll_cons_mk t2 (trodAll_cons_mk t3 trodAll_mk0))), rfl, hb.frame _, fun h => by cases h⟩

theorem over : Rows.assignBoundRow.holds Try.pinned (OpenSpec.ofChange Rows.assignBoundSpec) :=
  OpenClaim.holds_of_wide 6 Try.f6 rfl rfl rfl rfl rfl rfl rfl ⟨rfl, rfl, rfl, rfl, rfl⟩ rfl rfl rfl rfl rfl (by kernel_rfl) Try.func6 (by kernel_rfl)
    (of_decide_eq_true (by kernel_rfl)) (by unfold Func.isWrapper; first | (rw [if_pos (by decide +kernel)]; kernel_rfl) | (rw [if_neg (by decide +kernel)]; exact ⟨rfl, rfl⟩))
    (fun os started H enc _ => lifted os started H enc)

theorem proved : Rows.AssignBoundSaid := over
#print axioms proved
end Go.Proofs.Ythkmbbgcadfilaa.assignBound
