/- For every list of values the law on lists returns true, and the list reads as before: no condition. -/
import Derived.Test.YtgliddedimpgaaaRows
import Derived.Test.YtgliddedimpgaaaLs
import Derived.Test.YtgliddedimpgaaaOp
import Derived.WalkKit
import Derived.ProofKit
import Derived.OpenShut
import Derived.Carry
namespace Go.Proofs.Ytgliddedimpgaaa.codecLists
open Go.ChangeShapes Go.WideShapes Go.ChangeAt Go.RowKit

section
variable {H : Type} {enc : TypeId × Value → H} {W : World}
theorem open_vals {base : Nat} {v : Value} {d : DataW H} {p : List MemPlace} (hv : Value.okWide Try.prog W .any base 22 v) (h : DataW.Trod enc Try.prog W 0 (fun _ => true) true 22 v d p) :
    ∃ (l : List V) (a : Option Addr) (cap : Nat), v = .slice a l.length cap ∧ Is W (.mk 3 0 ⟨#[]⟩ l) (val 3 0 ⟨#[]⟩ a l.length cap) := by
  obtain ⟨a, len, cap, rfl⟩ := okWide_slice Try.underlying22 hv
  obtain ⟨fuel, hf⟩ := h
  rcases DataW.trod_slice Try.underlying22 hf with ⟨e3, _⟩ | ⟨a2, len2, cap2, elems, rest, n2, rfl, e3, _, _, hl, hcm, hel, hbind, _, _⟩
  · simp [Value.cells] at e3
    obtain ⟨rfl, rfl, rfl⟩ := e3
    exact ⟨[], none, 0, rfl, is_zero W 3 (by omega)⟩
  · simp [Value.cells] at e3
    obtain ⟨rfl, rfl, rfl⟩ := e3
    have hex : ∀ i, ∃ p : El × V, i < len → W.cells? 0 (a2.add (i * 4)) 4 = some p.1.cells ∧ IsB W.heap.size W p.2 p.1.val := by
      intro i
      by_cases hi : i < len
      · have hb := hbind i hi
        rw [Try.cells24] at hb
        have hsome : elems[i]? = some (elems[i]'(by omega)) := List.getElem?_eq_getElem (by omega)
        rw [hsome] at hb
        cases hcs : W.cells? 0 (a2.add (i * 4)) 4 with
        | none => rw [hcs] at hb; cases hb
        | some cs2 =>
          rw [hcs] at hb
          obtain ⟨e, t, hc, hI⟩ := open_is n2 cs2 _ hb
          exact ⟨(e, t), fun _ => ⟨by rw [hc], hI⟩⟩
      · exact ⟨(El.none, .mk 0 0 ⟨#[]⟩ []), fun h => absurd h hi⟩
    obtain ⟨f, hf2⟩ := Classical.skolem.1 hex
    have hlt : ((List.range len).map fun i => (f i).2).length = len := by simp
    refine ⟨(List.range len).map fun i => (f i).2, some a2, cap, by rw [hlt], ?_⟩
    refine IsB.mk (B := W.heap.size) (w := W) 3 0 ⟨#[]⟩ ((List.range len).map fun i => (f i).2) (some a2) cap (fun i => (f i).1.k) (fun i => (f i).1.n) (fun i => (f i).1.s) (fun i => (f i).1.a) (fun i => (f i).1.l) (fun i => (f i).1.c)
      (by omega) (by omega) (Nat.zero_le _) (by rw [hlt]; unfold maxLen at hcm; omega) ?_ ?_
    · rcases Nat.eq_zero_or_pos len with h0 | h0
      · exact .inl (by rw [hlt, h0])
      · right
        have hc : ∀ i, i < len → ∀ t, t < 4 → W.cell? (a2.add (i * 4 + t)) = (f i).1.cells[t]? := fun i hi t ht => by
          obtain ⟨_, _, hat⟩ := World.cells?_some (hf2 i hi).1
          have := hat t ht
          rw [Go.Deep.add_add] at this; exact this
        have hsp := spot_none (hc 0 h0 0 (by omega))
        have hsp2 : a2.spot = none := by simpa [Addr.add] using hsp
        have ha := addr_eta hsp2
        have hblt : a2.block < W.heap.size := by
          have h1 := hc 0 h0 0 (by omega)
          rw [ha, Addr.add_lit] at h1
          have h2 : W.cell? ⟨a2.block, a2.off + (0 * 4 + 0), none⟩ = some (.int .i64 (f 0).1.k) := h1
          exact World.block_lt_of_cell? W ⟨a2.block, a2.off + (0 * 4 + 0), none⟩ h2
        refine ⟨a2.block, a2.off, by rw [← ha], hblt, fun i hi => ?_⟩
        rw [hlt] at hi
        have q : ∀ t, t < 4 → W.cell? ⟨a2.block, a2.off + i * 4 + t, none⟩ = (f i).1.cells[t]? := fun t ht => by
          have h1 := hc i hi t ht
          rw [ha, Addr.add_lit] at h1
          rw [Nat.add_assoc]; exact h1
        exact ⟨q 0 (by omega), q 1 (by omega), q 2 (by omega), q 3 (by omega)⟩
    · intro i hi
      rw [hlt] at hi
      have h3 := (hf2 i hi).2
      have e1 : ((List.range len).map fun i => (f i).2)[i]'(by simpa using hi) = (f i).2 := by simp
      rw [e1]; exact h3
end

set_option maxRecDepth 100000 in
theorem lifted (os : Os) (started : os.Started) (H : Type) (enc : TypeId × Value → H) :
    ReturnsInHanded {} Try.checked os 8 .any (Rows.codecListsSpec.pre6 enc Try.prog Try.f8 Rows.codecListsRow.domain false) (Rows.codecListsSpec.post enc Try.prog Try.f8 false true false false) := by
  refine returnsInHanded_of_change (C := Try.checked) Try.own started (by kernel_rfl) Try.func8
    (ChangeSpec.witness6 (enc := enc) (C := Try.checked) false ⟨#[], #[.slice none 0 0], []⟩ 8 (by kernel_rfl) (by kernel_rfl) (by kernel_rfl) (by kernel_rfl)) ?_
  intro W base args ds gs before hval0 hW hcnd _
  have hval : ∀ (j : Nat) t v, Try.f8.params[j]? = some t → args[j]? = some v → Value.okWide Try.prog W .any base t v := hval0
  have hW' := hW
  obtain ⟨p, q, hA0, hV, rfl, hfz, hnd⟩ := hW
  have hA : DataW.TrodAll enc Try.prog W 0 (fun _ => true) true Try.f8.params.toList args.toList ds p := hA0
  rw [Try.params8] at hA hval
  obtain ⟨v0, vs0, d0, ds0, p0, q0, hargs, rfl, rfl, h0, r0⟩ := trodAll_cons hA
  obtain ⟨rfl, rfl, rfl⟩ := trodAll_nil r0
  obtain rfl : args = #[v0] := by cases args; simp_all
  obtain ⟨rfl, rfl⟩ := trodVars_none hV
  obtain ⟨l, a, cap, rfl, hx⟩ := open_vals (hval 0 22 v0 rfl rfl) h0
  clear hA0 hval0
  have hlt : ∀ z ∈ p0 ++ [] ++ [], z.block < W.heap.size := fun z hz => hW'.lt z hz
  refine (lists_walk l a cap W hx).mono fun e W' ⟨he, hb⟩ => ?_
  subst he
  have t0 := Below.trod Try.laidOut Try.read22 (of_decide_eq_true (by kernel_rfl)) h0 hb (fun z hz => hlt z (by simp [hz]))
  exact ⟨_, rfl, _, _, _, [], p0 ++ [], [], hW', trodAll_cons_mk (shut_bool Try.underlying4 _) trodAll_mk0, trodAll_cons_mk t0 trodAll_mk0, rfl, hb.frame _, fun h => by cases h⟩

theorem over : Rows.codecListsRow.holds Try.pinned (OpenSpec.ofChange Rows.codecListsSpec) :=
  OpenClaim.holds_of_wide 8 Try.f8 rfl rfl rfl rfl rfl rfl rfl ⟨rfl, rfl, rfl, rfl, rfl⟩ rfl rfl rfl rfl rfl (by kernel_rfl) Try.func8 (by kernel_rfl)
    (of_decide_eq_true (by kernel_rfl)) (by unfold Func.isWrapper; first | (rw [if_pos (by decide +kernel)]; kernel_rfl) | (rw [if_neg (by decide +kernel)]; exact ⟨rfl, rfl⟩))
    (fun os started H enc _ => lifted os started H enc)

theorem proved : Rows.CodecListsSaid := over
#print axioms proved
end Go.Proofs.Ytgliddedimpgaaa.codecLists
