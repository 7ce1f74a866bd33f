/- An argument that is a digest, opened. -/
import Derived.Test.YtjibhelahagliaaDoorOp
import Derived.Test.YtjibhelahagliaaDoorX
import Derived.OpenShut
namespace Go.Proofs.YtjibhelahagliaaDoor
open Go.ChangeShapes Go.WideShapes Go.ChangeAt Go.RowKit Go.ChangeMaps

theorem okWide_arr {P : Program} {w : World} {r : Reach} {base : Nat} {t e : TypeId} {n : Nat} {v : Value} (ht : P.underlying t = some (.array n e)) (h : Value.okWide P w r base t v) : ∃ cs, v = .agg cs ∧ cs.size = P.cellsOf t := by
  unfold Value.okWide at h
  rw [ht] at h
  cases v <;> simp_all
theorem cells26 : Tryd.prog.cellsOf 26 = 32 := by kernel_rfl
theorem Tryd.read26 : Tryd.prog.readableRec 26 = true := by kernel_rfl
theorem open_dig {H : Type} {enc : TypeId × Value → H} {W : World} {base : Nat} {v : Value} {d : DataW H} {p : List MemPlace} (hv : Value.okWide Tryd.prog W .any base 26 v) (h : DataW.Trod enc Tryd.prog W 0 (fun _ => true) true 26 v d p) :
    ∃ b : List UInt8, b.length = 32 ∧ v = dg b := by
  obtain ⟨cs, rfl, hsz⟩ := okWide_arr Tryd.underlying26 hv
  obtain ⟨fuel, hf⟩ := h
  obtain ⟨xs, m, rfl, -, hlen, hxs, hel⟩ := DataW.trod_array Tryd.underlying26 hf
  rw [cells26] at hsz
  have hc : (Value.agg cs).cells.toList = cs.toList := by simp [Value.cells]
  have hex : ∀ i, ∃ k : Nat, i < 32 → k < 256 ∧ cs.toList[i]? = some (.int .u8 (k : Int)) := by
    intro i
    by_cases hi : i < 32
    · have hb := hel i hi
      rw [Tryd.cells5] at hb
      have hsome : xs[i]? = some (xs[i]'(by omega)) := List.getElem?_eq_getElem (by omega)
      rw [hsome] at hb
      have hlt : i < cs.toList.length := by rw [Array.length_toList]; omega
      have e1 : (cs.toList.drop (i * 1)).take 1 = [cs.toList[i]] := by
        rw [Nat.mul_one, List.drop_eq_getElem_cons hlt]; rfl
      simp only [Value.cells] at hb
      rw [e1] at hb
      obtain ⟨k, e0, _, wk⟩ := DataW.trod_int Tryd.underlying5 hb
      have hk := bounds_u8 wk
      injection e0 with e0
      refine ⟨k.toNat, fun _ => ⟨by omega, ?_⟩⟩
      rw [List.getElem?_eq_getElem hlt, e0, Int.toNat_of_nonneg hk.1]
    · exact ⟨0, fun h => absurd h hi⟩
  obtain ⟨f, hf2⟩ := Classical.skolem.1 hex
  refine ⟨(List.range 32).map fun i => UInt8.ofNat (f i), by simp, ?_⟩
  unfold dg
  congr 1
  apply Array.ext'
  apply List.ext_getElem?
  intro i
  by_cases hi : i < 32
  · rw [(hf2 i hi).2]
    simp [cellsOf, hi, Nat.mod_eq_of_lt (hf2 i hi).1]
  · rw [List.getElem?_eq_none (by rw [Array.length_toList]; omega), List.getElem?_eq_none (by simp [cellsOf]; omega)]
end Go.Proofs.YtjibhelahagliaaDoor
