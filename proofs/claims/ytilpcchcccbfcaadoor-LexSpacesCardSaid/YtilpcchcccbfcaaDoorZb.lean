/- An argument that is a slice of bytes, opened. -/
import Derived.Test.YtilpcchcccbfcaaDoorZo
namespace Go.Proofs.YtilpcchcccbfcaaDoor
open Go.RowKit Go.ChangeShapes Go.WideShapes Go.ChangeAt

theorem Tryd.read39 : Tryd.prog.readableRec 39 = true := by kernel_rfl
section
variable {H : Type} {enc : TypeId × Value → H} {W : World}
set_option maxRecDepth 100000 in
theorem open_bytes {base : Nat} {v : Value} {d : DataW H} {p : List MemPlace} (hv : Value.okWide Tryd.prog W .any base 39 v) (h : DataW.Trod enc Tryd.prog W 0 (fun _ => true) true 39 v d p) :
    ∃ (bs : List UInt8) (a : Option Addr) (cap : Nat), v = .slice a bs.length cap ∧ Rest W.heap.size W bs (.slice a bs.length cap) := by
  obtain ⟨a, len, cap, rfl⟩ := okWide_slice Tryd.underlying39 hv
  obtain ⟨fuel, hf⟩ := h
  rcases DataW.trod_slice Tryd.underlying39 hf with ⟨e3, _⟩ | ⟨a2, len2, cap2, elems, rest, n2, rfl, e3, _, _, hl, hcm, hel, hbind, _, _⟩
  · simp [Value.cells] at e3
    obtain ⟨rfl, rfl, rfl⟩ := e3
    exact ⟨[], none, 0, rfl, rest_nil _ _⟩
  · simp [Value.cells] at e3
    obtain ⟨rfl, rfl, rfl⟩ := e3
    have hex : ∀ i, ∃ n : Nat, i < len → n < 256 ∧ W.cell? (a2.add i) = some (.int .u8 (n : Int)) := by
      intro i
      by_cases hi : i < len
      · have hb := hbind i hi
        rw [cells5] at hb
        have hsome : elems[i]? = some (elems[i]'(by omega)) := List.getElem?_eq_getElem (by omega)
        rw [hsome] at hb
        cases hcs : W.cells? 0 (a2.add (i * 1)) 1 with
        | none => rw [hcs] at hb; cases hb
        | some cs2 =>
          rw [hcs] at hb
          obtain ⟨k, e0, _, wk⟩ := DataW.trod_int Tryd.underlying5 hb
          have hk := bounds_u8 wk
          obtain ⟨_, _, hat⟩ := World.cells?_some hcs
          have h0 := hat 0 (by omega)
          refine ⟨k.toNat, fun _ => ⟨by omega, ?_⟩⟩
          rw [Go.Deep.add_add] at h0
          rw [show a2.add i = a2.add (i * 1 + 0) by rw [Nat.mul_one, Nat.add_zero], h0, e0, Int.toNat_of_nonneg hk.1]; rfl
      · exact ⟨0, fun h => absurd h hi⟩
    obtain ⟨f, hf2⟩ := Classical.skolem.1 hex
    have hlen : ((List.range len).map fun i => UInt8.ofNat (f i)).length = len := by simp
    refine ⟨(List.range len).map fun i => UInt8.ofNat (f i), some a2, cap, by rw [hlen], some a2, cap, rfl, by rw [hlen]; omega, hcm, (fun h => by cases h), ?_⟩
    rcases Nat.eq_zero_or_pos len with h0 | h0
    · exact .inl (by rw [hlen, h0])
    · right
      have hc0 := (hf2 0 h0).2
      have hsp2 : a2.spot = none := by have := spot_none hc0; simpa [Addr.add] using this
      have ha := addr_eta hsp2
      have hblt : a2.block < W.heap.size := by
        rw [ha, Addr.add_lit] at hc0
        exact World.block_lt_of_cell? W ⟨a2.block, a2.off + 0, none⟩ hc0
      refine ⟨a2.block, a2.off, by rw [← ha], hblt, fun i hi => ?_⟩
      rw [hlen] at hi
      have h1 := (hf2 i hi).2
      rw [ha, Addr.add_lit] at h1
      rw [h1]
      simp [Nat.mod_eq_of_lt (hf2 i hi).1]
end

end Go.Proofs.YtilpcchcccbfcaaDoor
