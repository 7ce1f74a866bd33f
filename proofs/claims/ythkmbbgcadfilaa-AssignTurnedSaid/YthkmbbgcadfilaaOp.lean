/- Arguments opened: numbers, lists of lists of numbers. -/
import Derived.Test.YthkmbbgcadfilaaRows
import Derived.Test.YthkmbbgcadfilaaC
import Derived.ProofKit
import Derived.OpenShut
import Derived.Lib.SmallJoins
import Derived.Carry
import Derived.Deep.Strs
namespace Go.Proofs.Ythkmbbgcadfilaa
open Go.RowKit Go.ChangeShapes Go.WideShapes Go.ChangeAt

theorem cellsI : Try.prog.cellsOf 3 = 1 := by kernel_rfl
theorem cellsR : Try.prog.cellsOf 23 = 1 := by kernel_rfl
theorem Try.laidOut : laidOutB Try.prog = true := by kernel_rfl
theorem readI : Try.prog.readableRec 23 = true := by kernel_rfl
theorem readR : Try.prog.readableRec 22 = true := by kernel_rfl
theorem spot_none {w : World} {a : Addr} {v : Value} (h : w.cell? a = some v) : a.spot = none := by
  cases hs : a.spot with
  | none => rfl
  | some x =>
    unfold World.cell? at h
    split at h
    · rw [hs] at h; simp at h
    · cases h
theorem addr_eta {a : Addr} (h : a.spot = none) : a = ⟨a.block, a.off, none⟩ := by
  obtain ⟨b, o, s⟩ := a
  simp at h; subst h; rfl

section
variable {H : Type} {enc : TypeId × Value → H} {W : World}
set_option maxRecDepth 100000 in
/-- a slice, opened: each element is read by itself -/
theorem open_slice {t e : TypeId} {k : Nat} (ht : Try.prog.underlying t = some (.slice e)) (hk : Try.prog.cellsOf e = k) {fuel : Nat} {cs : List Value} {x : DataW H × List MemPlace}
    (h : DataW.trod enc Try.prog W 0 (fun _ => true) true fuel t cs = some x) :
    cs = [.slice none 0 0] ∨ ∃ (a : Addr) (len cap n2 : Nat), fuel = n2 + 1 ∧ cs = [.slice (some a) len cap] ∧ len ≤ cap ∧ cap ≤ maxLen ∧
      ∀ i, i < len → ∃ cs2 y, cs2.length = k ∧ (∀ j, j < k → W.cell? (a.add (i * k + j)) = cs2[j]?) ∧ DataW.trod enc Try.prog W 0 (fun _ => true) true n2 e cs2 = some y := by
  rcases DataW.trod_slice ht h with ⟨e3, _⟩ | ⟨a, len, cap, elems, rest, n2, hfu, e3, _, _, hl, hcm, hel, hbind, _, _⟩
  · exact .inl e3
  · refine .inr ⟨a, len, cap, n2, hfu, e3, hl, hcm, fun i hi => ?_⟩
    have hb := hbind i hi
    rw [hk] at hb
    have hsome : elems[i]? = some (elems[i]'(by omega)) := List.getElem?_eq_getElem (by omega)
    rw [hsome] at hb
    cases hcs : W.cells? 0 (a.add (i * k)) k with
    | none => rw [hcs] at hb; cases hb
    | some cs2 =>
      rw [hcs] at hb
      obtain ⟨_, hlen, hat⟩ := World.cells?_some hcs
      refine ⟨cs2, _, hlen, fun j hj => ?_, hb⟩
      have h0 := hat j hj
      rw [Go.Deep.add_add] at h0
      exact h0
set_option maxRecDepth 100000 in
theorem open_ints {fuel : Nat} {cs : List Value} {x : DataW H × List MemPlace} (hf : DataW.trod enc Try.prog W 0 (fun _ => true) true fuel 23 cs = some x) :
    ∃ (xs : List Int) (v : Value), cs = [v] ∧ IRest W.heap.size W xs v := by
  rcases open_slice Try.underlying23 cellsI hf with h0 | ⟨a, len, cap, n2, _, h0, hl, hcm, hel⟩
  · exact ⟨[], _, h0, irest_nil _ _⟩
  · have hex : ∀ i, ∃ n : Int, I64 n ∧ (i < len → W.cell? (a.add i) = some (.int .i64 n)) := by
      intro i
      by_cases hi : i < len
      · obtain ⟨cs2, y, hlen, hat, hb⟩ := hel i hi
        obtain ⟨k, e0, _, wk⟩ := DataW.trod_int Try.underlying3 hb
        have h0 := hat 0 (by omega)
        refine ⟨k, bounds_i64 wk, fun _ => ?_⟩
        rw [show a.add i = a.add (i * 1 + 0) by rw [Nat.mul_one, Nat.add_zero], h0, e0]; rfl
      · exact ⟨0, ⟨by omega, by omega⟩, fun h => absurd h hi⟩
    obtain ⟨f, hf2⟩ := Classical.skolem.1 hex
    have hlen : ((List.range len).map f).length = len := by simp
    refine ⟨(List.range len).map f, _, h0, some a, cap, by rw [hlen], by rw [hlen]; omega, hcm, fun x hx => ?_, ?_⟩
    · obtain ⟨i, _, rfl⟩ := List.mem_map.1 hx; exact (hf2 i).1
    · rcases Nat.eq_zero_or_pos len with h0 | h0
      · exact .inl (by rw [hlen, h0])
      · right
        have hc0 := (hf2 0).2 h0
        have hsp2 : a.spot = none := by have := spot_none hc0; simpa [Addr.add] using this
        have ha := addr_eta hsp2
        have hblt : a.block < W.heap.size := by
          rw [ha, Addr.add_lit] at hc0
          exact World.block_lt_of_cell? W ⟨a.block, a.off + 0, none⟩ hc0
        refine ⟨a.block, a.off, by rw [← ha], hblt, fun i hi => ?_⟩
        rw [hlen] at hi
        have h1 := (hf2 i).2 hi
        rw [ha, Addr.add_lit] at h1
        rw [h1]; simp
theorem open_ints_arg {base : Nat} {v : Value} {d : DataW H} {p : List MemPlace} (hv : Value.okWide Try.prog W .any base 23 v) (h : DataW.Trod enc Try.prog W 0 (fun _ => true) true 23 v d p) :
    ∃ xs : List Int, IRest W.heap.size W xs v := by
  obtain ⟨a0, len0, cap0, rfl⟩ := okWide_slice Try.underlying23 hv
  obtain ⟨fuel, hf⟩ := h
  obtain ⟨xs, v, h1, h2⟩ := open_ints hf
  injection h1 with h1
  exact ⟨xs, by rw [h1]; exact h2⟩
set_option maxRecDepth 100000 in
theorem open_rows_arg {base : Nat} {v : Value} {d : DataW H} {p : List MemPlace} (hv : Value.okWide Try.prog W .any base 22 v) (h : DataW.Trod enc Try.prog W 0 (fun _ => true) true 22 v d p) :
    ∃ C : List (List Int), NRest W.heap.size W C v := by
  obtain ⟨a0, len0, cap0, rfl⟩ := okWide_slice Try.underlying22 hv
  obtain ⟨fuel, hf⟩ := h
  rcases open_slice Try.underlying22 cellsR hf with h0 | ⟨a, len, cap, n2, _, h0, hl, hcm, hel⟩
  · injection h0 with h0
    rw [h0]
    exact ⟨[], nrest_nil _ _⟩
  · injection h0 with h0
    rw [h0]
    have hex : ∀ i, ∃ r : List Int, i < len → ∃ rv, W.cell? (a.add i) = some rv ∧ IRest W.heap.size W r rv := by
      intro i
      by_cases hi : i < len
      · obtain ⟨cs2, y, hlen, hat, hb⟩ := hel i hi
        obtain ⟨xs, v, h1, h2⟩ := open_ints hb
        have h0 := hat 0 (by omega)
        refine ⟨xs, fun _ => ⟨v, ?_, h2⟩⟩
        rw [show a.add i = a.add (i * 1 + 0) by rw [Nat.mul_one, Nat.add_zero], h0, h1]; rfl
      · exact ⟨[], fun h => absurd h hi⟩
    obtain ⟨f, hf2⟩ := Classical.skolem.1 hex
    have hlen : ((List.range len).map f).length = len := by simp
    refine ⟨(List.range len).map f, some a, cap, by rw [hlen], by rw [hlen]; omega, hcm, ?_⟩
    rcases Nat.eq_zero_or_pos len with h0 | h0
    · exact .inl (by rw [hlen, h0])
    · right
      obtain ⟨rv0, hc0, -⟩ := hf2 0 h0
      have hsp2 : a.spot = none := by have := spot_none hc0; simpa [Addr.add] using this
      have ha := addr_eta hsp2
      have hblt : a.block < W.heap.size := by
        rw [ha, Addr.add_lit] at hc0
        exact World.block_lt_of_cell? W ⟨a.block, a.off + 0, none⟩ hc0
      refine ⟨a.block, a.off, by rw [← ha], hblt, fun i hi => ?_⟩
      rw [hlen] at hi
      obtain ⟨rv, h1, h2⟩ := hf2 i hi
      rw [ha, Addr.add_lit] at h1
      exact ⟨rv, h1, by simpa using h2⟩
end
end Go.Proofs.Ythkmbbgcadfilaa
