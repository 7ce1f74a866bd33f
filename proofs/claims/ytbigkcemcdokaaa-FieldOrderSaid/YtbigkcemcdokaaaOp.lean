/- Arguments that are lists of numbers and of points, opened. -/
import Derived.Test.YtbigkcemcdokaaaB
import Derived.ProofKit
import Derived.OpenShut
import Derived.Lib.SmallJoins
import Derived.Carry
namespace Go.Proofs.Ytbigkcemcdokaaa
open Go.RowKit Go.ChangeShapes Go.WideShapes Go.ChangeAt

theorem cells3 : Try.prog.cellsOf 3 = 1 := by kernel_rfl
theorem cells35 : Try.prog.cellsOf 35 = 2 := by kernel_rfl
theorem Try.laidOut : laidOutB Try.prog = true := by kernel_rfl
theorem Try.read31 : Try.prog.readableRec 31 = true := by kernel_rfl
theorem Try.read32 : Try.prog.readableRec 32 = true := by kernel_rfl
theorem spot_none {w : World} {a : Addr} {v : Value} (h : w.cell? a = some v) : a.spot = none := by
  cases hs : a.spot with
  | none => rfl
  | some x =>
    unfold World.cell? at h
    split at h
    · rw [hs] at h; simp at h
    · cases h
theorem addr_eta {a : Addr} (h : a.spot = none) : a = ⟨a.block, a.off, none⟩ := by
  obtain ⟨b, o, s⟩ := a
  simp at h; subst h; rfl

section
variable {H : Type} {enc : TypeId × Value → H} {W : World}
set_option maxRecDepth 100000 in
/-- a slice, opened: each element is read by itself -/
theorem open_slice {t e : TypeId} {k : Nat} (ht : Try.prog.underlying t = some (.slice e)) (hk : Try.prog.cellsOf e = k) {fuel : Nat} {cs : List Value} {x : DataW H × List MemPlace}
    (h : DataW.trod enc Try.prog W 0 (fun _ => true) true fuel t cs = some x) :
    cs = [.slice none 0 0] ∨ ∃ (a : Addr) (len cap n2 : Nat), fuel = n2 + 1 ∧ cs = [.slice (some a) len cap] ∧ len ≤ cap ∧ cap ≤ maxLen ∧
      ∀ i, i < len → ∃ cs2 y, cs2.length = k ∧ (∀ j, j < k → W.cell? (a.add (i * k + j)) = cs2[j]?) ∧ DataW.trod enc Try.prog W 0 (fun _ => true) true n2 e cs2 = some y := by
  rcases DataW.trod_slice ht h with ⟨e3, _⟩ | ⟨a, len, cap, elems, rest, n2, hfu, e3, _, _, hl, hcm, hel, hbind, _, _⟩
  · exact .inl e3
  · refine .inr ⟨a, len, cap, n2, hfu, e3, hl, hcm, fun i hi => ?_⟩
    have hb := hbind i hi
    rw [hk] at hb
    have hsome : elems[i]? = some (elems[i]'(by omega)) := List.getElem?_eq_getElem (by omega)
    rw [hsome] at hb
    cases hcs : W.cells? 0 (a.add (i * k)) k with
    | none => rw [hcs] at hb; cases hb
    | some cs2 =>
      rw [hcs] at hb
      obtain ⟨_, hlen, hat⟩ := World.cells?_some hcs
      refine ⟨cs2, _, hlen, fun j hj => ?_, hb⟩
      have h0 := hat j hj
      rw [Go.Deep.add_add] at h0
      exact h0
set_option maxRecDepth 100000 in
theorem open_ints_arg {base : Nat} {v : Value} {d : DataW H} {p : List MemPlace} (hv : Value.okWide Try.prog W .any base 32 v) (h : DataW.Trod enc Try.prog W 0 (fun _ => true) true 32 v d p) :
    ∃ xs : List Int, IRest W.heap.size W xs v := by
  obtain ⟨a0, len0, cap0, rfl⟩ := okWide_slice Try.underlying32 hv
  obtain ⟨fuel, hf⟩ := h
  rcases open_slice Try.underlying32 cells3 hf with h0 | ⟨a, len, cap, n2, _, h0, hl, hcm, hel⟩
  · injection h0 with h0
    rw [h0]
    exact ⟨[], irest_nil _ _⟩
  · injection h0 with h0
    rw [h0]
    have hex : ∀ i, ∃ n : Int, I64 n ∧ (i < len → W.cell? (a.add i) = some (.int .i64 n)) := by
      intro i
      by_cases hi : i < len
      · obtain ⟨cs2, y, hlen, hat, hb⟩ := hel i hi
        obtain ⟨k, e0, _, wk⟩ := DataW.trod_int Try.underlying3 hb
        have h0 := hat 0 (by omega)
        refine ⟨k, bounds_i64 wk, fun _ => ?_⟩
        rw [show a.add i = a.add (i * 1 + 0) by rw [Nat.mul_one, Nat.add_zero], h0, e0]; rfl
      · exact ⟨0, ⟨by omega, by omega⟩, fun h => absurd h hi⟩
    obtain ⟨f, hf2⟩ := Classical.skolem.1 hex
    have hlen : ((List.range len).map f).length = len := by simp
    refine ⟨(List.range len).map f, some a, cap, by rw [hlen], by rw [hlen]; omega, hcm, fun x hx => ?_, ?_⟩
    · obtain ⟨i, _, rfl⟩ := List.mem_map.1 hx; exact (hf2 i).1
    · rcases Nat.eq_zero_or_pos len with h0 | h0
      · exact .inl (by rw [hlen, h0])
      · right
        have hc0 := (hf2 0).2 h0
        have hsp2 : a.spot = none := by have := spot_none hc0; simpa [Addr.add] using this
        have ha := addr_eta hsp2
        have hblt : a.block < W.heap.size := by
          rw [ha, Addr.add_lit] at hc0
          exact World.block_lt_of_cell? W ⟨a.block, a.off + 0, none⟩ hc0
        refine ⟨a.block, a.off, by rw [← ha], hblt, fun i hi => ?_⟩
        rw [hlen] at hi
        have h1 := (hf2 i).2 hi
        rw [ha, Addr.add_lit] at h1
        rw [h1]; simp
set_option maxRecDepth 100000 in
theorem open_points_arg {base : Nat} {v : Value} {d : DataW H} {p : List MemPlace} (hv : Value.okWide Try.prog W .any base 31 v) (h : DataW.Trod enc Try.prog W 0 (fun _ => true) true 31 v d p) :
    ∃ l : List (Int × Int), PRest W.heap.size W l v := by
  obtain ⟨a0, len0, cap0, rfl⟩ := okWide_slice Try.underlying31 hv
  obtain ⟨fuel, hf⟩ := h
  rcases open_slice Try.underlying31 cells35 hf with h0 | ⟨a, len, cap, n2, _, h0, hl, hcm, hel⟩
  · injection h0 with h0
    rw [h0]
    exact ⟨[], prest_nil _ _⟩
  · injection h0 with h0
    rw [h0]
    have hex : ∀ i, ∃ n : Int × Int, (I64 n.1 ∧ I64 n.2) ∧ (i < len → W.cell? (a.add (i * 2)) = some (.int .i64 n.1) ∧ W.cell? (a.add (i * 2 + 1)) = some (.int .i64 n.2)) := by
      intro i
      by_cases hi : i < len
      · obtain ⟨cs2, y, hlen, hat, hb⟩ := hel i hi
        obtain ⟨y0, y1, m, _, _, h0, h1⟩ := trod_struct2 Try.underlying35 hb
        match cs2, hlen with
        | [c0, c1], _ =>
          simp only [cells3, List.drop_zero, List.drop_succ_cons, List.take_succ_cons, List.take_zero] at h0 h1
          obtain ⟨k, e0, _, wk⟩ := DataW.trod_int Try.underlying3 h0
          obtain ⟨k2, e1, _, wk2⟩ := DataW.trod_int Try.underlying3 h1
          injection e0 with e0
          injection e1 with e1
          have g0 := hat 0 (by omega)
          have g1 := hat 1 (by omega)
          refine ⟨(k, k2), ⟨bounds_i64 wk, bounds_i64 wk2⟩, fun _ => ⟨?_, ?_⟩⟩
          · rw [show a.add (i * 2) = a.add (i * 2 + 0) by rw [Nat.add_zero], g0, ← e0]; rfl
          · rw [g1, ← e1]; rfl
      · exact ⟨(0, 0), ⟨⟨by simp, by simp⟩, ⟨by simp, by simp⟩⟩, fun h => absurd h hi⟩
    obtain ⟨f, hf2⟩ := Classical.skolem.1 hex
    have hlen : ((List.range len).map f).length = len := by simp
    refine ⟨(List.range len).map f, some a, cap, by rw [hlen], by rw [hlen]; omega, hcm, fun x hx => ?_, ?_⟩
    · obtain ⟨i, _, rfl⟩ := List.mem_map.1 hx; exact (hf2 i).1
    · rcases Nat.eq_zero_or_pos len with h0 | h0
      · exact .inl (by rw [hlen, h0])
      · right
        have hc0 := ((hf2 0).2 h0).1
        have hsp2 : a.spot = none := by have := spot_none hc0; simpa [Addr.add] using this
        have ha := addr_eta hsp2
        have hblt : a.block < W.heap.size := by
          rw [ha, Addr.add_lit] at hc0
          exact World.block_lt_of_cell? W ⟨a.block, a.off + 0 * 2, none⟩ hc0
        refine ⟨a.block, a.off, by rw [← ha], hblt, fun i hi => ?_⟩
        rw [hlen] at hi
        have h1 := (hf2 i).2 hi
        rw [ha, Addr.add_lit, Addr.add_lit] at h1
        rw [h1.1, show a.off + i * 2 + 1 = a.off + (i * 2 + 1) by omega, h1.2]; simp
end
end Go.Proofs.Ytbigkcemcdokaaa
