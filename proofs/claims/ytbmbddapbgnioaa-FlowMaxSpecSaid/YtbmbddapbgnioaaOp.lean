/- Arguments opened: networks, numbers, truth values. -/
import Derived.Test.YtbmbddapbgnioaaRows
import Derived.Test.YtbmbddapbgnioaaHa
import Derived.ProofKit
import Derived.OpenShut
import Derived.Lib.SmallJoins
import Derived.Carry
import Derived.Deep.Strs
namespace Go.Proofs.Ytbmbddapbgnioaa
open Go.RowKit Go.ChangeShapes Go.WideShapes Go.ChangeAt

theorem cellsI : Try.prog.cellsOf 3 = 1 := by kernel_rfl
theorem cellsB : Try.prog.cellsOf 4 = 1 := by kernel_rfl
theorem cellsA : Try.prog.cellsOf 43 = 3 := by kernel_rfl
theorem cellsN : Try.prog.cellsOf 24 = 4 := by kernel_rfl
theorem cellsL : Try.prog.cellsOf 22 = 1 := by kernel_rfl
theorem Try.laidOut : laidOutB Try.prog = true := by kernel_rfl
theorem readN : Try.prog.readableRec 24 = true := by kernel_rfl
theorem readI : Try.prog.readableRec 25 = true := by kernel_rfl
theorem readB : Try.prog.readableRec 26 = true := by kernel_rfl
theorem spot_none {w : World} {a : Addr} {v : Value} (h : w.cell? a = some v) : a.spot = none := by
  cases hs : a.spot with
  | none => rfl
  | some x =>
    unfold World.cell? at h
    split at h
    · rw [hs] at h; simp at h
    · cases h
theorem addr_eta {a : Addr} (h : a.spot = none) : a = ⟨a.block, a.off, none⟩ := by
  obtain ⟨b, o, s⟩ := a
  simp at h; subst h; rfl

section
variable {H : Type} {enc : TypeId × Value → H} {W : World}
set_option maxRecDepth 100000 in
/-- a slice, opened: each element is read by itself -/
theorem open_slice {t e : TypeId} {k : Nat} (ht : Try.prog.underlying t = some (.slice e)) (hk : Try.prog.cellsOf e = k) {fuel : Nat} {cs : List Value} {x : DataW H × List MemPlace}
    (h : DataW.trod enc Try.prog W 0 (fun _ => true) true fuel t cs = some x) :
    cs = [.slice none 0 0] ∨ ∃ (a : Addr) (len cap n2 : Nat), fuel = n2 + 1 ∧ cs = [.slice (some a) len cap] ∧ len ≤ cap ∧ cap ≤ maxLen ∧
      ∀ i, i < len → ∃ cs2 y, cs2.length = k ∧ (∀ j, j < k → W.cell? (a.add (i * k + j)) = cs2[j]?) ∧ DataW.trod enc Try.prog W 0 (fun _ => true) true n2 e cs2 = some y := by
  rcases DataW.trod_slice ht h with ⟨e3, _⟩ | ⟨a, len, cap, elems, rest, n2, hfu, e3, _, _, hl, hcm, hel, hbind, _, _⟩
  · exact .inl e3
  · refine .inr ⟨a, len, cap, n2, hfu, e3, hl, hcm, fun i hi => ?_⟩
    have hb := hbind i hi
    rw [hk] at hb
    have hsome : elems[i]? = some (elems[i]'(by omega)) := List.getElem?_eq_getElem (by omega)
    rw [hsome] at hb
    cases hcs : W.cells? 0 (a.add (i * k)) k with
    | none => rw [hcs] at hb; cases hb
    | some cs2 =>
      rw [hcs] at hb
      obtain ⟨_, hlen, hat⟩ := World.cells?_some hcs
      refine ⟨cs2, _, hlen, fun j hj => ?_, hb⟩
      have h0 := hat j hj
      rw [Go.Deep.add_add] at h0
      exact h0
set_option maxRecDepth 100000 in
theorem open_ints_arg {base : Nat} {v : Value} {d : DataW H} {p : List MemPlace} (hv : Value.okWide Try.prog W .any base 25 v) (h : DataW.Trod enc Try.prog W 0 (fun _ => true) true 25 v d p) :
    ∃ xs : List Int, IRest W.heap.size W xs v := by
  obtain ⟨a0, len0, cap0, rfl⟩ := okWide_slice Try.underlying25 hv
  obtain ⟨fuel, hf⟩ := h
  rcases open_slice Try.underlying25 cellsI hf with h0 | ⟨a, len, cap, n2, _, h0, hl, hcm, hel⟩
  · injection h0 with h0
    rw [h0]
    exact ⟨[], irest_nil _ _⟩
  · injection h0 with h0
    rw [h0]
    have hex : ∀ i, ∃ n : Int, I64 n ∧ (i < len → W.cell? (a.add i) = some (.int .i64 n)) := by
      intro i
      by_cases hi : i < len
      · obtain ⟨cs2, y, hlen, hat, hb⟩ := hel i hi
        obtain ⟨k, e0, _, wk⟩ := DataW.trod_int Try.underlying3 hb
        have h0 := hat 0 (by omega)
        refine ⟨k, bounds_i64 wk, fun _ => ?_⟩
        rw [show a.add i = a.add (i * 1 + 0) by rw [Nat.mul_one, Nat.add_zero], h0, e0]; rfl
      · exact ⟨0, ⟨by omega, by omega⟩, fun h => absurd h hi⟩
    obtain ⟨f, hf2⟩ := Classical.skolem.1 hex
    have hlen : ((List.range len).map f).length = len := by simp
    refine ⟨(List.range len).map f, some a, cap, by rw [hlen], by rw [hlen]; omega, hcm, fun x hx => ?_, ?_⟩
    · obtain ⟨i, _, rfl⟩ := List.mem_map.1 hx; exact (hf2 i).1
    · rcases Nat.eq_zero_or_pos len with h0 | h0
      · exact .inl (by rw [hlen, h0])
      · right
        have hc0 := (hf2 0).2 h0
        have hsp2 : a.spot = none := by have := spot_none hc0; simpa [Addr.add] using this
        have ha := addr_eta hsp2
        have hblt : a.block < W.heap.size := by
          rw [ha, Addr.add_lit] at hc0
          exact World.block_lt_of_cell? W ⟨a.block, a.off + 0, none⟩ hc0
        refine ⟨a.block, a.off, by rw [← ha], hblt, fun i hi => ?_⟩
        rw [hlen] at hi
        have h1 := (hf2 i).2 hi
        rw [ha, Addr.add_lit] at h1
        rw [h1]; simp
set_option maxRecDepth 100000 in
theorem open_bools_arg {base : Nat} {v : Value} {d : DataW H} {p : List MemPlace} (hv : Value.okWide Try.prog W .any base 26 v) (h : DataW.Trod enc Try.prog W 0 (fun _ => true) true 26 v d p) :
    ∃ xs : List Bool, BRest W.heap.size W xs v := by
  obtain ⟨a0, len0, cap0, rfl⟩ := okWide_slice Try.underlying26 hv
  obtain ⟨fuel, hf⟩ := h
  rcases open_slice Try.underlying26 cellsB hf with h0 | ⟨a, len, cap, n2, _, h0, hl, hcm, hel⟩
  · injection h0 with h0
    rw [h0]
    exact ⟨[], brest_nil _ _⟩
  · injection h0 with h0
    rw [h0]
    have hex : ∀ i, ∃ n : Bool, (i < len → W.cell? (a.add i) = some (.bool n)) := by
      intro i
      by_cases hi : i < len
      · obtain ⟨cs2, y, hlen, hat, hb⟩ := hel i hi
        obtain ⟨k, e0, _⟩ := DataW.trod_bool Try.underlying4 hb
        have h0 := hat 0 (by omega)
        refine ⟨k, fun _ => ?_⟩
        rw [show a.add i = a.add (i * 1 + 0) by rw [Nat.mul_one, Nat.add_zero], h0, e0]; rfl
      · exact ⟨false, fun h => absurd h hi⟩
    obtain ⟨f, hf2⟩ := Classical.skolem.1 hex
    have hlen : ((List.range len).map f).length = len := by simp
    refine ⟨(List.range len).map f, some a, cap, by rw [hlen], by rw [hlen]; omega, hcm, ?_⟩
    · rcases Nat.eq_zero_or_pos len with h0 | h0
      · exact .inl (by rw [hlen, h0])
      · right
        have hc0 := hf2 0 h0
        have hsp2 : a.spot = none := by have := spot_none hc0; simpa [Addr.add] using this
        have ha := addr_eta hsp2
        have hblt : a.block < W.heap.size := by
          rw [ha, Addr.add_lit] at hc0
          exact World.block_lt_of_cell? W ⟨a.block, a.off + 0, none⟩ hc0
        refine ⟨a.block, a.off, by rw [← ha], hblt, fun i hi => ?_⟩
        rw [hlen] at hi
        have h1 := hf2 i hi
        rw [ha, Addr.add_lit] at h1
        rw [h1]; simp
set_option maxRecDepth 100000 in
theorem open_arcs {fuel : Nat} {cs : List Value} {x : DataW H × List MemPlace} (hf : DataW.trod enc Try.prog W 0 (fun _ => true) true fuel 22 cs = some x) :
    ∃ (l : List Ar) (v : Value), cs = [v] ∧ ARest W.heap.size W l v := by
  rcases open_slice Try.underlying22 cellsA hf with h0 | ⟨a, len, cap, n2, _, h0, hl, hcm, hel⟩
  · exact ⟨[], _, h0, arest_nil _ _⟩
  · have hex : ∀ i, ∃ n : Ar, (I64 n.1 ∧ I64 n.2.1 ∧ I64 n.2.2) ∧ (i < len → W.cell? (a.add (i * 3)) = some (.int .i64 n.1) ∧ W.cell? (a.add (i * 3 + 1)) = some (.int .i64 n.2.1) ∧ W.cell? (a.add (i * 3 + 2)) = some (.int .i64 n.2.2)) := by
      intro i
      by_cases hi : i < len
      · obtain ⟨cs2, y, hlen, hat, hb⟩ := hel i hi
        obtain ⟨y0, y1, y2, m, _, _, h0, h1, h2⟩ := Go.Deep.trod_struct3 Try.underlying43 hb
        match cs2, hlen with
        | [c0, c1, c2], _ =>
          simp only [cellsI, List.drop_zero, List.drop_succ_cons, List.take_succ_cons, List.take_zero] at h0 h1 h2
          obtain ⟨k, e0, _, wk⟩ := DataW.trod_int Try.underlying3 h0
          obtain ⟨k2, e1, _, wk2⟩ := DataW.trod_int Try.underlying3 h1
          obtain ⟨k3, e2, _, wk3⟩ := DataW.trod_int Try.underlying3 h2
          injection e0 with e0
          injection e1 with e1
          injection e2 with e2
          have g0 := hat 0 (by omega)
          have g1 := hat 1 (by omega)
          have g2 := hat 2 (by omega)
          refine ⟨(k, k2, k3), ⟨bounds_i64 wk, bounds_i64 wk2, bounds_i64 wk3⟩, fun _ => ⟨?_, ?_, ?_⟩⟩
          · rw [show a.add (i * 3) = a.add (i * 3 + 0) by rw [Nat.add_zero], g0, ← e0]; rfl
          · rw [g1, ← e1]; rfl
          · rw [g2, ← e2]; rfl
      · exact ⟨(0, 0, 0), ⟨⟨by simp, by simp⟩, ⟨by simp, by simp⟩, ⟨by simp, by simp⟩⟩, fun h => absurd h hi⟩
    obtain ⟨f, hf2⟩ := Classical.skolem.1 hex
    have hlen : ((List.range len).map f).length = len := by simp
    refine ⟨(List.range len).map f, _, h0, some a, cap, by rw [hlen], by rw [hlen]; omega, hcm, fun x hx => ?_, ?_⟩
    · obtain ⟨i, _, rfl⟩ := List.mem_map.1 hx; exact (hf2 i).1
    · rcases Nat.eq_zero_or_pos len with h0 | h0
      · exact .inl (by rw [hlen, h0])
      · right
        have hc0 := ((hf2 0).2 h0).1
        have hsp2 : a.spot = none := by have := spot_none hc0; simpa [Addr.add] using this
        have ha := addr_eta hsp2
        have hblt : a.block < W.heap.size := by
          rw [ha, Addr.add_lit] at hc0
          exact World.block_lt_of_cell? W ⟨a.block, a.off + 0 * 3, none⟩ hc0
        refine ⟨a.block, a.off, by rw [← ha], hblt, fun i hi => ?_⟩
        rw [hlen] at hi
        have h1 := (hf2 i).2 hi
        rw [ha, Addr.add_lit, Addr.add_lit, Addr.add_lit] at h1
        rw [h1.1, show a.off + i * 3 + 1 = a.off + (i * 3 + 1) by omega, h1.2.1, show a.off + i * 3 + 2 = a.off + (i * 3 + 2) by omega, h1.2.2]; simp
set_option maxRecDepth 100000 in
theorem open_net_arg {base : Nat} {v : Value} {d : DataW H} {p : List MemPlace} (hv : Value.okWide Try.prog W .any base 24 v) (h : DataW.Trod enc Try.prog W 0 (fun _ => true) true 24 v d p) :
    ∃ (N s t : Int) (A : List Ar) (va : Value), v = netV N s t va ∧ I64 N ∧ I64 s ∧ I64 t ∧ ARest W.heap.size W A va := by
  obtain ⟨cs, rfl, hsz⟩ := okWide_struct Try.underlying24 hv
  obtain ⟨fuel, hf⟩ := h
  obtain ⟨y0, y1, y2, y3, m, _, hl, h0, h1, h2, h3⟩ := Joins.trod_struct4 Try.underlying24 hf
  rw [cellsN] at hl
  obtain ⟨cs, rfl⟩ : ∃ l : List Value, cs = l.toArray := ⟨cs.toList, rfl⟩
  have hcs : (Value.agg cs.toArray).cells.toList = cs := by simp [Value.cells]
  rw [hcs] at hl h0 h1 h2 h3
  match cs, hl with
  | [c0, c1, c2, c3], _ =>
    simp only [cellsI, cellsL, List.drop_zero, List.drop_succ_cons, List.take_succ_cons, List.take_zero] at h0 h1 h2 h3
    obtain ⟨k0, e0, _, w0⟩ := DataW.trod_int Try.underlying3 h0
    obtain ⟨k1, e1, _, w1⟩ := DataW.trod_int Try.underlying3 h1
    obtain ⟨k2, e2, _, w2⟩ := DataW.trod_int Try.underlying3 h2
    obtain ⟨A, va, e3, hA⟩ := open_arcs h3
    injection e0 with e0
    injection e1 with e1
    injection e2 with e2
    injection e3 with e3
    subst e0 e1 e2 e3
    exact ⟨k0, k1, k2, A, c3, rfl, bounds_i64 w0, bounds_i64 w1, bounds_i64 w2, hA⟩
end
end Go.Proofs.Ytbmbddapbgnioaa
