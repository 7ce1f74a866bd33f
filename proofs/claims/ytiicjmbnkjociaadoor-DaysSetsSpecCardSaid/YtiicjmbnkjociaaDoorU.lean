/- Arguments opened: lists of spans, dates; the table of months as the program's text lays it. -/
import Derived.Test.YtiicjmbnkjociaaDoorRows
import Derived.Test.YtiicjmbnkjociaaDoorA
import Derived.Test.YtiicjmbnkjociaaDoorC
import Derived.ProofKit
import Derived.LaidMore
import Derived.OpenShut
import Derived.Stop.Joined
import Derived.Lib.SmallJoins
import Derived.Carry
import Derived.Deep.Strs
namespace Go.Proofs.YtiicjmbnkjociaaDoor
open Go.RowKit Go.ChangeShapes Go.WideShapes Go.ChangeAt

abbrev laid1 {H : Type} : List (String × DataW H) := [("fasti/days.lengths", Rows.laid_fasti_days_lengths)]
theorem own : ownKnob Tryd.prog.godebug = none := by kernel_rfl
theorem gTab : Tryd.prog.globalNamed "fasti/days.lengths" = some 0 := by kernel_rfl
theorem tTab : (Tryd.prog.globals[0]?).map (·.type) = some 67 := by kernel_rfl
theorem cellsI : Tryd.prog.cellsOf 3 = 1 := by kernel_rfl
theorem cellsS : Tryd.prog.cellsOf 45 = 2 := by kernel_rfl
theorem cellsD : Tryd.prog.cellsOf 23 = 3 := by kernel_rfl
theorem underT : Tryd.prog.underlying 67 = some (.array 12 3) := by kernel_rfl
theorem laid_list {H : Type} : (Rows.laid_fasti_days_lengths : DataW H) = .agg (mTab.map fun (k : Int) => .lit (.int .i64 k)) := rfl
theorem mTab_len : mTab.length = 12 := by decide
theorem door_met (os : Os) (args : Array Value) : laidMetH Tryd.prog laid1 ((World.doorLaid Tryd.prog 400 os).forCall (fun _ _ => 0) ⟨#[], args, []⟩).memory :=
  laidMetH_of_parts3 (fuel := 8) (laidMet_of_run' 8 (by kernel_rfl) (by kernel_rfl)) (by kernel_rfl) (by kernel_rfl)
theorem tab_of_laid {W : World} (h : laidMetH Tryd.prog laid1 W) : Tab W := by
  rw [MakeChecks.laidMetH_plain _ _ _ (by kernel_rfl)] at h
  obtain ⟨ps, ⟨g0, t0, cs0, f0, p0, q0, hg0, ht0, hv0, hd0, _, _⟩, _, _⟩ := h
  obtain rfl := Option.some.inj (gTab.symm.trans hg0)
  obtain rfl := Option.some.inj (tTab.symm.trans ht0)
  have hcell : ∀ i, i < 12 → W.cell? ⟨0, i, none⟩ = some (.int .i64 (mTab.getD i 0)) := fun i hi => by
    obtain ⟨xs, m, rfl, hx, hlen, hn, hel⟩ := DataW.trod_array underT hd0
    rw [laid_list] at hx
    simp only [Prod.mk.injEq, DataW.agg.injEq] at hx
    have h1 := hel i hi
    have hxi : xs[i]? = some (xs[i]'(by omega)) := List.getElem?_eq_getElem (by omega)
    rw [hxi, cellsI, Nat.mul_one] at h1
    obtain ⟨k, e1, e2, _⟩ := DataW.trod_int Tryd.underlying3 h1
    have h2 : (mTab.map fun (k : Int) => (DataW.lit (.int .i64 k) : DataW Unit))[i]? = (xs.map (·.1))[i]? := by rw [hx.1]
    rw [List.getElem?_map, List.getElem?_map, hxi, e2, List.getElem?_eq_getElem (show i < mTab.length by rw [mTab_len]; exact hi)] at h2
    simp at h2
    have h3 := World.var?_cell hg0 hv0 i
    have h4 : cs0.toList[i]? = some (.int .i64 k) := by
      have := congrArg (fun l => l[0]?) e1
      simpa using this
    rw [h3, ← Array.getElem?_toList, h4, ← h2, List.getD_eq_getElem?_getD, List.getElem?_eq_getElem (show i < mTab.length by rw [mTab_len]; exact hi)]
    simp
  exact ⟨World.block_lt_of_cell? W _ (hcell 0 (by omega)), hcell⟩
theorem Tryd.laidOut : laidOutB Tryd.prog = true := by kernel_rfl
theorem readSp : Tryd.prog.readableRec 32 = true := by kernel_rfl
theorem readDt : Tryd.prog.readableRec 23 = true := by kernel_rfl
theorem spot_none {w : World} {a : Addr} {v : Value} (h : w.cell? a = some v) : a.spot = none := by
  cases hs : a.spot with
  | none => rfl
  | some x =>
    unfold World.cell? at h
    split at h
    · rw [hs] at h; simp at h
    · cases h
theorem addr_eta {a : Addr} (h : a.spot = none) : a = ⟨a.block, a.off, none⟩ := by
  obtain ⟨b, o, s⟩ := a
  simp at h; subst h; rfl
section
variable {H : Type} {enc : TypeId × Value → H} {W : World}
set_option maxRecDepth 100000 in
/-- a slice, opened: each element is read by itself -/
theorem open_slice {t e : TypeId} {k : Nat} (ht : Tryd.prog.underlying t = some (.slice e)) (hk : Tryd.prog.cellsOf e = k) {fuel : Nat} {cs : List Value} {x : DataW H × List MemPlace}
    (h : DataW.trod enc Tryd.prog W 0 (fun _ => true) true fuel t cs = some x) :
    cs = [.slice none 0 0] ∨ ∃ (a : Addr) (len cap n2 : Nat), fuel = n2 + 1 ∧ cs = [.slice (some a) len cap] ∧ len ≤ cap ∧ cap ≤ maxLen ∧
      ∀ i, i < len → ∃ cs2 y, cs2.length = k ∧ (∀ j, j < k → W.cell? (a.add (i * k + j)) = cs2[j]?) ∧ DataW.trod enc Tryd.prog W 0 (fun _ => true) true n2 e cs2 = some y := by
  rcases DataW.trod_slice ht h with ⟨e3, _⟩ | ⟨a, len, cap, elems, rest, n2, hfu, e3, _, _, hl, hcm, hel, hbind, _, _⟩
  · exact .inl e3
  · refine .inr ⟨a, len, cap, n2, hfu, e3, hl, hcm, fun i hi => ?_⟩
    have hb := hbind i hi
    rw [hk] at hb
    have hsome : elems[i]? = some (elems[i]'(by omega)) := List.getElem?_eq_getElem (by omega)
    rw [hsome] at hb
    cases hcs : W.cells? 0 (a.add (i * k)) k with
    | none => rw [hcs] at hb; cases hb
    | some cs2 =>
      rw [hcs] at hb
      obtain ⟨_, hlen, hat⟩ := World.cells?_some hcs
      refine ⟨cs2, _, hlen, fun j hj => ?_, hb⟩
      have h0 := hat j hj
      rw [Go.Deep.add_add] at h0
      exact h0
set_option maxRecDepth 100000 in
theorem open_spans {base : Nat} {v : Value} {d : DataW H} {p : List MemPlace} (hv : Value.okWide Tryd.prog W .any base 32 v) (h : DataW.Trod enc Tryd.prog W 0 (fun _ => true) true 32 v d p) :
    ∃ l : List (Int × Int), PRest W.heap.size W l v := by
  obtain ⟨a0, len0, cap0, rfl⟩ := okWide_slice Tryd.underlying32 hv
  obtain ⟨fuel, hf⟩ := h
  rcases open_slice Tryd.underlying32 cellsS hf with h0 | ⟨a, len, cap, n2, _, h0, hl, hcm, hel⟩
  · injection h0 with h0
    rw [h0]
    exact ⟨[], prest_nil _ _⟩
  · injection h0 with h0
    rw [h0]
    have hex : ∀ i, ∃ n : Int × Int, (I64 n.1 ∧ I64 n.2) ∧ (i < len → W.cell? (a.add (i * 2)) = some (.int .i64 n.1) ∧ W.cell? (a.add (i * 2 + 1)) = some (.int .i64 n.2)) := by
      intro i
      by_cases hi : i < len
      · obtain ⟨cs2, y, hlen, hat, hb⟩ := hel i hi
        obtain ⟨y0, y1, m, _, _, h0, h1⟩ := trod_struct2 Tryd.underlying45 hb
        match cs2, hlen with
        | [c0, c1], _ =>
          simp only [cellsI, List.drop_zero, List.drop_succ_cons, List.take_succ_cons, List.take_zero] at h0 h1
          obtain ⟨k, e0, _, wk⟩ := DataW.trod_int Tryd.underlying3 h0
          obtain ⟨k2, e1, _, wk2⟩ := DataW.trod_int Tryd.underlying3 h1
          injection e0 with e0
          injection e1 with e1
          have g0 := hat 0 (by omega)
          have g1 := hat 1 (by omega)
          refine ⟨(k, k2), ⟨bounds_i64 wk, bounds_i64 wk2⟩, fun _ => ⟨?_, ?_⟩⟩
          · rw [show a.add (i * 2) = a.add (i * 2 + 0) by rw [Nat.add_zero], g0, ← e0]; rfl
          · rw [g1, ← e1]; rfl
      · exact ⟨(0, 0), ⟨⟨by simp, by simp⟩, ⟨by simp, by simp⟩⟩, fun h => absurd h hi⟩
    obtain ⟨f, hf2⟩ := Classical.skolem.1 hex
    have hlen : ((List.range len).map f).length = len := by simp
    refine ⟨(List.range len).map f, some a, cap, by rw [hlen], by rw [hlen]; omega, hcm, fun x hx => ?_, ?_⟩
    · obtain ⟨i, _, rfl⟩ := List.mem_map.1 hx; exact (hf2 i).1
    · rcases Nat.eq_zero_or_pos len with h0 | h0
      · exact .inl (by rw [hlen, h0])
      · right
        have hc0 := ((hf2 0).2 h0).1
        have hsp2 : a.spot = none := by have := spot_none hc0; simpa [Addr.add] using this
        have ha := addr_eta hsp2
        have hblt : a.block < W.heap.size := by
          rw [ha, Addr.add_lit] at hc0
          exact World.block_lt_of_cell? W ⟨a.block, a.off + 0 * 2, none⟩ hc0
        refine ⟨a.block, a.off, by rw [← ha], hblt, fun i hi => ?_⟩
        rw [hlen] at hi
        have h1 := (hf2 i).2 hi
        rw [ha, Addr.add_lit, Addr.add_lit] at h1
        rw [h1.1, show a.off + i * 2 + 1 = a.off + (i * 2 + 1) by omega, h1.2]; simp

set_option maxRecDepth 100000 in
theorem open_date {base : Nat} {v : Value} {d : DataW H} {p : List MemPlace} (hv : Value.okWide Tryd.prog W .any base 23 v) (h : DataW.Trod enc Tryd.prog W 0 (fun _ => true) true 23 v d p) :
    ∃ x : Dt, v = x.v ∧ x.I64 := by
  obtain ⟨cs, rfl, hsz⟩ := okWide_struct Tryd.underlying23 hv
  obtain ⟨fuel, hf⟩ := h
  obtain ⟨y0, y1, y2, m, _, hl, h0, h1, h2⟩ := Go.Deep.trod_struct3 Tryd.underlying23 hf
  rw [cellsD] at hl
  obtain ⟨cs, rfl⟩ : ∃ l : List Value, cs = l.toArray := ⟨cs.toList, rfl⟩
  have hcs : (Value.agg cs.toArray).cells.toList = cs := by simp [Value.cells]
  rw [hcs] at hl h0 h1 h2
  match cs, hl with
  | [c0, c1, c2], _ =>
    simp only [cellsI, List.drop_zero, List.drop_succ_cons, List.take_succ_cons, List.take_zero] at h0 h1 h2
    obtain ⟨k0, e0, _, w0⟩ := DataW.trod_int Tryd.underlying3 h0
    obtain ⟨k1, e1, _, w1⟩ := DataW.trod_int Tryd.underlying3 h1
    obtain ⟨k2, e2, _, w2⟩ := DataW.trod_int Tryd.underlying3 h2
    injection e0 with e0
    injection e1 with e1
    injection e2 with e2
    subst e0 e1 e2
    exact ⟨⟨k0, k1, k2⟩, rfl, bounds_i64 w0, bounds_i64 w1, bounds_i64 w2⟩
end
end Go.Proofs.YtiicjmbnkjociaaDoor
