/- Arguments opened, and the table of round numbers as the program's text lays it. -/
import Derived.Test.YtbceimbcjijfgaaDoorRows
import Derived.ProofKit
import Derived.LaidMore
import Derived.OpenShut
import Derived.Stop.Joined
import Derived.Lib.SmallJoins
import Derived.Carry
import Derived.Test.YtbceimbcjijfgaaDoorZq17
import Derived.Test.YtbceimbcjijfgaaDoorZq14
namespace Go.Proofs.YtbceimbcjijfgaaDoor.Dig
open Go.RowKit Go.ChangeShapes Go.WideShapes Go.ChangeAt

abbrev laid1 {H : Type} : List (String × DataW H) := [("fasti/digest.roundNumbers", Rows.laid_fasti_digest_roundNumbers)]
theorem own : ownKnob Tryd.prog.godebug = none := by kernel_rfl
theorem gTab : Tryd.prog.globalNamed "fasti/digest.roundNumbers" = some 0 := by kernel_rfl
theorem tTab : (Tryd.prog.globals[0]?).map (·.type) = some 76 := by kernel_rfl
theorem cells57 : Tryd.prog.cellsOf 72 = 1 := by kernel_rfl
theorem under57 : Tryd.prog.underlying 72 = some (.int .u32) := by kernel_rfl
theorem under69 : Tryd.prog.underlying 76 = some (.array 64 72) := by kernel_rfl
theorem laid_list {H : Type} : (Rows.laid_fasti_digest_roundNumbers : DataW H) = .agg (kTab.map fun (k : Nat) => .lit (.int .u32 (k : Int))) := rfl
theorem kTab_len : kTab.length = 64 := by decide

/-- The door's own heap meets the condition: closed facts. -/
theorem door_met (os : Os) (args : Array Value) : laidMetH Tryd.prog laid1 ((World.doorLaid Tryd.prog 400 os).forCall (fun _ _ => 0) ⟨#[], args, []⟩).memory :=
  laidMetH_of_parts3 (fuel := 8) (laidMet_of_run' 8 (by kernel_rfl) (by kernel_rfl)) (by kernel_rfl) (by kernel_rfl)

theorem tab_of_laid {W : World} (h : laidMetH Tryd.prog laid1 W) : Tab W := by
  rw [MakeChecks.laidMetH_plain _ _ _ (by kernel_rfl)] at h
  obtain ⟨ps, ⟨g0, t0, cs0, f0, p0, q0, hg0, ht0, hv0, hd0, _, _⟩, _, _⟩ := h
  obtain rfl := Option.some.inj (gTab.symm.trans hg0)
  obtain rfl := Option.some.inj (tTab.symm.trans ht0)
  have hcell : ∀ i, i < 64 → W.cell? ⟨0, i, none⟩ = some (.int .u32 (kTab.getD i 0 : Int)) := fun i hi => by
    obtain ⟨xs, m, rfl, hx, hlen, hn, hel⟩ := DataW.trod_array under69 hd0
    rw [laid_list] at hx
    simp only [Prod.mk.injEq, DataW.agg.injEq] at hx
    have h1 := hel i hi
    have hxi : xs[i]? = some (xs[i]'(by omega)) := List.getElem?_eq_getElem (by omega)
    rw [hxi, cells57, Nat.mul_one] at h1
    obtain ⟨k, e1, e2, _⟩ := DataW.trod_int under57 h1
    have h2 : (kTab.map fun (k : Nat) => (DataW.lit (.int .u32 (k : Int)) : DataW Unit))[i]? = (xs.map (·.1))[i]? := by rw [hx.1]
    rw [List.getElem?_map, List.getElem?_map, hxi, e2, List.getElem?_eq_getElem (show i < kTab.length by rw [kTab_len]; exact hi)] at h2
    simp at h2
    have h3 := World.var?_cell hg0 hv0 i
    have h4 : cs0.toList[i]? = some (.int .u32 k) := by
      have := congrArg (fun l => l[0]?) e1
      simpa using this
    rw [h3, ← Array.getElem?_toList, h4, ← h2, List.getD_eq_getElem?_getD, List.getElem?_eq_getElem (show i < kTab.length by rw [kTab_len]; exact hi)]
    simp
  exact ⟨World.block_lt_of_cell? W _ (hcell 0 (by omega)), hcell⟩
theorem Tryd.laidOut : laidOutB Tryd.prog = true := by kernel_rfl
theorem Tryd.read34 : Tryd.prog.readableRec 34 = true := by kernel_rfl
theorem spot_none {w : World} {a : Addr} {v : Value} (h : w.cell? a = some v) : a.spot = none := by
  cases hs : a.spot with
  | none => rfl
  | some x =>
    unfold World.cell? at h
    split at h
    · rw [hs] at h; simp at h
    · cases h

theorem addr_eta {a : Addr} (h : a.spot = none) : a = ⟨a.block, a.off, none⟩ := by
  obtain ⟨b, o, s⟩ := a
  simp at h; subst h; rfl

section
variable {H : Type} {enc : TypeId × Value → H} {W : World}
theorem open_bytes {base : Nat} {v : Value} {d : DataW H} {p : List MemPlace} (hv : Value.okWide Tryd.prog W .any base 34 v) (h : DataW.Trod enc Tryd.prog W 0 (fun _ => true) true 34 v d p) :
    ∃ (bs : List UInt8) (a : Option Addr) (cap : Nat), v = .slice a bs.length cap ∧ Rest W.heap.size W bs (.slice a bs.length cap) := by
  obtain ⟨a, len, cap, rfl⟩ := okWide_slice Tryd.underlying34 hv
  obtain ⟨fuel, hf⟩ := h
  rcases DataW.trod_slice Tryd.underlying34 hf with ⟨e3, _⟩ | ⟨a2, len2, cap2, elems, rest, n2, rfl, e3, _, _, hl, hcm, hel, hbind, _, _⟩
  · simp [Value.cells] at e3
    obtain ⟨rfl, rfl, rfl⟩ := e3
    exact ⟨[], none, 0, rfl, rest_nil _ _⟩
  · simp [Value.cells] at e3
    obtain ⟨rfl, rfl, rfl⟩ := e3
    have hex : ∀ i, ∃ n : Nat, i < len → n < 256 ∧ W.cell? (a2.add i) = some (.int .u8 (n : Int)) := by
      intro i
      by_cases hi : i < len
      · have hb := hbind i hi
        rw [Tryd.cells5] at hb
        have hsome : elems[i]? = some (elems[i]'(by omega)) := List.getElem?_eq_getElem (by omega)
        rw [hsome] at hb
        cases hcs : W.cells? 0 (a2.add (i * 1)) 1 with
        | none => rw [hcs] at hb; cases hb
        | some cs2 =>
          rw [hcs] at hb
          obtain ⟨k, e0, _, wk⟩ := DataW.trod_int Tryd.underlying5 hb
          have hk := bounds_u8 wk
          obtain ⟨_, _, hat⟩ := World.cells?_some hcs
          have h0 := hat 0 (by omega)
          refine ⟨k.toNat, fun _ => ⟨by omega, ?_⟩⟩
          rw [Go.Deep.add_add] at h0
          rw [show a2.add i = a2.add (i * 1 + 0) by rw [Nat.mul_one, Nat.add_zero], h0, e0, Int.toNat_of_nonneg hk.1]; rfl
      · exact ⟨0, fun h => absurd h hi⟩
    obtain ⟨f, hf2⟩ := Classical.skolem.1 hex
    have hlen : ((List.range len).map fun i => UInt8.ofNat (f i)).length = len := by simp
    refine ⟨(List.range len).map fun i => UInt8.ofNat (f i), some a2, cap, by rw [hlen], some a2, cap, rfl, by rw [hlen]; omega, hcm, (fun h => by cases h), ?_⟩
    rcases Nat.eq_zero_or_pos len with h0 | h0
    · exact .inl (by rw [hlen, h0])
    · right
      have hc0 := (hf2 0 h0).2
      have hsp2 : a2.spot = none := by have := spot_none hc0; simpa [Addr.add] using this
      have ha := addr_eta hsp2
      have hblt : a2.block < W.heap.size := by
        rw [ha, Addr.add_lit] at hc0
        exact World.block_lt_of_cell? W ⟨a2.block, a2.off + 0, none⟩ hc0
      refine ⟨a2.block, a2.off, by rw [← ha], hblt, fun i hi => ?_⟩
      rw [hlen] at hi
      have h1 := (hf2 i hi).2
      rw [ha, Addr.add_lit] at h1
      rw [h1]
      simp [Nat.mod_eq_of_lt (hf2 i hi).1]
end

end Go.Proofs.YtbceimbcjijfgaaDoor.Dig

/- An argument that is a digest, opened. -/
namespace Go.Proofs.YtbceimbcjijfgaaDoor.Dig
open Go.ChangeShapes Go.WideShapes Go.ChangeAt Go.RowKit Go.ChangeMaps

theorem okWide_arr {P : Program} {w : World} {r : Reach} {base : Nat} {t e : TypeId} {n : Nat} {v : Value} (ht : P.underlying t = some (.array n e)) (h : Value.okWide P w r base t v) : ∃ cs, v = .agg cs ∧ cs.size = P.cellsOf t := by
  unfold Value.okWide at h
  rw [ht] at h
  cases v <;> simp_all
end Go.Proofs.YtbceimbcjijfgaaDoor.Dig

/- An argument that is a list of digests, opened. -/
namespace Go.Proofs.YtbceimbcjijfgaaDoor.Dig
open Go.ChangeShapes Go.WideShapes Go.ChangeAt Go.RowKit Go.ChangeMaps

theorem cells30 : Tryd.prog.cellsOf 30 = 32 := by kernel_rfl
theorem read25 : Tryd.prog.readableRec 25 = true := by kernel_rfl
section
variable {H : Type} {enc : TypeId × Value → H} {W : World}
theorem dig_cells {base : Nat} {spare : Nat → Bool} {held : Bool} {fuel : Nat} {cs : List Value} {x : DataW H × List MemPlace} (hf : DataW.trod enc Tryd.prog W base spare held fuel 30 cs = some x) : ∃ b : List UInt8, b.length = 32 ∧ cs = cellsOf b := by
  obtain ⟨xs, m, rfl, -, hsz, hxs, hel⟩ := DataW.trod_array Tryd.underlying30 hf
  rw [cells30] at hsz
  have hex : ∀ i, ∃ k : Nat, i < 32 → k < 256 ∧ cs[i]? = some (.int .u8 (k : Int)) := by
    intro i
    by_cases hi : i < 32
    · have hb := hel i hi
      rw [Tryd.cells5] at hb
      have hsome : xs[i]? = some (xs[i]'(by omega)) := List.getElem?_eq_getElem (by omega)
      rw [hsome] at hb
      have hlt : i < cs.length := by omega
      have e1 : (cs.drop (i * 1)).take 1 = [cs[i]] := by
        rw [Nat.mul_one, List.drop_eq_getElem_cons hlt]; rfl
      rw [e1] at hb
      obtain ⟨k, e0, _, wk⟩ := DataW.trod_int Tryd.underlying5 hb
      have hk := bounds_u8 wk
      injection e0 with e0
      refine ⟨k.toNat, fun _ => ⟨by omega, ?_⟩⟩
      rw [List.getElem?_eq_getElem hlt, e0, Int.toNat_of_nonneg hk.1]
    · exact ⟨0, fun h => absurd h hi⟩
  obtain ⟨f, hf2⟩ := Classical.skolem.1 hex
  refine ⟨(List.range 32).map fun i => UInt8.ofNat (f i), by simp, ?_⟩
  apply List.ext_getElem?
  intro i
  by_cases hi : i < 32
  · rw [(hf2 i hi).2]
    simp [cellsOf, hi, Nat.mod_eq_of_lt (hf2 i hi).1]
  · rw [List.getElem?_eq_none (by omega), List.getElem?_eq_none (by simp [cellsOf]; omega)]
theorem open_digs {base : Nat} {v : Value} {d : DataW H} {p : List MemPlace} (hv : Value.okWide Tryd.prog W .any base 25 v) (h : DataW.Trod enc Tryd.prog W 0 (fun _ => true) true 25 v d p) :
    ∃ ds : List (List UInt8), DRest W.heap.size W ds v := by
  obtain ⟨a, len, cap, rfl⟩ := okWide_slice Tryd.underlying25 hv
  obtain ⟨fuel, hf⟩ := h
  rcases DataW.trod_slice Tryd.underlying25 hf with ⟨e3, _⟩ | ⟨a2, len2, cap2, elems, rest, n2, rfl, e3, _, _, hl, hcm, hel, hbind, _, _⟩
  · simp [Value.cells] at e3
    obtain ⟨rfl, rfl, rfl⟩ := e3
    exact ⟨[], drest_nil _ _⟩
  · simp [Value.cells] at e3
    obtain ⟨rfl, rfl, rfl⟩ := e3
    have hex : ∀ i, ∃ b : List UInt8, i < len → b.length = 32 ∧ ∀ j, j < 32 → W.cell? (a2.add (i * 32 + j)) = some (.int .u8 ((b.getD j 0).toNat : Int)) := by
      intro i
      by_cases hi : i < len
      · have hb := hbind i hi
        rw [cells30] at hb
        have hsome : elems[i]? = some (elems[i]'(by omega)) := List.getElem?_eq_getElem (by omega)
        rw [hsome] at hb
        cases hcs : W.cells? 0 (a2.add (i * 32)) 32 with
        | none => rw [hcs] at hb; cases hb
        | some cs2 =>
          rw [hcs] at hb
          obtain ⟨b, hb32, rfl⟩ := dig_cells hb
          obtain ⟨_, _, hat⟩ := World.cells?_some hcs
          refine ⟨b, fun _ => ⟨hb32, fun j hj => ?_⟩⟩
          have h0 := hat j hj
          rw [Go.Deep.add_add] at h0
          rw [h0, cellsOf_get (by omega)]
          simp [show j < b.length by omega]
      · exact ⟨[], fun h => absurd h hi⟩
    obtain ⟨f, hf2⟩ := Classical.skolem.1 hex
    have hlen : ((List.range len).map f).length = len := by simp
    have hD : Digs ((List.range len).map f) := fun d hd => by
      obtain ⟨i, hi, rfl⟩ := List.mem_map.1 hd
      exact (hf2 i (List.mem_range.1 hi)).1
    refine ⟨(List.range len).map f, hD, some a2, cap, by rw [hlen], by rw [hlen]; omega, hcm, (fun h => by cases h), ?_⟩
    rcases Nat.eq_zero_or_pos len with h0 | h0
    · exact .inl (by rw [hlen, h0])
    · right
      have hc0 := (hf2 0 h0).2 0 (by omega)
      have hsp2 : a2.spot = none := by have := spot_none hc0; simpa [Addr.add] using this
      have ha := addr_eta hsp2
      have hblt : a2.block < W.heap.size := by
        rw [ha, Addr.add_lit] at hc0
        exact World.block_lt_of_cell? W ⟨a2.block, a2.off + (0 * 32 + 0), none⟩ hc0
      refine ⟨a2.block, a2.off, by rw [← ha], hblt, fun i hi j hj => ?_⟩
      rw [hlen] at hi
      have h1 := (hf2 i hi).2 j hj
      rw [ha, Addr.add_lit] at h1
      rw [show ((List.range len).map f).getD i [] = f i by simp [hi], ← h1]
      congr 2
      omega
end
end Go.Proofs.YtbceimbcjijfgaaDoor.Dig
