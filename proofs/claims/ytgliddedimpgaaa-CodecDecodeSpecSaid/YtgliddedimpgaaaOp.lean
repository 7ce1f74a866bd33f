/- An argument that is a value of the codec, opened: what can be read as data lies in memory as a tree. -/
import Derived.Test.YtgliddedimpgaaaS
import Derived.ProofKit
import Derived.OpenShut
import Derived.Lib.SmallJoins
import Derived.Carry
namespace Go.Proofs.Ytgliddedimpgaaa
open Go.RowKit Go.ChangeShapes Go.WideShapes Go.ChangeAt

theorem Try.cells24 : Try.prog.cellsOf 24 = 4 := by kernel_rfl
theorem Try.cells22 : Try.prog.cellsOf 22 = 1 := by kernel_rfl
theorem Try.cells3 : Try.prog.cellsOf 3 = 1 := by kernel_rfl
theorem Try.cells9 : Try.prog.cellsOf 9 = 1 := by kernel_rfl

theorem spot_none {w : World} {a : Addr} {v : Value} (h : w.cell? a = some v) : a.spot = none := by
  cases hs : a.spot with
  | none => rfl
  | some x =>
    unfold World.cell? at h
    split at h
    · rw [hs] at h; simp at h
    · cases h

theorem addr_eta {a : Addr} (h : a.spot = none) : a = ⟨a.block, a.off, none⟩ := by
  obtain ⟨b, o, s⟩ := a
  simp at h; subst h; rfl

section
variable {H : Type} {enc : TypeId × Value → H} {W : World}

theorem open_is : ∀ (fuel : Nat) (cs : List Value) (y : DataW H × List MemPlace), DataW.trod enc Try.prog W 0 (fun _ => true) true fuel 24 cs = some y →
    ∃ (e : El) (t : V), cs = e.cells ∧ IsB W.heap.size W t e.val := by
  intro fuel
  induction fuel using Nat.strongRecOn with
  | ind fuel ih =>
    intro cs y h
    obtain ⟨xs, n, rfl, hy, hlen, hxl, hf⟩ := DataW.trod_struct Try.underlying24 h
    rw [Try.cells24] at hlen
    match xs, hxl with
    | [y0, y1, y2, y3], _ =>
    match cs, hlen with
    | [c0, c1, c2, c3], _ =>
    have g0 : DataW.trod enc Try.prog W 0 (fun _ => true) true n 3 [c0] = some y0 := by have := hf 0 _ rfl; simpa [Try.cells3] using this
    have g1 : DataW.trod enc Try.prog W 0 (fun _ => true) true n 3 [c1] = some y1 := by have := hf 1 _ rfl; simpa [Try.cells3] using this
    have g2 : DataW.trod enc Try.prog W 0 (fun _ => true) true n 9 [c2] = some y2 := by have := hf 2 _ rfl; simpa [Try.cells9] using this
    have g3 : DataW.trod enc Try.prog W 0 (fun _ => true) true n 22 [c3] = some y3 := by have := hf 3 _ rfl; simpa [Try.cells22] using this
    obtain ⟨k, e0, _, wk⟩ := DataW.trod_int Try.underlying3 g0
    obtain ⟨m, e1, _, wm⟩ := DataW.trod_int Try.underlying3 g1
    obtain ⟨s, e2, _, hs⟩ := DataW.trod_string Try.underlying9 g2
    simp at e0 e1 e2
    subst e0 e1 e2
    rcases DataW.trod_slice Try.underlying22 g3 with ⟨e3, _⟩ | ⟨a, len, cap, elems, rest, n2, rfl, e3, _, _, hl, hcm, hel, hbind, _, _⟩
    · simp at e3
      subst e3
      exact ⟨⟨k, m, s, none, 0, 0⟩, .mk k m s [], rfl, .mk k m s [] none 0 (fun _ => 0) (fun _ => 0) (fun _ => ⟨#[]⟩) (fun _ => none) (fun _ => 0) (fun _ => 0) (bounds_i64 wk) (bounds_i64 wm) hs (by simp) (.inl rfl) (fun i h => by simp at h)⟩
    · simp at e3
      subst e3
      have hex : ∀ i, ∃ p : El × V, i < len → W.cells? 0 (a.add (i * 4)) 4 = some p.1.cells ∧ IsB W.heap.size W p.2 p.1.val := by
        intro i
        by_cases hi : i < len
        · have hb := hbind i hi
          rw [Try.cells24] at hb
          have hsome : elems[i]? = some (elems[i]'(by omega)) := List.getElem?_eq_getElem (by omega)
          rw [hsome] at hb
          cases hcs : W.cells? 0 (a.add (i * 4)) 4 with
          | none => rw [hcs] at hb; cases hb
          | some cs2 =>
            rw [hcs] at hb
            obtain ⟨e, t, hc, hI⟩ := ih n2 (by omega) cs2 _ hb
            exact ⟨(e, t), fun _ => ⟨by rw [hc], hI⟩⟩
        · exact ⟨(El.none, .mk 0 0 ⟨#[]⟩ []), fun h => absurd h hi⟩
      obtain ⟨f, hf⟩ := Classical.skolem.1 hex
      have hlt : ((List.range len).map fun i => (f i).2).length = len := by simp
      refine ⟨⟨k, m, s, some a, len, cap⟩, .mk k m s ((List.range len).map fun i => (f i).2), rfl, ?_⟩
      have hmk := IsB.mk (B := W.heap.size) (w := W) k m s ((List.range len).map fun i => (f i).2) (some a) cap (fun i => (f i).1.k) (fun i => (f i).1.n) (fun i => (f i).1.s) (fun i => (f i).1.a) (fun i => (f i).1.l) (fun i => (f i).1.c)
        (bounds_i64 wk) (bounds_i64 wm) hs (by rw [hlt]; unfold maxLen at hcm; omega) ?_ ?_
      · rw [hlt] at hmk; exact hmk
      · rcases Nat.eq_zero_or_pos len with h0 | h0
        · exact .inl (by rw [hlt, h0])
        · right
          have hc : ∀ i, i < len → ∀ t, t < 4 → W.cell? (a.add (i * 4 + t)) = (f i).1.cells[t]? := fun i hi t ht => by
            obtain ⟨_, _, hat⟩ := World.cells?_some (hf i hi).1
            have := hat t ht
            rw [Go.Deep.add_add] at this; exact this
          have hsp := spot_none (hc 0 h0 0 (by omega))
          have hsp2 : a.spot = none := by simpa [Addr.add] using hsp
          have ha := addr_eta hsp2
          have hblt : a.block < W.heap.size := by
            have h1 := hc 0 h0 0 (by omega)
            rw [ha, Addr.add_lit] at h1
            have h2 : W.cell? ⟨a.block, a.off + (0 * 4 + 0), none⟩ = some (.int .i64 (f 0).1.k) := h1
            have h3 := World.block_lt_of_cell? W ⟨a.block, a.off + (0 * 4 + 0), none⟩ h2
            exact h3
          refine ⟨a.block, a.off, by rw [← ha], hblt, fun i hi => ?_⟩
          rw [hlt] at hi
          have q : ∀ t, t < 4 → W.cell? ⟨a.block, a.off + i * 4 + t, none⟩ = (f i).1.cells[t]? := fun t ht => by
            have h1 := hc i hi t ht
            rw [ha, Addr.add_lit] at h1
            rw [Nat.add_assoc]; exact h1
          exact ⟨q 0 (by omega), q 1 (by omega), q 2 (by omega), q 3 (by omega)⟩
      · intro i hi
        rw [hlt] at hi
        have h3 := (hf i hi).2
        have e1 : ((List.range len).map fun i => (f i).2)[i]'(by simpa using hi) = (f i).2 := by simp
        rw [e1]; exact h3

theorem open_arg {base : Nat} {v : Value} {d : DataW H} {p : List MemPlace} (hv : Value.okWide Try.prog W .any base 24 v) (h : DataW.Trod enc Try.prog W 0 (fun _ => true) true 24 v d p) : ∃ (t : V), Is W t v := by
  obtain ⟨cs, rfl, hsz⟩ := okWide_struct Try.underlying24 hv
  obtain ⟨fuel, hf⟩ := h
  obtain ⟨e, t, hc, hI⟩ := open_is fuel _ _ hf
  have h1 : cs = e.cells.toArray := by
    have h2 : cs.toList = e.cells := by simpa [Value.cells] using hc
    rw [← h2]
  subst h1
  exact ⟨t, hI⟩
end

theorem Try.laidOut : laidOutB Try.prog = true := by kernel_rfl
theorem Try.read24 : Try.prog.readableRec 24 = true := by kernel_rfl
theorem Try.read22 : Try.prog.readableRec 22 = true := by kernel_rfl
theorem Try.read27 : Try.prog.readableRec 27 = true := by kernel_rfl
theorem Try.own : ownKnob Try.prog.godebug = none := by kernel_rfl
end Go.Proofs.Ytgliddedimpgaaa
