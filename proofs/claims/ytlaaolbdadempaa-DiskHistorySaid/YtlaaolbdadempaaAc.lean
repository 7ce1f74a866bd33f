/- Lists of acts in memory; an argument that is one, opened. -/
import Derived.Test.YtlaaolbdadempaaMa
import Derived.Deep.Strs
namespace Go.Proofs.Ytlaaolbdadempaa
open Go.RowKit Go.ChangeShapes Go.WideShapes Go.ChangeAt

/-- a write (of a byte, to a place), or a sync -/
structure Act3 where
  sync : Bool
  at' : UInt8
  byte : UInt8
def actCells (x : Act3) : List Value := [.bool x.sync, .int .u8 (x.at'.toNat : Int), .int .u8 (x.byte.toNat : Int)]
def ARest (B : Nat) (w : World) (xs : List Act3) (v : Value) : Prop :=
  ∃ (a : Option Addr) (cap : Nat), v = .slice a xs.length cap ∧ xs.length ≤ cap ∧ cap ≤ maxLen ∧ (a = none → xs.length = 0 ∧ cap = 0) ∧
    (xs.length = 0 ∨ ∃ b off, a = some ⟨b, off, none⟩ ∧ b < B ∧ ∀ (i : Nat) x, xs[i]? = some x → ∀ (j : Nat) u, (actCells x)[j]? = some u → w.cell? ⟨b, off + (i * 3 + j), none⟩ = some u)
theorem ARest.shape {B : Nat} {w : World} {xs v} (h : ARest B w xs v) : ∃ (a : Option Addr) (cap : Nat), v = .slice a xs.length cap ∧ cap ≤ 9223372036854775807 ∧ xs.length ≤ cap := by
  obtain ⟨a, cap, h1, h2, h3, _⟩ := h
  exact ⟨a, cap, h1, h3, h2⟩
theorem ARest.at {B : Nat} {w : World} {xs : List Act3} {a n cap} (h : ARest B w xs (.slice a n cap)) {i : Nat} {x : Act3} (hi : xs[i]? = some x) : ∃ b off, a = some ⟨b, off, none⟩ ∧ b < B ∧
    ∀ W, Below B w W → W.cell? ⟨b, off + i * 3, none⟩ = some (.bool x.sync) ∧ W.cell? ⟨b, off + i * 3 + 1, none⟩ = some (.int .u8 (x.at'.toNat : Int)) ∧ W.cell? ⟨b, off + i * 3 + 2, none⟩ = some (.int .u8 (x.byte.toNat : Int)) := by
  obtain ⟨a2, cap2, he, h2, h3, h4, h5⟩ := h
  injection he with he1 he2 he3
  subst he1
  rcases h5 with h5 | ⟨b, off, rfl, hb, hc⟩
  · have := (List.getElem?_eq_some_iff.1 hi).1; omega
  · refine ⟨b, off, rfl, hb, fun W hW => ⟨?_, ?_, ?_⟩⟩
    · exact (hW.cell (p := ⟨b, off + i * 3, none⟩) hb).trans (hc i x hi 0 _ rfl)
    · exact (hW.cell (p := ⟨b, off + i * 3 + 1, none⟩) hb).trans (hc i x hi 1 _ rfl)
    · exact (hW.cell (p := ⟨b, off + i * 3 + 2, none⟩) hb).trans (hc i x hi 2 _ rfl)
theorem cells46 : Try.prog.cellsOf 46 = 3 := by kernel_rfl
theorem Try.read43 : Try.prog.readableRec 43 = true := by kernel_rfl
section
variable {H : Type} {enc : TypeId × Value → H} {W : World}
set_option maxRecDepth 100000 in
theorem open_acts {fuel : Nat} {cs : List Value} {x : DataW H × List MemPlace} (h : DataW.trod enc Try.prog W 0 (fun _ => true) true fuel 43 cs = some x) :
    ∃ xs u, cs = [u] ∧ ARest W.heap.size W xs u := by
  rcases open_slice Try.underlying43 cells46 h with rfl | ⟨a, len, cap, n2, _, rfl, hl, hcm, hel⟩
  · exact ⟨[], _, rfl, none, 0, rfl, by simp, by simp [maxLen], fun _ => ⟨rfl, rfl⟩, .inl rfl⟩
  · have hex : ∀ i, ∃ p : Act3, i < len → ∀ (j : Nat) u, (actCells p)[j]? = some u → W.cell? (a.add (i * 3 + j)) = some u := by
      intro i
      by_cases hi : i < len
      · obtain ⟨cs2, y, hlen, hat, hb⟩ := hel i hi
        obtain ⟨y0, y1, y2, m, rfl, _, h0, h1, h2⟩ := Go.Deep.trod_struct3 Try.underlying46 hb
        match cs2, hlen with
        | [c0, c1, c2], _ =>
          simp only [cells4, cells5, List.drop_zero, List.drop_succ_cons, List.take_succ_cons, List.take_zero] at h0 h1 h2
          obtain ⟨b, e0, _⟩ := DataW.trod_bool Try.underlying4 h0
          obtain ⟨k1, e1, _, wk1⟩ := DataW.trod_int Try.underlying5 h1
          obtain ⟨k2, e2, _, wk2⟩ := DataW.trod_int Try.underlying5 h2
          have b1 := bounds_u8 wk1
          have b2 := bounds_u8 wk2
          injection e0 with e0
          injection e1 with e1
          injection e2 with e2
          subst e0 e1 e2
          refine ⟨⟨b, UInt8.ofNat k1.toNat, UInt8.ofNat k2.toNat⟩, fun _ j u hj => ?_⟩
          have hjl : j < 3 := by have := (List.getElem?_eq_some_iff.1 hj).1; simpa [actCells] using this
          rw [hat j hjl]
          have q1 : (((UInt8.ofNat k1.toNat).toNat : Nat) : Int) = k1 := by simp; omega
          have q2 : (((UInt8.ofNat k2.toNat).toNat : Nat) : Int) = k2 := by simp; omega
          unfold actCells at hj
          simp only [q1, q2] at hj
          exact hj
      · exact ⟨⟨false, 0, 0⟩, fun h => absurd h hi⟩
    obtain ⟨f, hf2⟩ := Classical.skolem.1 hex
    have hlen : ((List.range len).map f).length = len := by simp
    refine ⟨(List.range len).map f, _, rfl, some a, cap, by rw [hlen], by rw [hlen]; omega, hcm, (fun h => by cases h), ?_⟩
    rcases Nat.eq_zero_or_pos len with h0 | h0
    · exact .inl (by rw [hlen, h0])
    · right
      have hc0 := hf2 0 h0 0 _ rfl
      have hsp2 : a.spot = none := by have := spot_none hc0; simpa [Addr.add] using this
      have ha := addr_eta hsp2
      have hblt : a.block < W.heap.size := by
        rw [ha, Addr.add_lit] at hc0
        exact World.block_lt_of_cell? W ⟨a.block, a.off + (0 * 3 + 0), none⟩ hc0
      refine ⟨a.block, a.off, by rw [← ha], hblt, fun i y hi j u hj => ?_⟩
      simp only [List.getElem?_map, Option.map_eq_some_iff] at hi
      obtain ⟨i', hi', rfl⟩ := hi
      obtain ⟨hi1, hi2⟩ := List.getElem?_eq_some_iff.1 hi'
      simp at hi1 hi2
      subst hi2
      have h1 := hf2 i hi1 j u hj
      rw [ha, Addr.add_lit] at h1
      exact h1
set_option maxRecDepth 100000 in
theorem open_acts_arg {base : Nat} {v : Value} {d : DataW H} {p : List MemPlace} (hv : Value.okWide Try.prog W .any base 43 v) (h : DataW.Trod enc Try.prog W 0 (fun _ => true) true 43 v d p) :
    ∃ xs : List Act3, ARest W.heap.size W xs v := by
  obtain ⟨a, len, cap, rfl⟩ := okWide_slice Try.underlying43 hv
  obtain ⟨fuel, hf⟩ := h
  obtain ⟨xs, u, hc, hr⟩ := open_acts hf
  have h1 : u = .slice a len cap := by simp [Value.cells] at hc; exact hc.symm
  subst h1
  exact ⟨xs, hr⟩
end
end Go.Proofs.Ytlaaolbdadempaa
