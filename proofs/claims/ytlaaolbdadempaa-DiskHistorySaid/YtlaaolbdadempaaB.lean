/- Disks in memory: lists of sectors, pending writes, the struct of four fields. -/
import Derived.Test.YtlaaolbdadempaaA
namespace Go.Proofs.Ytlaaolbdadempaa
open Go.RowKit

/-- a disk -/
structure Dsk where
  secs : List (List UInt8)
  pend : List (Int × List UInt8)
  left : Int
  stop : Bool

theorem Rest.mono {B B' : Nat} {w : World} {bs : List UInt8} {v : Value} (h : Rest B w bs v) (hb : B ≤ B') : Rest B' w bs v := rest_mono h hb

/-- In world w the slice v holds the byte slices xs, all in blocks below B. -/
def NRest (B : Nat) (w : World) (xs : List (List UInt8)) (v : Value) : Prop :=
  ∃ (a : Option Addr) (cap : Nat), v = .slice a xs.length cap ∧ xs.length ≤ cap ∧ cap ≤ maxLen ∧ (a = none → xs.length = 0 ∧ cap = 0) ∧
    (xs.length = 0 ∨ ∃ b off, a = some ⟨b, off, none⟩ ∧ b < B ∧ ∀ i x, xs[i]? = some x → ∃ u, w.cell? ⟨b, off + i, none⟩ = some u ∧ Rest B w x u)
/-- pending writes -/
def PRest (B : Nat) (w : World) (ps : List (Int × List UInt8)) (v : Value) : Prop :=
  ∃ (a : Option Addr) (cap : Nat), v = .slice a ps.length cap ∧ ps.length ≤ cap ∧ cap ≤ maxLen ∧ (a = none → ps.length = 0 ∧ cap = 0) ∧
    (ps.length = 0 ∨ ∃ b off, a = some ⟨b, off, none⟩ ∧ b < B ∧ ∀ i p, ps[i]? = some p → ∃ u, w.cell? ⟨b, off + i * 2, none⟩ = some (.int .i64 p.1) ∧ w.cell? ⟨b, off + i * 2 + 1, none⟩ = some u ∧ Rest B w p.2 u)
/-- the cells of a disk -/
def dskCells (s p : Value) (d : Dsk) : List Value := [s, p, .int .i64 d.left, .bool d.stop]
def dskOf (s p : Value) (d : Dsk) : Value := .agg (dskCells s p d).toArray
def DRest (B : Nat) (w : World) (d : Dsk) (v : Value) : Prop := ∃ s p, v = dskOf s p d ∧ NRest B w d.secs s ∧ PRest B w d.pend p

section
variable {B B' : Nat} {w w' : World} {v : Value}
theorem NRest.stays {xs} (h : NRest B w xs v) (hb : Below B w w') : NRest B w' xs v := by
  obtain ⟨a, cap, h1, h2, h3, h4, h5⟩ := h
  refine ⟨a, cap, h1, h2, h3, h4, ?_⟩
  rcases h5 with h0 | ⟨b, off, ha, hl, hc⟩
  · exact .inl h0
  · refine .inr ⟨b, off, ha, hl, fun i x hi => ?_⟩
    obtain ⟨u, h6, h7⟩ := hc i x hi
    exact ⟨u, (hb.cell (p := ⟨b, off + i, none⟩) hl).trans h6, h7.stays hb⟩
theorem NRest.mono {xs} (h : NRest B w xs v) (hb : B ≤ B') : NRest B' w xs v := by
  obtain ⟨a, cap, h1, h2, h3, h4, h5⟩ := h
  refine ⟨a, cap, h1, h2, h3, h4, ?_⟩
  rcases h5 with h0 | ⟨b, off, ha, hl, hc⟩
  · exact .inl h0
  · refine .inr ⟨b, off, ha, by omega, fun i x hi => ?_⟩
    obtain ⟨u, h6, h7⟩ := hc i x hi
    exact ⟨u, h6, h7.mono hb⟩
theorem NRest.keep {xs} (h : NRest w.heap.size w xs v) (hb : Below w.heap.size w w') : NRest w'.heap.size w' xs v := (h.stays hb).mono hb.size
theorem PRest.stays {xs} (h : PRest B w xs v) (hb : Below B w w') : PRest B w' xs v := by
  obtain ⟨a, cap, h1, h2, h3, h4, h5⟩ := h
  refine ⟨a, cap, h1, h2, h3, h4, ?_⟩
  rcases h5 with h0 | ⟨b, off, ha, hl, hc⟩
  · exact .inl h0
  · refine .inr ⟨b, off, ha, hl, fun i x hi => ?_⟩
    obtain ⟨u, h6, h7, h8⟩ := hc i x hi
    exact ⟨u, (hb.cell (p := ⟨b, off + i * 2, none⟩) hl).trans h6, (hb.cell (p := ⟨b, off + i * 2 + 1, none⟩) hl).trans h7, h8.stays hb⟩
theorem PRest.mono {xs} (h : PRest B w xs v) (hb : B ≤ B') : PRest B' w xs v := by
  obtain ⟨a, cap, h1, h2, h3, h4, h5⟩ := h
  refine ⟨a, cap, h1, h2, h3, h4, ?_⟩
  rcases h5 with h0 | ⟨b, off, ha, hl, hc⟩
  · exact .inl h0
  · refine .inr ⟨b, off, ha, by omega, fun i x hi => ?_⟩
    obtain ⟨u, h6, h7, h8⟩ := hc i x hi
    exact ⟨u, h6, h7, h8.mono hb⟩
theorem PRest.keep {xs} (h : PRest w.heap.size w xs v) (hb : Below w.heap.size w w') : PRest w'.heap.size w' xs v := (h.stays hb).mono hb.size
theorem DRest.stays {d} (h : DRest B w d v) (hb : Below B w w') : DRest B w' d v := by
  obtain ⟨s, p, rfl, h1, h2⟩ := h; exact ⟨s, p, rfl, h1.stays hb, h2.stays hb⟩
theorem DRest.mono {d} (h : DRest B w d v) (hb : B ≤ B') : DRest B' w d v := by
  obtain ⟨s, p, rfl, h1, h2⟩ := h; exact ⟨s, p, rfl, h1.mono hb, h2.mono hb⟩
theorem DRest.keep {d} (h : DRest w.heap.size w d v) (hb : Below w.heap.size w w') : DRest w'.heap.size w' d v := (h.stays hb).mono hb.size
theorem nrest_nil (B : Nat) (w : World) : NRest B w [] (.slice none 0 0) := ⟨none, 0, rfl, by simp, by simp [maxLen], fun _ => ⟨rfl, rfl⟩, .inl rfl⟩
theorem prest_nil (B : Nat) (w : World) : PRest B w [] (.slice none 0 0) := ⟨none, 0, rfl, by simp, by simp [maxLen], fun _ => ⟨rfl, rfl⟩, .inl rfl⟩

/-- the shape of a slice -/
theorem Rest.shape {xs} (h : Rest B w xs v) : ∃ a cap, v = .slice a xs.length cap ∧ cap ≤ 9223372036854775807 ∧ xs.length ≤ cap := by
  obtain ⟨a, cap, h1, h2, h3, _⟩ := h; exact ⟨a, cap, h1, h3, h2⟩
theorem NRest.shape {xs} (h : NRest B w xs v) : ∃ a cap, v = .slice a xs.length cap ∧ cap ≤ 9223372036854775807 ∧ xs.length ≤ cap := by
  obtain ⟨a, cap, h1, h2, h3, _⟩ := h; exact ⟨a, cap, h1, h3, h2⟩
theorem PRest.shape {xs} (h : PRest B w xs v) : ∃ a cap, v = .slice a xs.length cap ∧ cap ≤ 9223372036854775807 ∧ xs.length ≤ cap := by
  obtain ⟨a, cap, h1, h2, h3, _⟩ := h; exact ⟨a, cap, h1, h3, h2⟩
/-- an element that is read -/
theorem NRest.at {xs a n cap} (h : NRest B w xs (.slice a n cap)) {k x} (hk : xs[k]? = some x) :
    ∃ b off u, a = some ⟨b, off, none⟩ ∧ b < B ∧ Rest B w x u ∧ ∀ W, Below B w W → W.cell? ⟨b, off + k, none⟩ = some u := by
  obtain ⟨a2, cap2, he, h2, h3, h4, h5⟩ := h
  injection he with he1 he2 he3
  subst he1 he2 he3
  have hk2 : k < xs.length := (List.getElem?_eq_some_iff.1 hk).1
  rcases h5 with h5 | ⟨b, off, rfl, hb, hc⟩
  · omega
  · obtain ⟨u, h6, h7⟩ := hc k x hk
    exact ⟨b, off, u, rfl, hb, h7, fun W hW => (hW.cell (p := ⟨b, off + k, none⟩) hb).trans h6⟩
theorem PRest.at {xs a n cap} (h : PRest B w xs (.slice a n cap)) {k x} (hk : xs[k]? = some x) :
    ∃ b off u, a = some ⟨b, off, none⟩ ∧ b < B ∧ Rest B w x.2 u ∧ ∀ W, Below B w W → W.cell? ⟨b, off + k * 2, none⟩ = some (.int .i64 x.1) ∧ W.cell? ⟨b, off + k * 2 + 1, none⟩ = some u := by
  obtain ⟨a2, cap2, he, h2, h3, h4, h5⟩ := h
  injection he with he1 he2 he3
  subst he1 he2 he3
  have hk2 : k < xs.length := (List.getElem?_eq_some_iff.1 hk).1
  rcases h5 with h5 | ⟨b, off, rfl, hb, hc⟩
  · omega
  · obtain ⟨u, h6, h7, h8⟩ := hc k x hk
    exact ⟨b, off, u, rfl, hb, h8, fun W hW => ⟨(hW.cell (p := ⟨b, off + k * 2, none⟩) hb).trans h6, (hW.cell (p := ⟨b, off + k * 2 + 1, none⟩) hb).trans h7⟩⟩
end
end Go.Proofs.Ytlaaolbdadempaa
