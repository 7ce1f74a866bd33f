/- Lists of arcs, and of truth values, in memory. -/
import Derived.Test.YtbmbddapbgnioaaA
import Derived.Test.YtbmbddapbgnioaaMd
namespace Go.Proofs.Ytbmbddapbgnioaa
open Go.RowKit

/-- in world w the slice v holds the arcs l, in a block below B -/
def ARest (B : Nat) (w : World) (l : List Ar) (v : Value) : Prop :=
  ∃ (a : Option Addr) (cap : Nat), v = .slice a l.length cap ∧ l.length ≤ cap ∧ cap ≤ maxLen ∧ (∀ p, p ∈ l → I64 p.1 ∧ I64 p.2.1 ∧ I64 p.2.2) ∧
    (l.length = 0 ∨ ∃ b off, a = some ⟨b, off, none⟩ ∧ b < B ∧ ∀ i (h : i < l.length), w.cell? ⟨b, off + i * 3, none⟩ = some (.int .i64 l[i].1) ∧ w.cell? ⟨b, off + i * 3 + 1, none⟩ = some (.int .i64 l[i].2.1) ∧ w.cell? ⟨b, off + i * 3 + 2, none⟩ = some (.int .i64 l[i].2.2))
theorem ARest.stays {B : Nat} {w w' : World} {l : List Ar} {v : Value} (h : ARest B w l v) (hb : Below B w w') : ARest B w' l v := by
  obtain ⟨a, cap, h1, h2, h3, h4, h5⟩ := h
  refine ⟨a, cap, h1, h2, h3, h4, ?_⟩
  rcases h5 with h0 | ⟨b, off, ha, hl, hc⟩
  · exact .inl h0
  · exact .inr ⟨b, off, ha, hl, fun i hi => ⟨(hb.cell (p := ⟨b, off + i * 3, none⟩) hl).trans (hc i hi).1, (hb.cell (p := ⟨b, off + i * 3 + 1, none⟩) hl).trans (hc i hi).2.1, (hb.cell (p := ⟨b, off + i * 3 + 2, none⟩) hl).trans (hc i hi).2.2⟩⟩
theorem ARest.mono {B B' : Nat} {w : World} {l : List Ar} {v : Value} (h : ARest B w l v) (hb : B ≤ B') : ARest B' w l v := by
  obtain ⟨a, cap, h1, h2, h3, h4, h5⟩ := h
  refine ⟨a, cap, h1, h2, h3, h4, ?_⟩
  rcases h5 with h0 | ⟨b, off, ha, hl, hc⟩
  · exact .inl h0
  · exact .inr ⟨b, off, ha, by omega, hc⟩
theorem ARest.keep {w w' : World} {l : List Ar} {v : Value} (h : ARest w.heap.size w l v) (hb : Below w.heap.size w w') : ARest w'.heap.size w' l v := (h.stays hb).mono hb.size
theorem arest_nil (B : Nat) (w : World) : ARest B w [] (.slice none 0 0) := ⟨none, 0, rfl, by simp, by simp [maxLen], by simp, .inl rfl⟩
theorem arcs_at {B : Nat} {w : World} {l : List Ar} {n : Nat} {a : Option Addr} {cap : Nat} (h : ARest B w l (.slice a n cap)) :
    n = l.length ∧ l.length ≤ cap ∧ cap ≤ maxLen ∧ ∀ i, i < l.length → (I64 (l.getD i (0, 0, 0)).1 ∧ I64 (l.getD i (0, 0, 0)).2.1 ∧ I64 (l.getD i (0, 0, 0)).2.2) ∧ ∃ b off, a = some ⟨b, off, none⟩ ∧ b < B ∧
      w.cell? ⟨b, off + i * 3, none⟩ = some (.int .i64 (l.getD i (0, 0, 0)).1) ∧ w.cell? ⟨b, off + i * 3 + 1, none⟩ = some (.int .i64 (l.getD i (0, 0, 0)).2.1) ∧ w.cell? ⟨b, off + i * 3 + 2, none⟩ = some (.int .i64 (l.getD i (0, 0, 0)).2.2) := by
  obtain ⟨a2, cap2, he, h1, h2, h3, h4⟩ := h
  injection he with e1 e2 e3
  subst e1 e2 e3
  refine ⟨rfl, h1, h2, fun i hi => ?_⟩
  have e : l.getD i (0, 0, 0) = l[i] := by simp [hi]
  rw [e]
  refine ⟨h3 _ (List.getElem_mem hi), ?_⟩
  rcases h4 with h4 | ⟨b, off, rfl, hb, hc⟩
  · omega
  · exact ⟨b, off, rfl, hb, (hc i hi).1, (hc i hi).2.1, (hc i hi).2.2⟩
/-- in world w the slice v holds the truth values l, in a block below B -/
def BRest (B : Nat) (w : World) (l : List Bool) (v : Value) : Prop :=
  ∃ (a : Option Addr) (cap : Nat), v = .slice a l.length cap ∧ l.length ≤ cap ∧ cap ≤ maxLen ∧
    (l.length = 0 ∨ ∃ b off, a = some ⟨b, off, none⟩ ∧ b < B ∧ ∀ i (h : i < l.length), w.cell? ⟨b, off + i, none⟩ = some (.bool l[i]))
theorem BRest.stays {B : Nat} {w w' : World} {l : List Bool} {v : Value} (h : BRest B w l v) (hb : Below B w w') : BRest B w' l v := by
  obtain ⟨a, cap, h1, h2, h3, h5⟩ := h
  refine ⟨a, cap, h1, h2, h3, ?_⟩
  rcases h5 with h0 | ⟨b, off, ha, hl, hc⟩
  · exact .inl h0
  · exact .inr ⟨b, off, ha, hl, fun i hi => (hb.cell (p := ⟨b, off + i, none⟩) hl).trans (hc i hi)⟩
theorem BRest.mono {B B' : Nat} {w : World} {l : List Bool} {v : Value} (h : BRest B w l v) (hb : B ≤ B') : BRest B' w l v := by
  obtain ⟨a, cap, h1, h2, h3, h5⟩ := h
  refine ⟨a, cap, h1, h2, h3, ?_⟩
  rcases h5 with h0 | ⟨b, off, ha, hl, hc⟩
  · exact .inl h0
  · exact .inr ⟨b, off, ha, by omega, hc⟩
theorem BRest.keep {w w' : World} {l : List Bool} {v : Value} (h : BRest w.heap.size w l v) (hb : Below w.heap.size w w') : BRest w'.heap.size w' l v := (h.stays hb).mono hb.size
theorem brest_nil (B : Nat) (w : World) : BRest B w [] (.slice none 0 0) := ⟨none, 0, rfl, by simp, by simp [maxLen], .inl rfl⟩
theorem bools_at {B : Nat} {w : World} {l : List Bool} {n : Nat} {a : Option Addr} {cap : Nat} (h : BRest B w l (.slice a n cap)) :
    n = l.length ∧ l.length ≤ cap ∧ cap ≤ maxLen ∧ ∀ i, i < l.length → ∃ b off, a = some ⟨b, off, none⟩ ∧ b < B ∧ w.cell? ⟨b, off + i, none⟩ = some (.bool (l.getD i false)) := by
  obtain ⟨a2, cap2, he, h1, h2, h4⟩ := h
  injection he with e1 e2 e3
  subst e1 e2 e3
  refine ⟨rfl, h1, h2, fun i hi => ?_⟩
  have e : l.getD i false = l[i] := by simp [hi]
  rw [e]
  rcases h4 with h4 | ⟨b, off, rfl, hb, hc⟩
  · omega
  · exact ⟨b, off, rfl, hb, hc i hi⟩
end Go.Proofs.Ytbmbddapbgnioaa
