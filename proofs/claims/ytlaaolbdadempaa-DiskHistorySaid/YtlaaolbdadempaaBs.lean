/- The same with a set of blocks in which everything lies: what is stored elsewhere does not matter. -/
import Derived.Test.YtlaaolbdadempaaH
namespace Go.Proofs.Ytlaaolbdadempaa
open Go.RowKit

def RestS (S : Nat → Prop) (w : World) (bs : List UInt8) (v : Value) : Prop :=
  ∃ (a : Option Addr) (cap : Nat), v = .slice a bs.length cap ∧ bs.length ≤ cap ∧ cap ≤ maxLen ∧ (a = none → bs.length = 0 ∧ cap = 0) ∧
    (bs.length = 0 ∨ ∃ b off, a = some ⟨b, off, none⟩ ∧ S b ∧ ∀ i (h : i < bs.length), w.cell? ⟨b, off + i, none⟩ = some (.int .u8 (bs[i].toNat : Int)))
def NRestS (S : Nat → Prop) (w : World) (xs : List (List UInt8)) (v : Value) : Prop :=
  ∃ (a : Option Addr) (cap : Nat), v = .slice a xs.length cap ∧ xs.length ≤ cap ∧ cap ≤ maxLen ∧ (a = none → xs.length = 0 ∧ cap = 0) ∧
    (xs.length = 0 ∨ ∃ b off, a = some ⟨b, off, none⟩ ∧ S b ∧ ∀ i x, xs[i]? = some x → ∃ u, w.cell? ⟨b, off + i, none⟩ = some u ∧ RestS S w x u)
def PRestS (S : Nat → Prop) (w : World) (ps : List (Int × List UInt8)) (v : Value) : Prop :=
  ∃ (a : Option Addr) (cap : Nat), v = .slice a ps.length cap ∧ ps.length ≤ cap ∧ cap ≤ maxLen ∧ (a = none → ps.length = 0 ∧ cap = 0) ∧
    (ps.length = 0 ∨ ∃ b off, a = some ⟨b, off, none⟩ ∧ S b ∧ ∀ i p, ps[i]? = some p → ∃ u, w.cell? ⟨b, off + i * 2, none⟩ = some (.int .i64 p.1) ∧ w.cell? ⟨b, off + i * 2 + 1, none⟩ = some u ∧ RestS S w p.2 u)
def DRestS (S : Nat → Prop) (w : World) (d : Dsk) (v : Value) : Prop := ∃ s p, v = dskOf s p d ∧ NRestS S w d.secs s ∧ PRestS S w d.pend p

/-- S, and what lies at n or beyond -/
def Ext (S : Nat → Prop) (n : Nat) : Nat → Prop := fun b => S b ∨ n ≤ b
/-- the blocks of S that lie below n -/
def Cut (S : Nat → Prop) (n : Nat) : Nat → Prop := fun b => S b ∧ b < n
/-- from w to w' the blocks of S stay -/
def KeepS (S : Nat → Prop) (w w' : World) : Prop := ∀ b, S b → b < w.heap.size → w'.heap[b]? = w.heap[b]?
theorem lt_of_cell {w : World} {b o : Nat} {v : Value} (h : w.cell? ⟨b, o, none⟩ = some v) : b < w.heap.size := World.block_lt_of_cell? w ⟨b, o, none⟩ h
theorem KeepS.cell {S : Nat → Prop} {w w' : World} (h : KeepS S w w') {b o : Nat} {v : Value} (hb : S b) (hc : w.cell? ⟨b, o, none⟩ = some v) : w'.cell? ⟨b, o, none⟩ = some v := by
  have := h b hb (lt_of_cell hc)
  unfold World.cell? at hc ⊢
  simp only at hc ⊢
  rw [this]; exact hc
theorem KeepS.of_below {S : Nat → Prop} {w w' : World} {n : Nat} (h : Below n w w') : KeepS (Cut S n) w w' := fun b hb _ => h.block b hb.2
theorem KeepS.trans {S : Nat → Prop} {a b c : World} (h : KeepS S a b) (hs : a.heap.size ≤ b.heap.size) (k : KeepS S b c) : KeepS S a c := fun i hi hl => (k i hi (by omega)).trans (h i hi hl)
theorem KeepS.far {S : Nat → Prop} {w w' : World} (g : Nat) (hg : ¬ S g) (h : ∀ b, b ≠ g → w'.heap[b]? = w.heap[b]?) : KeepS S w w' := fun b hb _ => h b (fun e => hg (e ▸ hb))
theorem KeepS.weak {S S' : Nat → Prop} {w w' : World} (h : KeepS S w w') (hs : ∀ b, S' b → S b) : KeepS S' w w' := fun b hb hl => h b (hs b hb) hl
theorem KeepS.setCell {S : Nat → Prop} (w : World) (g i : Nat) (v : Value) (hg : ¬ S g) : KeepS S w (w.setCell ⟨g, i, none⟩ v) := .far g hg fun b hb => heap_setCell_other w ⟨g, i, none⟩ b v hb
theorem KeepS.below {S : Nat → Prop} {w w' : World} (h : Below w.heap.size w w') : KeepS S w w' := fun b _ hl => h.block b hl

section
variable {S S' : Nat → Prop} {w w' : World} {v : Value}
theorem RestS.keep {xs} (h : RestS S w xs v) (hk : KeepS S w w') : RestS S w' xs v := by
  obtain ⟨a, cap, h1, h2, h3, h4, h5⟩ := h
  refine ⟨a, cap, h1, h2, h3, h4, ?_⟩
  rcases h5 with h0 | ⟨b, off, ha, hs, hc⟩
  · exact .inl h0
  · exact .inr ⟨b, off, ha, hs, fun i hi => hk.cell hs (hc i hi)⟩
/-- the set may be any that holds those blocks of it that there are -/
theorem RestS.weak {xs} (h : RestS S w xs v) (hs : ∀ b, S b → b < w.heap.size → S' b) : RestS S' w xs v := by
  obtain ⟨a, cap, h1, h2, h3, h4, h5⟩ := h
  refine ⟨a, cap, h1, h2, h3, h4, ?_⟩
  rcases Nat.eq_zero_or_pos xs.length with h0 | h0
  · exact .inl h0
  · rcases h5 with h5 | ⟨b, off, ha, hb, hc⟩
    · exact .inl h5
    · exact .inr ⟨b, off, ha, hs b hb (lt_of_cell (hc 0 h0)), hc⟩
theorem NRestS.keep {xs} (h : NRestS S w xs v) (hk : KeepS S w w') : NRestS S w' xs v := by
  obtain ⟨a, cap, h1, h2, h3, h4, h5⟩ := h
  refine ⟨a, cap, h1, h2, h3, h4, ?_⟩
  rcases h5 with h0 | ⟨b, off, ha, hs, hc⟩
  · exact .inl h0
  · refine .inr ⟨b, off, ha, hs, fun i x hi => ?_⟩
    obtain ⟨u, h6, h7⟩ := hc i x hi
    exact ⟨u, hk.cell hs h6, h7.keep hk⟩
theorem NRestS.weak {xs} (h : NRestS S w xs v) (hs : ∀ b, S b → b < w.heap.size → S' b) : NRestS S' w xs v := by
  obtain ⟨a, cap, h1, h2, h3, h4, h5⟩ := h
  refine ⟨a, cap, h1, h2, h3, h4, ?_⟩
  rcases Nat.eq_zero_or_pos xs.length with h0 | h0
  · exact .inl h0
  · rcases h5 with h5 | ⟨b, off, ha, hb, hc⟩
    · exact .inl h5
    · obtain ⟨u0, h6, _⟩ := hc 0 _ (List.getElem?_eq_getElem h0)
      refine .inr ⟨b, off, ha, hs b hb (lt_of_cell h6), fun i x hi => ?_⟩
      obtain ⟨u, h6, h7⟩ := hc i x hi
      exact ⟨u, h6, h7.weak hs⟩
theorem PRestS.keep {xs} (h : PRestS S w xs v) (hk : KeepS S w w') : PRestS S w' xs v := by
  obtain ⟨a, cap, h1, h2, h3, h4, h5⟩ := h
  refine ⟨a, cap, h1, h2, h3, h4, ?_⟩
  rcases h5 with h0 | ⟨b, off, ha, hs, hc⟩
  · exact .inl h0
  · refine .inr ⟨b, off, ha, hs, fun i x hi => ?_⟩
    obtain ⟨u, h6, h7, h8⟩ := hc i x hi
    exact ⟨u, hk.cell hs h6, hk.cell hs h7, h8.keep hk⟩
theorem PRestS.weak {xs} (h : PRestS S w xs v) (hs : ∀ b, S b → b < w.heap.size → S' b) : PRestS S' w xs v := by
  obtain ⟨a, cap, h1, h2, h3, h4, h5⟩ := h
  refine ⟨a, cap, h1, h2, h3, h4, ?_⟩
  rcases Nat.eq_zero_or_pos xs.length with h0 | h0
  · exact .inl h0
  · rcases h5 with h5 | ⟨b, off, ha, hb, hc⟩
    · exact .inl h5
    · obtain ⟨u0, h6, _⟩ := hc 0 _ (List.getElem?_eq_getElem h0)
      refine .inr ⟨b, off, ha, hs b hb (lt_of_cell h6), fun i x hi => ?_⟩
      obtain ⟨u, h6, h7, h8⟩ := hc i x hi
      exact ⟨u, h6, h7, h8.weak hs⟩
theorem DRestS.keep {d} (h : DRestS S w d v) (hk : KeepS S w w') : DRestS S w' d v := by
  obtain ⟨s, p, rfl, h1, h2⟩ := h; exact ⟨s, p, rfl, h1.keep hk, h2.keep hk⟩
theorem DRestS.weak {d} (h : DRestS S w d v) (hs : ∀ b, S b → b < w.heap.size → S' b) : DRestS S' w d v := by
  obtain ⟨s, p, rfl, h1, h2⟩ := h; exact ⟨s, p, rfl, h1.weak hs, h2.weak hs⟩
theorem RestS.rest {xs} (h : RestS S w xs v) : Rest w.heap.size w xs v := h.weak (S' := fun b => b < w.heap.size) fun _ _ h => h
theorem NRestS.rest {xs} (h : NRestS S w xs v) : NRest w.heap.size w xs v := h.weak (S' := fun b => b < w.heap.size) fun _ _ h => h
theorem PRestS.rest {xs} (h : PRestS S w xs v) : PRest w.heap.size w xs v := h.weak (S' := fun b => b < w.heap.size) fun _ _ h => h
theorem DRestS.rest {d} (h : DRestS S w d v) : DRest w.heap.size w d v := h.weak (S' := fun b => b < w.heap.size) fun _ _ h => h
theorem RestS.of {B : Nat} {xs} (h : Rest B w xs v) : RestS (fun b => b < B) w xs v := h
theorem NRestS.of {B : Nat} {xs} (h : NRest B w xs v) : NRestS (fun b => b < B) w xs v := h
theorem PRestS.of {B : Nat} {xs} (h : PRest B w xs v) : PRestS (fun b => b < B) w xs v := h
theorem DRestS.of {B : Nat} {d} (h : DRest B w d v) : DRestS (fun b => b < B) w d v := h
/-- what came in, later in the call -/
theorem RestS.later {xs} (h : RestS S w xs v) (hb : Below w.heap.size w w') : RestS (Cut S w.heap.size) w' xs v := (h.weak (S' := Cut S w.heap.size) fun b h1 h2 => ⟨h1, h2⟩).keep (.of_below hb)
theorem NRestS.later {xs} (h : NRestS S w xs v) (hb : Below w.heap.size w w') : NRestS (Cut S w.heap.size) w' xs v := (h.weak (S' := Cut S w.heap.size) fun b h1 h2 => ⟨h1, h2⟩).keep (.of_below hb)
theorem PRestS.later {xs} (h : PRestS S w xs v) (hb : Below w.heap.size w w') : PRestS (Cut S w.heap.size) w' xs v := (h.weak (S' := Cut S w.heap.size) fun b h1 h2 => ⟨h1, h2⟩).keep (.of_below hb)
theorem DRestS.later {d} (h : DRestS S w d v) (hb : Below w.heap.size w w') : DRestS (Cut S w.heap.size) w' d v := (h.weak (S' := Cut S w.heap.size) fun b h1 h2 => ⟨h1, h2⟩).keep (.of_below hb)
theorem nrests_nil (S : Nat → Prop) (w : World) : NRestS S w [] (.slice none 0 0) := ⟨none, 0, rfl, by simp, by simp [maxLen], fun _ => ⟨rfl, rfl⟩, .inl rfl⟩
theorem prests_nil (S : Nat → Prop) (w : World) : PRestS S w [] (.slice none 0 0) := ⟨none, 0, rfl, by simp, by simp [maxLen], fun _ => ⟨rfl, rfl⟩, .inl rfl⟩
theorem rests_nil (S : Nat → Prop) (w : World) : RestS S w [] (.slice none 0 0) := ⟨none, 0, rfl, by simp, by simp [maxLen], fun _ => ⟨rfl, rfl⟩, .inl rfl⟩
theorem rows_rest {g n : Nat} {xs : List UInt8} (h : Row w g 5 (cellsOf xs)) (hl : xs.length = n) (hn : n ≤ 1000000) (hg : S g) : RestS S w xs (.slice (some ⟨g, 0, none⟩) n n) :=
  ⟨some ⟨g, 0, none⟩, n, by rw [hl], by omega, by unfold maxLen; omega, (fun h => by cases h), .inr ⟨g, 0, rfl, hg, fun i hi => by rw [Nat.zero_add]; exact h.cell (cellsOf_get hi)⟩⟩
theorem ext_weak {n m : Nat} (h : m ≤ n) : ∀ b, Ext (Cut S m) n b → b < w.heap.size → Ext S m b := fun b hb _ => by
  rcases hb with hb | hb
  · exact .inl hb.1
  · exact .inr (by omega)
end
end Go.Proofs.Ytlaaolbdadempaa
