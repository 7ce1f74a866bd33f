/- The history of a disk: what lies in memory. -/
import Derived.Test.YtlaaolbdadempaaHm
import Derived.StillTailTactics
import Derived.Laws.AppendOwnNone
namespace Go.Proofs.Ytlaaolbdadempaa
open Go.RowKit

def wcells (l : List Act3) : List Value := l.flatMap actCells
theorem wcells_len (l : List Act3) : (wcells l).length = l.length * 3 := by
  induction l with
  | nil => rfl
  | cons a l ih => simp [wcells, actCells] at ih ⊢; omega
theorem wcells_append (l m : List Act3) : wcells (l ++ m) = wcells l ++ wcells m := by simp [wcells]
theorem wcells_get : ∀ {l : List Act3} {i : Nat} {a : Act3}, l[i]? = some a → (wcells l)[i * 3]? = some (.bool a.sync) ∧ (wcells l)[i * 3 + 1]? = some (.int .u8 (a.at'.toNat : Int)) ∧ (wcells l)[i * 3 + 2]? = some (.int .u8 (a.byte.toNat : Int))
  | [], _, _, h => by simp at h
  | b :: l, 0, a, h => by simp at h; subst h; exact ⟨rfl, rfl, rfl⟩
  | b :: l, i + 1, a, h => by
    have ih := wcells_get (l := l) (i := i) (a := a) (by simpa using h)
    rw [show (i + 1) * 3 = i * 3 + 1 + 1 + 1 by omega]
    exact ih
theorem wcells_one (l : List Act3) : ∀ u ∈ wcells l, u.oneCell' = true := by
  intro u hu
  unfold wcells at hu
  obtain ⟨a, _, ha⟩ := List.mem_flatMap.1 hu
  simp [actCells] at ha
  rcases ha with rfl | rfl | rfl <;> rfl
/-- the blocks in which the disk may lie -/
def HiS (g5 g8 g9 g10 : Nat) (tw : Value) : Nat → Prop := fun b => b ≠ g5 ∧ b ≠ g8 ∧ b ≠ g9 ∧ b ≠ g10 ∧ some b ≠ tw.ownBlock
structure HiM (w : World) (g5 g8 g9 g10 : Nat) (d : Dsk) (last first second : List UInt8) (waiting : List Act3) (tw : Value) (wr : World) : Prop where
  box : OBox (HiS g5 g8 g9 g10 tw) wr g5 d
  r8 : Row wr g8 44 (cellsOf last)
  r9 : Row wr g9 44 (cellsOf first)
  r10 : Row wr g10 44 (cellsOf second)
  own : wr.ownsRow w.heap.size 46 3 tw waiting.length (wcells waiting)
  below : Below w.heap.size w wr
  ge : w.heap.size ≤ g5 ∧ w.heap.size ≤ g8 ∧ w.heap.size ≤ g9 ∧ w.heap.size ≤ g10
  apart : g5 ≠ g8 ∧ g5 ≠ g9 ∧ g5 ≠ g10 ∧ g8 ≠ g9 ∧ g8 ≠ g10 ∧ g9 ≠ g10
structure HiX (w : World) (g5 g8 g9 g10 : Nat) (d : Dsk) (last first second : List UInt8) (waiting : List Act3) (room : Int) (tw : Value) (wr : World) : Prop where
  hist : Hist d last first second waiting room
  mem : HiM w g5 g8 g9 g10 d last first second waiting tw wr
theorem owns_far {w wx : World} {b e size n g' : Nat} {v : Value} {xs : List Value} (h : w.ownsRow b e size v n xs) (hf : ∀ b, b ≠ g' → wx.heap[b]? = w.heap[b]?) (hne : some g' ≠ v.ownBlock) : wx.ownsRow b e size v n xs := by
  refine ⟨h.1, ?_⟩
  rcases h.2 with ⟨he, h0⟩ | ⟨g, cap, cur, he, hbg, hg, hr2⟩
  · exact .inl ⟨he, h0⟩
  · refine .inr ⟨g, cap, cur, he, hbg, (hf g (fun e => hne ?_)).trans hg, hr2⟩
    rw [he, ← e]; rfl
section
variable {w : World} {g5 g8 g9 g10 : Nat} {d d' : Dsk} {last first second : List UInt8} {waiting : List Act3} {room : Int} {tw : Value} {wr wx : World}
theorem HiX.own (h : HiX w g5 g8 g9 g10 d last first second waiting room tw wr) : wr.ownsRow w.heap.size 46 3 tw waiting.length (wcells waiting) := h.mem.own
theorem HiX.below (h : HiX w g5 g8 g9 g10 d last first second waiting room tw wr) : Below w.heap.size w wr := h.mem.below
theorem HiX.box (h : HiX w g5 g8 g9 g10 d last first second waiting room tw wr) : OBox (HiS g5 g8 g9 g10 tw) wr g5 d := h.mem.box
theorem HiM.keep (h : HiM w g5 g8 g9 g10 d last first second waiting tw wr) (hb : Below wr.heap.size wr wx) : HiM w g5 g8 g9 g10 d last first second waiting tw wx :=
  ⟨h.box.keep hb, h.r8.keep hb, h.r9.keep hb, h.r10.keep hb, owns_below' h.own hb, below_next h.below hb, h.ge, h.apart⟩
where owns_below' {w wx : World} {b e size n : Nat} {v : Value} {xs : List Value} (h : w.ownsRow b e size v n xs) (hb : Below w.heap.size w wx) : wx.ownsRow b e size v n xs :=
  h.kept (row := none) ⟨hb.os, hb.tape, hb.output, hb.size, fun k hk _ => hb.block k hk⟩ (by cases hv : v.ownBlock <;> simp)
theorem HiX.keep (h : HiX w g5 g8 g9 g10 d last first second waiting room tw wr) (hb : Below wr.heap.size wr wx) : HiX w g5 g8 g9 g10 d last first second waiting room tw wx := ⟨h.hist, h.mem.keep hb⟩
/-- no block that is new is one of those -/
theorem HiM.fresh (h : HiM w g5 g8 g9 g10 d last first second waiting tw wr) : ∀ i, wr.heap.size ≤ i → HiS g5 g8 g9 g10 tw i := fun i hi => by
  have h5 := h.box.lt
  have h8 := h.r8.lt
  have h9 := h.r9.lt
  have h10 := h.r10.lt
  exact ⟨by omega, by omega, by omega, by omega, fun e => by have := (h.own.lt i e.symm).2; omega⟩
theorem HiX.fresh (h : HiX w g5 g8 g9 g10 d last first second waiting room tw wr) : ∀ i, wr.heap.size ≤ i → HiS g5 g8 g9 g10 tw i := h.mem.fresh
theorem HiM.ne8 (h : HiM w g5 g8 g9 g10 d last first second waiting tw wr) : some g8 ≠ tw.ownBlock := own_neT h.own h.r8 (by decide)
theorem HiM.ne9 (h : HiM w g5 g8 g9 g10 d last first second waiting tw wr) : some g9 ≠ tw.ownBlock := own_neT h.own h.r9 (by decide)
theorem HiM.ne10 (h : HiM w g5 g8 g9 g10 d last first second waiting tw wr) : some g10 ≠ tw.ownBlock := own_neT h.own h.r10 (by decide)
theorem HiM.ne5 (h : HiM w g5 g8 g9 g10 d last first second waiting tw wr) : some g5 ≠ tw.ownBlock := by
  obtain ⟨s', p', l', b', h1, _⟩ := h.box
  exact own_neT h.own h1 (by decide)
/-- another disk in the box -/
theorem HiM.disk {s p : Value} {l : Int} {b : Bool} (h : HiM w g5 g8 g9 g10 d last first second waiting tw wr) (hr : Row wx g5 25 [s, p, .int .i64 l, .bool b]) (hd : DRestS (HiS g5 g8 g9 g10 tw) wr d' (dv s p l b)) (hb : Below w.heap.size w wx) (hf : ∀ b, b ≠ g5 → wx.heap[b]? = wr.heap[b]?) :
    HiM w g5 g8 g9 g10 d' last first second waiting tw wx := by
  obtain ⟨a1, a2, a3, a4, a5, a6⟩ := h.apart
  exact ⟨⟨s, p, l, b, hr, hd.keep (.far g5 (fun h => h.1 rfl) hf)⟩, (hf g8 (Ne.symm a1)).trans h.r8, (hf g9 (Ne.symm a2)).trans h.r9, (hf g10 (Ne.symm a3)).trans h.r10, owns_far h.own hf h.ne5, hb, h.ge, h.apart⟩
theorem HiM.set8 (h : HiM w g5 g8 g9 g10 d last first second waiting tw wr) (k : Nat) (c : UInt8) : HiM w g5 g8 g9 g10 d (last.set k c) first second waiting tw (wr.setCell ⟨g8, k, none⟩ (.int .u8 (c.toNat : Int))) := by
  obtain ⟨a1, a2, a3, a4, a5, a6⟩ := h.apart
  have hf : ∀ b, b ≠ g8 → (wr.setCell ⟨g8, k, none⟩ (.int .u8 (c.toNat : Int))).heap[b]? = wr.heap[b]? := fun b hb => heap_setCell_other wr ⟨g8, k, none⟩ b _ hb
  exact ⟨h.box.far hf a1 (fun h => h.2.1 rfl), h.r8.set k _ (set_byte _ _ _), (hf g9 (Ne.symm a4)).trans h.r9, (hf g10 (Ne.symm a5)).trans h.r10, owns_far h.own hf h.ne8, below_setCell h.below g8 k _ h.ge.2.1, h.ge, h.apart⟩
theorem HiM.set9 (h : HiM w g5 g8 g9 g10 d last first second waiting tw wr) (k : Nat) (c : UInt8) : HiM w g5 g8 g9 g10 d last (first.set k c) second waiting tw (wr.setCell ⟨g9, k, none⟩ (.int .u8 (c.toNat : Int))) := by
  obtain ⟨a1, a2, a3, a4, a5, a6⟩ := h.apart
  have hf : ∀ b, b ≠ g9 → (wr.setCell ⟨g9, k, none⟩ (.int .u8 (c.toNat : Int))).heap[b]? = wr.heap[b]? := fun b hb => heap_setCell_other wr ⟨g9, k, none⟩ b _ hb
  exact ⟨h.box.far hf a2 (fun h => h.2.2.1 rfl), (hf g8 a4).trans h.r8, h.r9.set k _ (set_byte _ _ _), (hf g10 (Ne.symm a6)).trans h.r10, owns_far h.own hf h.ne9, below_setCell h.below g9 k _ h.ge.2.2.1, h.ge, h.apart⟩
theorem HiM.set10 (h : HiM w g5 g8 g9 g10 d last first second waiting tw wr) (k : Nat) (c : UInt8) : HiM w g5 g8 g9 g10 d last first (second.set k c) waiting tw (wr.setCell ⟨g10, k, none⟩ (.int .u8 (c.toNat : Int))) := by
  obtain ⟨a1, a2, a3, a4, a5, a6⟩ := h.apart
  have hf : ∀ b, b ≠ g10 → (wr.setCell ⟨g10, k, none⟩ (.int .u8 (c.toNat : Int))).heap[b]? = wr.heap[b]? := fun b hb => heap_setCell_other wr ⟨g10, k, none⟩ b _ hb
  exact ⟨h.box.far hf a3 (fun h => h.2.2.2.1 rfl), (hf g8 a5).trans h.r8, (hf g9 a6).trans h.r9, h.r10.set k _ (set_byte _ _ _), owns_far h.own hf h.ne10, below_setCell h.below g10 k _ h.ge.2.2.2, h.ge, h.apart⟩
/-- an act more -/
theorem HiM.more {a : Act3} {tx : Value} (h : HiM w g5 g8 g9 g10 d last first second waiting tw wr) (ho : wx.ownsRow w.heap.size 46 3 tx (waiting.length + 1) (wcells waiting ++ actCells a)) (hg : wr.grownBy wx tw.ownBlock) (hn : tx.ownBlock = tw.ownBlock ∨ ∀ k, tx.ownBlock = some k → wr.heap.size ≤ k) :
    HiM w g5 g8 g9 g10 d last first second (waiting ++ [a]) tx wx := by
  obtain ⟨s, p, l, b, h1, h2⟩ := h.box
  have hb : Below w.heap.size w wx := h.below.trans ⟨hg.os, hg.tape, hg.output, hg.size, fun k hk => hg.block k (Nat.lt_of_lt_of_le hk h.below.size) (fun e => by have := (h.own.lt k e.symm).1; omega)⟩
  have h3 := h2.weak (S' := fun i => HiS g5 g8 g9 g10 tw i ∧ i < wr.heap.size) (fun i hi hl => ⟨hi, hl⟩)
  have h4 := (h3.keep (w' := wx) (fun i hi _ => hg.block i hi.2 hi.1.2.2.2.2)).weak (S' := HiS g5 g8 g9 g10 tx) (fun i hi _ => ⟨hi.1.1, hi.1.2.1, hi.1.2.2.1, hi.1.2.2.2.1, fun e => by
    rcases hn with hn | hn
    · exact hi.1.2.2.2.2 (by rw [← hn]; exact e)
    · have := hn i e.symm; have := hi.2; omega⟩)
  exact ⟨⟨s, p, l, b, (hg.block g5 h1.lt h.ne5).trans h1, h4⟩, (hg.block g8 h.r8.lt h.ne8).trans h.r8, (hg.block g9 h.r9.lt h.ne9).trans h.r9, (hg.block g10 h.r10.lt h.ne10).trans h.r10, by rw [List.length_append, wcells_append]; simpa [wcells] using ho, hb, h.ge, h.apart⟩
/-- the acts forgotten -/
theorem HiM.none {tx : Value} (h : HiM w g5 g8 g9 g10 d last first second waiting tw wr) (hb : Below wr.heap.size wr wx) (ho : wx.ownsRow w.heap.size 46 3 tx 0 []) (hn : ∀ k, tx.ownBlock = some k → wr.heap.size ≤ k) : HiM w g5 g8 g9 g10 d last first second [] tx wx := by
  have h' := h.keep hb
  obtain ⟨s, p, l, b, h1, h2⟩ := h.box
  have h3 := h2.weak (S' := fun i => HiS g5 g8 g9 g10 tw i ∧ i < wr.heap.size) (fun i hi hl => ⟨hi, hl⟩)
  have h4 := (h3.keep (KeepS.below hb)).weak (S' := HiS g5 g8 g9 g10 tx) (fun i hi _ => ⟨hi.1.1, hi.1.2.1, hi.1.2.2.1, hi.1.2.2.2.1, fun e => by have := hn i e.symm; have := hi.2; omega⟩)
  exact ⟨⟨s, p, l, b, h1.keep hb, h4⟩, h'.r8, h'.r9, h'.r10, ho, h'.below, h'.ge, h'.apart⟩
theorem HiM.more0 {a : Act3} {tx : Value} (h : HiM w g5 g8 g9 g10 d last first second waiting tw wr) (ho : wx.ownsRow 0 46 3 tx (waiting.length + 1) (wcells waiting ++ actCells a)) (hw : Wrote wr wx tw tx) :
    HiM w g5 g8 g9 g10 d last first second (waiting ++ [a]) tx wx := by
  refine h.more ?_ hw.grown hw.own
  refine ⟨ho.1, ?_⟩
  rcases ho.2 with ⟨he, h0⟩ | ⟨g, cap, cur, he, hbg, hg, hr2⟩
  · exact .inl ⟨he, h0⟩
  · refine .inr ⟨g, cap, cur, he, ?_, hg, hr2⟩
    have he2 : tx.ownBlock = some g := by rw [he]; rfl
    rcases hw.own with h1 | h1
    · exact (h.own.lt g (by rw [← h1]; exact he2)).1
    · have := h1 g he2; have := h.below.size; omega
theorem HiM.own0 (h : HiM w g5 g8 g9 g10 d last first second waiting tw wr) : wr.ownsRow 0 46 3 tw waiting.length (wcells waiting) := Joins.ownsRow_le h.own (Nat.zero_le _)
end
theorem Try.info46 : (Try.prog.info? 46).map (fun i => (i.zero, i.size, i.bytes)) = some (some (.agg #[.bool false, .int .u8 0, .int .u8 0]), 3, 3) := by kernel_rfl
theorem size44 : (Try.prog.info? 44).map (·.size) = some 4 := by kernel_rfl
end Go.Proofs.Ytlaaolbdadempaa
