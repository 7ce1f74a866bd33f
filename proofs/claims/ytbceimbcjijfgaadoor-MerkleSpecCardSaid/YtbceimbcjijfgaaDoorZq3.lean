/- Memory: blocks that are known whole, slices of bytes that are read, buffers of the call's own; digests as values. -/
import Derived.ArgAppend
import Derived.Lib.SmallJoins
import Derived.Laws.Rows
import Derived.Laws.Tables
import Derived.Deep.WholeRow
import Derived.Deep.RegionWith
import Derived.Deep.RegionHeld3
import Derived.Laws.EntriesVeiled
import Derived.OpenShut
import Derived.Test.YtbceimbcjijfgaaDoorZq2
namespace Go.Proofs.YtbceimbcjijfgaaDoor.Dig
open Go.RowKit

/-- From w to w' only the block of v may have turned, and v' lies in it or in a new one. -/
structure Wrote (w w' : World) (v v' : Value) : Prop where
  grown : w.grownBy w' v.ownBlock
  own : v'.ownBlock = v.ownBlock ∨ ∀ k, v'.ownBlock = some k → w.heap.size ≤ k

theorem Wrote.refl (w : World) (v : Value) : Wrote w w v v := ⟨⟨rfl, rfl, rfl, Nat.le_refl _, fun _ _ _ => rfl⟩, .inl rfl⟩
theorem Wrote.trans {a b c : World} {u v x : Value} (h : Wrote a b u v) (k : Wrote b c v x) : Wrote a c u x := by
  have hs := h.grown.size
  refine ⟨⟨k.grown.os.trans h.grown.os, k.grown.tape.trans h.grown.tape, k.grown.output.trans h.grown.output, Nat.le_trans hs k.grown.size, fun i hi hne => ?_⟩, ?_⟩
  · refine (k.grown.block i (by omega) fun e => ?_).trans (h.grown.block i hi hne)
    rcases h.own with h1 | h1
    · exact hne (e.trans h1)
    · have := h1 i e.symm; omega
  · rcases k.own with h1 | h1
    · rw [h1]; exact h.own
    · exact .inr fun j hj => by have := h1 j hj; omega
theorem Wrote.alloc {a b : World} {u v : Value} (h : Wrote a b u v) (o : Obj) : Wrote a (b.alloc o) u v :=
  ⟨⟨h.grown.os, h.grown.tape, h.grown.output, by have := h.grown.size; simp; omega, fun i hi hne => by
    rw [Below.heap_alloc _ _ _ (by have := h.grown.size; omega)]; exact h.grown.block i hi hne⟩, h.own⟩
theorem Wrote.drew {a b : World} {u v : Value} (h : Wrote a b u v) : Wrote a b.drew u v :=
  ⟨⟨h.grown.os, h.grown.tape, h.grown.output, h.grown.size, h.grown.block⟩, h.own⟩
theorem Wrote.below {a b : World} (v : Value) (h : Below a.heap.size a b) : Wrote a b v v :=
  ⟨⟨h.os, h.tape, h.output, h.size, fun i hi _ => h.block i hi⟩, .inl rfl⟩
theorem Wrote.toBelow {a b : World} {u v : Value} {B : Nat} (h : Wrote a b u v) (hB : B ≤ a.heap.size) (hu : ∀ k, u.ownBlock = some k → B ≤ k) : Below B a b :=
  ⟨h.grown.os, h.grown.tape, h.grown.output, h.grown.size, fun i hi => h.grown.block i (by omega) fun e => by have := hu i e.symm; omega⟩
theorem Wrote.cell {a b : World} {u v : Value} (h : Wrote a b u v) {p : Addr} {x : Value} (hp : a.cell? p = some x) (hne : some p.block ≠ u.ownBlock) : b.cell? p = some x := h.grown.cell hp hne

theorem owns_below {w w' : World} {e size n : Nat} {v : Value} {xs : List Value} (h : w.ownsRow 0 e size v n xs) (hb : Below w.heap.size w w') : w'.ownsRow 0 e size v n xs :=
  h.kept (row := none) ⟨hb.os, hb.tape, hb.output, hb.size, fun k hk _ => hb.block k hk⟩ (by cases hv : v.ownBlock <;> simp)
theorem owns_lt {w : World} {e size n : Nat} {v : Value} {xs : List Value} (h : w.ownsRow 0 e size v n xs) : ∀ k, v.ownBlock = some k → k < w.heap.size := fun k hk => (h.lt k hk).2

section
variable {P : Program}
theorem wpList_append_mine (w : World) {ops : Array Oper} {rest : List Oper} {o : Oper} {a : Act} {Q : Exit → Act → World → Prop} (hgd : o.guard = none) (s x : Operand) (t : TypeId)
    (ho : o.op = .call { callee := .builtin .append, args := #[s, x], argTypes := #[t, t] })
    (e : TypeId) (i : TypeInfo) (z : Value) (size bytes : Nat) (ht : P.underlying t = some (.slice e)) (hi : P.info? e = some i) (hz : i.zero = some z)
    (hsize : i.size = size) (hby : i.bytes = bytes) (hzs : z.cells.size = size) (hsz : 0 < size)
    (v : Value) (n : Nat) (xs : List Value) (hs : a.eval s = v) (hown : w.ownsRow 0 e size v n xs)
    (ad : Addr) (m c : Nat) (news : List Value) (hx : a.eval x = .slice (some ad) m c) (hl : news.length = m * size) (hnews : ∀ j u, news[j]? = some u → w.cell? (ad.add j) = some u) (h1 : ∀ u ∈ news, u.oneCell' = true)
    (h63 : n + m ≤ maxLen) (hbytes : (n + m) * bytes ≤ 140737488355328)
    (h : ∀ v' w', w'.ownsRow 0 e size v' (n + m) (xs ++ news) → Wrote w w' v v' → wpList P ops Q rest (a.put o.dst v') w') : wpList P ops Q (o :: rest) a w := by
  rcases hown.2 with ⟨rfl, rfl⟩ | ⟨g, cap, cur, rfl, hbg, hg, hnc, hcm, hcs, htake⟩
  · have hx0 : xs = [] := List.eq_nil_of_length_eq_zero (by simpa using hown.1)
    subst hx0
    refine wpList_append_own w hgd s x t ho w.heap.size e i z size bytes ht hi hz hsize hby hzs hsz (.slice none 0 0) 0 [] hs (World.ownsRow_nil w _ e size) ad m c news hx hl hnews h1 h63 hbytes (Nat.le_refl _) fun v' w' h2 h3 _ => ?_
    exact h v' w' (Joins.ownsRow_le h2 (Nat.zero_le _)) ⟨h3, .inr fun k hk => (h2.lt k hk).1⟩
  · by_cases hroom : n + m ≤ cap
    · refine wpList_append_fits w hgd s x t ho 0 e i size ht hi hsize g n cap xs hs hown ad m c news hx hl hnews h1 hroom fun w' h2 h3 => ?_
      exact h _ w' h2 ⟨h3, .inl rfl⟩
    · refine wpList_append_grows w hgd s x t ho e i z size bytes ht hi hz hsize hby hzs hsz (some ⟨g, 0, none⟩) n cap xs hs (fun h0 => by cases h0) hown.1 (fun b hb j u hu => ?_) ad m c news hx hl hnews h1 (by omega) h63 hbytes fun v' w' h2 h3 => ?_
      · obtain rfl := Option.some.inj hb
        exact hown.cells (g := g) rfl j u hu
      · exact h v' w' (Joins.ownsRow_le h2 (Nat.zero_le _)) ⟨⟨h3.os, h3.tape, h3.output, h3.size, fun k hk _ => h3.block k hk (by simp)⟩, .inr fun k hk => (h2.lt k hk).1⟩
end

/-- the cells of bytes -/
def cellsOf (l : List UInt8) : List Value := l.map fun c => Value.int .u8 (c.toNat : Int)
theorem cellsOf_len (l : List UInt8) : (cellsOf l).length = l.length := by simp [cellsOf]
theorem cellsOf_append (a b : List UInt8) : cellsOf (a ++ b) = cellsOf a ++ cellsOf b := by simp [cellsOf]
theorem cellsOf_get {l : List UInt8} {i : Nat} (h : i < l.length) : (cellsOf l)[i]? = some (.int .u8 (l[i].toNat : Int)) := by simp [cellsOf, h]
theorem cellsOf_one (l : List UInt8) : (cellsOf l).toArray.all (·.oneCell') = true := by
  rw [Array.all_eq_true_iff_forall_mem]; intro x hx; simp [cellsOf] at hx; obtain ⟨c, _, rfl⟩ := hx; rfl
/-- a digest (or other bytes) as an array -/
def dg (l : List UInt8) : Value := .agg (cellsOf l).toArray
/-- the cells of words -/
def u32s (l : List Nat) : List Value := l.map fun (n : Nat) => Value.int .u32 (n : Int)
theorem u32s_len (l : List Nat) : (u32s l).length = l.length := by simp [u32s]
theorem u32s_append (a b : List Nat) : u32s (a ++ b) = u32s a ++ u32s b := by simp [u32s]
theorem u32s_get {l : List Nat} {i : Nat} (h : i < l.length) : (u32s l)[i]? = some (.int .u32 (l.getD i 0 : Int)) := by simp [u32s, h]
theorem u32s_one (l : List Nat) : (u32s l).toArray.all (·.oneCell') = true := by
  rw [Array.all_eq_true_iff_forall_mem]; intro x hx; simp [u32s] at hx; obtain ⟨c, _, rfl⟩ := hx; rfl

/-- a buffer of the call's own that holds the bytes xs -/
def Buf (w : World) (v : Value) (xs : List UInt8) : Prop := w.ownsRow 0 5 1 v xs.length (cellsOf xs)
theorem Tryd.info5 : (Tryd.prog.info? 5).map (fun i => (i.zero, i.size, i.bytes)) = some (some (.int .u8 0), 1, 1) := by kernel_rfl
theorem buf_stays {w w' : World} {v : Value} {xs : List UInt8} (h : Buf w v xs) (hb : Below w.heap.size w w') : Buf w' v xs := owns_below h hb
/-- In world w the slice v holds the bytes bs, in a block below B. -/
def Rest (B : Nat) (w : World) (bs : List UInt8) (v : Value) : Prop :=
  ∃ (a : Option Addr) (cap : Nat), v = .slice a bs.length cap ∧ bs.length ≤ cap ∧ cap ≤ maxLen ∧ (a = none → bs.length = 0 ∧ cap = 0) ∧
    (bs.length = 0 ∨ ∃ b off, a = some ⟨b, off, none⟩ ∧ b < B ∧ ∀ i (h : i < bs.length), w.cell? ⟨b, off + i, none⟩ = some (.int .u8 (bs[i].toNat : Int)))
theorem Rest.stays {B : Nat} {w w' : World} {bs : List UInt8} {v : Value} (h : Rest B w bs v) (hb : Below B w w') : Rest B w' bs v := by
  obtain ⟨a, cap, h1, h2, h3, h4, h5⟩ := h
  refine ⟨a, cap, h1, h2, h3, h4, ?_⟩
  rcases h5 with h0 | ⟨b, off, ha, hl, hc⟩
  · exact .inl h0
  · exact .inr ⟨b, off, ha, hl, fun i hi => (hb.cell (p := ⟨b, off + i, none⟩) hl).trans (hc i hi)⟩
theorem rest_nil (B : Nat) (w : World) : Rest B w [] (.slice none 0 0) := ⟨none, 0, rfl, by simp, by simp [maxLen], fun _ => ⟨rfl, rfl⟩, .inl rfl⟩
theorem rest_mono {B B' : Nat} {w : World} {bs : List UInt8} {v : Value} (h : Rest B w bs v) (hb : B ≤ B') : Rest B' w bs v := by
  obtain ⟨a, cap, h1, h2, h3, h4, h5⟩ := h
  refine ⟨a, cap, h1, h2, h3, h4, ?_⟩
  rcases h5 with h0 | ⟨b, off, ha, hl, hc⟩
  · exact .inl h0
  · exact .inr ⟨b, off, ha, by omega, hc⟩
theorem rest_keep {w w' : World} {bs : List UInt8} {v : Value} (h : Rest w.heap.size w bs v) (hb : Below w.heap.size w w') : Rest w'.heap.size w' bs v :=
  rest_mono (h.stays hb) hb.size
theorem rest_part {B : Nat} {w : World} {b off cap : Nat} {bs : List UInt8} (h : Rest B w bs (.slice (some ⟨b, off, none⟩) bs.length cap)) (q u c : Nat) (hq : q + u ≤ bs.length) (hc : u ≤ c) (hc2 : c ≤ cap) : Rest B w ((bs.drop q).take u) (.slice (some ⟨b, off + q, none⟩) u c) := by
  obtain ⟨a2, cap2, he, hl, hm, ha, hcl⟩ := h
  injection he with he1 he2 he3
  subst he1 he3
  have hlen : ((bs.drop q).take u).length = u := by rw [List.length_take, List.length_drop]; omega
  refine ⟨some ⟨b, off + q, none⟩, c, by rw [hlen], by omega, by omega, (fun h => by cases h), ?_⟩
  rcases hcl with h0 | ⟨b2, off2, he4, hb, hcl⟩
  · exact .inl (by omega)
  · injection he4 with he4
    injection he4 with he5 he6
    subst he5 he6
    refine .inr ⟨b, off + q, rfl, hb, fun i hi => ?_⟩
    have h3 := hcl (q + i) (by omega)
    rw [show off + q + i = off + (q + i) by omega, h3]
    simp
theorem buf_rest {w : World} {v : Value} {xs : List UInt8} (h : Buf w v xs) : ∃ (a : Option Addr) (cap : Nat), v = .slice a xs.length cap ∧ Rest w.heap.size w xs (.slice a xs.length cap) := by
  rcases h.2 with ⟨rfl, h0⟩ | ⟨g, cap, cur, rfl, _, hg, hnc, hcm, hcs, htake⟩
  · exact ⟨none, 0, by rw [h0], none, 0, rfl, by omega, by simp [maxLen], fun _ => ⟨h0, rfl⟩, .inl h0⟩
  · refine ⟨some ⟨g, 0, none⟩, cap, rfl, some ⟨g, 0, none⟩, cap, rfl, hnc, hcm, (fun h => by cases h), .inr ⟨g, 0, rfl, (Array.getElem?_eq_some_iff.1 hg).1, fun i hi => ?_⟩⟩
    have hc := World.ownsRow.cells h (g := g) rfl i (.int .u8 (xs[i].toNat : Int)) (by simp [cellsOf, hi])
    rw [Addr.add_lit] at hc
    exact hc

theorem below_next {w a b : World} (h : Below w.heap.size w a) (k : Below a.heap.size a b) : Below w.heap.size w b := h.trans (k.mono h.size)
theorem below_drewN {B : Nat} {a w : World} (h : Below B a w) (n : Nat) : Below B a (w.drewN n) := ⟨h.os, h.tape, h.output, h.size, h.block⟩

/-- a block that is known whole -/
def Row (w : World) (g T : Nat) (cs : List Value) : Prop := w.heap[g]? = some (.cells cs.toArray T (0, 0))
theorem Row.lt {w : World} {g T : Nat} {cs : List Value} (h : Row w g T cs) : g < w.heap.size := (Array.getElem?_eq_some_iff.1 h).1
theorem Row.cell {w : World} {g T : Nat} {cs : List Value} (h : Row w g T cs) {i : Nat} {v : Value} (hi : cs[i]? = some v) : w.cell? ⟨g, i, none⟩ = some v := by
  rw [cell_of_row w g i _ T _ h]; simpa using hi
theorem Row.free {w : World} {g T : Nat} {cs : List Value} (h : Row w g T cs) (i : Nat) : w.frozen? ⟨g, i, none⟩ = false := frozen_of_row w g i _ T h
theorem Row.stays {w w' : World} {g T B : Nat} {cs : List Value} (h : Row w g T cs) (hb : Below B w w') (hg : g < B) : Row w' g T cs := (hb.block g hg).trans h
theorem Row.keep {w w' : World} {g T : Nat} {cs : List Value} (h : Row w g T cs) (hb : Below w.heap.size w w') : Row w' g T cs := h.stays hb h.lt
theorem Row.set {w : World} {g T : Nat} {cs cs' : List Value} (h : Row w g T cs) (i : Nat) (v : Value) (he : cs.set i v = cs') : Row (w.setCell ⟨g, i, none⟩ v) g T cs' := by
  have := heap_setCell_same w g i _ T v h
  unfold Row; rw [this, ← he]; simp
theorem row_new (w : World) (T : Nat) (cs : List Value) : Row (w.alloc (.cells cs.toArray T)) w.heap.size T cs := heap_alloc_new w _
theorem Row.setRow {w : World} {g T : Nat} {cs : List Value} (h : Row w g T cs) (cs' : List Value) : Row (w.setRow g cs'.toArray) g T cs' := setRow_heap w g _ _ T (0, 0) h
theorem below_setRow {B : Nat} {a w : World} (h : Below B a w) (g : Nat) (cs : Array Value) (hg : B ≤ g) : Below B a (w.setRow g cs) :=
  ⟨h.os, h.tape, h.output, by simpa using h.size, fun i hi => (setRow_other w g i cs (by omega)).trans (h.block i hi)⟩

/-- the table of the numbers K -/
def Tab (w : World) : Prop := 0 < w.heap.size ∧ ∀ i, i < 64 → w.cell? ⟨0, i, none⟩ = some (.int .u32 (kTab.getD i 0 : Int))
theorem Tab.keep {w w' : World} (h : Tab w) (hb : Below w.heap.size w w') : Tab w' :=
  ⟨by have := hb.size; have := h.1; omega, fun i hi => (hb.cell (p := ⟨0, i, none⟩) h.1).trans (h.2 i hi)⟩
end Go.Proofs.YtbceimbcjijfgaaDoor.Dig
