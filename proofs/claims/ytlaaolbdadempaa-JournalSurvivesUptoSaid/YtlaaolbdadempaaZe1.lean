/- Memory: blocks that are known whole, slices of bytes that are read, buffers of the call's own. -/
import Derived.Test.YtlaaolbdadempaaRows
import Derived.WalkKit
import Derived.WalkLawsBesides
import Derived.Lib.Hide
import Derived.Outline
import Derived.Deep.QuietTactic
import Derived.BigQuiet
import Derived.Lib.LaidTab
import Derived.Lib.Strings
import Derived.ArgAppend
import Derived.Lib.SmallJoins
import Derived.Laws.Rows
import Derived.Laws.Tables
import Derived.Deep.WholeRow
import Derived.Deep.RegionWith
import Derived.Deep.RegionHeld3
import Derived.Laws.EntriesVeiled
import Derived.OpenShut
namespace Go.Proofs.Ytlaaolbdadempaa
open Go.RowKit

/-- From w to w' only the block of v may have turned, and v' lies in it or in a new one. -/
structure Wrote (w w' : World) (v v' : Value) : Prop where
  grown : w.grownBy w' v.ownBlock
  own : v'.ownBlock = v.ownBlock ∨ ∀ k, v'.ownBlock = some k → w.heap.size ≤ k

theorem Wrote.refl (w : World) (v : Value) : Wrote w w v v := ⟨⟨rfl, rfl, rfl, Nat.le_refl _, fun _ _ _ => rfl⟩, .inl rfl⟩
theorem Wrote.trans {a b c : World} {u v x : Value} (h : Wrote a b u v) (k : Wrote b c v x) : Wrote a c u x := by
  have hs := h.grown.size
  refine ⟨⟨k.grown.os.trans h.grown.os, k.grown.tape.trans h.grown.tape, k.grown.output.trans h.grown.output, Nat.le_trans hs k.grown.size, fun i hi hne => ?_⟩, ?_⟩
  · refine (k.grown.block i (by omega) fun e => ?_).trans (h.grown.block i hi hne)
    rcases h.own with h1 | h1
    · exact hne (e.trans h1)
    · have := h1 i e.symm; omega
  · rcases k.own with h1 | h1
    · rw [h1]; exact h.own
    · exact .inr fun j hj => by have := h1 j hj; omega
theorem Wrote.alloc {a b : World} {u v : Value} (h : Wrote a b u v) (o : Obj) : Wrote a (b.alloc o) u v :=
  ⟨⟨h.grown.os, h.grown.tape, h.grown.output, by have := h.grown.size; simp; omega, fun i hi hne => by
    rw [Below.heap_alloc _ _ _ (by have := h.grown.size; omega)]; exact h.grown.block i hi hne⟩, h.own⟩
theorem Wrote.drew {a b : World} {u v : Value} (h : Wrote a b u v) : Wrote a b.drew u v :=
  ⟨⟨h.grown.os, h.grown.tape, h.grown.output, h.grown.size, h.grown.block⟩, h.own⟩
theorem Wrote.below {a b : World} (v : Value) (h : Below a.heap.size a b) : Wrote a b v v :=
  ⟨⟨h.os, h.tape, h.output, h.size, fun i hi _ => h.block i hi⟩, .inl rfl⟩
theorem Wrote.toBelow {a b : World} {u v : Value} {B : Nat} (h : Wrote a b u v) (hB : B ≤ a.heap.size) (hu : ∀ k, u.ownBlock = some k → B ≤ k) : Below B a b :=
  ⟨h.grown.os, h.grown.tape, h.grown.output, h.grown.size, fun i hi => h.grown.block i (by omega) fun e => by have := hu i e.symm; omega⟩
theorem Wrote.cell {a b : World} {u v : Value} (h : Wrote a b u v) {p : Addr} {x : Value} (hp : a.cell? p = some x) (hne : some p.block ≠ u.ownBlock) : b.cell? p = some x := h.grown.cell hp hne

theorem owns_below {w w' : World} {e size n : Nat} {v : Value} {xs : List Value} (h : w.ownsRow 0 e size v n xs) (hb : Below w.heap.size w w') : w'.ownsRow 0 e size v n xs :=
  h.kept (row := none) ⟨hb.os, hb.tape, hb.output, hb.size, fun k hk _ => hb.block k hk⟩ (by cases hv : v.ownBlock <;> simp)
theorem owns_lt {w : World} {e size n : Nat} {v : Value} {xs : List Value} (h : w.ownsRow 0 e size v n xs) : ∀ k, v.ownBlock = some k → k < w.heap.size := fun k hk => (h.lt k hk).2

section
variable {P : Program}
theorem wpList_append_mine (w : World) {ops : Array Oper} {rest : List Oper} {o : Oper} {a : Act} {Q : Exit → Act → World → Prop} (hgd : o.guard = none) (s x : Operand) (t : TypeId)
    (ho : o.op = .call { callee := .builtin .append, args := #[s, x], argTypes := #[t, t] })
    (e : TypeId) (i : TypeInfo) (z : Value) (size bytes : Nat) (ht : P.underlying t = some (.slice e)) (hi : P.info? e = some i) (hz : i.zero = some z)
    (hsize : i.size = size) (hby : i.bytes = bytes) (hzs : z.cells.size = size) (hsz : 0 < size)
    (v : Value) (n : Nat) (xs : List Value) (hs : a.eval s = v) (hown : w.ownsRow 0 e size v n xs)
    (ad : Addr) (m c : Nat) (news : List Value) (hx : a.eval x = .slice (some ad) m c) (hl : news.length = m * size) (hnews : ∀ j u, news[j]? = some u → w.cell? (ad.add j) = some u) (h1 : ∀ u ∈ news, u.oneCell' = true)
    (h63 : n + m ≤ maxLen) (hbytes : (n + m) * bytes ≤ 140737488355328)
    (h : ∀ v' w', w'.ownsRow 0 e size v' (n + m) (xs ++ news) → Wrote w w' v v' → wpList P ops Q rest (a.put o.dst v') w') : wpList P ops Q (o :: rest) a w := by
  rcases hown.2 with ⟨rfl, rfl⟩ | ⟨g, cap, cur, rfl, hbg, hg, hnc, hcm, hcs, htake⟩
  · have hx0 : xs = [] := List.eq_nil_of_length_eq_zero (by simpa using hown.1)
    subst hx0
    refine wpList_append_own w hgd s x t ho w.heap.size e i z size bytes ht hi hz hsize hby hzs hsz (.slice none 0 0) 0 [] hs (World.ownsRow_nil w _ e size) ad m c news hx hl hnews h1 h63 hbytes (Nat.le_refl _) fun v' w' h2 h3 _ => ?_
    exact h v' w' (Joins.ownsRow_le h2 (Nat.zero_le _)) ⟨h3, .inr fun k hk => (h2.lt k hk).1⟩
  · by_cases hroom : n + m ≤ cap
    · refine wpList_append_fits w hgd s x t ho 0 e i size ht hi hsize g n cap xs hs hown ad m c news hx hl hnews h1 hroom fun w' h2 h3 => ?_
      exact h _ w' h2 ⟨h3, .inl rfl⟩
    · refine wpList_append_grows w hgd s x t ho e i z size bytes ht hi hz hsize hby hzs hsz (some ⟨g, 0, none⟩) n cap xs hs (fun h0 => by cases h0) hown.1 (fun b hb j u hu => ?_) ad m c news hx hl hnews h1 (by omega) h63 hbytes fun v' w' h2 h3 => ?_
      · obtain rfl := Option.some.inj hb
        exact hown.cells (g := g) rfl j u hu
      · exact h v' w' (Joins.ownsRow_le h2 (Nat.zero_le _)) ⟨⟨h3.os, h3.tape, h3.output, h3.size, fun k hk _ => h3.block k hk (by simp)⟩, .inr fun k hk => (h2.lt k hk).1⟩
end

/-- the cells of bytes -/
def cellsOf (l : List UInt8) : List Value := l.map fun c => Value.int .u8 (c.toNat : Int)
theorem cellsOf_len (l : List UInt8) : (cellsOf l).length = l.length := by simp [cellsOf]
theorem cellsOf_append (a b : List UInt8) : cellsOf (a ++ b) = cellsOf a ++ cellsOf b := by simp [cellsOf]
theorem cellsOf_get {l : List UInt8} {i : Nat} (h : i < l.length) : (cellsOf l)[i]? = some (.int .u8 (l[i].toNat : Int)) := by simp [cellsOf, h]
theorem cellsOf_one (l : List UInt8) : (cellsOf l).toArray.all (·.oneCell') = true := by
  rw [Array.all_eq_true_iff_forall_mem]; intro x hx; simp [cellsOf] at hx; obtain ⟨c, _, rfl⟩ := hx; rfl
/-- a buffer of the call's own that holds the bytes xs -/
def Buf (w : World) (v : Value) (xs : List UInt8) : Prop := w.ownsRow 0 5 1 v xs.length (cellsOf xs)
theorem Try.info5 : (Try.prog.info? 5).map (fun i => (i.zero, i.size, i.bytes)) = some (some (.int .u8 0), 1, 1) := by kernel_rfl
theorem buf_stays {w w' : World} {v : Value} {xs : List UInt8} (h : Buf w v xs) (hb : Below w.heap.size w w') : Buf w' v xs := owns_below h hb
theorem buf_lt {w : World} {v : Value} {xs : List UInt8} (h : Buf w v xs) : ∀ k, v.ownBlock = some k → k < w.heap.size := owns_lt h

/-- In world w the slice v holds the bytes bs, in a block below B. -/
def Rest (B : Nat) (w : World) (bs : List UInt8) (v : Value) : Prop :=
  ∃ (a : Option Addr) (cap : Nat), v = .slice a bs.length cap ∧ bs.length ≤ cap ∧ cap ≤ maxLen ∧ (a = none → bs.length = 0 ∧ cap = 0) ∧
    (bs.length = 0 ∨ ∃ b off, a = some ⟨b, off, none⟩ ∧ b < B ∧ ∀ i (h : i < bs.length), w.cell? ⟨b, off + i, none⟩ = some (.int .u8 (bs[i].toNat : Int)))
theorem Rest.stays {B : Nat} {w w' : World} {bs : List UInt8} {v : Value} (h : Rest B w bs v) (hb : Below B w w') : Rest B w' bs v := by
  obtain ⟨a, cap, h1, h2, h3, h4, h5⟩ := h
  refine ⟨a, cap, h1, h2, h3, h4, ?_⟩
  rcases h5 with h0 | ⟨b, off, ha, hl, hc⟩
  · exact .inl h0
  · exact .inr ⟨b, off, ha, hl, fun i hi => (hb.cell (p := ⟨b, off + i, none⟩) hl).trans (hc i hi)⟩
theorem rest_nil (B : Nat) (w : World) : Rest B w [] (.slice none 0 0) := ⟨none, 0, rfl, by simp, by simp [maxLen], fun _ => ⟨rfl, rfl⟩, .inl rfl⟩
theorem rest_mono {B B' : Nat} {w : World} {bs : List UInt8} {v : Value} (h : Rest B w bs v) (hb : B ≤ B') : Rest B' w bs v := by
  obtain ⟨a, cap, h1, h2, h3, h4, h5⟩ := h
  refine ⟨a, cap, h1, h2, h3, h4, ?_⟩
  rcases h5 with h0 | ⟨b, off, ha, hl, hc⟩
  · exact .inl h0
  · exact .inr ⟨b, off, ha, by omega, hc⟩
theorem rest_keep {w w' : World} {bs : List UInt8} {v : Value} (h : Rest w.heap.size w bs v) (hb : Below w.heap.size w w') : Rest w'.heap.size w' bs v :=
  rest_mono (h.stays hb) hb.size
theorem rest_part {B : Nat} {w : World} {b off cap : Nat} {bs : List UInt8} (h : Rest B w bs (.slice (some ⟨b, off, none⟩) bs.length cap)) (q u c : Nat) (hq : q + u ≤ bs.length) (hc : u ≤ c) (hc2 : c ≤ cap) : Rest B w ((bs.drop q).take u) (.slice (some ⟨b, off + q, none⟩) u c) := by
  obtain ⟨a2, cap2, he, hl, hm, ha, hcl⟩ := h
  injection he with he1 he2 he3
  subst he1 he3
  have hlen : ((bs.drop q).take u).length = u := by rw [List.length_take, List.length_drop]; omega
  refine ⟨some ⟨b, off + q, none⟩, c, by rw [hlen], by omega, by omega, (fun h => by cases h), ?_⟩
  rcases hcl with h0 | ⟨b2, off2, he4, hb, hcl⟩
  · exact .inl (by omega)
  · injection he4 with he4
    injection he4 with he5 he6
    subst he5 he6
    refine .inr ⟨b, off + q, rfl, hb, fun i hi => ?_⟩
    have h3 := hcl (q + i) (by omega)
    rw [show off + q + i = off + (q + i) by omega, h3]
    simp
theorem buf_rest {w : World} {v : Value} {xs : List UInt8} (h : Buf w v xs) : ∃ (a : Option Addr) (cap : Nat), v = .slice a xs.length cap ∧ Rest w.heap.size w xs (.slice a xs.length cap) := by
  rcases h.2 with ⟨rfl, h0⟩ | ⟨g, cap, cur, rfl, _, hg, hnc, hcm, hcs, htake⟩
  · exact ⟨none, 0, by rw [h0], none, 0, rfl, by omega, by simp [maxLen], fun _ => ⟨h0, rfl⟩, .inl h0⟩
  · refine ⟨some ⟨g, 0, none⟩, cap, rfl, some ⟨g, 0, none⟩, cap, rfl, hnc, hcm, (fun h => by cases h), .inr ⟨g, 0, rfl, (Array.getElem?_eq_some_iff.1 hg).1, fun i hi => ?_⟩⟩
    have hc := World.ownsRow.cells h (g := g) rfl i (.int .u8 (xs[i].toNat : Int)) (by simp [cellsOf, hi])
    rw [Addr.add_lit] at hc
    exact hc

theorem bcell {W w1 : World} (hb : Below W.heap.size W w1) : (∀ b o, b < W.heap.size → w1.cell? ⟨b, o, none⟩ = W.cell? ⟨b, o, none⟩) ∧ (∀ b o, b < W.heap.size → w1.frozen? ⟨b, o, none⟩ = W.frozen? ⟨b, o, none⟩) :=
  ⟨fun b o h => hb.cell (p := ⟨b, o, none⟩) h, fun b o h => hb.frozen (p := ⟨b, o, none⟩) h⟩
theorem below_next {w a b : World} (h : Below w.heap.size w a) (k : Below a.heap.size a b) : Below w.heap.size w b := h.trans (k.mono h.size)
theorem below_drewN {B : Nat} {a w : World} (h : Below B a w) (n : Nat) : Below B a (w.drewN n) := ⟨h.os, h.tape, h.output, h.size, h.block⟩

/-- a block that is known whole -/
def Row (w : World) (g T : Nat) (cs : List Value) : Prop := w.heap[g]? = some (.cells cs.toArray T (0, 0))
theorem Row.lt {w : World} {g T : Nat} {cs : List Value} (h : Row w g T cs) : g < w.heap.size := (Array.getElem?_eq_some_iff.1 h).1
theorem Row.cell {w : World} {g T : Nat} {cs : List Value} (h : Row w g T cs) {i : Nat} {v : Value} (hi : cs[i]? = some v) : w.cell? ⟨g, i, none⟩ = some v := by
  rw [cell_of_row w g i _ T _ h]; simpa using hi
theorem Row.free {w : World} {g T : Nat} {cs : List Value} (h : Row w g T cs) (i : Nat) : w.frozen? ⟨g, i, none⟩ = false := frozen_of_row w g i _ T h
theorem Row.stays {w w' : World} {g T B : Nat} {cs : List Value} (h : Row w g T cs) (hb : Below B w w') (hg : g < B) : Row w' g T cs := (hb.block g hg).trans h
theorem Row.keep {w w' : World} {g T : Nat} {cs : List Value} (h : Row w g T cs) (hb : Below w.heap.size w w') : Row w' g T cs := h.stays hb h.lt
theorem Row.set {w : World} {g T : Nat} {cs cs' : List Value} (h : Row w g T cs) (i : Nat) (v : Value) (he : cs.set i v = cs') : Row (w.setCell ⟨g, i, none⟩ v) g T cs' := by
  have := heap_setCell_same w g i _ T v h
  unfold Row; rw [this, ← he]; simp
theorem row_new (w : World) (T : Nat) (cs : List Value) : Row (w.alloc (.cells cs.toArray T)) w.heap.size T cs := heap_alloc_new w _
theorem Row.setRow {w : World} {g T : Nat} {cs : List Value} (h : Row w g T cs) (cs' : List Value) : Row (w.setRow g cs'.toArray) g T cs' := setRow_heap w g _ _ T (0, 0) h
theorem below_setRow {B : Nat} {a w : World} (h : Below B a w) (g : Nat) (cs : Array Value) (hg : B ≤ g) : Below B a (w.setRow g cs) :=
  ⟨h.os, h.tape, h.output, by simpa using h.size, fun i hi => (setRow_other w g i cs (by omega)).trans (h.block i hi)⟩

end Go.Proofs.Ytlaaolbdadempaa

/- Disks in memory: lists of sectors, pending writes, the struct of four fields. -/
namespace Go.Proofs.Ytlaaolbdadempaa
open Go.RowKit

/-- a disk -/
structure Dsk where
  secs : List (List UInt8)
  pend : List (Int × List UInt8)
  left : Int
  stop : Bool

theorem Rest.mono {B B' : Nat} {w : World} {bs : List UInt8} {v : Value} (h : Rest B w bs v) (hb : B ≤ B') : Rest B' w bs v := rest_mono h hb

/-- In world w the slice v holds the byte slices xs, all in blocks below B. -/
def NRest (B : Nat) (w : World) (xs : List (List UInt8)) (v : Value) : Prop :=
  ∃ (a : Option Addr) (cap : Nat), v = .slice a xs.length cap ∧ xs.length ≤ cap ∧ cap ≤ maxLen ∧ (a = none → xs.length = 0 ∧ cap = 0) ∧
    (xs.length = 0 ∨ ∃ b off, a = some ⟨b, off, none⟩ ∧ b < B ∧ ∀ i x, xs[i]? = some x → ∃ u, w.cell? ⟨b, off + i, none⟩ = some u ∧ Rest B w x u)
/-- pending writes -/
def PRest (B : Nat) (w : World) (ps : List (Int × List UInt8)) (v : Value) : Prop :=
  ∃ (a : Option Addr) (cap : Nat), v = .slice a ps.length cap ∧ ps.length ≤ cap ∧ cap ≤ maxLen ∧ (a = none → ps.length = 0 ∧ cap = 0) ∧
    (ps.length = 0 ∨ ∃ b off, a = some ⟨b, off, none⟩ ∧ b < B ∧ ∀ i p, ps[i]? = some p → ∃ u, w.cell? ⟨b, off + i * 2, none⟩ = some (.int .i64 p.1) ∧ w.cell? ⟨b, off + i * 2 + 1, none⟩ = some u ∧ Rest B w p.2 u)
/-- the cells of a disk -/
def dskCells (s p : Value) (d : Dsk) : List Value := [s, p, .int .i64 d.left, .bool d.stop]
def dskOf (s p : Value) (d : Dsk) : Value := .agg (dskCells s p d).toArray
def DRest (B : Nat) (w : World) (d : Dsk) (v : Value) : Prop := ∃ s p, v = dskOf s p d ∧ NRest B w d.secs s ∧ PRest B w d.pend p

section
variable {B B' : Nat} {w w' : World} {v : Value}
theorem NRest.stays {xs} (h : NRest B w xs v) (hb : Below B w w') : NRest B w' xs v := by
  obtain ⟨a, cap, h1, h2, h3, h4, h5⟩ := h
  refine ⟨a, cap, h1, h2, h3, h4, ?_⟩
  rcases h5 with h0 | ⟨b, off, ha, hl, hc⟩
  · exact .inl h0
  · refine .inr ⟨b, off, ha, hl, fun i x hi => ?_⟩
    obtain ⟨u, h6, h7⟩ := hc i x hi
    exact ⟨u, (hb.cell (p := ⟨b, off + i, none⟩) hl).trans h6, h7.stays hb⟩
theorem NRest.mono {xs} (h : NRest B w xs v) (hb : B ≤ B') : NRest B' w xs v := by
  obtain ⟨a, cap, h1, h2, h3, h4, h5⟩ := h
  refine ⟨a, cap, h1, h2, h3, h4, ?_⟩
  rcases h5 with h0 | ⟨b, off, ha, hl, hc⟩
  · exact .inl h0
  · refine .inr ⟨b, off, ha, by omega, fun i x hi => ?_⟩
    obtain ⟨u, h6, h7⟩ := hc i x hi
    exact ⟨u, h6, h7.mono hb⟩
theorem NRest.keep {xs} (h : NRest w.heap.size w xs v) (hb : Below w.heap.size w w') : NRest w'.heap.size w' xs v := (h.stays hb).mono hb.size
theorem PRest.stays {xs} (h : PRest B w xs v) (hb : Below B w w') : PRest B w' xs v := by
  obtain ⟨a, cap, h1, h2, h3, h4, h5⟩ := h
  refine ⟨a, cap, h1, h2, h3, h4, ?_⟩
  rcases h5 with h0 | ⟨b, off, ha, hl, hc⟩
  · exact .inl h0
  · refine .inr ⟨b, off, ha, hl, fun i x hi => ?_⟩
    obtain ⟨u, h6, h7, h8⟩ := hc i x hi
    exact ⟨u, (hb.cell (p := ⟨b, off + i * 2, none⟩) hl).trans h6, (hb.cell (p := ⟨b, off + i * 2 + 1, none⟩) hl).trans h7, h8.stays hb⟩
theorem PRest.mono {xs} (h : PRest B w xs v) (hb : B ≤ B') : PRest B' w xs v := by
  obtain ⟨a, cap, h1, h2, h3, h4, h5⟩ := h
  refine ⟨a, cap, h1, h2, h3, h4, ?_⟩
  rcases h5 with h0 | ⟨b, off, ha, hl, hc⟩
  · exact .inl h0
  · refine .inr ⟨b, off, ha, by omega, fun i x hi => ?_⟩
    obtain ⟨u, h6, h7, h8⟩ := hc i x hi
    exact ⟨u, h6, h7, h8.mono hb⟩
theorem PRest.keep {xs} (h : PRest w.heap.size w xs v) (hb : Below w.heap.size w w') : PRest w'.heap.size w' xs v := (h.stays hb).mono hb.size
theorem DRest.stays {d} (h : DRest B w d v) (hb : Below B w w') : DRest B w' d v := by
  obtain ⟨s, p, rfl, h1, h2⟩ := h; exact ⟨s, p, rfl, h1.stays hb, h2.stays hb⟩
theorem DRest.mono {d} (h : DRest B w d v) (hb : B ≤ B') : DRest B' w d v := by
  obtain ⟨s, p, rfl, h1, h2⟩ := h; exact ⟨s, p, rfl, h1.mono hb, h2.mono hb⟩
theorem DRest.keep {d} (h : DRest w.heap.size w d v) (hb : Below w.heap.size w w') : DRest w'.heap.size w' d v := (h.stays hb).mono hb.size
theorem nrest_nil (B : Nat) (w : World) : NRest B w [] (.slice none 0 0) := ⟨none, 0, rfl, by simp, by simp [maxLen], fun _ => ⟨rfl, rfl⟩, .inl rfl⟩
theorem prest_nil (B : Nat) (w : World) : PRest B w [] (.slice none 0 0) := ⟨none, 0, rfl, by simp, by simp [maxLen], fun _ => ⟨rfl, rfl⟩, .inl rfl⟩

/-- the shape of a slice -/
theorem Rest.shape {xs} (h : Rest B w xs v) : ∃ a cap, v = .slice a xs.length cap ∧ cap ≤ 9223372036854775807 ∧ xs.length ≤ cap := by
  obtain ⟨a, cap, h1, h2, h3, _⟩ := h; exact ⟨a, cap, h1, h3, h2⟩
theorem NRest.shape {xs} (h : NRest B w xs v) : ∃ a cap, v = .slice a xs.length cap ∧ cap ≤ 9223372036854775807 ∧ xs.length ≤ cap := by
  obtain ⟨a, cap, h1, h2, h3, _⟩ := h; exact ⟨a, cap, h1, h3, h2⟩
theorem PRest.shape {xs} (h : PRest B w xs v) : ∃ a cap, v = .slice a xs.length cap ∧ cap ≤ 9223372036854775807 ∧ xs.length ≤ cap := by
  obtain ⟨a, cap, h1, h2, h3, _⟩ := h; exact ⟨a, cap, h1, h3, h2⟩
/-- an element that is read -/
theorem NRest.at {xs a n cap} (h : NRest B w xs (.slice a n cap)) {k x} (hk : xs[k]? = some x) :
    ∃ b off u, a = some ⟨b, off, none⟩ ∧ b < B ∧ Rest B w x u ∧ ∀ W, Below B w W → W.cell? ⟨b, off + k, none⟩ = some u := by
  obtain ⟨a2, cap2, he, h2, h3, h4, h5⟩ := h
  injection he with he1 he2 he3
  subst he1 he2 he3
  have hk2 : k < xs.length := (List.getElem?_eq_some_iff.1 hk).1
  rcases h5 with h5 | ⟨b, off, rfl, hb, hc⟩
  · omega
  · obtain ⟨u, h6, h7⟩ := hc k x hk
    exact ⟨b, off, u, rfl, hb, h7, fun W hW => (hW.cell (p := ⟨b, off + k, none⟩) hb).trans h6⟩
theorem PRest.at {xs a n cap} (h : PRest B w xs (.slice a n cap)) {k x} (hk : xs[k]? = some x) :
    ∃ b off u, a = some ⟨b, off, none⟩ ∧ b < B ∧ Rest B w x.2 u ∧ ∀ W, Below B w W → W.cell? ⟨b, off + k * 2, none⟩ = some (.int .i64 x.1) ∧ W.cell? ⟨b, off + k * 2 + 1, none⟩ = some u := by
  obtain ⟨a2, cap2, he, h2, h3, h4, h5⟩ := h
  injection he with he1 he2 he3
  subst he1 he2 he3
  have hk2 : k < xs.length := (List.getElem?_eq_some_iff.1 hk).1
  rcases h5 with h5 | ⟨b, off, rfl, hb, hc⟩
  · omega
  · obtain ⟨u, h6, h7, h8⟩ := hc k x hk
    exact ⟨b, off, u, rfl, hb, h8, fun W hW => ⟨(hW.cell (p := ⟨b, off + k * 2, none⟩) hb).trans h6, (hW.cell (p := ⟨b, off + k * 2 + 1, none⟩) hb).trans h7⟩⟩
end
end Go.Proofs.Ytlaaolbdadempaa

/- Small functions of the disk: has, damaged. -/
namespace Go.Proofs.Ytlaaolbdadempaa
open Go.RowKit

theorem ret_bool {a b : Bool} (h : a = b) : Ending.returned (.bool a) = .returned (.bool b) := by rw [h]
theorem ret_int {k : IntKind} {a b : Int} (h : a = b) : Ending.returned (.int k a) = .returned (.int k b) := by rw [h]
def hasB (n : Nat) (at' : Int) : Bool := decide (0 ≤ at' ∧ at' < (n : Int))
def damB (n : Nat) : Bool := decide (n ≠ 128)
set_option maxHeartbeats 1000000 in
set_option maxRecDepth 100000 in
theorem damaged_call (xs : List UInt8) (v : Value) (B : Nat) (w w0 : World) (h : Rest B w0 xs v) :
    Calls Try.prog 75 #[v] w fun e w' => e = .returned (.bool (damB xs.length)) ∧ w = w' := by
  obtain ⟨a, cap, rfl, _, _⟩ := h.shape
  generalize xs.length = n
  clear h
  unfold damB
  go_enter Try.func75, Try.ntmps75
  go_wp2
  go_ret
  exact ⟨ret_bool (by rw [Bool.eq_iff_iff]; simp; omega), rfl⟩
set_option maxHeartbeats 1000000 in
set_option maxRecDepth 100000 in
theorem has_call (d : Dsk) (v : Value) (at' : Int) (B : Nat) (w w0 : World) (h : DRest B w0 d v) :
    Calls Try.prog 54 #[v, .int .i64 at'] w fun e w' => e = .returned (.bool (hasB d.secs.length at')) ∧ Below w.heap.size w w' := by
  obtain ⟨s, p, rfl, h1, _⟩ := h
  obtain ⟨a, cap, rfl, _, _⟩ := h1.shape
  unfold dskOf dskCells hasB
  generalize d.secs.length = n
  clear h1
  by_cases h : 0 ≤ at'
  · by_cases h2 : at' < (n : Int)
    · rw [decide_eq_true ⟨h, h2⟩]
      go_enter Try.func54, Try.ntmps54
      go_wp2
      go_ret
      exact ⟨rfl, Joins.below_alloc1 w _⟩
    · rw [decide_eq_false (by omega)]
      go_enter Try.func54, Try.ntmps54
      go_wp2
      go_ret
      exact ⟨rfl, Joins.below_alloc1 w _⟩
  · rw [decide_eq_false (by omega)]
    go_enter Try.func54, Try.ntmps54
    go_wp2
    go_ret
    exact ⟨rfl, Joins.below_alloc1 w _⟩
end Go.Proofs.Ytlaaolbdadempaa

/- Whole disks and writes loaded; the tests of a disk. -/
namespace Go.Proofs.Ytlaaolbdadempaa
open Go.RowKit

/-- the cells of a block that is known whole, in a later world -/
theorem Row.later {w W : World} {g T : Nat} {cs : List Value} (h : Row w g T cs) (hb : Below w.heap.size w W) {i : Nat} {v : Value} (hi : cs[i]? = some v) : W.cell? ⟨g, i, none⟩ = some v := (h.keep hb).cell hi
set_option maxHeartbeats 1000000 in
set_option maxRecDepth 100000 in
theorem runs_of (d : Dsk) (s p : Value) (ok : Bool) (w : World) (HV : Hid (∀ W, Below w.heap.size w W → Calls Try.prog 52 #[dskOf s p d] W fun e w' => e = .returned (.bool ok) ∧ Below W.heap.size W w')) :
    Calls Try.prog 53 #[dskOf s p d] w fun e w' => e = .returned (.bool (ok && !d.stop)) ∧ Below w.heap.size w w' := by
  unfold dskOf dskCells at HV ⊢
  have HR := Lib.hid (row_new w 25 (dskCells s p d))
  unfold dskCells at HR
  go_enter Try.func53, Try.ntmps53
  go_wp2_with fail
  refine (HV.out _ (Joins.below_alloc1 w _)).mono ?_
  rintro e w1 ⟨rfl, hb⟩
  have HB := Lib.hid (below_next (Joins.below_alloc1 w _) hb)
  have hc := HR.out.later hb (i := 3) rfl
  clear hb
  cases ok
  · go_wp2_with fail
    go_ret
    exact ⟨rfl, HB.out⟩
  · go_wp2_with fail
    go_ret
    exact ⟨ret_bool (by simp), HB.out⟩
end Go.Proofs.Ytlaaolbdadempaa

/- The tests of a disk: sectors and pending writes. -/
namespace Go.Proofs.Ytlaaolbdadempaa
open Go.RowKit

def anyDam (xs : List (List UInt8)) : Bool := xs.any fun x => damB x.length
theorem any_step {α} {p : α → Bool} {xs : List α} {k : Nat} {x : α} (h : xs[k]? = some x) : (xs.drop k).any p = (p x || (xs.drop (k + 1)).any p) := by
  obtain ⟨h1, h2⟩ := List.getElem?_eq_some_iff.1 h
  rw [List.drop_eq_getElem_cons h1, List.any_cons, h2]
def IxHead {α} (p : α → Bool) (xs : List α) (w : World) (s8 : Value) (wr : World) : Prop := ∃ k : Nat, k ≤ xs.length ∧ s8 = .int .i64 (k : Int) ∧ xs.any p = (xs.drop k).any p ∧ Below w.heap.size w wr
set_option maxHeartbeats 1000000 in
set_option maxRecDepth 100000 in
theorem index_dam (xs : List (List UInt8)) (v : Value) (w : World) (h : NRest w.heap.size w xs v) :
    Calls Try.prog 92 #[v, .func (.func 75) #[] #[]] w fun e w' => ∃ r : Int, e = .returned (.int .i64 r) ∧ decide (0 ≤ r) = anyDam xs ∧ Below w.heap.size w w' := by
  have HV := Lib.hid h
  obtain ⟨a, cap, rfl, hc1, hc2⟩ := h.shape
  clear h
  unfold anyDam
  obtain ⟨m, hm⟩ : ∃ m, m = xs.length := ⟨_, rfl⟩
  rw [← hm] at HV hc2 ⊢
  have HM := Lib.hid hm
  clear hm
  go_enter Try.func92, Try.ntmps92
  go_wp2_with fail
  go_loopw [8] (fun s8 wr => IxHead (fun x => damB x.length) xs w s8 wr) (fun s8 _ => m - (intOf s8).toNat)
  case atStart => exact ⟨0, Nat.zero_le _, rfl, rfl, Below.refl _ _⟩
  case round =>
    obtain ⟨k, hk, rfl, hany, hb⟩ := hrel
    have HB := Lib.hid hb
    have HA := Lib.hid hany
    rw [← HM.out] at hk
    clear hb hany
    rcases Nat.lt_or_ge k m with hlt | hge
    · obtain ⟨x, hx⟩ : ∃ x, xs[k]? = some x := ⟨_, List.getElem?_eq_getElem (by rw [← HM.out]; exact hlt)⟩
      obtain ⟨b, off, u, rfl, hbl, hru, hcell⟩ := HV.out.at hx
      have hcu := hcell wr HB.out
      have HD : Hid (∀ W, Calls Try.prog 75 #[u] W fun e w' => e = .returned (.bool (damB x.length)) ∧ W = w') := Lib.hid (fun W => damaged_call x u _ W _ hru)
      have HS := Lib.hid (any_step (p := fun x => damB x.length) hx)
      have hkm : (k : Int) < (m : Int) := by omega
      have hk0 : (0 : Int) ≤ (k : Int) := by omega
      obtain ⟨r, hr⟩ : ∃ r, r = damB x.length := ⟨_, rfl⟩
      simp only [← hr] at HD HS
      clear hru hcell hx hr
      go_wp2_with (go_at_call 75; refine (HD.out _).mono ?_; rintro e w6 ⟨rfl, rfl⟩)
      · rename_i h
        go_ret
        exact ⟨_, rfl, by rw [HA.out, HS.out, h, Bool.true_or]; simp, HB.out⟩
      · rename_i h
        exact ⟨⟨k + 1, by rw [← HM.out]; omega, by go_num, by rw [HA.out, HS.out, h, Bool.false_or], HB.out⟩, by simp [intOf]; omega⟩
    · obtain rfl : k = m := by omega
      go_wp2_with fail
      go_ret
      exact ⟨_, rfl, by rw [HA.out, HM.out, List.drop_length]; rfl, HB.out⟩
set_option maxHeartbeats 1000000 in
set_option maxRecDepth 100000 in
theorem contains_dam (xs : List (List UInt8)) (v : Value) (w : World) (h : NRest w.heap.size w xs v) :
    Calls Try.prog 76 #[v, .func (.func 75) #[] #[]] w fun e w' => e = .returned (.bool (anyDam xs)) ∧ Below w.heap.size w w' := by
  have HI := Lib.hid (index_dam xs v w h)
  clear h
  go_enter Try.func76, Try.ntmps76
  go_wp2_with (go_at_call 92; refine HI.out.mono ?_; rintro e w2 ⟨r, rfl, hr, hb⟩)
  go_ret
  exact ⟨rfl, hb⟩

/-- a write that is not one of a disk with n sectors -/
def wrongW (n : Nat) (x : Int × List UInt8) : Bool := !hasB n x.1 || damB x.2.length
def anyWrong (n : Nat) (ps : List (Int × List UInt8)) : Bool := ps.any (wrongW n)
def wrOf (at' : Int) (u : Value) : Value := .agg #[.int .i64 at', u]
set_option maxHeartbeats 1000000 in
set_option maxRecDepth 100000 in
theorem wrong_call (d : Dsk) (s p : Value) (x : Int × List UInt8) (u : Value) (g : Nat) (B : Nat) (w w0 : World) (h : NRest B w0 d.secs s) (hp : PRest B w0 d.pend p) (hg : Row w g 25 (dskCells s p d)) (hu : Rest B w0 x.2 u) :
    Calls Try.prog 74 #[wrOf x.1 u, .pointer (some ⟨g, 0, none⟩)] w fun e w' => e = .returned (.bool (wrongW d.secs.length x)) ∧ Below w.heap.size w w' := by
  have HH : Hid (∀ W, Calls Try.prog 54 #[dskOf s p d, .int .i64 x.1] W fun e w' => e = .returned (.bool (hasB d.secs.length x.1)) ∧ Below W.heap.size W w') := Lib.hid (fun W => has_call d _ x.1 B W w0 ⟨s, p, rfl, h, hp⟩)
  have HD : Hid (∀ W, Calls Try.prog 75 #[u] W fun e w' => e = .returned (.bool (damB x.2.length)) ∧ W = w') := Lib.hid (fun W => damaged_call x.2 u B W w0 hu)
  have HR := Lib.hid hg
  have HN := Lib.hid (row_new w 76 [.int .i64 x.1, u])
  have c0 := hg.keep (Joins.below_alloc1 w (.cells #[.int .i64 x.1, u] 76)) |>.cell (i := 0) rfl
  have c1 := hg.keep (Joins.below_alloc1 w (.cells #[.int .i64 x.1, u] 76)) |>.cell (i := 1) rfl
  have c2 := hg.keep (Joins.below_alloc1 w (.cells #[.int .i64 x.1, u] 76)) |>.cell (i := 2) rfl
  have c3 := hg.keep (Joins.below_alloc1 w (.cells #[.int .i64 x.1, u] 76)) |>.cell (i := 3) rfl
  clear h hp hg hu
  unfold wrongW wrOf
  unfold dskOf dskCells at HH
  obtain ⟨r1, hr1⟩ : ∃ r, r = hasB d.secs.length x.1 := ⟨_, rfl⟩
  obtain ⟨r2, hr2⟩ : ∃ r, r = damB x.2.length := ⟨_, rfl⟩
  rw [← hr1] at HH ⊢
  rw [← hr2] at HD ⊢
  clear hr1 hr2
  go_enter Try.func74, Try.ntmps74
  go_wp2_with fail
  refine (HH.out _).mono ?_
  rintro e w1 ⟨rfl, hb⟩
  have HB := Lib.hid (below_next (Joins.below_alloc1 w _) hb)
  have d1 := HN.out.later hb (i := 1) rfl
  clear hb c0 c1 c2 c3
  cases r1
  · go_wp2_with fail
    go_ret
    exact ⟨rfl, HB.out⟩
  · go_wp2_with (go_at_call 75; refine (HD.out _).mono ?_; rintro e w6 ⟨rfl, rfl⟩)
    go_ret
    exact ⟨ret_bool (by simp), HB.out⟩

theorem run_load_wr (w : World) (b o : Nat) (at' : Int) (u : Value) (h0 : w.cell? ⟨b, o, none⟩ = some (.int .i64 at')) (h1 : w.cell? ⟨b, o + 1, none⟩ = some u) : (loadVar 76 ⟨b, o, none⟩).run Try.prog w = .ok (wrOf at' u) w := by
  have hl : (loadCells ⟨b, o, none⟩ 2).run Try.prog w = .ok #[.int .i64 at', u] w :=
    run_loadCells_list (P := Try.prog) w ⟨b, o, none⟩ [.int .i64 at', u] (fun j v hv => by
      rw [Addr.add_lit]
      match j, hv with
      | 0, hv => injection hv with hv; subst hv; exact h0
      | 1, hv => injection hv with hv; subst hv; exact h1)
  have hagg : (isAgg 76).run Try.prog w = .ok true w := by
    unfold isAgg
    rw [Sem.run_bind, run_underlying Try.underlying76 w]
    rfl
  have hs : (sizeOf 76).run Try.prog w = .ok 2 w := by
    obtain ⟨i0, hi, hz0, hz1, hz2⟩ := info_parts (show (Try.prog.info? 76).map (fun i => (i.zero, i.size, i.bytes)) = some (some (.agg #[.int .i64 0, .slice none 0 0]), 2, 32) by kernel_rfl)
    simp [sizeOf, typeInfo, hi, hz1]
  simp [loadVar, Sem.run_bind, hagg, hs, hl, wrOf]
theorem wpList_load_wr {ops : Array Oper} {rest : List Oper} {o : Oper} {a : Act} {w : World} {Q : Exit → Act → World → Prop} (hgd : o.guard = none) (x : Operand) (ho : o.op = .load 76 x)
    (b q : Nat) (at' : Int) (u : Value) (hx : a.eval x = .pointer (some ⟨b, q, none⟩)) (hc : w.cell? ⟨b, q, none⟩ = some (.int .i64 at') ∧ w.cell? ⟨b, q + 1, none⟩ = some u)
    (h : wpList Try.prog ops Q rest (a.put o.dst (wrOf at' u)) w) : wpList Try.prog ops Q (o :: rest) a w :=
  wpList_plain hgd fun _ hK => by
    unfold Oper.wp execOp
    simp only [ho, hx, Instr.loadAt, Instr.sureAddr, Sem.run_bind, Sem.run_pure, Result.andThen_ok, run_load_wr w b q at' u hc.1 hc.2]
    exact hK _ _ h

set_option maxHeartbeats 2000000 in
set_option maxRecDepth 100000 in
theorem index_wrong (d : Dsk) (s p : Value) (g : Nat) (w : World) (h : NRest w.heap.size w d.secs s) (hp : PRest w.heap.size w d.pend p) (hg : Row w g 25 (dskCells s p d)) :
    Calls Try.prog 93 #[p, .func (.func 74) #[] #[.pointer (some ⟨g, 0, none⟩)]] w fun e w' => ∃ r : Int, e = .returned (.int .i64 r) ∧ decide (0 ≤ r) = anyWrong d.secs.length d.pend ∧ Below w.heap.size w w' := by
  have HV := Lib.hid hp
  have HW : Hid (∀ (k : Nat) x u W, d.pend[k]? = some x → Rest w.heap.size w x.2 u → Below w.heap.size w W → Calls Try.prog 74 #[wrOf x.1 u, .pointer (some ⟨g, 0, none⟩)] W fun e w' => e = .returned (.bool (wrongW d.secs.length x)) ∧ Below W.heap.size W w') :=
    Lib.hid (fun k x u W _ hu hW => wrong_call d s p x u g _ W w h hp (hg.keep hW) hu)
  obtain ⟨a, cap, rfl, hc1, hc2⟩ := hp.shape
  clear h hp hg
  unfold anyWrong
  generalize d.secs.length = n at HW ⊢
  generalize d.pend = xs at HV HW hc2 ⊢
  clear d
  obtain ⟨m, hm⟩ : ∃ m, m = xs.length := ⟨_, rfl⟩
  rw [← hm] at HV hc2 ⊢
  have HM := Lib.hid hm
  clear hm
  go_enter Try.func93, Try.ntmps93
  go_wp2_with fail
  go_loopw [8] (fun s8 wr => IxHead (wrongW n) xs w s8 wr) (fun s8 _ => m - (intOf s8).toNat)
  case atStart => exact ⟨0, Nat.zero_le _, rfl, rfl, Below.refl _ _⟩
  case round =>
    obtain ⟨k, hk, rfl, hany, hb⟩ := hrel
    have HB := Lib.hid hb
    have HA := Lib.hid hany
    rw [← HM.out] at hk
    clear hb hany
    rcases Nat.lt_or_ge k m with hlt | hge
    · obtain ⟨x, hx⟩ : ∃ x, xs[k]? = some x := ⟨_, List.getElem?_eq_getElem (by rw [← HM.out]; exact hlt)⟩
      obtain ⟨b, off, u, rfl, hbl, hru, hcell⟩ := HV.out.at hx
      have HC := Lib.hid (hcell wr HB.out)
      have HD := Lib.hid (HW.out k x u wr hx hru HB.out)
      have HS := Lib.hid (any_step (p := wrongW n) hx)
      have hkm : (k : Int) < (m : Int) := by omega
      have hk0 : (0 : Int) ≤ (k : Int) := by omega
      obtain ⟨r, hr⟩ : ∃ r, r = wrongW n x := ⟨_, rfl⟩
      simp only [← hr] at HD HS
      clear hru hcell hx hr HW
      go_wp2_with (first
        | (refine wpList_load_wr rfl (.tmp 14) rfl b (off + k * 2) x.1 u rfl HC.out ?_)
        | (go_at_call 74; refine HD.out.mono ?_; rintro e w6 ⟨rfl, hb⟩; have HB := Lib.hid (below_next HB.out hb); clear hb))
      · rename_i h
        go_ret
        exact ⟨_, rfl, by rw [HA.out, HS.out, h, Bool.true_or]; simp, HB.out⟩
      · rename_i h
        exact ⟨⟨k + 1, by rw [← HM.out]; omega, by go_num, by rw [HA.out, HS.out, h, Bool.false_or], HB.out⟩, by simp [intOf]; omega⟩
    · obtain rfl : k = m := by omega
      go_wp2_with fail
      go_ret
      exact ⟨_, rfl, by rw [HA.out, HM.out, List.drop_length]; rfl, HB.out⟩
set_option maxHeartbeats 1000000 in
set_option maxRecDepth 100000 in
theorem contains_wrong (d : Dsk) (s p : Value) (g : Nat) (w : World) (h : NRest w.heap.size w d.secs s) (hp : PRest w.heap.size w d.pend p) (hg : Row w g 25 (dskCells s p d)) :
    Calls Try.prog 77 #[p, .func (.func 74) #[] #[.pointer (some ⟨g, 0, none⟩)]] w fun e w' => e = .returned (.bool (anyWrong d.secs.length d.pend)) ∧ Below w.heap.size w w' := by
  have HI := Lib.hid (index_wrong d s p g w h hp hg)
  clear h hp hg
  go_enter Try.func77, Try.ntmps77
  go_wp2_with (go_at_call 93; refine HI.out.mono ?_; rintro e w2 ⟨r, rfl, hr, hb⟩)
  go_ret
  exact ⟨rfl, hb⟩
end Go.Proofs.Ytlaaolbdadempaa

/- Whether a disk is valid, and whether it runs. -/
namespace Go.Proofs.Ytlaaolbdadempaa
open Go.RowKit

def validB (d : Dsk) : Bool := decide (1 ≤ d.secs.length) && (decide (d.secs.length ≤ 4096) && (!anyDam d.secs && (decide (d.pend.length ≤ 4096) && (!anyWrong d.secs.length d.pend && (decide (-1 ≤ d.left) && decide (d.left ≤ 65536))))))
set_option maxHeartbeats 4000000 in
set_option maxRecDepth 100000 in
theorem valid_call (d : Dsk) (v : Value) (w : World) (h : DRest w.heap.size w d v) :
    Calls Try.prog 52 #[v] w fun e w' => e = .returned (.bool (validB d)) ∧ Below w.heap.size w w' := by
  obtain ⟨s, p, rfl, hs, hp⟩ := h
  have HR := Lib.hid (row_new w 25 (dskCells s p d))
  have HB0 := Lib.hid (Joins.below_alloc1 w (.cells (dskCells s p d).toArray 25))
  have HS : Hid (∀ W, Below (w.alloc (.cells (dskCells s p d).toArray 25)).heap.size (w.alloc (.cells (dskCells s p d).toArray 25)) W → Calls Try.prog 76 #[s, .func (.func 75) #[] #[]] W fun e w' => e = .returned (.bool (anyDam d.secs)) ∧ Below W.heap.size W w') :=
    Lib.hid (fun W hW => contains_dam d.secs s W (hs.keep (below_next (Joins.below_alloc1 w _) hW)))
  have HP : Hid (∀ W, Below (w.alloc (.cells (dskCells s p d).toArray 25)).heap.size (w.alloc (.cells (dskCells s p d).toArray 25)) W → Calls Try.prog 77 #[p, .func (.func 74) #[] #[.pointer (some ⟨w.heap.size, 0, none⟩)]] W fun e w' => e = .returned (.bool (anyWrong d.secs.length d.pend)) ∧ Below W.heap.size W w') :=
    Lib.hid (fun W hW => contains_wrong d s p w.heap.size W (hs.keep (below_next (Joins.below_alloc1 w _) hW)) (hp.keep (below_next (Joins.below_alloc1 w _) hW)) ((row_new w 25 (dskCells s p d)).keep hW))
  obtain ⟨a, cap, rfl, hc1, hc2⟩ := hs.shape
  obtain ⟨a2, cap2, rfl, hc3, hc4⟩ := hp.shape
  clear hs hp
  unfold validB dskOf
  unfold dskCells at HR HB0 HS HP ⊢
  obtain ⟨dam, hdam⟩ : ∃ r, r = anyDam d.secs := ⟨_, rfl⟩
  obtain ⟨wro, hwro⟩ : ∃ r, r = anyWrong d.secs.length d.pend := ⟨_, rfl⟩
  rw [← hdam] at HS ⊢
  rw [← hwro] at HP ⊢
  clear hdam hwro
  generalize d.secs.length = n at *
  generalize d.pend.length = m at *
  obtain ⟨se, pe, left, stop⟩ := d
  simp only at HR HB0 HS HP ⊢
  generalize hww : w.alloc (.cells _ 25) = w1 at HB0 HS HP HR
  have HW1 := Lib.hid hww
  clear hww
  by_cases h1 : 1 ≤ n
  · have i1 : (1 : Int) ≤ (n : Int) := by omega
    rw [decide_eq_true h1, Bool.true_and]
    by_cases h2 : n ≤ 4096
    · have i2 : (n : Int) ≤ 4096 := by omega
      rw [decide_eq_true h2, Bool.true_and]
      cases dam
      · rw [Bool.not_false, Bool.true_and]
        by_cases h3 : m ≤ 4096
        · have i3 : (m : Int) ≤ 4096 := by omega
          rw [decide_eq_true h3, Bool.true_and]
          cases wro
          · rw [Bool.not_false, Bool.true_and]
            by_cases h4 : -1 ≤ left
            · rw [decide_eq_true h4, Bool.true_and]
              go_enter Try.func52, Try.ntmps52
              go_wp2_with fail
              rw [HW1.out]
              refine (HS.out _ (Below.refl _ _)).mono ?_
              rintro e w2 ⟨rfl, hb⟩
              have HB2 := Lib.hid (below_next HB0.out hb)
              have HB1 := Lib.hid hb
              have k1 := HR.out.later hb (i := 1) rfl
              have k2 := HR.out.later hb (i := 2) rfl
              clear hb
              go_wp2_with fail
              refine (HP.out _ HB1.out).mono ?_
              rintro e w3 ⟨rfl, hb⟩
              have HB3 := Lib.hid (below_next HB2.out hb)
              have m2 := HR.out.later (below_next HB1.out hb) (i := 2) rfl
              clear hb k1 k2
              go_wp2_with fail
              go_ret
              exact ⟨rfl, HB3.out⟩
            · rw [decide_eq_false h4, Bool.false_and]
              go_enter Try.func52, Try.ntmps52
              go_wp2_with fail
              rw [HW1.out]
              refine (HS.out _ (Below.refl _ _)).mono ?_
              rintro e w2 ⟨rfl, hb⟩
              have HB2 := Lib.hid (below_next HB0.out hb)
              have HB1 := Lib.hid hb
              have k1 := HR.out.later hb (i := 1) rfl
              have k2 := HR.out.later hb (i := 2) rfl
              clear hb
              go_wp2_with fail
              refine (HP.out _ HB1.out).mono ?_
              rintro e w3 ⟨rfl, hb⟩
              have HB3 := Lib.hid (below_next HB2.out hb)
              have m2 := HR.out.later (below_next HB1.out hb) (i := 2) rfl
              clear hb k1 k2
              go_wp2_with fail
              go_ret
              exact ⟨rfl, HB3.out⟩
          · rw [Bool.not_true, Bool.false_and]
            go_enter Try.func52, Try.ntmps52
            go_wp2_with fail
            rw [HW1.out]
            refine (HS.out _ (Below.refl _ _)).mono ?_
            rintro e w2 ⟨rfl, hb⟩
            have HB2 := Lib.hid (below_next HB0.out hb)
            have HB1 := Lib.hid hb
            have k1 := HR.out.later hb (i := 1) rfl
            have k2 := HR.out.later hb (i := 2) rfl
            clear hb
            go_wp2_with fail
            refine (HP.out _ HB1.out).mono ?_
            rintro e w3 ⟨rfl, hb⟩
            have HB3 := Lib.hid (below_next HB2.out hb)
            have m2 := HR.out.later (below_next HB1.out hb) (i := 2) rfl
            clear hb k1 k2
            go_wp2_with fail
            go_ret
            exact ⟨rfl, HB3.out⟩
        · have i3 : ¬ (m : Int) ≤ 4096 := by omega
          rw [decide_eq_false h3, Bool.false_and]
          go_enter Try.func52, Try.ntmps52
          go_wp2_with fail
          rw [HW1.out]
          refine (HS.out _ (Below.refl _ _)).mono ?_
          rintro e w2 ⟨rfl, hb⟩
          have HB2 := Lib.hid (below_next HB0.out hb)
          have HB1 := Lib.hid hb
          have k1 := HR.out.later hb (i := 1) rfl
          have k2 := HR.out.later hb (i := 2) rfl
          clear hb
          go_wp2_with fail
          go_ret
          exact ⟨rfl, HB2.out⟩
      · rw [Bool.not_true, Bool.false_and]
        go_enter Try.func52, Try.ntmps52
        go_wp2_with fail
        rw [HW1.out]
        refine (HS.out _ (Below.refl _ _)).mono ?_
        rintro e w2 ⟨rfl, hb⟩
        have HB2 := Lib.hid (below_next HB0.out hb)
        have HB1 := Lib.hid hb
        have k1 := HR.out.later hb (i := 1) rfl
        have k2 := HR.out.later hb (i := 2) rfl
        clear hb
        go_wp2_with fail
        go_ret
        exact ⟨rfl, HB2.out⟩
    · have i2 : ¬ (n : Int) ≤ 4096 := by omega
      rw [decide_eq_false h2, Bool.false_and]
      go_enter Try.func52, Try.ntmps52
      go_wp2_with fail
      go_ret
      exact ⟨rfl, Joins.below_alloc1 w _⟩
  · have i1 : ¬ (1 : Int) ≤ (n : Int) := by omega
    rw [decide_eq_false h1, Bool.false_and]
    go_enter Try.func52, Try.ntmps52
    go_wp2_with fail
    go_ret
    exact ⟨rfl, Joins.below_alloc1 w _⟩
theorem runs_call (d : Dsk) (v : Value) (w : World) (h : DRest w.heap.size w d v) :
    Calls Try.prog 53 #[v] w fun e w' => e = .returned (.bool (validB d && !d.stop)) ∧ Below w.heap.size w w' := by
  obtain ⟨s, p, rfl, hs, hp⟩ := h
  exact runs_of d s p _ w (Lib.hid (fun W hW => valid_call d _ W ⟨s, p, rfl, hs.keep hW, hp.keep hW⟩))
end Go.Proofs.Ytlaaolbdadempaa
