/- Memory: rows, lists of spans and of numbers, the table of months. -/
import Derived.Test.YthkmbbgcadfilaaRows
import Derived.Test.YthkmbbgcadfilaaM
import Derived.WalkKit
import Derived.WalkLawsBesides
import Derived.Lib.Hide
import Derived.Outline
import Derived.Deep.QuietTactic
import Derived.BigQuiet
import Derived.Laws.Wrap64
import Derived.IntWalk
import Derived.ArgAppend
import Derived.Lib.SmallJoins
import Derived.Laws.Rows
import Derived.Deep.WholeRow
import Derived.Deep.RegionWith
import Derived.Deep.RegionHeld3
import Derived.OpenShut
import Derived.WalkMore
import Derived.Laws.ShiftsVarLaws
import Derived.Lib.RabinKarpLaws
import Derived.WalkArith
import Derived.Laws.Shifts
import Derived.Lib.LaidTab
import Derived.RangeFuncNested
import Derived.RangeFuncBound
import Derived.RangeFuncCalls
import Derived.RangeFuncLeaves
import Derived.Shelf.Abstract
import Derived.Shelf.RegionOpen
import Derived.OwnWalkIn
import Derived.TacticsInMore
import Derived.LoopNIn
import Derived.LoopIn
namespace Go.Proofs.Ythkmbbgcadfilaa
open Go.RowKit Go.Shelf

theorem ret_i64 {a b : Int} (h : a = b) : Ending.returned (.int .i64 a) = .returned (.int .i64 b) := by rw [h]
theorem ret_bool {a b : Bool} (h : a = b) : Ending.returned (.bool a) = .returned (.bool b) := by rw [h]
theorem below_next {w a b : World} (h : Below w.heap.size w a) (k : Below a.heap.size a b) : Below w.heap.size w b := h.trans (k.mono h.size)

/-- a number that an int holds -/
def I64 (n : Int) : Prop := -9223372036854775808 ≤ n ∧ n ≤ 9223372036854775807
/-- in world w the slice v holds the numbers xs, in a block below B. -/
def IRest (B : Nat) (w : World) (xs : List Int) (v : Value) : Prop :=
  ∃ (a : Option Addr) (cap : Nat), v = .slice a xs.length cap ∧ xs.length ≤ cap ∧ cap ≤ maxLen ∧ (∀ x, x ∈ xs → I64 x) ∧
    (xs.length = 0 ∨ ∃ b off, a = some ⟨b, off, none⟩ ∧ b < B ∧ ∀ i (h : i < xs.length), w.cell? ⟨b, off + i, none⟩ = some (.int .i64 xs[i]))
theorem IRest.stays {B : Nat} {w w' : World} {xs : List Int} {v : Value} (h : IRest B w xs v) (hb : Below B w w') : IRest B w' xs v := by
  obtain ⟨a, cap, h1, h2, h3, h4, h5⟩ := h
  refine ⟨a, cap, h1, h2, h3, h4, ?_⟩
  rcases h5 with h0 | ⟨b, off, ha, hl, hc⟩
  · exact .inl h0
  · exact .inr ⟨b, off, ha, hl, fun i hi => (hb.cell (p := ⟨b, off + i, none⟩) hl).trans (hc i hi)⟩
theorem IRest.mono {B B' : Nat} {w : World} {xs : List Int} {v : Value} (h : IRest B w xs v) (hb : B ≤ B') : IRest B' w xs v := by
  obtain ⟨a, cap, h1, h2, h3, h4, h5⟩ := h
  refine ⟨a, cap, h1, h2, h3, h4, ?_⟩
  rcases h5 with h0 | ⟨b, off, ha, hl, hc⟩
  · exact .inl h0
  · exact .inr ⟨b, off, ha, by omega, hc⟩
theorem IRest.keep {w w' : World} {xs : List Int} {v : Value} (h : IRest w.heap.size w xs v) (hb : Below w.heap.size w w') : IRest w'.heap.size w' xs v := (h.stays hb).mono hb.size
theorem irest_nil (B : Nat) (w : World) : IRest B w [] (.slice none 0 0) := ⟨none, 0, rfl, by simp, by simp [maxLen], by simp, .inl rfl⟩

/-- in world w the slice v holds the spans l, in a block below B. -/
def PRest (B : Nat) (w : World) (l : List (Int × Int)) (v : Value) : Prop :=
  ∃ (a : Option Addr) (cap : Nat), v = .slice a l.length cap ∧ l.length ≤ cap ∧ cap ≤ maxLen ∧ (∀ p, p ∈ l → I64 p.1 ∧ I64 p.2) ∧
    (l.length = 0 ∨ ∃ b off, a = some ⟨b, off, none⟩ ∧ b < B ∧ ∀ i (h : i < l.length), w.cell? ⟨b, off + i * 2, none⟩ = some (.int .i64 l[i].1) ∧ w.cell? ⟨b, off + i * 2 + 1, none⟩ = some (.int .i64 l[i].2))
theorem PRest.stays {B : Nat} {w w' : World} {l : List (Int × Int)} {v : Value} (h : PRest B w l v) (hb : Below B w w') : PRest B w' l v := by
  obtain ⟨a, cap, h1, h2, h3, h4, h5⟩ := h
  refine ⟨a, cap, h1, h2, h3, h4, ?_⟩
  rcases h5 with h0 | ⟨b, off, ha, hl, hc⟩
  · exact .inl h0
  · exact .inr ⟨b, off, ha, hl, fun i hi => ⟨(hb.cell (p := ⟨b, off + i * 2, none⟩) hl).trans (hc i hi).1, (hb.cell (p := ⟨b, off + i * 2 + 1, none⟩) hl).trans (hc i hi).2⟩⟩
theorem PRest.mono {B B' : Nat} {w : World} {l : List (Int × Int)} {v : Value} (h : PRest B w l v) (hb : B ≤ B') : PRest B' w l v := by
  obtain ⟨a, cap, h1, h2, h3, h4, h5⟩ := h
  refine ⟨a, cap, h1, h2, h3, h4, ?_⟩
  rcases h5 with h0 | ⟨b, off, ha, hl, hc⟩
  · exact .inl h0
  · exact .inr ⟨b, off, ha, by omega, hc⟩
theorem PRest.keep {w w' : World} {l : List (Int × Int)} {v : Value} (h : PRest w.heap.size w l v) (hb : Below w.heap.size w w') : PRest w'.heap.size w' l v := (h.stays hb).mono hb.size
theorem prest_nil (B : Nat) (w : World) : PRest B w [] (.slice none 0 0) := ⟨none, 0, rfl, by simp, by simp [maxLen], by simp, .inl rfl⟩

/-- the lengths of the months, as the program's text lays them -/
def mTab : List Int := [31, 28, 31, 30, 31, 30, 31, 31, 30, 31, 30, 31]
def Tab (w : World) : Prop := 0 < w.heap.size ∧ ∀ i, i < 12 → w.cell? ⟨0, i, none⟩ = some (.int .i64 (mTab.getD i 0))
theorem Tab.keep {w w' : World} (h : Tab w) (hb : Below w.heap.size w w') : Tab w' :=
  ⟨by have := hb.size; have := h.1; omega, fun i hi => (hb.cell (p := ⟨0, i, none⟩) h.1).trans (h.2 i hi)⟩
/-- a block that is known whole -/
def Row (w : World) (g T : Nat) (cs : List Value) : Prop := w.heap[g]? = some (.cells cs.toArray T (0, 0))
theorem Row.lt {w : World} {g T : Nat} {cs : List Value} (h : Row w g T cs) : g < w.heap.size := (Array.getElem?_eq_some_iff.1 h).1
theorem Row.cell {w : World} {g T : Nat} {cs : List Value} (h : Row w g T cs) {i : Nat} {v : Value} (hi : cs[i]? = some v) : w.cell? ⟨g, i, none⟩ = some v := by
  rw [cell_of_row w g i _ T _ h]; simpa using hi
theorem Row.free {w : World} {g T : Nat} {cs : List Value} (h : Row w g T cs) (i : Nat) : w.frozen? ⟨g, i, none⟩ = false := frozen_of_row w g i _ T h
theorem Row.stays {w w' : World} {g T B : Nat} {cs : List Value} (h : Row w g T cs) (hb : Below B w w') (hg : g < B) : Row w' g T cs := (hb.block g hg).trans h
theorem Row.keep {w w' : World} {g T : Nat} {cs : List Value} (h : Row w g T cs) (hb : Below w.heap.size w w') : Row w' g T cs := h.stays hb h.lt
theorem Row.set {w : World} {g T : Nat} {cs cs' : List Value} (h : Row w g T cs) (i : Nat) (v : Value) (he : cs.set i v = cs') : Row (w.setCell ⟨g, i, none⟩ v) g T cs' := by
  have := heap_setCell_same w g i _ T v h
  unfold Row; rw [this, ← he]; simp
theorem row_new (w : World) (T : Nat) (cs : List Value) : Row (w.alloc (.cells cs.toArray T)) w.heap.size T cs := heap_alloc_new w _
theorem Row.setRow {w : World} {g T : Nat} {cs : List Value} (h : Row w g T cs) (cs' : List Value) : Row (w.setRow g cs'.toArray) g T cs' := setRow_heap w g _ _ T (0, 0) h
theorem below_setRow {B : Nat} {a w : World} (h : Below B a w) (g : Nat) (cs : Array Value) (hg : B ≤ g) : Below B a (w.setRow g cs) :=
  ⟨h.os, h.tape, h.output, by simpa using h.size, fun i hi => (setRow_other w g i cs (by omega)).trans (h.block i hi)⟩

def KeepS (S : Nat → Prop) (w w' : World) : Prop := ∀ b, S b → b < w.heap.size → w'.heap[b]? = w.heap[b]?
theorem lt_of_cell {w : World} {b o : Nat} {v : Value} (h : w.cell? ⟨b, o, none⟩ = some v) : b < w.heap.size := World.block_lt_of_cell? w ⟨b, o, none⟩ h
theorem KeepS.cell {S : Nat → Prop} {w w' : World} (h : KeepS S w w') {b o : Nat} {v : Value} (hb : S b) (hc : w.cell? ⟨b, o, none⟩ = some v) : w'.cell? ⟨b, o, none⟩ = some v := by
  have := h b hb (lt_of_cell hc)
  unfold World.cell? at hc ⊢
  simp only at hc ⊢
  rw [this]; exact hc
theorem KeepS.trans {S : Nat → Prop} {a b c : World} (h : KeepS S a b) (hs : a.heap.size ≤ b.heap.size) (k : KeepS S b c) : KeepS S a c := fun i hi hl => (k i hi (by omega)).trans (h i hi hl)
theorem KeepS.far {S : Nat → Prop} {w w' : World} (g : Nat) (hg : ¬ S g) (h : ∀ b, b ≠ g → w'.heap[b]? = w.heap[b]?) : KeepS S w w' := fun b hb _ => h b (fun e => hg (e ▸ hb))
theorem KeepS.weak {S S' : Nat → Prop} {w w' : World} (h : KeepS S w w') (hs : ∀ b, S' b → S b) : KeepS S' w w' := fun b hb hl => h b (hs b hb) hl
theorem KeepS.setCell {S : Nat → Prop} (w : World) (g i : Nat) (v : Value) (hg : ¬ S g) : KeepS S w (w.setCell ⟨g, i, none⟩ v) := .far g hg fun b hb => heap_setCell_other w ⟨g, i, none⟩ b v hb
theorem KeepS.below {S : Nat → Prop} {w w' : World} (h : Below w.heap.size w w') : KeepS S w w' := fun b _ hl => h.block b hl
theorem row_kept {W W' : World} {row : Option Nat} {g T : Nat} {cs : List Value} (h : Row W g T cs) (hg : W.grownBy W' row) (hrow : ∀ r, row = some r → ∃ o : Obj, W.heap[r]? = some o ∧ o.isCells = false) : Row W' g T cs := by
  refine (hg.block g h.lt (fun e => ?_)).trans h
  obtain ⟨o, ho, hc⟩ := hrow g e.symm
  rw [show W.heap[g]? = _ from h] at ho
  cases ho; cases hc
theorem below_setCell {B : Nat} {a w : World} (h : Below B a w) (g i : Nat) (v : Value) (hg : B ≤ g) : Below B a (w.setCell ⟨g, i, none⟩ v) :=
  ⟨h.os, h.tape, h.output, by have := h.size; simpa using this, fun k hk => (heap_setCell_other w ⟨g, i, none⟩ k v (by simp; omega)).trans (h.block k hk)⟩
theorem Row.setFar {w : World} {g g' T : Nat} {cs : List Value} (h : Row w g T cs) (i : Nat) (v : Value) (hne : g ≠ g') : Row (w.setCell ⟨g', i, none⟩ v) g T cs := (heap_setCell_other w ⟨g', i, none⟩ g v hne).trans h
theorem others_below {W W' : World} (h : Below W.heap.size W W') : KeepsOthers W W' := ⟨h.size, fun k o hk _ => (h.block k (Array.getElem?_eq_some_iff.1 hk).1).trans hk⟩
/-- the blocks of S stay -/
structure Kp2 (S : Nat → Prop) (W W' : World) : Prop where
  size : W.heap.size ≤ W'.heap.size
  keep : KeepS S W W'
  os : W'.os = W.os
  tape : W'.tape = W.tape
  output : W'.output = W.output
theorem Kp2.refl (S : Nat → Prop) (W : World) : Kp2 S W W := ⟨Nat.le_refl _, fun _ _ _ => rfl, rfl, rfl, rfl⟩
theorem Kp2.trans {S : Nat → Prop} {A B C : World} (h : Kp2 S A B) (k : Kp2 S B C) : Kp2 S A C := ⟨Nat.le_trans h.1 k.1, h.2.trans h.1 k.2, k.os.trans h.os, k.tape.trans h.tape, k.output.trans h.output⟩
theorem Kp2.below {S : Nat → Prop} {A B : World} (h : Below A.heap.size A B) : Kp2 S A B := ⟨h.size, .below h, h.os, h.tape, h.output⟩
theorem Kp2.put {S : Nat → Prop} (W : World) (l : Nat) (o : Obj) (h : ¬ S l) : Kp2 S W (W.putObj l o) :=
  ⟨Nat.le_of_eq (by simp [World.putObj]), .far l h fun b hb => World.putObj_heap_other (fun e => hb e), rfl, rfl, rfl⟩
/-- an iterator that tells T of each x that it yields; no round stops it -/
def Tells {α : Type} (F : Fence) (n : Nat) (P : Program) (g : Nat) (lb : Array Value) (encs : α → Array Value) (T : α → World → Prop) (B : Nat → Prop) (S : List α → Prop) (N : Nat) (w : World) : Prop :=
  ∀ (l : Nat) (J : List α → World → Prop) (W : World), Below w.heap.size w W → AbidesFrom W.heap.size J →
    (∀ pre x W1, J pre W1 → T x W1 → pre.length < N → YieldAt F (n - 1) P l (encs x) W1 fun e W' => e = .returned (.bool true) ∧ J (pre ++ [x]) W' ∧ Kp2 B W1 W') →
    J [] W → CallsIn F n P g (#[.func (.yield l) #[] #[]] ++ lb) W fun e W' => (∃ v, e = .returned v) ∧ ∃ xs, S xs ∧ J xs W'
/-- how a round ends -/
def toldPost {α : Type} (C : Nat) (B : Nat → Prop) (I : List α → World → Prop) (xs : List α) (W : World) : Exit → Act → World → Prop
  | .normal, _, W' => KeepsFrom C W W' ∧ Kp2 B W W' ∧ I xs W'
  | _, _, _ => False
set_option maxHeartbeats 4000000 in
theorem range_told {F : Fence} {n : Nat} {P : Program} {α : Type} {g : Operand} {ps : Array Tmp} {assign body : Code} {Q : Exit → Act → World → Prop} {a : Act} {w : World}
    (hro : F.round = none) (h1 : 1 ≤ n) {gf : Nat} {lb : Array Value} (hg : a.eval g = .func (.func gf) #[] lb) (hFg : F.fn gf) (eg : ∀ args w, (callFunc gf args).run P w = .ok (.enter gf args) w)
    {encs : α → Array Value} {T : α → World → Prop} (hT : ∀ x, OwnFrom w.heap.size (fun (_ : Unit) W => T x W)) {B : Nat → Prop} (hB : ∀ b, B b → b < w.heap.size) {S : List α → Prop} {N : Nat} (hseq : ∀ W, Below w.heap.size w W → Tells F (n - 1) P gf lb encs T B S N W)
    (hps : ∀ x, (encs x).size = ps.size) (I : List α → World → Prop) (hI : OwnFrom w.heap.size I) (h0 : I [] w) (a₁ : α → Act)
    (hassign : ∀ (l : Nat) (x : α) (W : World) (K : Act → World → Prop), K (a₁ x) W →
      assign.wpIn (F.inRound l) (n - 1 - 1) P (Exit.then K (fun _ _ _ => False)) { tmps := (ps.zip (encs x)).foldl (fun t (p, v) => t.setIfInBounds p v) a.tmps, defers := [] } W)
    (hbody : ∀ (l : Nat) (pre : List α) (x : α) (W : World), I pre W → T x W → pre.length < N → body.wpIn (F.inRound l) (n - 1 - 1) P (toldPost w.heap.size B I (pre ++ [x]) W) (a₁ x) W)
    (hdone : ∀ (D : Nat) (xs : List α) (W : World), w.heap.size ≤ D → S xs → I xs W → W.heap[D]? = some (.deferred (some [])) → Q .normal { a with defers := { target := .collected D, args := #[] } :: a.defers } W) :
    (Code.rangeFunc g ps assign body).wpIn F n P Q a w := by
  refine wpIn_rangeFunc (fun fn hfn => ?_)
  rw [hro]
  -- the loop's record in each of its states
  let st : LoopState → Loop := fun s => { state := s, pending := none, fn := fn, tmps := a.tmps, params := ps, assign := assign, body := body, defers := w.heap.size }
  let D := w.heap.size
  let L := w.heap.size + 1
  let Book : LoopState → World → Prop := fun s W => W.heap[L]? = some (.loop (st s)) ∧ W.heap[D]? = some (.deferred (some []))
  obtain ⟨V, hV⟩ : ∃ V, V = (w.alloc (.deferred (some []))).alloc (.loop (st .ready)) := ⟨_, rfl⟩
  have bV : Book .ready V := by
    constructor
    · have h9 := World.alloc_heap_new (w.alloc (.deferred (some []))) (.loop (st .ready)); rw [World.size_alloc] at h9; rw [hV]; exact h9
    · rw [hV]; exact (Below.heap_alloc _ _ _ (by simp [D])).trans (World.alloc_heap_new w _)
  have iV : I [] V := by rw [hV]; exact hI.alloc _ (hI.alloc _ h0)
  have wV : Below w.heap.size w V := by rw [hV]; exact below_next (Joins.below_alloc1 w _) (Joins.below_alloc1 _ _)
  have turn : ∀ (s : LoopState) (W : World), Book .busy W ∨ Book .ready W → Book s (W.putObj L (.loop (st s))) := fun s W hW => by
    have h3 : W.heap[L]? ≠ none ∧ W.heap[D]? = some (.deferred (some [])) := by rcases hW with h | h <;> exact ⟨by rw [h.1]; exact fun e => (by cases e), h.2⟩
    have h4 : L < W.heap.size := by
      rcases Nat.lt_or_ge L W.heap.size with h | h
      · exact h
      · exact absurd (Array.getElem?_eq_none h) h3.1
    exact ⟨World.putObj_heap_same h4, (World.putObj_heap_other (by simp [L, D])).trans h3.2⟩
  refine ⟨L, [{ target := .collected D, args := #[] }], V, { target := .fn (.func gf) lb, args := #[.func (.yield L) #[] #[]] }, V, gf, #[.func (.yield L) #[] #[]] ++ lb, V, ?_, ?_, ?_, ?_, fun _ => h1, ?_⟩
  · rw [hV]; exact run_enterLoop_outer _ _ _ _ _
  · simp only [resolve, hg]; simp [go_sem]
  · intro f' hf'; simp [Target.leads] at hf'; subst hf'; exact hFg
  · simp [invoke, go_sem, eg]
  refine (hseq V wV L (fun pre W => I pre W ∧ Book .ready W) V (Below.refl _ _) ?_ ?_ ⟨iV, bV⟩).mono ?_
  · -- what the iterator does between two rounds
    intro s X Y row hs hgr hr
    have hnc : ∀ r, row = some r → ∃ o : Obj, X.heap[r]? = some o ∧ o.isWalk = true := fun r e => (hr r e).2
    refine ⟨hI s X Y row hs.1 hgr (fun r e => ?_), (grownBy_keeps hgr hnc hs.2.1 rfl).trans hs.2.1, (grownBy_keeps hgr hnc hs.2.2 rfl).trans hs.2.2⟩
    obtain ⟨h2, o, h3, h4⟩ := hr r e
    exact ⟨by have := wV.size; omega, o, h3, Obj.not_cells_of_walk h4⟩
  · -- a round
    rintro pre x W ⟨hi, hbk⟩ ht hlen
    have hy := run_yield (P := P) (args := encs x) hbk.1 (hps x)
    refine ⟨fn, _, assign, body, hy, roundIn_of_wpIn hfn (hassign L x W _ ?_)⟩
    refine ⟨_, run_beginRound hbk.1 rfl, ?_⟩
    have b2 : Book .busy (W.putObj L (.loop (st .busy))) := turn .busy W (.inr hbk)
    refine wpIn_mono (hbody L pre x _ (hI.putObj _ hi (by simp [L]) hbk.1 rfl) ((hT x).putObj (s := ()) _ ht (by simp [L]) hbk.1 rfl) hlen) ?_
    rintro e a3 W3 hp
    cases e with
    | normal =>
      obtain ⟨k3, l3, i3⟩ := hp
      have b3 : Book .busy W3 := ⟨k3.same _ _ (by simp [L]) b2.1 rfl, k3.same _ _ (by simp [D]) b2.2 rfl⟩
      have b4 : Book .ready (W3.putObj L (.loop (st .ready))) := turn .ready W3 (.inl b3)
      have hr := run_endRound (P := P) none b3.1
      exact ⟨_, _, hr, rfl, ⟨hI.putObj _ i3 (by simp [L]) b3.1 rfl, b4⟩, (Kp2.put W L _ (fun h => by have h9 : w.heap.size + 1 < w.heap.size := hB _ h; omega)).trans (l3.trans (Kp2.put W3 L _ (fun h => by have h9 : w.heap.size + 1 < w.heap.size := hB _ h; omega)))⟩
    | ret => exact hp.elim
    | exit id => exact hp.elim
    | goto t => exact hp.elim
    | panic c => exact hp.elim
    | outgrown => exact hp.elim
  · rintro e W2 ⟨⟨v, rfl⟩, xs, hS, hi, hbk⟩
    exact ⟨none, _, run_endLoop (P := P) hbk.1 (by simp [st]), hdone D xs _ (Nat.le_refl _) hS (hI.putObj _ hi (by simp [L]) hbk.1 rfl) ((World.putObj_heap_other (by simp [L, D])).trans hbk.2)⟩
set_option maxHeartbeats 4000000 in
theorem range_toldA {F : Fence} {n : Nat} {P : Program} {α : Type} {g : Operand} {ps : Array Tmp} {assign body : Code} {Q : Exit → Act → World → Prop} {a : Act} {w : World}
    (hro : F.round = none) (h1 : 1 ≤ n) {gf : Nat} {lb : Array Value} (hg : a.eval g = .func (.func gf) #[] lb) (hFg : F.fn gf) (eg : ∀ args w, (callFunc gf args).run P w = .ok (.enter gf args) w)
    {encs : α → Array Value} {T : α → World → Prop} (hT : ∀ x, OwnFrom w.heap.size (fun (_ : Unit) W => T x W)) {B : Nat → Prop} (hB : ∀ b, B b → b < w.heap.size) {S : List α → Prop} {N : Nat} (hseq : ∀ W, Below w.heap.size w W → Tells F (n - 1) P gf lb encs T B S N W)
    (hps : ∀ x, (encs x).size = ps.size) (I : List α → World → Prop) (hI : OwnFrom w.heap.size I) (h0 : I [] w) (A : α → Act → World → Prop) (hA : ∀ x a', OwnFrom w.heap.size (fun (_ : Unit) W => A x a' W))
    (hassign : ∀ (l : Nat) (pre : List α) (x : α) (W : World) (K : Act → World → Prop), I pre W → T x W → pre.length < N → (∀ a' W', KeepsFrom w.heap.size W W' → Kp2 B W W' → I pre W' → A x a' W' → K a' W') →
      assign.wpIn (F.inRound l) (n - 1 - 1) P (Exit.then K (fun _ _ _ => False)) { tmps := (ps.zip (encs x)).foldl (fun t (p, v) => t.setIfInBounds p v) a.tmps, defers := [] } W)
    (hbody : ∀ (l : Nat) (pre : List α) (x : α) (a' : Act) (W : World), I pre W → A x a' W → pre.length < N → body.wpIn (F.inRound l) (n - 1 - 1) P (toldPost w.heap.size B I (pre ++ [x]) W) a' W)
    (hdone : ∀ (D : Nat) (xs : List α) (W : World), w.heap.size ≤ D → S xs → I xs W → W.heap[D]? = some (.deferred (some [])) → Q .normal { a with defers := { target := .collected D, args := #[] } :: a.defers } W) :
    (Code.rangeFunc g ps assign body).wpIn F n P Q a w := by
  refine wpIn_rangeFunc (fun fn hfn => ?_)
  rw [hro]
  -- the loop's record in each of its states
  let st : LoopState → Loop := fun s => { state := s, pending := none, fn := fn, tmps := a.tmps, params := ps, assign := assign, body := body, defers := w.heap.size }
  let D := w.heap.size
  let L := w.heap.size + 1
  let Book : LoopState → World → Prop := fun s W => W.heap[L]? = some (.loop (st s)) ∧ W.heap[D]? = some (.deferred (some []))
  obtain ⟨V, hV⟩ : ∃ V, V = (w.alloc (.deferred (some []))).alloc (.loop (st .ready)) := ⟨_, rfl⟩
  have bV : Book .ready V := by
    constructor
    · have h9 := World.alloc_heap_new (w.alloc (.deferred (some []))) (.loop (st .ready)); rw [World.size_alloc] at h9; rw [hV]; exact h9
    · rw [hV]; exact (Below.heap_alloc _ _ _ (by simp [D])).trans (World.alloc_heap_new w _)
  have iV : I [] V := by rw [hV]; exact hI.alloc _ (hI.alloc _ h0)
  have wV : Below w.heap.size w V := by rw [hV]; exact below_next (Joins.below_alloc1 w _) (Joins.below_alloc1 _ _)
  have turn : ∀ (s : LoopState) (W : World), Book .busy W ∨ Book .ready W → Book s (W.putObj L (.loop (st s))) := fun s W hW => by
    have h3 : W.heap[L]? ≠ none ∧ W.heap[D]? = some (.deferred (some [])) := by rcases hW with h | h <;> exact ⟨by rw [h.1]; exact fun e => (by cases e), h.2⟩
    have h4 : L < W.heap.size := by
      rcases Nat.lt_or_ge L W.heap.size with h | h
      · exact h
      · exact absurd (Array.getElem?_eq_none h) h3.1
    exact ⟨World.putObj_heap_same h4, (World.putObj_heap_other (by simp [L, D])).trans h3.2⟩
  refine ⟨L, [{ target := .collected D, args := #[] }], V, { target := .fn (.func gf) lb, args := #[.func (.yield L) #[] #[]] }, V, gf, #[.func (.yield L) #[] #[]] ++ lb, V, ?_, ?_, ?_, ?_, fun _ => h1, ?_⟩
  · rw [hV]; exact run_enterLoop_outer _ _ _ _ _
  · simp only [resolve, hg]; simp [go_sem]
  · intro f' hf'; simp [Target.leads] at hf'; subst hf'; exact hFg
  · simp [invoke, go_sem, eg]
  refine (hseq V wV L (fun pre W => I pre W ∧ Book .ready W) V (Below.refl _ _) ?_ ?_ ⟨iV, bV⟩).mono ?_
  · -- what the iterator does between two rounds
    intro s X Y row hs hgr hr
    have hnc : ∀ r, row = some r → ∃ o : Obj, X.heap[r]? = some o ∧ o.isWalk = true := fun r e => (hr r e).2
    refine ⟨hI s X Y row hs.1 hgr (fun r e => ?_), (grownBy_keeps hgr hnc hs.2.1 rfl).trans hs.2.1, (grownBy_keeps hgr hnc hs.2.2 rfl).trans hs.2.2⟩
    obtain ⟨h2, o, h3, h4⟩ := hr r e
    exact ⟨by have := wV.size; omega, o, h3, Obj.not_cells_of_walk h4⟩
  · -- a round
    rintro pre x W ⟨hi, hbk⟩ ht hlen
    have hy := run_yield (P := P) (args := encs x) hbk.1 (hps x)
    refine ⟨fn, _, assign, body, hy, roundIn_of_wpIn hfn (hassign L pre x W _ hi ht hlen fun a1 W1 kf kp i1 ha1 => ?_)⟩
    have hbk1 : Book .ready W1 := ⟨kf.same _ _ (by simp [L]) hbk.1 rfl, kf.same _ _ (by simp [D]) hbk.2 rfl⟩
    refine ⟨_, run_beginRound hbk1.1 rfl, ?_⟩
    have b2 : Book .busy (W1.putObj L (.loop (st .busy))) := turn .busy W1 (.inr hbk1)
    refine wpIn_mono (hbody L pre x a1 _ (hI.putObj _ i1 (by simp [L]) hbk1.1 rfl) ((hA x a1).putObj (s := ()) _ ha1 (by simp [L]) hbk1.1 rfl) hlen) ?_
    rintro e a3 W3 hp
    cases e with
    | normal =>
      obtain ⟨k3, l3, i3⟩ := hp
      have b3 : Book .busy W3 := ⟨k3.same _ _ (by simp [L]) b2.1 rfl, k3.same _ _ (by simp [D]) b2.2 rfl⟩
      have b4 : Book .ready (W3.putObj L (.loop (st .ready))) := turn .ready W3 (.inl b3)
      have hr := run_endRound (P := P) none b3.1
      exact ⟨_, _, hr, rfl, ⟨hI.putObj _ i3 (by simp [L]) b3.1 rfl, b4⟩, kp.trans ((Kp2.put W1 L _ (fun h => by have h9 : w.heap.size + 1 < w.heap.size := hB _ h; omega)).trans (l3.trans (Kp2.put W3 L _ (fun h => by have h9 : w.heap.size + 1 < w.heap.size := hB _ h; omega))))⟩
    | ret => exact hp.elim
    | exit id => exact hp.elim
    | goto t => exact hp.elim
    | panic c => exact hp.elim
    | outgrown => exact hp.elim
  · rintro e W2 ⟨⟨v, rfl⟩, xs, hS, hi, hbk⟩
    exact ⟨none, _, run_endLoop (P := P) hbk.1 (by simp [st]), hdone D xs _ (Nat.le_refl _) hS (hI.putObj _ hi (by simp [L]) hbk.1 rfl) ((World.putObj_heap_other (by simp [L, D])).trans hbk.2)⟩
end Go.Proofs.Ythkmbbgcadfilaa
