/- A range over a function whose rounds turn what the iterator reads, and may leave by an exit or a return. -/
import Derived.Test.YtbmbddapbgnioaaMe
import Derived.ControlIn
namespace Go.Proofs.Ytbmbddapbgnioaa
open Go.RowKit Go.Shelf

/-- an iterator that goes from place to place, and yields those that are open -/
def TellsI (F : Fence) (n : Nat) (P : Program) (g : Nat) (lb : Array Value) (enc : Nat → Array Value) (B : Nat → Prop) (first len : Nat) (op rd : Nat → World → Prop) (w : World) : Prop :=
  ∀ (l : Nat) (J : Nat → World → Prop) (Jx : Unit → World → Prop) (W : World), Below w.heap.size w W → AbidesFrom W.heap.size J → AbidesFrom W.heap.size Jx →
    (∀ i W1, J i W1 → rd i W1) → (∀ i W1, J i W1 → i < len → ¬ op i W1 → J (i + 1) W1) →
    (∀ i W1, J i W1 → i < len → op i W1 → YieldAt F (n - 1) P l (enc i) W1 fun e W' => (e = .returned (.bool true) ∧ J (i + 1) W' ∧ Kp2 B W1 W') ∨ (e = .returned (.bool false) ∧ Jx () W')) →
    J first W → CallsIn F n P g (#[.func (.yield l) #[] #[]] ++ lb) W fun e W' => (∃ v, e = .returned v) ∧ ((∃ i, len ≤ i ∧ J i W') ∨ Jx () W')
/-- how a round ends -/
def ixPost (C : Nat) (B : Nat → Prop) (I : Nat → World → Prop) (Ix : Exit → World → Prop) (i : Nat) (W : World) : Exit → Act → World → Prop
  | .normal, _, W' => KeepsFrom C W W' ∧ Kp2 B W W' ∧ I (i + 1) W'
  | .exit x, _, W' => KeepsFrom C W W' ∧ Ix (.exit x) W'
  | .ret, _, W' => KeepsFrom C W W' ∧ Ix .ret W'
  | _, _, _ => False
theorem ixPost_shut (C : Nat) (B : Nat → Prop) (I : Nat → World → Prop) (Ix : Exit → World → Prop) (i : Nat) (W : World) : ¬ LetsOut (ixPost C B I Ix i W) := fun ⟨_, _, h⟩ => h
def leftBy : Exit → Option Code
  | .exit id => some (.exit id)
  | .ret => some .ret
  | _ => none
set_option maxHeartbeats 4000000 in
theorem range_ix {F : Fence} {n : Nat} {P : Program} {g : Operand} {ps : Array Tmp} {assign body : Code} {Q : Exit → Act → World → Prop} {a : Act} {w : World}
    (hro : F.round = none) (h1 : 1 ≤ n) {gf : Nat} {lb : Array Value} (hg : a.eval g = .func (.func gf) #[] lb) (hFg : F.fn gf) (eg : ∀ args w, (callFunc gf args).run P w = .ok (.enter gf args) w)
    {enc : Nat → Array Value} {B : Nat → Prop} (hB : ∀ b, B b → b < w.heap.size) {first len : Nat} {op rd : Nat → World → Prop} (hseq : ∀ W, Below w.heap.size w W → TellsI F (n - 1) P gf lb enc B first len op rd W)
    (hps : ∀ i, (enc i).size = ps.size) (I : Nat → World → Prop) (Ix : Exit → World → Prop) (hI : OwnFrom w.heap.size I) (hIx : OwnFrom w.heap.size Ix) (h0 : I first w)
    (hrd : ∀ i W, I i W → rd i W) (hskip : ∀ i W, I i W → i < len → ¬ op i W → I (i + 1) W)
    (A : Nat → Act → World → Prop) (hA : ∀ a', OwnFrom w.heap.size (fun i W => A i a' W))
    (hassign : ∀ (l i : Nat) (W : World) (K : Act → World → Prop), I i W → i < len → op i W → (∀ a' W', KeepsFrom w.heap.size W W' → Kp2 B W W' → A i a' W' → K a' W') →
      assign.wpIn (F.inRound l) (n - 1 - 1) P (Exit.then K (fun _ _ _ => False)) { tmps := (ps.zip (enc i)).foldl (fun t (p, v) => t.setIfInBounds p v) a.tmps, defers := [] } W)
    (hbody : ∀ (l i : Nat) (a' : Act) (W : World), A i a' W → i < len → body.wpIn (F.inRound l) (n - 1 - 1) P (ixPost w.heap.size B I Ix i W) a' W)
    (hdone : ∀ (D i : Nat) (W : World), w.heap.size ≤ D → len ≤ i → I i W → W.heap[D]? = some (.deferred (some [])) → Q .normal { a with defers := { target := .collected D, args := #[] } :: a.defers } W)
    (hstop : ∀ (D : Nat) (e : Exit) (W : World), w.heap.size ≤ D → leftBy e ≠ none → Ix e W → W.heap[D]? = some (.deferred (some [])) → Q e { a with defers := { target := .collected D, args := #[] } :: a.defers } W) :
    (Code.rangeFunc g ps assign body).wpIn F n P Q a w := by
  refine wpIn_rangeFunc (fun fn hfn => ?_)
  rw [hro]
  -- the loop's record in each of its states
  let st : LoopState → Loop := fun s => { state := s, pending := none, fn := fn, tmps := a.tmps, params := ps, assign := assign, body := body, defers := w.heap.size }
  let D := w.heap.size
  let L := w.heap.size + 1
  let Book : LoopState → World → Prop := fun s W => W.heap[L]? = some (.loop (st s)) ∧ W.heap[D]? = some (.deferred (some []))
  let stX : Exit → Loop := fun e => { state := .done, pending := leftBy e, fn := fn, tmps := a.tmps, params := ps, assign := assign, body := body, defers := w.heap.size }
  let BookX : Exit → World → Prop := fun e W => W.heap[L]? = some (.loop (stX e)) ∧ W.heap[D]? = some (.deferred (some []))
  obtain ⟨V, hV⟩ : ∃ V, V = (w.alloc (.deferred (some []))).alloc (.loop (st .ready)) := ⟨_, rfl⟩
  have bV : Book .ready V := by
    constructor
    · have h9 := World.alloc_heap_new (w.alloc (.deferred (some []))) (.loop (st .ready)); rw [World.size_alloc] at h9; rw [hV]; exact h9
    · rw [hV]; exact (Below.heap_alloc _ _ _ (by simp [D])).trans (World.alloc_heap_new w _)
  have iV : I first V := by rw [hV]; exact hI.alloc _ (hI.alloc _ h0)
  have wV : Below w.heap.size w V := by rw [hV]; exact below_next (Joins.below_alloc1 w _) (Joins.below_alloc1 _ _)
  have turn : ∀ (s : LoopState) (W : World), Book .busy W ∨ Book .ready W → Book s (W.putObj L (.loop (st s))) := fun s W hW => by
    have h3 : W.heap[L]? ≠ none ∧ W.heap[D]? = some (.deferred (some [])) := by rcases hW with h | h <;> exact ⟨by rw [h.1]; exact fun e => (by cases e), h.2⟩
    have h4 : L < W.heap.size := by
      rcases Nat.lt_or_ge L W.heap.size with h | h
      · exact h
      · exact absurd (Array.getElem?_eq_none h) h3.1
    exact ⟨World.putObj_heap_same h4, (World.putObj_heap_other (by simp [L, D])).trans h3.2⟩
  refine ⟨L, [{ target := .collected D, args := #[] }], V, { target := .fn (.func gf) lb, args := #[.func (.yield L) #[] #[]] }, V, gf, #[.func (.yield L) #[] #[]] ++ lb, V, ?_, ?_, ?_, ?_, fun _ => h1, ?_⟩
  · rw [hV]; exact run_enterLoop_outer _ _ _ _ _
  · simp only [resolve, hg]; simp [go_sem]
  · intro f' hf'; simp [Target.leads] at hf'; subst hf'; exact hFg
  · simp [invoke, go_sem, eg]
  refine (hseq V wV L (fun i W => I i W ∧ Book .ready W) (fun _ W => ∃ e, leftBy e ≠ none ∧ Ix e W ∧ BookX e W) V (Below.refl _ _) ?_ ?_ ?_ ?_ ?_ ⟨iV, bV⟩).mono ?_
  · -- what the iterator does between two rounds
    intro s X Y row hs hgr hr
    have hnc : ∀ r, row = some r → ∃ o : Obj, X.heap[r]? = some o ∧ o.isWalk = true := fun r e => (hr r e).2
    refine ⟨hI s X Y row hs.1 hgr (fun r e => ?_), (grownBy_keeps hgr hnc hs.2.1 rfl).trans hs.2.1, (grownBy_keeps hgr hnc hs.2.2 rfl).trans hs.2.2⟩
    obtain ⟨h2, o, h3, h4⟩ := hr r e
    exact ⟨by have := wV.size; omega, o, h3, Obj.not_cells_of_walk h4⟩
  · -- and behind the round that stopped it
    rintro s X Y row ⟨x, hx, hs⟩ hgr hr
    have hnc : ∀ r, row = some r → ∃ o : Obj, X.heap[r]? = some o ∧ o.isWalk = true := fun r e => (hr r e).2
    refine ⟨x, hx, hIx x X Y row hs.1 hgr (fun r e => ?_), (grownBy_keeps hgr hnc hs.2.1 rfl).trans hs.2.1, (grownBy_keeps hgr hnc hs.2.2 rfl).trans hs.2.2⟩
    obtain ⟨h2, o, h3, h4⟩ := hr r e
    exact ⟨by have := wV.size; omega, o, h3, Obj.not_cells_of_walk h4⟩
  · exact fun i W h => hrd i W h.1
  · exact fun i W h hl ho => ⟨hskip i W h.1 hl ho, h.2⟩
  · -- a round
    rintro i W ⟨hi, hbk⟩ hlen hopn
    have hy := run_yield (P := P) (args := enc i) hbk.1 (hps i)
    refine ⟨fn, _, assign, body, hy, roundIn_of_wpIn hfn (hassign L i W _ hi hlen hopn fun a1 W1 kf kp ha1 => ?_)⟩
    have hbk1 : Book .ready W1 := ⟨kf.same _ _ (by simp [L]) hbk.1 rfl, kf.same _ _ (by simp [D]) hbk.2 rfl⟩
    refine ⟨_, run_beginRound hbk1.1 rfl, ?_⟩
    have b2 : Book .busy (W1.putObj L (.loop (st .busy))) := turn .busy W1 (.inr hbk1)
    refine wpIn_mono (hbody L i a1 _ ((hA a1).putObj (s := i) _ ha1 (by simp [L]) hbk1.1 rfl) hlen) ?_
    rintro e a3 W3 hp
    cases e with
    | normal =>
      obtain ⟨k3, l3, i3⟩ := hp
      have b3 : Book .busy W3 := ⟨k3.same _ _ (by simp [L]) b2.1 rfl, k3.same _ _ (by simp [D]) b2.2 rfl⟩
      have b4 : Book .ready (W3.putObj L (.loop (st .ready))) := turn .ready W3 (.inl b3)
      have hr := run_endRound (P := P) none b3.1
      exact ⟨_, _, hr, .inl ⟨rfl, ⟨hI.putObj _ i3 (by simp [L]) b3.1 rfl, b4⟩, kp.trans ((Kp2.put W1 L _ (fun h => by have h9 : w.heap.size + 1 < w.heap.size := hB _ h; omega)).trans (l3.trans (Kp2.put W3 L _ (fun h => by have h9 : w.heap.size + 1 < w.heap.size := hB _ h; omega))))⟩⟩
    | ret =>
      obtain ⟨k3, i3⟩ := hp
      have b3 : Book .busy W3 := ⟨k3.same _ _ (by simp [L]) b2.1 rfl, k3.same _ _ (by simp [D]) b2.2 rfl⟩
      have hlt3 : L < W3.heap.size := (Array.getElem?_eq_some_iff.1 b3.1).1
      have hr := run_endRound (P := P) (some .ret) b3.1
      exact ⟨_, _, hr, .inr ⟨rfl, .ret, (fun h => by cases h), hIx.putObj _ i3 (by simp [L]) b3.1 rfl, World.putObj_heap_same hlt3, (World.putObj_heap_other (by simp [L, D])).trans b3.2⟩⟩
    | exit id2 =>
      obtain ⟨k3, i3⟩ := hp
      have b3 : Book .busy W3 := ⟨k3.same _ _ (by simp [L]) b2.1 rfl, k3.same _ _ (by simp [D]) b2.2 rfl⟩
      have hlt3 : L < W3.heap.size := (Array.getElem?_eq_some_iff.1 b3.1).1
      have hr := run_endRound (P := P) (some (.exit id2)) b3.1
      exact ⟨_, _, hr, .inr ⟨rfl, .exit id2, (fun h => by cases h), hIx.putObj _ i3 (by simp [L]) b3.1 rfl, World.putObj_heap_same hlt3, (World.putObj_heap_other (by simp [L, D])).trans b3.2⟩⟩
    | goto t => exact hp.elim
    | panic c => exact hp.elim
    | outgrown => exact hp.elim
  · rintro e W2 ⟨⟨v, rfl⟩, ⟨i, hi, hJ, hbk⟩ | ⟨e, he, hix, hbk⟩⟩
    · exact ⟨none, _, run_endLoop (P := P) hbk.1 (by simp [st]), hdone D i _ (Nat.le_refl _) hi (hI.putObj _ hJ (by simp [L]) hbk.1 rfl) ((World.putObj_heap_other (by simp [L, D])).trans hbk.2)⟩
    · have hq := hstop D e _ (Nat.le_refl _) he (hIx.putObj (.loop { stX e with state := .exhausted }) hix (by simp [L]) hbk.1 rfl) ((World.putObj_heap_other (by simp [L, D])).trans hbk.2)
      refine ⟨leftBy e, _, run_endLoop (P := P) hbk.1 (by simp [stX]), ?_⟩
      cases e with
      | ret => exact wpIn_ret hq
      | exit id => exact wpIn_exit hq
      | normal => exact absurd rfl he
      | goto t => exact absurd rfl he
      | panic c => exact absurd rfl he
      | outgrown => exact absurd rfl he
end Go.Proofs.Ytbmbddapbgnioaa
