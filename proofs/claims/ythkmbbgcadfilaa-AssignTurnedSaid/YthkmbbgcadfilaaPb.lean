/- A range over the lists of rows, which a round may leave. -/
import Derived.Test.YthkmbbgcadfilaaMx
import Derived.ControlIn
namespace Go.Proofs.Ythkmbbgcadfilaa
open Go.RowKit Go.Shelf

/-- an iterator that yields lists of rows in their order -/
def TellsL (F : Fence) (n : Nat) (P : Program) (g : Nat) (lb : Array Value) (B : Nat → Prop) (nn : Nat) (w : World) : Prop :=
  ∀ (lp : Nat) (J : Option (List Nat) → World → Prop) (Jx : World → Prop) (W : World), Below w.heap.size w W →
    (∀ o W1 W2, J o W1 → Kp2 (fun b => b < W.heap.size) W1 W2 → J o W2) →
    (∀ gl l W1, J (some l) W1 → SL nn l → 1 ≤ l.length → Row W1 gl 3 (nums (ofN l)) → W.heap.size ≤ gl → YieldAt F (n - 1) P lp #[.slice (some ⟨gl, 0, none⟩) l.length l.length] W1 fun e W' =>
      (e = .returned (.bool true) ∧ J (succL nn l) W' ∧ Kp2 (fun b => B b ∨ W.heap.size ≤ b) W1 W') ∨ (e = .returned (.bool false) ∧ Jx W')) →
    J (firstO nn) W → CallsIn F n P g (#[.func (.yield lp) #[] #[]] ++ lb) W fun e W' => (∃ v, e = .returned v) ∧ (J none W' ∨ Jx W')
/-- how a round ends -/
def lsPost (B : Nat → Prop) (C nn : Nat) (I : Option (List Nat) → World → Prop) (Ix : Exit → World → Prop) (l : List Nat) (W : World) : Exit → Act → World → Prop
  | .normal, _, W' => Kp2 (fun b => B b ∨ C ≤ b) W W' ∧ I (succL nn l) W'
  | .exit x, _, W' => Kp2 (fun b => B b ∨ C ≤ b) W W' ∧ Ix (.exit x) W'
  | .ret, _, W' => Kp2 (fun b => B b ∨ C ≤ b) W W' ∧ Ix .ret W'
  | _, _, _ => False
theorem lsPost_shut (B : Nat → Prop) (C nn : Nat) (I : Option (List Nat) → World → Prop) (Ix : Exit → World → Prop) (l : List Nat) (W : World) : ¬ LetsOut (lsPost B C nn I Ix l W) := fun ⟨_, _, h⟩ => h
def leftBy : Exit → Option Code
  | .exit id => some (.exit id)
  | .ret => some .ret
  | _ => none
theorem kp_put {S : Nat → Prop} (W : World) (l : Nat) (o : Obj) (h : ¬ S l) : Kp2 S W (W.putObj l o) := Kp2.put W l o h
set_option maxHeartbeats 4000000 in
theorem range_ls {F : Fence} {n : Nat} {P : Program} {g : Operand} {ps : Array Tmp} {assign body : Code} {Q : Exit → Act → World → Prop} {a : Act} {w : World}
    (hro : F.round = none) (h1 : 1 ≤ n) {gf : Nat} {lb : Array Value} (hg : a.eval g = .func (.func gf) #[] lb) (hFg : F.fn gf) (eg : ∀ args w, (callFunc gf args).run P w = .ok (.enter gf args) w)
    {B : Nat → Prop} (hB : ∀ b, B b → b < w.heap.size) {nn : Nat} (hseq : ∀ W, Below w.heap.size w W → TellsL F (n - 1) P gf lb B nn W)
    (hps : ps.size = 1) (I : Option (List Nat) → World → Prop) (Ix : Exit → World → Prop) (hI : ∀ o W1 W2, I o W1 → Kp2 (fun b => b < w.heap.size) W1 W2 → I o W2) (hIx : ∀ e W1 W2, Ix e W1 → Kp2 (fun b => b ≠ w.heap.size + 1) W1 W2 → Ix e W2) (h0 : I (firstO nn) w)
    (a₁ : Value → Act)
    (hassign : ∀ (l : Nat) (x : Value) (W : World) (K : Act → World → Prop), K (a₁ x) W →
      assign.wpIn (F.inRound l) (n - 1 - 1) P (Exit.then K (fun _ _ _ => False)) { tmps := (ps.zip #[x]).foldl (fun t (p, v) => t.setIfInBounds p v) a.tmps, defers := [] } W)
    (hbody : ∀ (lp gl : Nat) (l : List Nat) (W : World), I (some l) W → SL nn l → 1 ≤ l.length → Row W gl 3 (nums (ofN l)) → w.heap.size + 2 ≤ gl →
      body.wpIn (F.inRound lp) (n - 1 - 1) P (lsPost B w.heap.size nn I Ix l W) (a₁ (.slice (some ⟨gl, 0, none⟩) l.length l.length)) W)
    (hdone : ∀ (D : Nat) (W : World), w.heap.size ≤ D → I none W → W.heap[D]? = some (.deferred (some [])) → Q .normal { a with defers := { target := .collected D, args := #[] } :: a.defers } W)
    (hstop : ∀ (D : Nat) (e : Exit) (W : World), w.heap.size ≤ D → leftBy e ≠ none → Ix e W → W.heap[D]? = some (.deferred (some [])) → Q e { a with defers := { target := .collected D, args := #[] } :: a.defers } W) :
    (Code.rangeFunc g ps assign body).wpIn F n P Q a w := by
  refine wpIn_rangeFunc (fun fn hfn => ?_)
  rw [hro]
  let st : LoopState → Loop := fun s => { state := s, pending := none, fn := fn, tmps := a.tmps, params := ps, assign := assign, body := body, defers := w.heap.size }
  let D := w.heap.size
  let L := w.heap.size + 1
  let Book : LoopState → World → Prop := fun s W => W.heap[L]? = some (.loop (st s)) ∧ W.heap[D]? = some (.deferred (some []))
  let stX : Exit → Loop := fun e => { state := .done, pending := leftBy e, fn := fn, tmps := a.tmps, params := ps, assign := assign, body := body, defers := w.heap.size }
  let BookX : Exit → World → Prop := fun e W => W.heap[L]? = some (.loop (stX e)) ∧ W.heap[D]? = some (.deferred (some []))
  obtain ⟨V, hV⟩ : ∃ V, V = (w.alloc (.deferred (some []))).alloc (.loop (st .ready)) := ⟨_, rfl⟩
  have hVs : V.heap.size = w.heap.size + 2 := by rw [hV, World.size_alloc, World.size_alloc]
  have bV : Book .ready V := by
    constructor
    · have h9 := World.alloc_heap_new (w.alloc (.deferred (some []))) (.loop (st .ready)); rw [World.size_alloc] at h9; rw [hV]; exact h9
    · rw [hV]; exact (Below.heap_alloc _ _ _ (by simp [D])).trans (World.alloc_heap_new w _)
  have wV : Below w.heap.size w V := by rw [hV]; exact below_next (Joins.below_alloc1 w _) (Joins.below_alloc1 _ _)
  have iV : I (firstO nn) V := hI _ _ _ h0 ⟨wV.size, fun b hb _ => wV.block b hb, wV.os, wV.tape, wV.output⟩
  have bk : ∀ {s : LoopState} {W1 W2 : World}, Book s W1 → Kp2 (fun b => b < V.heap.size) W1 W2 → Book s W2 := fun h hk =>
    ⟨(hk.keep L (by simp only [hVs, L]; omega) (Array.getElem?_eq_some_iff.1 h.1).1).trans h.1, (hk.keep D (by simp only [hVs, D]; omega) (Array.getElem?_eq_some_iff.1 h.2).1).trans h.2⟩
  have lt9 : ∀ b, b < w.heap.size → b < V.heap.size := fun b hb => by omega
  have turn : ∀ (s : LoopState) (W : World), Book .busy W ∨ Book .ready W → Book s (W.putObj L (.loop (st s))) := fun s W hW => by
    have h3 : W.heap[L]? ≠ none ∧ W.heap[D]? = some (.deferred (some [])) := by rcases hW with h | h <;> exact ⟨by rw [h.1]; exact fun e => (by cases e), h.2⟩
    have h4 : L < W.heap.size := by
      rcases Nat.lt_or_ge L W.heap.size with h | h
      · exact h
      · exact absurd (Array.getElem?_eq_none h) h3.1
    exact ⟨World.putObj_heap_same h4, (World.putObj_heap_other (by simp [L, D])).trans h3.2⟩
  have iput : ∀ {o : Option (List Nat)} {W : World} (ob : Obj), I o W → I o (W.putObj L ob) := fun ob h => hI _ _ _ h (kp_put _ L ob (fun h => by have h9 : w.heap.size + 1 < w.heap.size := h; omega))
  have ixput : ∀ {e : Exit} {W : World} (ob : Obj), Ix e W → Ix e (W.putObj L ob) := fun ob h => hIx _ _ _ h (kp_put _ L ob (fun h => h rfl))
  refine ⟨L, [{ target := .collected D, args := #[] }], V, { target := .fn (.func gf) lb, args := #[.func (.yield L) #[] #[]] }, V, gf, #[.func (.yield L) #[] #[]] ++ lb, V, ?_, ?_, ?_, ?_, fun _ => h1, ?_⟩
  · rw [hV]; exact run_enterLoop_outer _ _ _ _ _
  · simp only [resolve, hg]; simp [go_sem]
  · intro f' hf'; simp [Target.leads] at hf'; subst hf'; exact hFg
  · simp [invoke, go_sem, eg]
  refine (hseq V wV L (fun o W => I o W ∧ Book .ready W) (fun W => ∃ e, leftBy e ≠ none ∧ Ix e W ∧ BookX e W) V (Below.refl _ _) ?_ ?_ ⟨iV, bV⟩).mono ?_
  · exact fun o W1 W2 h hk => ⟨hI _ _ _ h.1 (hk.w lt9), bk h.2 hk⟩
  · -- a round
    rintro gl l W ⟨hi, hbk⟩ hsl hl1 hr hgl
    have hy := run_yield (P := P) (args := #[.slice (some ⟨gl, 0, none⟩) l.length l.length]) hbk.1 (by simp [st, hps])
    refine ⟨fn, _, assign, body, hy, roundIn_of_wpIn hfn (hassign L _ W _ ?_)⟩
    refine ⟨_, run_beginRound hbk.1 rfl, ?_⟩
    have b2 : Book .busy (W.putObj L (.loop (st .busy))) := turn .busy W (.inr hbk)
    have hne : gl ≠ L := by rw [hVs] at hgl; simp only [L]; omega
    refine wpIn_mono (hbody L gl l _ (iput _ hi) hsl hl1 ((World.putObj_heap_other hne).trans hr) (by omega)) ?_
    have kS : ∀ {A C : World}, Kp2 (fun b => B b ∨ w.heap.size ≤ b) A C → Kp2 (fun b => B b ∨ V.heap.size ≤ b) A C := fun h => h.w (fun b hb => by rcases hb with hb | hb; exact .inl hb; exact .inr (by omega))
    have nL : ¬ (B L ∨ V.heap.size ≤ L) := fun h => by
      rcases h with h | h
      · have h9 : w.heap.size + 1 < w.heap.size := hB _ h; omega
      · rw [hVs] at h; simp only [L] at h; omega
    rintro e a3 W3 hp
    cases e with
    | normal =>
      obtain ⟨k3, i3⟩ := hp
      have b3 : Book .busy W3 := ⟨(k3.keep L (.inr (by simp only [L]; omega)) (Array.getElem?_eq_some_iff.1 b2.1).1).trans b2.1, (k3.keep D (.inr (by simp only [D]; omega)) (Array.getElem?_eq_some_iff.1 b2.2).1).trans b2.2⟩
      have b4 : Book .ready (W3.putObj L (.loop (st .ready))) := turn .ready W3 (.inl b3)
      have hr := run_endRound (P := P) none b3.1
      exact ⟨_, _, hr, .inl ⟨rfl, ⟨iput _ i3, b4⟩, (kp_put W L _ nL).trans ((kS k3).trans (kp_put W3 L _ nL))⟩⟩
    | ret =>
      obtain ⟨k3, i3⟩ := hp
      have b3 : Book .busy W3 := ⟨(k3.keep L (.inr (by simp only [L]; omega)) (Array.getElem?_eq_some_iff.1 b2.1).1).trans b2.1, (k3.keep D (.inr (by simp only [D]; omega)) (Array.getElem?_eq_some_iff.1 b2.2).1).trans b2.2⟩
      have hlt3 : L < W3.heap.size := (Array.getElem?_eq_some_iff.1 b3.1).1
      have hr := run_endRound (P := P) (some .ret) b3.1
      exact ⟨_, _, hr, .inr ⟨rfl, .ret, (fun h => by cases h), ixput _ i3, World.putObj_heap_same hlt3, (World.putObj_heap_other (by simp [L, D])).trans b3.2⟩⟩
    | exit id2 =>
      obtain ⟨k3, i3⟩ := hp
      have b3 : Book .busy W3 := ⟨(k3.keep L (.inr (by simp only [L]; omega)) (Array.getElem?_eq_some_iff.1 b2.1).1).trans b2.1, (k3.keep D (.inr (by simp only [D]; omega)) (Array.getElem?_eq_some_iff.1 b2.2).1).trans b2.2⟩
      have hlt3 : L < W3.heap.size := (Array.getElem?_eq_some_iff.1 b3.1).1
      have hr := run_endRound (P := P) (some (.exit id2)) b3.1
      exact ⟨_, _, hr, .inr ⟨rfl, .exit id2, (fun h => by cases h), ixput _ i3, World.putObj_heap_same hlt3, (World.putObj_heap_other (by simp [L, D])).trans b3.2⟩⟩
    | goto t => exact hp.elim
    | panic c => exact hp.elim
    | outgrown => exact hp.elim
  · rintro e W2 ⟨⟨v, rfl⟩, ⟨hJ, hbk⟩ | ⟨e, he, hix, hbk⟩⟩
    · exact ⟨none, _, run_endLoop (P := P) hbk.1 (by simp [st]), hdone D _ (Nat.le_refl _) (iput _ hJ) ((World.putObj_heap_other (by simp [L, D])).trans hbk.2)⟩
    · have hq := hstop D e _ (Nat.le_refl _) he (ixput (.loop { stX e with state := .exhausted }) hix) ((World.putObj_heap_other (by simp [L, D])).trans hbk.2)
      refine ⟨leftBy e, _, run_endLoop (P := P) hbk.1 (by simp [stX]), ?_⟩
      cases e with
      | ret => exact wpIn_ret hq
      | exit id => exact wpIn_exit hq
      | normal => exact absurd rfl he
      | goto t => exact absurd rfl he
      | panic c => exact absurd rfl he
      | outgrown => exact absurd rfl he
end Go.Proofs.Ythkmbbgcadfilaa
