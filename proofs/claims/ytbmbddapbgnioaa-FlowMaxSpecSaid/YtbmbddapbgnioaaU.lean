/- A function that leaves with many marks. -/
import Derived.Test.YtbmbddapbgnioaaT
import Derived.Test.YtbmbddapbgnioaaMh
namespace Go.Proofs.Ytbmbddapbgnioaa
open Go.RowKit Go.Shelf

def markD (D : Nat) : Deferred := { target := .collected D, args := #[] }
/-- the marks of loops over functions that are over -/
def Marks (C : Nat) (ds : List Deferred) (W : World) : Prop := ∃ l : List Nat, ds = l.map markD ∧ l.Nodup ∧ ∀ D, D ∈ l → C ≤ D ∧ W.heap[D]? = some (.deferred (some []))
theorem marks_nil (C : Nat) (W : World) : Marks C [] W := ⟨[], rfl, List.nodup_nil, by simp⟩
theorem Marks.same {C : Nat} {ds : List Deferred} {W W' : World} (h : Marks C ds W) (hk : ∀ D, C ≤ D → W.heap[D]? = some (.deferred (some [])) → W'.heap[D]? = some (.deferred (some []))) : Marks C ds W' := by
  obtain ⟨l, h1, h2, h3⟩ := h
  exact ⟨l, h1, h2, fun D hD => ⟨(h3 D hD).1, hk D (h3 D hD).1 (h3 D hD).2⟩⟩
/-- a mark more: newer than the world in which the others lay -/
theorem Marks.more {C : Nat} {ds : List Deferred} {W0 W : World} (h0 : Marks C ds W0) (h : Marks C ds W) {D : Nat} (hC : C ≤ D) (hD : W0.heap.size ≤ D) (hW : W.heap[D]? = some (.deferred (some []))) : Marks C (markD D :: ds) W := by
  obtain ⟨l, h1, h2, h3⟩ := h
  obtain ⟨l0, k1, k2, k3⟩ := h0
  have hl : l = l0 := by
    rw [h1] at k1
    have hinj : ∀ (a b : List Nat), a.map markD = b.map markD → a = b := by
      intro a
      induction a with
      | nil => intro b hb; cases b with
        | nil => rfl
        | cons y b => simp at hb
      | cons x a ih => intro b hb; cases b with
        | nil => simp at hb
        | cons y b =>
          simp only [List.map_cons, List.cons.injEq] at hb
          have hxy : x = y := by
            have := hb.1
            unfold markD at this
            injection this with e1 _
            injection e1
          rw [hxy, ih b hb.2]
    exact hinj _ _ k1
  refine ⟨D :: l, by rw [h1]; rfl, List.nodup_cons.2 ⟨fun hm => ?_, h2⟩, fun D' hD' => ?_⟩
  · have := (Array.getElem?_eq_some_iff.1 (k3 D (hl ▸ hm)).2).1
    omega
  · rcases List.mem_cons.1 hD' with rfl | hD'
    · exact ⟨hC, hW⟩
    · exact h3 D' hD'
theorem leaves_marks {fn : Func} {n : Nat} {P : Program} {tmps : Array Value} {R : Ending → World → Prop} {v : Value} {C : Nat} {W : World}
    (hres : ∀ W' : World, (∀ b, b < C → W'.heap[b]? = W.heap[b]?) → (results fn tmps).run P W' = .ok v W')
    (hR : ∀ W' : World, W'.os = W.os → W'.tape = W.tape → W'.output = W.output → W'.heap.size = W.heap.size → (∀ b, b < C → W'.heap[b]? = W.heap[b]?) → R (.returned v) W') :
    ∀ (l : List Nat) (W0 : World), l.Nodup → (∀ D, D ∈ l → C ≤ D ∧ W0.heap[D]? = some (.deferred (some []))) → W0.os = W.os → W0.tape = W.tape → W0.output = W.output → W0.heap.size = W.heap.size → (∀ b, b < C → W0.heap[b]? = W.heap[b]?) →
      LeavesInM Fence.wide n P fn tmps R (l.map markD) .returning W0
  | [], W0, _, _, e1, e2, e3, hs, hb => ⟨v, hres W0 hb, hR W0 e1 e2 e3 hs hb⟩
  | D :: l, W0, hn, hm, e1, e2, e3, hs, hb => by
    have h1 := hm D (by simp)
    have h2 := (List.nodup_cons.1 hn)
    refine ⟨by simp, .inl ⟨D, _, rfl, run_takeDeferred h1.2, ?_⟩⟩
    refine leaves_marks hres hR l _ h2.2 (fun D' hD' => ?_) e1 e2 e3 (by simpa using hs) (fun b hb2 => (World.putObj_heap_other (by omega)).trans (hb b hb2))
    have h3 := hm D' (by simp [hD'])
    exact ⟨h3.1, (World.putObj_heap_other (fun e => h2.1 (by rw [← e]; exact hD'))).trans h3.2⟩
theorem Marks.leave {fn : Func} {n : Nat} {P : Program} {tmps : Array Value} {R : Ending → World → Prop} {v : Value} {C : Nat} {W : World} {ds : List Deferred} (h : Marks C ds W)
    (hres : ∀ W' : World, (∀ b, b < C → W'.heap[b]? = W.heap[b]?) → (results fn tmps).run P W' = .ok v W')
    (hR : ∀ W' : World, W'.os = W.os → W'.tape = W.tape → W'.output = W.output → W'.heap.size = W.heap.size → (∀ b, b < C → W'.heap[b]? = W.heap[b]?) → R (.returned v) W') :
    LeavesInM Fence.wide n P fn tmps R ds .returning W := by
  obtain ⟨l, rfl, h2, h3⟩ := h
  exact leaves_marks hres hR l W h2 h3 rfl rfl rfl rfl (fun _ _ => rfl)
end Go.Proofs.Ytbmbddapbgnioaa
