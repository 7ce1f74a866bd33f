/- What stays where only the old blocks stay. -/
import Derived.Test.YtbmbddapbgnioaaGe
import Derived.Test.YtbmbddapbgnioaaZ
namespace Go.Proofs.Ytbmbddapbgnioaa
open Go.RowKit Go.Shelf

/-- from w to w' all old blocks stay -/
def Kd (w w' : World) : Prop := Kp2 (OldB w) w w'
theorem Kd.below {w w' : World} (h : Kd w w') : Below w.heap.size w w' := ⟨h.os, h.tape, h.output, h.size, fun b hb => h.keep b hb hb⟩
theorem Kd.size {w w' : World} (h : Kd w w') : w.heap.size ≤ w'.heap.size := h.1
theorem Kd.block {w w' : World} (h : Kd w w') {b : Nat} (hb : b < w.heap.size) : w'.heap[b]? = w.heap[b]? := h.2 b hb hb
theorem Kd.refl (w : World) : Kd w w := Kp2.refl _ _
theorem Kd.trans {a b c : World} (h : Kd a b) (k : Kd b c) : Kd a c :=
  ⟨Nat.le_trans h.size k.size, fun x hx _ => (k.block (Nat.lt_of_lt_of_le hx h.size)).trans (h.block hx), k.os.trans h.os, k.tape.trans h.tape, k.output.trans h.output⟩
theorem Kd.of {w w' : World} (h : Below w.heap.size w w') : Kd w w' := kp_old h
theorem Kd.alloc (w : World) (o : Obj) : Kd w (w.alloc o) := .of (Joins.below_alloc1 w o)
theorem Kd.drewN (w : World) (n : Nat) : Kd w (w.drewN n) := ⟨Nat.le_refl _, fun _ _ _ => rfl, rfl, rfl, rfl⟩
theorem Kd.cell {w w' : World} (h : Kd w w') {b o : Nat} {v : Value} (hc : w.cell? ⟨b, o, none⟩ = some v) : w'.cell? ⟨b, o, none⟩ = some v := (cell_same (h.block (lt_of_cell hc))).trans hc
theorem Kd.row {w w' : World} (h : Kd w w') {g T : Nat} {cs : List Value} (hr : Row w g T cs) : Row w' g T cs := (h.block hr.lt).trans hr
theorem Kd.arest {w w' : World} (h : Kd w w') {l : List Ar} {v : Value} (hr : ARest w.heap.size w l v) : ARest w'.heap.size w' l v := by
  obtain ⟨a, cap, h1, h2, h3, h4, h5⟩ := hr
  refine ⟨a, cap, h1, h2, h3, h4, ?_⟩
  rcases h5 with h0 | ⟨b, off, ha, hl, hc⟩
  · exact .inl h0
  · exact .inr ⟨b, off, ha, Nat.lt_of_lt_of_le hl h.size, fun i hi => ⟨h.cell (hc i hi).1, h.cell (hc i hi).2.1, h.cell (hc i hi).2.2⟩⟩
theorem Kd.irest {w w' : World} (h : Kd w w') {l : List Int} {v : Value} (hr : IRest w.heap.size w l v) : IRest w'.heap.size w' l v := by
  obtain ⟨a, cap, h1, h2, h3, h4, h5⟩ := hr
  refine ⟨a, cap, h1, h2, h3, h4, ?_⟩
  rcases h5 with h0 | ⟨b, off, ha, hl, hc⟩
  · exact .inl h0
  · exact .inr ⟨b, off, ha, Nat.lt_of_lt_of_le hl h.size, fun i hi => h.cell (hc i hi)⟩
theorem Kd.brest {w w' : World} (h : Kd w w') {l : List Bool} {v : Value} (hr : BRest w.heap.size w l v) : BRest w'.heap.size w' l v := by
  obtain ⟨a, cap, h1, h2, h3, h5⟩ := hr
  refine ⟨a, cap, h1, h2, h3, ?_⟩
  rcases h5 with h0 | ⟨b, off, ha, hl, hc⟩
  · exact .inl h0
  · exact .inr ⟨b, off, ha, Nat.lt_of_lt_of_le hl h.size, fun i hi => h.cell (hc i hi)⟩
/-- a network in memory: its value -/
theorem okF_i64 {A : List Ar} {X : List Int} (h : okF A X) (hc : ∀ a, a ∈ A → 0 ≤ a.2.2 ∧ a.2.2 ≤ 1073741824) : ∀ x, x ∈ X → I64 x := fun x hx => by
  obtain ⟨i, hi, rfl⟩ := List.getElem_of_mem hx
  obtain ⟨h1, h2⟩ := (okF_iff A X).1 h
  have h3 := h2 i (by omega)
  have h4 := hc _ (getD_mem (show i < A.length by omega))
  have e : X.getD i 0 = X[i] := by simp [hi]
  rw [e] at h3
  unfold I64
  omega
/-- Max, as laws use it -/
structure MaxP (N s t : Nat) (A : List Ar) (w : World) (e : Ending) (w' : World) (X : List Int) (l : List Bool) (vf vs : Value) : Prop where
  e : e = .returned (.tuple #[vf, vs, .int .i64 0])
  kd : Kd w w'
  fl : IRest w'.heap.size w' X vf
  sd : BRest w'.heap.size w' l vs
  len : l.length = N
  max : IsMax N s t A X (ofL l)
theorem max_law (N s t : Nat) (A : List Ar) (va : Value) (w : World) (hA : ARest w.heap.size w A va) (hE : netE N s t A = 0) :
    Calls Try.prog 18 #[netV N s t va] w fun e w' => ∃ X l vf vs, MaxP N s t A w e w' X l vf vs :=
  (max_good N s t A va w hA hE).mono fun e w' h => by
    obtain ⟨hk, vf, vs, X, L, h1, h2, h3, _, _, h4, h5⟩ := h
    exact ⟨X, rchL L, vf, vs, h1, hk, h2.rest (okF_i64 h5.flo.ok (net_ok hE).caps), h3.rest, by unfold rchL; rw [List.length_map]; exact h4, h5⟩
end Go.Proofs.Ytbmbddapbgnioaa
