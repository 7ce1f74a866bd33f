/- All tokens of a source, and the place of the first error: the program's function. -/
import Derived.Test.YtilpcchcccbfcaaDoorI
import Derived.Test.YtilpcchcccbfcaaDoorH
namespace Go.Proofs.YtilpcchcccbfcaaDoor
open Go.RowKit

/-- what the function answers: tokens, a place, an error's number -/
def lexR (s : ByteArray) : List Tok × Nat × Nat :=
  if 65536 < s.size then ([], 0, 2) else match (lexL 0 (bs s)).2 with
    | none => ((lexL 0 (bs s)).1, 0, 0)
    | some q => ([], q, 30)
theorem TNew.shape {w0 w : World} {v : Value} {ts : List Tok} (h : TNew w0 w v ts) : ∃ a n cap, v = .slice a n cap := by
  obtain ⟨a, cap, h1, _⟩ := tbuf_rest h.1
  exact ⟨a, _, cap, h1⟩
theorem tbuf_same {w w' : World} {v : Value} {ts : List Tok} (h : TBuf w v ts) (hs : ∀ k, v.ownBlock = some k → w'.heap[k]? = w.heap[k]?) : TBuf w' v ts := by
  refine ⟨h.1, ?_⟩
  rcases h.2 with h0 | ⟨g, cap, cur, rfl, hb, hg, r⟩
  · exact .inl h0
  · exact .inr ⟨g, cap, cur, rfl, hb, (hs g rfl).trans hg, r⟩
theorem below_setCell {B : Nat} {a w : World} (h : Below B a w) (g i : Nat) (v : Value) (hg : B ≤ g) : Below B a (w.setCell ⟨g, i, none⟩ v) :=
  ⟨h.os, h.tape, h.output, by have := h.size; simpa using this, fun k hk => (heap_setCell_other w ⟨g, i, none⟩ k v (by simp; omega)).trans (h.block k hk)⟩
theorem results12 (tmps : Array Value) (w : World) (g2 g3 g4 : Nat) (x y z : Value) (h2 : tmps.getD 2 undef = .pointer (some ⟨g2, 0, none⟩)) (h3 : tmps.getD 3 undef = .pointer (some ⟨g3, 0, none⟩)) (h4 : tmps.getD 4 undef = .pointer (some ⟨g4, 0, none⟩))
    (r2 : Row w g2 23 [x]) (r3 : Row w g3 3 [y]) (r4 : Row w g4 24 [z]) : (results Tryd.f12 tmps).run Tryd.prog w = .ok (.tuple #[x, y, z]) w := by
  have c2 := r2.cell (i := 0) rfl
  have c3 := r3.cell (i := 0) rfl
  have c4 := r4.cell (i := 0) rfl
  have h2' : tmps[2]?.getD undef = .pointer (some ⟨g2, 0, none⟩) := by simpa using h2
  have h3' : tmps[3]?.getD undef = .pointer (some ⟨g3, 0, none⟩) := by simpa using h3
  have h4' : tmps[4]?.getD undef = .pointer (some ⟨g4, 0, none⟩) := by simpa using h4
  simp [results, Tryd.results12, go_sem, h2', h3', h4', c2, c3, c4, asAddr]
theorem below3 (w : World) (a b c : Obj) : Below w.heap.size w (((w.alloc a).alloc b).alloc c) :=
  below_next (below_next (Joins.below_alloc1 w a) (Joins.below_alloc1 _ b)) (Joins.below_alloc1 _ c)

set_option maxHeartbeats 4000000 in
set_option maxRecDepth 100000 in
theorem Lex_long (s : ByteArray) (w : World) (hs : 65536 < s.size) (hs2 : s.size ≤ 281474976710656) :
    Calls Tryd.prog 12 #[.string s] w fun e w' => ∃ v, e = .returned (.tuple #[v, .int .i64 ((lexR s).2.1 : Int), .int .i64 ((lexR s).2.2 : Int)]) ∧ TNew w w' v (lexR s).1 := by
  have hl : lexR s = ([], 0, 2) := by unfold lexR; rw [if_pos hs]
  rw [hl]
  have hmf : ∀ (fn : Fn) (first cap : Array Value) (w : World), (Instr.makeFunc fn first cap).run Tryd.prog w = .ok (.func fn first cap) w := fun _ _ _ _ => rfl
  go_enter_defers Tryd.func12, Tryd.ntmps12
  go_wp2
  refine ⟨_, by simp [results, Tryd.results12, go_sem], _, rfl, tbuf_nil _, below3 w _ _ _, fun k hk => by cases hk⟩
set_option maxHeartbeats 4000000 in
set_option maxRecDepth 100000 in
theorem Lex_right (s : ByteArray) (w : World) (hs : s.size ≤ 65536) (hT : Laid w) (he : (lexL 0 (bs s)).2 = none) :
    Calls Tryd.prog 12 #[.string s] w fun e w' => ∃ v, e = .returned (.tuple #[v, .int .i64 ((lexR s).2.1 : Int), .int .i64 ((lexR s).2.2 : Int)]) ∧ TNew w w' v (lexR s).1 := by
  have hl : lexR s = ((lexL 0 (bs s)).1, 0, 0) := by unfold lexR; rw [if_neg (by omega), he]
  rw [hl]
  have HSC : Hid (Calls Tryd.prog 25 #[.string s] (((w.alloc (.cells #[.slice none 0 0] 23)).alloc (.cells #[.int .i64 0] 3)).alloc (.cells #[.int .i64 0] 24)) fun e w' => ∃ v, e = .returned v ∧
      TNew (((w.alloc (.cells #[.slice none 0 0] 23)).alloc (.cells #[.int .i64 0] 3)).alloc (.cells #[.int .i64 0] 24)) w' v (lexL 0 (bs s)).1) :=
    Lib.hid ((scan_call s _ hs (hT.keep (below3 w _ _ _))).mono fun e w' h => by
      rcases h with ⟨v, _, h1, h2⟩ | ⟨q, h1, _⟩
      · exact ⟨v, h1, h2⟩
      · rw [he] at h1; cases h1)
  have hmf : ∀ (fn : Fn) (first cap : Array Value) (w : World), (Instr.makeFunc fn first cap).run Tryd.prog w = .ok (.func fn first cap) w := fun _ _ _ _ => rfl
  clear hT he hl
  go_enter_defers Tryd.func12, Tryd.ntmps12
  go_wp2_with (go_at_call 25; fail)
  refine HSC.out.mono ?_
  rintro e w5 ⟨v, rfl, hn⟩
  obtain ⟨va, vn, vc, rfl⟩ := hn.shape
  have HN := Lib.hid hn
  have r2 : Row w5 w.heap.size 23 [.slice none 0 0] := (((row_new w 23 [.slice none 0 0]).keep (Joins.below_alloc1 _ _)).keep (Joins.below_alloc1 _ _)).keep hn.2.1
  have r3 : Row w5 (w.heap.size + 1) 3 [.int .i64 0] := by
    have := ((row_new (w.alloc (.cells #[.slice none 0 0] 23)) 3 [.int .i64 0]).keep (Joins.below_alloc1 _ _)).keep hn.2.1
    simpa using this
  have r4 : Row w5 (w.heap.size + 1 + 1) 24 [.int .i64 0] := by
    have := (row_new ((w.alloc (.cells #[.slice none 0 0] 23)).alloc (.cells #[.int .i64 0] 3)) 24 [.int .i64 0]).keep hn.2.1
    simpa using this
  have c2 := r2.cell (i := 0) rfl
  have f2 := r2.free 0
  have r3' := r3.other (g' := w.heap.size) 0 (.slice va vn vc) (by omega)
  have c3 := r3'.cell (i := 0) rfl
  have f3 := r3'.free 0
  have r4' := (r4.other (g' := w.heap.size) 0 (.slice va vn vc) (by omega)).other (g' := w.heap.size + 1) 0 (.int .i64 0) (by omega)
  have c4 := r4'.cell (i := 0) rfl
  have f4 := r4'.free 0
  simp only [World.frozen?_setCell] at f3 f4
  clear hn HSC
  go_wp2
  refine leaves_cons (f := 24) (args := #[.pointer (some ⟨w.heap.size, 0, none⟩), .pointer (some ⟨w.heap.size + 1, 0, none⟩), .pointer (some ⟨w.heap.size + 1 + 1, 0, none⟩)]) (by simp) (by simp [go_sem]) ?_
  refine (catch_idle _ _ _ _).mono ?_
  rintro e u' w'' ⟨rfl, rfl, rfl⟩
  have q2 := ((r2.set 0 (.slice va vn vc) (cs' := [.slice va vn vc]) rfl).other (g' := w.heap.size + 1) 0 (.int .i64 0) (by omega)).other (g' := w.heap.size + 1 + 1) 0 (.int .i64 0) (by omega)
  have q3 := (r3'.set 0 (.int .i64 0) (cs' := [.int .i64 0]) rfl).other (g' := w.heap.size + 1 + 1) 0 (.int .i64 0) (by omega)
  have q4 := r4'.set 0 (.int .i64 0) (cs' := [.int .i64 0]) rfl
  refine ⟨_, results12 _ _ _ _ _ _ _ _ rfl rfl rfl q2 q3 q4, _, rfl, tbuf_same HN.out.1 fun k hk => ?_, ?_, fun k hk => ?_⟩
  · have := HN.out.2.2 k hk
    simp at this
    rw [heap_setCell_other _ _ _ _ (by simp; omega), heap_setCell_other _ _ _ _ (by simp; omega), heap_setCell_other _ _ _ _ (by simp; omega)]
  · exact below_setCell (below_setCell (below_setCell (below_next (below3 w _ _ _) HN.out.2.1) _ _ _ (by omega)) _ _ _ (by omega)) _ _ _ (by omega)
  · have := HN.out.2.2 k hk
    simp at this
    omega
set_option maxHeartbeats 4000000 in
set_option maxRecDepth 100000 in
theorem Lex_wrong (s : ByteArray) (w : World) (hs : s.size ≤ 65536) (hT : Laid w) (q : Nat) (he : (lexL 0 (bs s)).2 = some q) :
    Calls Tryd.prog 12 #[.string s] w fun e w' => ∃ v, e = .returned (.tuple #[v, .int .i64 ((lexR s).2.1 : Int), .int .i64 ((lexR s).2.2 : Int)]) ∧ TNew w w' v (lexR s).1 := by
  have hl : lexR s = ([], q, 30) := by unfold lexR; rw [if_neg (by omega), he]
  rw [hl]
  have HSC : Hid (Calls Tryd.prog 25 #[.string s] (((w.alloc (.cells #[.slice none 0 0] 23)).alloc (.cells #[.int .i64 0] 3)).alloc (.cells #[.int .i64 0] 24)) fun e w' => e = .panicked [{ v := .iface 42 (.int .i64 (q : Int)), recovered := false }] ∧
      Below (((w.alloc (.cells #[.slice none 0 0] 23)).alloc (.cells #[.int .i64 0] 3)).alloc (.cells #[.int .i64 0] 24)).heap.size (((w.alloc (.cells #[.slice none 0 0] 23)).alloc (.cells #[.int .i64 0] 3)).alloc (.cells #[.int .i64 0] 24)) w') :=
    Lib.hid ((scan_call s _ hs (hT.keep (below3 w _ _ _))).mono fun e w' h => by
      rcases h with ⟨v, h1, _, _⟩ | ⟨q', h1, h2, h3⟩
      · rw [he] at h1; cases h1
      · rw [he] at h1; obtain rfl := Option.some.inj h1; exact ⟨h2, h3⟩)
  have hmf : ∀ (fn : Fn) (first cap : Array Value) (w : World), (Instr.makeFunc fn first cap).run Tryd.prog w = .ok (.func fn first cap) w := fun _ _ _ _ => rfl
  clear hT he hl
  go_enter_defers Tryd.func12, Tryd.ntmps12
  go_wp2_with (go_at_call 25; fail)
  refine HSC.out.mono ?_
  rintro e w5 ⟨rfl, hb⟩
  have HB := Lib.hid hb
  have r2 : Row w5 w.heap.size 23 [.slice none 0 0] := (((row_new w 23 [.slice none 0 0]).keep (Joins.below_alloc1 _ _)).keep (Joins.below_alloc1 _ _)).keep hb
  have r3 : Row w5 (w.heap.size + 1) 3 [.int .i64 0] := by
    have := ((row_new (w.alloc (.cells #[.slice none 0 0] 23)) 3 [.int .i64 0]).keep (Joins.below_alloc1 _ _)).keep hb
    simpa using this
  have r4 : Row w5 (w.heap.size + 1 + 1) 24 [.int .i64 0] := by
    have := (row_new ((w.alloc (.cells #[.slice none 0 0] 23)).alloc (.cells #[.int .i64 0] 3)) 24 [.int .i64 0]).keep hb
    simpa using this
  clear hb HSC
  refine leaves_cons (f := 24) (args := #[.pointer (some ⟨w.heap.size, 0, none⟩), .pointer (some ⟨w.heap.size + 1, 0, none⟩), .pointer (some ⟨w.heap.size + 1 + 1, 0, none⟩)]) (by simp) (by simp [go_sem]) ?_
  refine (catch_panicking _ _ _ q _ _ _ [] _ r2 r3 r4 (by omega) (by omega) (by omega)).mono ?_
  rintro e u' w'' ⟨rfl, rfl, rfl⟩
  have q2 := ((r2.set 0 (.slice none 0 0) (cs' := [.slice none 0 0]) rfl).other (g' := w.heap.size + 1) 0 (.int .i64 (q : Int)) (by omega)).other (g' := w.heap.size + 1 + 1) 0 (.int .i64 30) (by omega)
  have q3 := ((r3.other (g' := w.heap.size) 0 (.slice none 0 0) (by omega)).set 0 (.int .i64 (q : Int)) (cs' := [.int .i64 (q : Int)]) rfl).other (g' := w.heap.size + 1 + 1) 0 (.int .i64 30) (by omega)
  have q4 := ((r4.other (g' := w.heap.size) 0 (.slice none 0 0) (by omega)).other (g' := w.heap.size + 1) 0 (.int .i64 (q : Int)) (by omega)).set 0 (.int .i64 30) (cs' := [.int .i64 30]) rfl
  refine ⟨_, results12 _ _ _ _ _ _ _ _ rfl rfl rfl q2 q3 q4, _, rfl, tbuf_nil _, ?_, fun k hk => by cases hk⟩
  exact below_setCell (below_setCell (below_setCell (below_next (below3 w _ _ _) HB.out) _ _ _ (by omega)) _ _ _ (by omega)) _ _ _ (by omega)

theorem Lex_call (s : ByteArray) (w : World) (hs : s.size ≤ 281474976710656) (hT : Laid w) :
    Calls Tryd.prog 12 #[.string s] w fun e w' => ∃ v, e = .returned (.tuple #[v, .int .i64 ((lexR s).2.1 : Int), .int .i64 ((lexR s).2.2 : Int)]) ∧ TNew w w' v (lexR s).1 := by
  rcases Nat.lt_or_ge 65536 s.size with h | h
  · exact Lex_long s w h hs
  · cases he : (lexL 0 (bs s)).2 with
    | none => exact Lex_right s w h hT he
    | some q => exact Lex_wrong s w h hT q he
end Go.Proofs.YtilpcchcccbfcaaDoor
