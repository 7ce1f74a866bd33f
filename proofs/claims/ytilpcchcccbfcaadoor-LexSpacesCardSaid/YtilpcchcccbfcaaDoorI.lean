/- What recovers the place of an error. -/
import Derived.Test.YtilpcchcccbfcaaDoorT
import Derived.Defers
import Derived.Recover
namespace Go.Proofs.YtilpcchcccbfcaaDoor
open Go.RowKit

theorem place_none (W : World) : (Instr.typeAssert .nilIface 20 42 true).run Tryd.prog W = .ok (.tuple #[.int .i64 0, .bool false]) W := by kernel_rfl
theorem place_some (x : Value) (W : World) : (Instr.typeAssert (.iface 42 x) 20 42 true).run Tryd.prog W = .ok (.tuple #[x, .bool true]) W := by kernel_rfl
set_option maxHeartbeats 4000000 in
set_option maxRecDepth 100000 in
theorem catch_idle (p q r : Addr) (w : World) :
    CallsD Tryd.prog 24 #[.pointer (some p), .pointer (some q), .pointer (some r)] .returning w fun e u' w' => e = .returned (.tuple #[]) ∧ u' = .returning ∧ w' = w := by
  refine callsD_of_wpS Tryd.func24 rfl fun c₀ cs hu => ?_
  apply wpS_seq
  apply wpS_region
  simp [wpOpsS, go_sem, recoverD, hu, Tryd.ntmps24, Exit.thenS, place_none, Array.replicate]
  apply wpS_seq
  apply wpS_region
  simp [wpOpsS, go_sem, Exit.thenS]
  refine wpS_cond (t := false) (by simp [Act.eval]) ?_
  simp only [Bool.false_eq_true, if_false]
  refine wpS_of_wp (wp_skip ?_)
  cases c₀
  simp_all [bodyPostS, results, Tryd.results24]

theorem Row.other {w : World} {g g' T : Nat} {cs : List Value} (h : Row w g T cs) (i : Nat) (v : Value) (hne : g ≠ g') : Row (w.setCell ⟨g', i, none⟩ v) g T cs :=
  (heap_setCell_other w ⟨g', i, none⟩ g v hne).trans h
set_option maxHeartbeats 4000000 in
set_option maxRecDepth 100000 in
theorem catch_panicking (g2 g3 g4 : Nat) (k : Nat) (x y z : Value) (older : List PanicEntry) (w : World) (h2 : Row w g2 23 [x]) (h3 : Row w g3 3 [y]) (h4 : Row w g4 24 [z]) (h23 : g2 ≠ g3) (h24 : g2 ≠ g4) (h34 : g3 ≠ g4) :
    CallsD Tryd.prog 24 #[.pointer (some ⟨g2, 0, none⟩), .pointer (some ⟨g3, 0, none⟩), .pointer (some ⟨g4, 0, none⟩)] (.panicking ({ v := .iface 42 (.int .i64 (k : Int)), recovered := false } :: older)) w fun e u' w' =>
      e = .returned (.tuple #[]) ∧ u' = .panicking ({ v := .iface 42 (.int .i64 (k : Int)), recovered := true } :: older) ∧
      w' = ((w.setCell ⟨g2, 0, none⟩ (.slice none 0 0)).setCell ⟨g3, 0, none⟩ (.int .i64 (k : Int))).setCell ⟨g4, 0, none⟩ (.int .i64 30) := by
  have c2 := h2.cell (i := 0) rfl
  have f2 := h2.free 0
  have h3' := h3.other (g' := g2) 0 (.slice none 0 0) (Ne.symm h23)
  have c3 := h3'.cell (i := 0) rfl
  have f3 := h3'.free 0
  have h4' := (h4.other (g' := g2) 0 (.slice none 0 0) (Ne.symm h24)).other (g' := g3) 0 (.int .i64 (k : Int)) (Ne.symm h34)
  have c4 := h4'.cell (i := 0) rfl
  have f4 := h4'.free 0
  refine callsD_of_wpS Tryd.func24 rfl fun c₀ cs hu => ?_
  apply wpS_seq
  apply wpS_region
  simp [wpOpsS, go_sem, recoverD, hu, Tryd.ntmps24, Exit.thenS, place_some, Array.replicate]
  apply wpS_seq
  apply wpS_region
  simp [wpOpsS, go_sem, Exit.thenS]
  refine wpS_cond (t := true) (by simp [Act.eval]) ?_
  simp only [if_true]
  apply wpS_region
  simp only [World.frozen?_setCell] at f3 f4
  simp [wpOpsS, go_sem, c2, f2, c3, f3, c4, f4, bodyPostS, results, Tryd.results24]
end Go.Proofs.YtilpcchcccbfcaaDoor
