/- Flow is pushed from a vertex to the sink. -/
import Derived.Test.YtbmbddapbgnioaaE
namespace Go.Proofs.Ytbmbddapbgnioaa
open Go.RowKit Go.Shelf
attribute [local go_sem] Oper.semAt_some

theorem results_int {fn : Func} {p : Tmp} (h : fn.results = #[.cell p 3]) (tmps : Array Value) (w : World) (g : Nat) (x : Int) (hp : tmps.getD p undef = .pointer (some ⟨g, 0, none⟩)) (hc : w.cell? ⟨g, 0, none⟩ = some (.int .i64 x)) :
    (results fn tmps).run Try.prog w = .ok (.int .i64 x) w := by
  have hp' : tmps[p]?.getD undef = .pointer (some ⟨g, 0, none⟩) := by simpa using hp
  simp [results, h, hp', asAddr, go_sem, hc]
set_option maxRecDepth 100000 in
set_option maxHeartbeats 4000000 in
theorem push_sink (c : Ctx) (hc : c.Ok) (most : Int) (X L F : List Int) (w : World) (hm : 1 ≤ most) (hp : PI c.N c.A X L F) (h : PM c w X L F) :
    Calls Try.prog 41 #[.int .i64 (c.t : Int), .int .i64 most, .pointer (some ⟨c.Br, 0, none⟩), .pointer (some ⟨c.Bf, 0, none⟩), .pointer (some ⟨c.Bl, 0, none⟩), .pointer (some ⟨c.Bp, 0, none⟩)] w
      fun e w' => ∃ p X' L' F', e = .returned (.int .i64 p) ∧ PM c w' X' L' F' ∧ PP c.N c.t c.A X L F c.t most p X' L' F' ∧ KG c w w' := by
  have HP := Lib.hid hp
  have HC := Lib.hid hc
  have HM := Lib.hid h
  have HMO := Lib.hid hm
  have c1 := h.br.cell (i := 0) rfl
  have c2 := h.gm.t
  have l1 := h.br.lt
  have l2 := h.gm.lt
  obtain ⟨W1, hW1⟩ : ∃ W1, W1 = ((w.alloc (.cells #[.int .i64 (c.t : Int)] 3)).alloc (.cells #[.int .i64 most] 3)).alloc (.cells #[.int .i64 0] 3) := ⟨_, rfl⟩
  have hB : Below w.heap.size w W1 := by rw [hW1]; exact below_next (below_next (Joins.below_alloc1 w _) (Joins.below_alloc1 _ _)) (Joins.below_alloc1 _ _)
  have r0 : Row W1 w.heap.size 3 [.int .i64 (c.t : Int)] := by rw [hW1]; exact ((row_new w 3 _).keep (Joins.below_alloc1 _ _)).keep (Joins.below_alloc1 _ _)
  have r1 : Row W1 (w.heap.size + 1) 3 [.int .i64 most] := by
    have := (row_new (w.alloc (.cells #[.int .i64 (c.t : Int)] 3)) 3 [.int .i64 most]).keep (Joins.below_alloc1 _ (.cells #[.int .i64 0] 3))
    rw [hW1]; rwa [World.size_alloc] at this
  have r2 : Row W1 (w.heap.size + 1 + 1) 3 [.int .i64 0] := by
    have := row_new ((w.alloc (.cells #[.int .i64 (c.t : Int)] 3)).alloc (.cells #[.int .i64 most] 3)) 3 [.int .i64 0]
    rw [hW1]; rwa [World.size_alloc, World.size_alloc] at this
  have c1' := (hB.cell (p := ⟨c.Br, 0, none⟩) l1).trans c1
  have c2' := (hB.cell (p := ⟨c.g, 2, none⟩) l2).trans c2
  have d0 := r0.cell (i := 0) rfl
  have d1 := r1.cell (i := 0) rfl
  have d2 := r2.cell (i := 0) rfl
  have f2 := r2.free 0
  have e1 : (((c.t : Int)) == (c.t : Int)) = true := by simp
  have HB := Lib.hid hB
  have HR2 := Lib.hid r2
  have HW := Lib.hid hW1
  generalize c.t = t at *
  clear h hm hp hc c1 c2 l1 l2 r0 r1 r2 hB hW1
  go_enter Try.func41, Try.ntmps41
  go_wp2_with fail
  rw [← HW.out]
  refine wp_region_quiet_lit (by kernel_rfl) (by kernel_rfl) ?_
  repeat (go_big_quiet_step (fail))
  refine wpQuiet_nil ?_
  rintro _ ⟨nq, rfl⟩
  have hq := drewN_below W1 nq
  have d1 := (hq.cell (p := ⟨w.heap.size + 1, 0, none⟩) (lt_of_cell d1)).trans d1
  have HR := Lib.hid (HR2.out.keep hq)
  have HB2 := Lib.hid (below_next HB.out hq)
  have d2 := HR.out.cell (i := 0) rfl
  have f2 := HR.out.free 0
  clear hq
  generalize W1.drewN nq = W2 at *
  go_wp2_with fail
  refine bodyPost_ret (results_int rfl _ _ (w.heap.size + 1 + 1) most rfl (World.cell?_setCell_same _ _ _ d2)) rfl ?_
  have hkg : KG c w (W2.setCell ⟨w.heap.size + 1 + 1, 0, none⟩ (.int .i64 most)) := KG.own (KG.below HB2.out) _ _ _ (by omega)
  exact ⟨most, X, L, F, rfl, (HM.out.keep HC.out HB2.out).same HC.out (fun b hb => heap_setCell_other W2 ⟨w.heap.size + 1 + 1, 0, none⟩ b _ (by have := HM.out.lt; simp; omega)), PP.sink HP.out HMO.out, hkg⟩
end Go.Proofs.Ytbmbddapbgnioaa
