/- Read, whole. -/
import Derived.Test.YtlaaolbdadempaaU
namespace Go.Proofs.Ytlaaolbdadempaa
open Go.RowKit

def RefuseRead (w : World) (e : Ending) (w' : World) : Prop := e = .returned (.tuple #[.slice none 0 0, .int .i64 40]) ∧ Below w.heap.size w w'
theorem results_two {fn : Func} {p q : Tmp} (h : fn.results = #[.cell p 35, .cell q 28]) (tmps : Array Value) (w : World) (a b : Addr) (x y : Value) (hp : tmps.getD p undef = .pointer (some a)) (hq : tmps.getD q undef = .pointer (some b)) (hx : w.cell? a = some x) (hy : w.cell? b = some y) :
    (results fn tmps).run Try.prog w = .ok (.tuple #[x, y]) w := by
  have hp' : tmps[p]?.getD undef = .pointer (some a) := by simpa using hp
  have hq' : tmps[q]?.getD undef = .pointer (some b) := by simpa using hq
  simp [results, h, go_sem, hp', hq', hx, hy]
set_option maxRecDepth 100000 in
set_option maxHeartbeats 8000000 in
theorem read_refuse (d : Dsk) (at' : Int) (v : Value) (w : World) (h : DRest w.heap.size w d v) (hno : runsB d = false ∨ hasB d.secs.length at' = false) :
    Calls Try.prog 28 #[v, .int .i64 at'] w (RefuseRead w) := by
  obtain ⟨s, p, rfl, hs, hp⟩ := h
  have HV : Hid (∀ W, Below w.heap.size w W → Calls Try.prog 53 #[dskOf s p d] W fun e w' => e = .returned (.bool (runsB d)) ∧ Below W.heap.size W w') := Lib.hid (fun W hW => runs_call d _ W ⟨s, p, rfl, hs.keep hW, hp.keep hW⟩)
  have HH : Hid (∀ W, Calls Try.prog 54 #[dskOf s p d, .int .i64 at'] W fun e w' => e = .returned (.bool (hasB d.secs.length at')) ∧ Below W.heap.size W w') := Lib.hid (fun W => has_call d _ at' _ W w ⟨s, p, rfl, hs, hp⟩)
  obtain ⟨a, cap, rfl, hc1, hc2⟩ := hs.shape
  obtain ⟨a2, cap2, rfl, hc3, hc4⟩ := hp.shape
  clear hs hp
  obtain ⟨r, hr⟩ : ∃ r, r = runsB d := ⟨_, rfl⟩
  obtain ⟨r2, hr2⟩ : ∃ r, r = hasB d.secs.length at' := ⟨_, rfl⟩
  rw [← hr] at HV hno
  rw [← hr2] at HH hno
  clear hr hr2
  unfold dskOf dskCells at *
  obtain ⟨W0, hW0⟩ : ∃ W0, W0 = (((w.alloc (.cells #[.slice a d.secs.length cap, .slice a2 d.pend.length cap2, .int .i64 d.left, .bool d.stop] 25)).alloc (.cells #[.int .i64 at'] 3)).alloc (.cells #[.slice none 0 0] 35)).alloc (.cells #[.int .i64 0] 28) := ⟨_, rfl⟩
  have hB0 : Below w.heap.size w W0 := by
    rw [hW0]
    exact below_next (below_next (below_next (Joins.below_alloc1 w _) (Joins.below_alloc1 _ _)) (Joins.below_alloc1 _ _)) (Joins.below_alloc1 _ _)
  have hr0 : Row W0 w.heap.size 25 [.slice a d.secs.length cap, .slice a2 d.pend.length cap2, .int .i64 d.left, .bool d.stop] := by
    rw [hW0]; exact (((row_new w 25 _).keep (Joins.below_alloc1 _ _)).keep (Joins.below_alloc1 _ _)).keep (Joins.below_alloc1 _ _)
  have hr1 : Row W0 (w.heap.size + 1) 3 [.int .i64 at'] := by
    have := ((row_new (w.alloc (.cells #[.slice a d.secs.length cap, .slice a2 d.pend.length cap2, .int .i64 d.left, .bool d.stop] 25)) 3 [.int .i64 at']).keep (Joins.below_alloc1 _ (.cells #[.slice none 0 0] 35))).keep (Joins.below_alloc1 _ (.cells #[.int .i64 0] 28))
    rw [hW0]; rwa [World.size_alloc] at this
  have hr2 : Row W0 (w.heap.size + 1 + 1) 35 [.slice none 0 0] := by
    have := (row_new ((w.alloc (.cells #[.slice a d.secs.length cap, .slice a2 d.pend.length cap2, .int .i64 d.left, .bool d.stop] 25)).alloc (.cells #[.int .i64 at'] 3)) 35 [.slice none 0 0]).keep (Joins.below_alloc1 _ (.cells #[.int .i64 0] 28))
    rw [hW0]; rwa [World.size_alloc, World.size_alloc] at this
  have hr3 : Row W0 (w.heap.size + 1 + 1 + 1) 28 [.int .i64 0] := by
    have := row_new (((w.alloc (.cells #[.slice a d.secs.length cap, .slice a2 d.pend.length cap2, .int .i64 d.left, .bool d.stop] 25)).alloc (.cells #[.int .i64 at'] 3)).alloc (.cells #[.slice none 0 0] 35)) 28 [.int .i64 0]
    rw [hW0]; rwa [World.size_alloc, World.size_alloc, World.size_alloc] at this
  have HFIN : Hid (∀ W, Below w.heap.size w W → Row W (w.heap.size + 1 + 1) 35 [.slice none 0 0] → Row W (w.heap.size + 1 + 1 + 1) 28 [.int .i64 0] →
      Below w.heap.size w ((W.setCell ⟨w.heap.size + 1 + 1, 0, none⟩ (.slice none 0 0)).setCell ⟨w.heap.size + 1 + 1 + 1, 0, none⟩ (.int .i64 40)) ∧
      ((W.setCell ⟨w.heap.size + 1 + 1, 0, none⟩ (.slice none 0 0)).setCell ⟨w.heap.size + 1 + 1 + 1, 0, none⟩ (.int .i64 40)).cell? ⟨w.heap.size + 1 + 1, 0, none⟩ = some (.slice none 0 0) ∧
      ((W.setCell ⟨w.heap.size + 1 + 1, 0, none⟩ (.slice none 0 0)).setCell ⟨w.heap.size + 1 + 1 + 1, 0, none⟩ (.int .i64 40)).cell? ⟨w.heap.size + 1 + 1 + 1, 0, none⟩ = some (.int .i64 40)) := Lib.hid (fun W hW k2 k3 =>
    ⟨below_setCell (below_setCell hW _ 0 _ (by omega)) _ 0 _ (by omega), ((k2.set (cs' := [.slice none 0 0]) 0 (.slice none 0 0) rfl).setFar 0 _ (by omega)).cell (i := 0) rfl, ((k3.setFar (g' := w.heap.size + 1 + 1) 0 _ (by omega)).set (cs' := [.int .i64 40]) 0 (.int .i64 40) rfl).cell (i := 0) rfl⟩)
  cases r
  · go_enter Try.func28, Try.ntmps28
    go_wp2_with fail
    rw [← hW0]
    refine (HV.out W0 hB0).mono ?_
    rintro e w1 ⟨rfl, hb1⟩
    have k2 := hr2.keep hb1
    have k3 := hr3.keep hb1
    have p2 := k2.cell (i := 0) rfl
    have p3 := k3.cell (i := 0) rfl
    have q2 := k2.free 0
    have q3 := k3.free 0
    obtain ⟨m1, m2, m3⟩ := HFIN.out w1 (below_next hB0 hb1) k2 k3
    clear hW0 hr0 hr1 hr2 hr3 hB0 hb1 k2 k3
    have M1 := Lib.hid m1
    have M2 := Lib.hid m2
    have M3 := Lib.hid m3
    clear m1 m2 m3
    go_wp2_with fail
    exact bodyPost_ret (results_two Try.results28 _ _ _ _ _ _ rfl rfl M2.out M3.out) rfl ⟨rfl, M1.out⟩
  · have h2 : r2 = false := by simpa using hno
    subst h2
    go_enter Try.func28, Try.ntmps28
    go_wp2_with fail
    rw [← hW0]
    refine (HV.out W0 hB0).mono ?_
    rintro e w1 ⟨rfl, hb1⟩
    have k0 := (hr0.keep hb1).cell (i := 0) rfl
    have k1 := (hr0.keep hb1).cell (i := 1) rfl
    have k2' := (hr0.keep hb1).cell (i := 2) rfl
    have k3' := (hr0.keep hb1).cell (i := 3) rfl
    have k4 := (hr1.keep hb1).cell (i := 0) rfl
    go_wp2_with fail
    refine (HH.out w1).mono ?_
    rintro e w2 ⟨rfl, hb2⟩
    have k2 := (hr2.keep hb1).keep hb2
    have k3 := (hr3.keep hb1).keep hb2
    have p2 := k2.cell (i := 0) rfl
    have p3 := k3.cell (i := 0) rfl
    have q2 := k2.free 0
    have q3 := k3.free 0
    obtain ⟨m1, m2, m3⟩ := HFIN.out w2 (below_next (below_next hB0 hb1) hb2) k2 k3
    have M1 := Lib.hid m1
    have M2 := Lib.hid m2
    have M3 := Lib.hid m3
    clear hW0 hr0 hr1 hr2 hr3 hB0 hb1 k2 k3 m1 m2 m3 k0 k1 k2' k3' k4
    go_wp2_with fail
    exact bodyPost_ret (results_two Try.results28 _ _ _ _ _ _ rfl rfl M2.out M3.out) rfl ⟨rfl, M1.out⟩
end Go.Proofs.Ytlaaolbdadempaa
