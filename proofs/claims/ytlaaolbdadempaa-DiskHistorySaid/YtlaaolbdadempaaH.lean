/- Restart, Check, Stop. -/
import Derived.Test.YtlaaolbdadempaaG
namespace Go.Proofs.Ytlaaolbdadempaa
open Go.RowKit

theorem below_two (w : World) (a b : Obj) : Below w.heap.size w ((w.alloc a).alloc b) := below_next (Joins.below_alloc1 w a) (Joins.below_alloc1 _ b)
theorem size25 : (Try.prog.info? 25).map (·.size) = some 4 := by kernel_rfl
theorem size76 : (Try.prog.info? 76).map (·.size) = some 2 := by kernel_rfl
theorem Row.far {w W' : World} {g g' T : Nat} {cs : List Value} {new : Array Value} (h : Row w g' T cs) (hne : g' ≠ g) (hW : W' = w.setRow g new) : Row W' g' T cs := by
  subst hW; exact (setRow_other w g g' _ hne).trans h
theorem below_setCell {B : Nat} {a w : World} (h : Below B a w) (g i : Nat) (v : Value) (hg : B ≤ g) : Below B a (w.setCell ⟨g, i, none⟩ v) :=
  ⟨h.os, h.tape, h.output, by have := h.size; simpa using this, fun k hk => (heap_setCell_other w ⟨g, i, none⟩ k v (by simp; omega)).trans (h.block k hk)⟩
theorem Row.setFar {w : World} {g g' T : Nat} {cs : List Value} (h : Row w g T cs) (i : Nat) (v : Value) (hne : g ≠ g') : Row (w.setCell ⟨g', i, none⟩ v) g T cs := (heap_setCell_other w ⟨g', i, none⟩ g v hne).trans h
/-- a struct is stored into a block that is known whole -/
theorem wpList_store_ag {ops : Array Oper} {rest : List Oper} {o : Oper} {a : Act} {w : World} {Q : Exit → Act → World → Prop} (hgd : o.guard = none) (T : TypeId) (x y : Operand) (ho : o.op = .store T x y)
    (g : Nat) (new cs : List Value) (hT : (Try.prog.info? T).map (·.size) = some new.length) (hl : cs.length = new.length) (hx : a.eval x = .pointer (some ⟨g, 0, none⟩)) (hy : a.eval y = .agg new.toArray) (hg : Row w g T cs)
    (h1 : new.all (·.oneCell') = true) {B : Nat} {w0 : World} (hb : Below B w0 w) (hB : B ≤ g)
    (h : ∀ w', Row w' g T new → Below B w0 w' → (∀ g' T cs, g' ≠ g → Row w g' T cs → Row w' g' T cs) → wpList Try.prog ops Q rest (a.put o.dst undef) w') : wpList Try.prog ops Q (o :: rest) a w :=
  wpList_plain hgd fun _ hK => wp_store_row T x y ho g new.toArray hx hy T cs.toArray hg (by rw [hT]; rfl) (by simp [hl]) (by simpa using h1) (hK _ _ (h _ (hg.setRow _) (below_setRow hb _ _ hB) fun g' T cs hne hr => hr.far hne rfl))
theorem wpList_load_dsk {ops : Array Oper} {rest : List Oper} {o : Oper} {a : Act} {w : World} {Q : Exit → Act → World → Prop} (hgd : o.guard = none) (x : Operand) (ho : o.op = .load 25 x)
    (g : Nat) (cs : List Value) (hl : cs.length = 4) (hx : a.eval x = .pointer (some ⟨g, 0, none⟩)) (hg : Row w g 25 cs)
    (h : wpList Try.prog ops Q rest (a.put o.dst (.agg cs.toArray)) w) : wpList Try.prog ops Q (o :: rest) a w :=
  wpList_load_row hgd 25 x ho g hx 25 cs.toArray (0, 0) _ hg Try.underlying25 rfl (by rw [size25]; simp [hl]) h

theorem results_dsk {fn : Func} {p q : Tmp} (h : fn.results = #[.cell p 25, .tmp q]) (tmps : Array Value) (w : World) (g : Nat) (cs : List Value) (hl : cs.length = 4)
    (hp : tmps.getD p undef = .pointer (some ⟨g, 0, none⟩)) (x : Value) (hx : tmps.getD q undef = x) (hg : Row w g 25 cs) :
    (results fn tmps).run Try.prog w = .ok (.tuple #[.agg cs.toArray, x]) w := by
  have hr : (loadVar 25 ⟨g, 0, none⟩).run Try.prog w = .ok (.agg cs.toArray) w := run_loadVar_row (P := Try.prog) w g 25 25 cs.toArray (0, 0) _ hg Try.underlying25 rfl (by rw [size25]; simp [hl])
  have hp' : tmps[p]?.getD undef = .pointer (some ⟨g, 0, none⟩) := by simpa using hp
  have hx' : tmps[q]?.getD undef = x := by simpa using hx
  simp [results, h, hp', hx', asAddr, hr]

def restartD (d : Dsk) : Dsk := ⟨d.secs, [], -1, false⟩
set_option maxHeartbeats 2000000 in
set_option maxRecDepth 100000 in
theorem restart_call (d : Dsk) (v : Value) (w : World) (h : DRest w.heap.size w d v) :
    Calls Try.prog 24 #[v] w fun e w' => ∃ v', e = .returned v' ∧ DRest w'.heap.size w' (restartD d) v' ∧ Below w.heap.size w w' := by
  obtain ⟨s, p, rfl, hs, hp⟩ := h
  have HS := Lib.hid hs
  obtain ⟨a, cap, rfl, hc1, hc2⟩ := hs.shape
  obtain ⟨a2, cap2, rfl, hc3, hc4⟩ := hp.shape
  clear hs hp
  unfold dskOf dskCells
  go_enter Try.func24, Try.ntmps24
  go_wp2_with fail
  refine bodyPost_ret (v := .agg #[.slice a d.secs.length cap, .slice none 0 0, .int .i64 (-1), .bool false]) (by simp [results, Try.results24, go_sem]) rfl ⟨_, rfl, ?_, below_two w _ _⟩
  exact ⟨_, _, rfl, HS.out.keep (below_two w _ _), prest_nil _ _⟩

set_option maxHeartbeats 2000000 in
set_option maxRecDepth 100000 in
theorem check_call (d : Dsk) (v : Value) (w : World) (h : DRest w.heap.size w d v) :
    Calls Try.prog 22 #[v] w fun e w' => e = .returned (.int .i64 (if validB d then 0 else 40)) ∧ Below w.heap.size w w' := by
  obtain ⟨s, p, rfl, hs, hp⟩ := h
  have HV : Hid (∀ W, Below w.heap.size w W → Calls Try.prog 52 #[dskOf s p d] W fun e w' => e = .returned (.bool (validB d)) ∧ Below W.heap.size W w') := Lib.hid (fun W hW => valid_call d _ W ⟨s, p, rfl, hs.keep hW, hp.keep hW⟩)
  clear hs hp
  obtain ⟨r, hr⟩ : ∃ r, r = validB d := ⟨_, rfl⟩
  rw [← hr] at HV ⊢
  clear hr
  unfold dskOf dskCells at *
  cases r
  all_goals
    go_enter Try.func22, Try.ntmps22
    go_wp2_with (go_at_call 52; refine (HV.out _ (Joins.below_alloc1 w _)).mono ?_; rintro e w2 ⟨rfl, hb⟩)
    go_ret
    exact ⟨rfl, below_next (Joins.below_alloc1 w _) hb⟩

def zeroD : Dsk := ⟨[], [], 0, false⟩
theorem drest_zero (B : Nat) (w : World) : DRest B w zeroD (.agg #[.slice none 0 0, .slice none 0 0, .int .i64 0, .bool false]) := ⟨_, _, rfl, nrest_nil _ _, prest_nil _ _⟩
def runsB (d : Dsk) : Bool := validB d && !d.stop
def stopD (d : Dsk) (left : Int) : Dsk × Int := if runsB d = true then (if left < 0 ∨ 65536 < left then (zeroD, 1) else (⟨d.secs, d.pend, left, d.stop⟩, 0)) else (zeroD, 40)
/-- what a call answers that returns a disk and an error -/
def Answers (w : World) (r : Dsk × Int) (e : Ending) (w' : World) : Prop := ∃ v', e = .returned (.tuple #[v', .int .i64 r.2]) ∧ DRest w'.heap.size w' r.1 v' ∧ Below w.heap.size w w'
set_option maxHeartbeats 4000000 in
set_option maxRecDepth 100000 in
theorem stop_call (d : Dsk) (v : Value) (left : Int) (w : World) (h : DRest w.heap.size w d v) :
    Calls Try.prog 32 #[v, .int .i64 left] w (Answers w (stopD d left)) := by
  obtain ⟨s, p, rfl, hs, hp⟩ := h
  have HS := Lib.hid hs
  have HP := Lib.hid hp
  have HV : Hid (∀ W, Below w.heap.size w W → Calls Try.prog 53 #[dskOf s p d] W fun e w' => e = .returned (.bool (runsB d)) ∧ Below W.heap.size W w') := Lib.hid (fun W hW => runs_call d _ W ⟨s, p, rfl, hs.keep hW, hp.keep hW⟩)
  obtain ⟨a, cap, rfl, hc1, hc2⟩ := hs.shape
  obtain ⟨a2, cap2, rfl, hc3, hc4⟩ := hp.shape
  clear hs hp
  unfold stopD
  obtain ⟨r, hr⟩ : ∃ r, r = runsB d := ⟨_, rfl⟩
  rw [← hr] at HV ⊢
  clear hr
  unfold dskOf dskCells at *
  have HRB : Hid (Row ((w.alloc (.cells #[.slice a d.secs.length cap, .slice a2 d.pend.length cap2, .int .i64 d.left, .bool d.stop] 25)).alloc (.cells #[.slice none 0 0, .slice none 0 0, .int .i64 0, .bool false] 25)) w.heap.size 25 [.slice a d.secs.length cap, .slice a2 d.pend.length cap2, .int .i64 d.left, .bool d.stop]) := Lib.hid ((row_new w 25 _).keep (Joins.below_alloc1 _ _))
  have HRR := Lib.hid (row_new (w.alloc (.cells #[.slice a d.secs.length cap, .slice a2 d.pend.length cap2, .int .i64 d.left, .bool d.stop] 25)) 25 [.slice none 0 0, .slice none 0 0, .int .i64 0, .bool false])
  have HB0 := Lib.hid (below_two w (.cells #[.slice a d.secs.length cap, .slice a2 d.pend.length cap2, .int .i64 d.left, .bool d.stop] 25) (.cells #[.slice none 0 0, .slice none 0 0, .int .i64 0, .bool false] 25))
  rw [World.size_alloc] at HRR
  cases r
  · go_enter Try.func32, Try.ntmps32
    go_wp2_with fail
    refine (HV.out _ HB0.out).mono ?_
    rintro e w2 ⟨rfl, hb⟩
    have HB := Lib.hid (below_next HB0.out hb)
    have HR2 := Lib.hid (HRR.out.keep hb)
    clear hb HRB HRR HB0
    go_wp2_with (refine wpList_store_ag rfl 25 (.tmp 4) (.tmp 9) rfl (w.heap.size + 1) [.slice none 0 0, .slice none 0 0, .int .i64 0, .bool false] _ size25 (by rfl) rfl rfl HR2.out (by rfl) HB.out (by omega) ?_; intro w3 hr hb hf)
    exact bodyPost_ret (results_dsk Try.results32 _ w3 (w.heap.size + 1) _ rfl rfl _ rfl hr) rfl ⟨_, rfl, drest_zero _ _, hb⟩
  · by_cases hl : left < 0
    · rw [if_pos rfl, if_pos (.inl hl)]
      go_enter Try.func32, Try.ntmps32
      go_wp2_with fail
      refine (HV.out _ HB0.out).mono ?_
      rintro e w2 ⟨rfl, hb⟩
      have HB := Lib.hid (below_next HB0.out hb)
      have HR2 := Lib.hid (HRR.out.keep hb)
      clear hb HRB HRR HB0
      go_wp2_with (refine wpList_store_ag rfl 25 (.tmp 4) (.tmp 16) rfl (w.heap.size + 1) [.slice none 0 0, .slice none 0 0, .int .i64 0, .bool false] _ size25 (by rfl) rfl rfl HR2.out (by rfl) HB.out (by omega) ?_; intro w3 hr hb hf)
      exact bodyPost_ret (results_dsk Try.results32 _ w3 (w.heap.size + 1) _ rfl rfl _ rfl hr) rfl ⟨_, rfl, drest_zero _ _, hb⟩
    · by_cases hl2 : 65536 < left
      · rw [if_pos rfl, if_pos (.inr hl2)]
        go_enter Try.func32, Try.ntmps32
        go_wp2_with fail
        refine (HV.out _ HB0.out).mono ?_
        rintro e w2 ⟨rfl, hb⟩
        have HB := Lib.hid (below_next HB0.out hb)
        have HR2 := Lib.hid (HRR.out.keep hb)
        clear hb HRB HRR HB0
        go_wp2_with (refine wpList_store_ag rfl 25 (.tmp 4) (.tmp 16) rfl (w.heap.size + 1) [.slice none 0 0, .slice none 0 0, .int .i64 0, .bool false] _ size25 (by rfl) rfl rfl HR2.out (by rfl) HB.out (by omega) ?_; intro w3 hr hb hf)
        exact bodyPost_ret (results_dsk Try.results32 _ w3 (w.heap.size + 1) _ rfl rfl _ rfl hr) rfl ⟨_, rfl, drest_zero _ _, hb⟩
      · rw [if_pos rfl, if_neg (by omega)]
        go_enter Try.func32, Try.ntmps32
        go_wp2_with fail
        refine (HV.out _ HB0.out).mono ?_
        rintro e w2 ⟨rfl, hb⟩
        have HB := Lib.hid (below_next HB0.out hb)
        have HR2 := Lib.hid (HRR.out.keep hb)
        have HR1 := Lib.hid (HRB.out.keep hb)
        have hc2 := HR1.out.cell (i := 2) rfl
        have hf2 := HR1.out.free 2
        clear hb HRB HRR HB0
        have HRX := Lib.hid (HR1.out.set (cs' := [.slice a d.secs.length cap, .slice a2 d.pend.length cap2, .int .i64 left, .bool d.stop]) 2 (.int .i64 left) rfl)
        have HRY := Lib.hid (HR2.out.setFar (g' := w.heap.size) 2 (.int .i64 left) (by omega))
        have HBX := Lib.hid (below_setCell HB.out w.heap.size 2 (.int .i64 left) (Nat.le_refl _))
        go_wp2_with (first
          | (refine wpList_load_dsk rfl (.tmp 2) rfl w.heap.size _ (by rfl) rfl HRX.out ?_)
          | (refine wpList_store_ag rfl 25 (.tmp 4) (.tmp 19) rfl (w.heap.size + 1) [.slice a d.secs.length cap, .slice a2 d.pend.length cap2, .int .i64 left, .bool d.stop] _ size25 (by rfl) rfl rfl HRY.out (by rfl) HBX.out (by omega) ?_; intro w3 hr hb hf))
        exact bodyPost_ret (results_dsk Try.results32 _ w3 (w.heap.size + 1) _ rfl rfl _ rfl hr) rfl ⟨_, rfl, ⟨_, _, rfl, HS.out.keep hb, HP.out.keep hb⟩, hb⟩
end Go.Proofs.Ytlaaolbdadempaa
