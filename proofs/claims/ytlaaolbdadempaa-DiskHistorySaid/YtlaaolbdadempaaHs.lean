/- Restart and Stop: what they return lies where it lay. -/
import Derived.Test.YtlaaolbdadempaaK
namespace Go.Proofs.Ytlaaolbdadempaa
open Go.RowKit

/-- a struct is stored into a block that is known whole; every other block stays -/
theorem wpList_store_ags {ops : Array Oper} {rest : List Oper} {o : Oper} {a : Act} {w : World} {Q : Exit → Act → World → Prop} (hgd : o.guard = none) (T : TypeId) (x y : Operand) (ho : o.op = .store T x y)
    (g : Nat) (new cs : List Value) (hT : (Try.prog.info? T).map (·.size) = some new.length) (hl : cs.length = new.length) (hx : a.eval x = .pointer (some ⟨g, 0, none⟩)) (hy : a.eval y = .agg new.toArray) (hg : Row w g T cs)
    (h1 : new.all (·.oneCell') = true) {B : Nat} {w0 : World} (hb : Below B w0 w) (hB : B ≤ g)
    (h : ∀ w', Row w' g T new → Below B w0 w' → (∀ b, b ≠ g → w'.heap[b]? = w.heap[b]?) → wpList Try.prog ops Q rest (a.put o.dst undef) w') : wpList Try.prog ops Q (o :: rest) a w :=
  wpList_plain hgd fun _ hK => wp_store_row T x y ho g new.toArray hx hy T cs.toArray hg (by rw [hT]; rfl) (by simp [hl]) (by simpa using h1) (hK _ _ (h _ (hg.setRow _) (below_setRow hb _ _ hB) fun b hne => setRow_other w g b _ hne))
set_option maxHeartbeats 2000000 in
set_option maxRecDepth 100000 in
theorem restarts_call (S : Nat → Prop) (d : Dsk) (v : Value) (w : World) (h : DRestS S w d v) :
    Calls Try.prog 24 #[v] w fun e w' => ∃ v', e = .returned v' ∧ DRestS (Ext S w.heap.size) w' (restartD d) v' ∧ Below w.heap.size w w' := by
  obtain ⟨s, p, rfl, hs, hp⟩ := h
  have HS := Lib.hid hs
  obtain ⟨a, cap, rfl, hc1, hc2⟩ := hs.rest.shape
  obtain ⟨a2, cap2, rfl, hc3, hc4⟩ := hp.rest.shape
  clear hs hp
  unfold dskOf dskCells
  go_enter Try.func24, Try.ntmps24
  go_wp2_with fail
  refine bodyPost_ret (v := .agg #[.slice a d.secs.length cap, .slice none 0 0, .int .i64 (-1), .bool false]) (by simp [results, Try.results24, go_sem]) rfl ⟨_, rfl, ?_, below_two w _ _⟩
  exact ⟨_, _, rfl, (HS.out.later (below_two w _ _)).weak (fun b h _ => .inl h.1), prests_nil _ _⟩
set_option maxHeartbeats 4000000 in
set_option maxRecDepth 100000 in
theorem stops_call (S : Nat → Prop) (d : Dsk) (v : Value) (left : Int) (w : World) (h : DRestS S w d v) :
    Calls Try.prog 32 #[v, .int .i64 left] w (AnswersS S w (stopD d left)) := by
  obtain ⟨s, p, rfl, hs, hp⟩ := h
  have HS := Lib.hid hs
  have HP := Lib.hid hp
  have HV : Hid (∀ W, Below w.heap.size w W → Calls Try.prog 53 #[dskOf s p d] W fun e w' => e = .returned (.bool (runsB d)) ∧ Below W.heap.size W w') := Lib.hid (fun W hW => runs_call d _ W ⟨s, p, rfl, hs.rest.keep hW, hp.rest.keep hW⟩)
  obtain ⟨a, cap, rfl, hc1, hc2⟩ := hs.rest.shape
  obtain ⟨a2, cap2, rfl, hc3, hc4⟩ := hp.rest.shape
  clear hs hp
  unfold stopD
  obtain ⟨r, hr⟩ : ∃ r, r = runsB d := ⟨_, rfl⟩
  rw [← hr] at HV ⊢
  clear hr
  unfold dskOf dskCells at *
  have HRB : Hid (Row ((w.alloc (.cells #[.slice a d.secs.length cap, .slice a2 d.pend.length cap2, .int .i64 d.left, .bool d.stop] 25)).alloc (.cells #[.slice none 0 0, .slice none 0 0, .int .i64 0, .bool false] 25)) w.heap.size 25 [.slice a d.secs.length cap, .slice a2 d.pend.length cap2, .int .i64 d.left, .bool d.stop]) := Lib.hid ((row_new w 25 _).keep (Joins.below_alloc1 _ _))
  have HRR := Lib.hid (row_new (w.alloc (.cells #[.slice a d.secs.length cap, .slice a2 d.pend.length cap2, .int .i64 d.left, .bool d.stop] 25)) 25 [.slice none 0 0, .slice none 0 0, .int .i64 0, .bool false])
  have HB0 := Lib.hid (below_two w (.cells #[.slice a d.secs.length cap, .slice a2 d.pend.length cap2, .int .i64 d.left, .bool d.stop] 25) (.cells #[.slice none 0 0, .slice none 0 0, .int .i64 0, .bool false] 25))
  rw [World.size_alloc] at HRR
  cases r
  · go_enter Try.func32, Try.ntmps32
    go_wp2_with fail
    refine (HV.out _ HB0.out).mono ?_
    rintro e w2 ⟨rfl, hb⟩
    have HB := Lib.hid (below_next HB0.out hb)
    have HR2 := Lib.hid (HRR.out.keep hb)
    clear hb HRB HRR HB0
    go_wp2_with (refine wpList_store_ag rfl 25 (.tmp 4) (.tmp 9) rfl (w.heap.size + 1) [.slice none 0 0, .slice none 0 0, .int .i64 0, .bool false] _ size25 (by rfl) rfl rfl HR2.out (by rfl) HB.out (by omega) ?_; intro w3 hr hb hf)
    exact bodyPost_ret (results_dsk Try.results32 _ w3 (w.heap.size + 1) _ rfl rfl _ rfl hr) rfl ⟨_, rfl, drests_zero _ _, hb⟩
  · by_cases hl : left < 0
    · rw [if_pos rfl, if_pos (.inl hl)]
      go_enter Try.func32, Try.ntmps32
      go_wp2_with fail
      refine (HV.out _ HB0.out).mono ?_
      rintro e w2 ⟨rfl, hb⟩
      have HB := Lib.hid (below_next HB0.out hb)
      have HR2 := Lib.hid (HRR.out.keep hb)
      clear hb HRB HRR HB0
      go_wp2_with (refine wpList_store_ag rfl 25 (.tmp 4) (.tmp 16) rfl (w.heap.size + 1) [.slice none 0 0, .slice none 0 0, .int .i64 0, .bool false] _ size25 (by rfl) rfl rfl HR2.out (by rfl) HB.out (by omega) ?_; intro w3 hr hb hf)
      exact bodyPost_ret (results_dsk Try.results32 _ w3 (w.heap.size + 1) _ rfl rfl _ rfl hr) rfl ⟨_, rfl, drests_zero _ _, hb⟩
    · by_cases hl2 : 65536 < left
      · rw [if_pos rfl, if_pos (.inr hl2)]
        go_enter Try.func32, Try.ntmps32
        go_wp2_with fail
        refine (HV.out _ HB0.out).mono ?_
        rintro e w2 ⟨rfl, hb⟩
        have HB := Lib.hid (below_next HB0.out hb)
        have HR2 := Lib.hid (HRR.out.keep hb)
        clear hb HRB HRR HB0
        go_wp2_with (refine wpList_store_ag rfl 25 (.tmp 4) (.tmp 16) rfl (w.heap.size + 1) [.slice none 0 0, .slice none 0 0, .int .i64 0, .bool false] _ size25 (by rfl) rfl rfl HR2.out (by rfl) HB.out (by omega) ?_; intro w3 hr hb hf)
        exact bodyPost_ret (results_dsk Try.results32 _ w3 (w.heap.size + 1) _ rfl rfl _ rfl hr) rfl ⟨_, rfl, drests_zero _ _, hb⟩
      · rw [if_pos rfl, if_neg (by omega)]
        go_enter Try.func32, Try.ntmps32
        go_wp2_with fail
        refine (HV.out _ HB0.out).mono ?_
        rintro e w2 ⟨rfl, hb⟩
        have HB := Lib.hid (below_next HB0.out hb)
        have HR2 := Lib.hid (HRR.out.keep hb)
        have HR1 := Lib.hid (HRB.out.keep hb)
        have hc2 := HR1.out.cell (i := 2) rfl
        have hf2 := HR1.out.free 2
        clear hb HRB HRR HB0
        have HRX := Lib.hid (HR1.out.set (cs' := [.slice a d.secs.length cap, .slice a2 d.pend.length cap2, .int .i64 left, .bool d.stop]) 2 (.int .i64 left) rfl)
        have HRY := Lib.hid (HR2.out.setFar (g' := w.heap.size) 2 (.int .i64 left) (by omega))
        have HBX := Lib.hid (below_setCell HB.out w.heap.size 2 (.int .i64 left) (Nat.le_refl _))
        go_wp2_with (first
          | (refine wpList_load_dsk rfl (.tmp 2) rfl w.heap.size _ (by rfl) rfl HRX.out ?_)
          | (refine wpList_store_ag rfl 25 (.tmp 4) (.tmp 19) rfl (w.heap.size + 1) [.slice a d.secs.length cap, .slice a2 d.pend.length cap2, .int .i64 left, .bool d.stop] _ size25 (by rfl) rfl rfl HRY.out (by rfl) HBX.out (by omega) ?_; intro w3 hr hb hf))
        exact bodyPost_ret (results_dsk Try.results32 _ w3 (w.heap.size + 1) _ rfl rfl _ rfl hr) rfl ⟨_, rfl, ⟨_, _, rfl, (HS.out.later hb).weak (fun b h _ => .inl h.1), (HP.out.later hb).weak (fun b h _ => .inl h.1)⟩, hb⟩
end Go.Proofs.Ytlaaolbdadempaa
