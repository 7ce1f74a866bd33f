/- A sector made of parts. -/
import Derived.Laws.CopyOwn
import Derived.Laws.OwnMore
import Derived.Test.YtlaaolbdadempaaZe1
namespace Go.Proofs.Ytlaaolbdadempaa
open Go.RowKit

def overlay (acc p : List UInt8) : List UInt8 := p.take acc.length ++ acc.drop p.length
def sectorL (parts : List (List UInt8)) : List UInt8 := parts.foldl overlay (List.replicate 128 0)
theorem overlay_len (acc p : List UInt8) : (overlay acc p).length = acc.length := by unfold overlay; simp; omega
theorem foldl_len : ∀ (parts : List (List UInt8)) (acc : List UInt8), (parts.foldl overlay acc).length = acc.length
  | [], _ => rfl
  | p :: ps, acc => by rw [List.foldl_cons, foldl_len ps, overlay_len]
theorem sectorL_len (parts : List (List UInt8)) : (sectorL parts).length = 128 := by unfold sectorL; rw [foldl_len]; rfl
theorem sectorL_step {parts : List (List UInt8)} {k : Nat} {p : List UInt8} (h : parts[k]? = some p) : sectorL (parts.take (k + 1)) = overlay (sectorL (parts.take k)) p := by
  obtain ⟨h1, h2⟩ := List.getElem?_eq_some_iff.1 h
  unfold sectorL
  rw [List.take_succ_eq_append_getElem h1, List.foldl_append, h2]; rfl

theorem made_bytes (n : Nat) : madeCells (Value.int IntKind.u8 0).cells (n * 1) = (cellsOf (List.replicate n 0)).toArray := by
  apply Array.ext'
  rw [Nat.mul_one, show (Value.int IntKind.u8 0).cells = #[Value.int IntKind.u8 0] from rfl, toList_madeCells_one]
  simp [cellsOf]
theorem wpList_make {ops : Array Oper} {rest : List Oper} {o : Oper} {a : Act} {w : World} {Q : Exit → Act → World → Prop} (hgd : o.guard = none) (x : Operand) (ho : o.op = .makeSlice 35 x x) (n : Nat) (hn : n ≤ 1000000) (hx : a.eval x = .int .i64 (n : Int))
    (h : ∀ g w', Row w' g 5 (cellsOf (List.replicate n 0)) → w.heap.size ≤ g → Below w.heap.size w w' → wpList Try.prog ops Q rest (a.put o.dst (.slice (some ⟨g, 0, none⟩) n n)) w') : wpList Try.prog ops Q (o :: rest) a w :=
  wpList_plain hgd fun _ hK => by
    obtain ⟨i0, hi, hz0, hz1, hz2⟩ := info_parts Try.info5
    have hr := run_makeSlice (P := Try.prog) w 35 5 i0 (.int .u8 0) Try.underlying35 hi hz0 .i64 .i64 (n : Int) (n : Int) (by omega) (by omega) (by rw [hz1, Int.toNat_natCast]; omega) (by rw [hz2]; omega) (by omega)
    rw [hz1, Int.toNat_natCast, made_bytes] at hr
    have h1 := hK _ _ (h _ _ (row_new w 5 _) (Nat.le_refl _) (Joins.below_alloc1 w _))
    unfold Oper.wp execOp
    simp [ho, hx, hr, Sem.run_bind]
    exact h1
theorem splice_overlay (acc p : List UInt8) (n : Nat) (hn : acc.length = n) : splice (cellsOf acc) 0 (cellsOf (p.take n)) = cellsOf (overlay acc p) := by
  subst hn
  unfold splice overlay cellsOf
  rw [List.take_zero, List.nil_append, Nat.zero_add, List.length_map, List.length_take, List.map_append, ← List.map_drop]
  rcases Nat.lt_or_ge p.length acc.length with h | h
  · rw [Nat.min_eq_right (by omega)]
  · rw [Nat.min_eq_left (by omega), List.drop_eq_nil_of_le (Nat.le_refl _), List.drop_eq_nil_of_le h]

def SecHead (parts : List (List UInt8)) (g : Nat) (w : World) (s9 : Value) (wr : World) : Prop := ∃ k : Nat, k ≤ parts.length ∧ s9 = .int .i64 (k : Int) ∧ Row wr g 5 (cellsOf (sectorL (parts.take k))) ∧ Below w.heap.size w wr
theorem cells_one (l : List UInt8) : ∀ v ∈ cellsOf l, v.oneCell' = true := by
  intro v hv
  simp only [cellsOf, List.mem_map] at hv
  obtain ⟨c, _, rfl⟩ := hv
  rfl
theorem copy_src {B n cap N : Nat} {w : World} {xs : List UInt8} {a : Option Addr} (h : Rest B w xs (.slice a n cap)) (M : Nat) {q : Addr} (hq : q = ⟨N, 0, none⟩ := by rfl) :
    0 < (cellsOf (xs.take M)).length → some q = some ⟨N, 0, none⟩ ∧ ∃ ad, a = some ad ∧ ∀ j v, (cellsOf (xs.take M))[j]? = some v → w.cell? (ad.add j) = some v := by
  intro h0
  refine ⟨by rw [hq], ?_⟩
  obtain ⟨a2, cap2, he, h2, h3, h4, h5⟩ := h
  injection he with he1 he2 he3
  subst he1 he2 he3
  rw [cellsOf_len, List.length_take] at h0
  rcases h5 with h5 | ⟨b, off, rfl, hb, hc⟩
  · omega
  · refine ⟨_, rfl, fun j v hj => ?_⟩
    simp only [cellsOf, List.getElem?_map, Option.map_eq_some_iff] at hj
    obtain ⟨c, hj, rfl⟩ := hj
    rw [List.getElem?_take] at hj
    split at hj
    · obtain ⟨h6, rfl⟩ := List.getElem?_eq_some_iff.1 hj
      rw [Addr.add_lit]; exact hc j h6
    · cases hj
set_option maxHeartbeats 2000000 in
set_option maxRecDepth 100000 in
theorem sector_call (parts : List (List UInt8)) (v : Value) (w : World) (h : NRest w.heap.size w parts v) :
    Calls Try.prog 51 #[v] w fun e w' => ∃ g, e = .returned (.slice (some ⟨g, 0, none⟩) 128 128) ∧ w.heap.size ≤ g ∧ Row w' g 5 (cellsOf (sectorL parts)) ∧ Below w.heap.size w w' := by
  have HV := Lib.hid h
  obtain ⟨a, cap, rfl, hc1, hc2⟩ := h.shape
  clear h
  obtain ⟨m, hm⟩ : ∃ m, m = parts.length := ⟨_, rfl⟩
  rw [← hm] at HV hc2 ⊢
  have HM := Lib.hid hm
  clear hm
  go_enter Try.func51, Try.ntmps51
  go_wp2_with (refine wpList_make rfl (.const (.int .i64 128)) rfl 128 (by omega) rfl ?_; intro g w1 hrow hg hb; have HG := Lib.hid hrow; have HGL := Lib.hid hg; have HB := Lib.hid hb; clear hrow hg hb)
  go_loopw [9] (fun s9 wr => SecHead parts g w s9 wr) (fun s9 _ => m - (intOf s9).toNat)
  case atStart => exact ⟨0, Nat.zero_le _, rfl, HG.out, HB.out⟩
  case round =>
    obtain ⟨k, hk, rfl, hrow, hb⟩ := hrel
    have HR := Lib.hid hrow
    have HB := Lib.hid hb
    rw [← HM.out] at hk
    clear hb hrow
    rcases Nat.lt_or_ge k m with hlt | hge
    · obtain ⟨x, hx⟩ : ∃ x, parts[k]? = some x := ⟨_, List.getElem?_eq_getElem (by rw [← HM.out]; exact hlt)⟩
      obtain ⟨b, off, u, rfl, hbl, hru, hcell⟩ := HV.out.at hx
      have hcu := hcell wr HB.out
      have HST := Lib.hid (sectorL_step hx)
      have hru2 := hru.stays HB.out
      obtain ⟨ua, uc, rfl, _, _⟩ := hru.shape
      have HRU := Lib.hid hru2
      have hkm : (k : Int) < (m : Int) := by omega
      have hk0 : (0 : Int) ≤ (k : Int) := by omega
      obtain ⟨acc, hacc⟩ : ∃ acc, acc = sectorL (parts.take k) := ⟨_, rfl⟩
      have hal : acc.length = 128 := by rw [hacc, sectorL_len]
      have HAL := Lib.hid hal
      rw [← hacc] at HR HST
      clear hru hru2 hcell hx hacc hal
      go_wp2_with (refine wpList_copy_splice rfl (.tmp 13) (.tmp 14) 35 35 rfl 5 Try.underlying35 (by kernel_rfl) (some ⟨g, 0, none⟩) ua 128 128 x.length uc rfl rfl g 0 (cellsOf acc) 5 HR.out (cellsOf (x.take 128)) (by rw [cellsOf_len, List.length_take]; exact Nat.min_comm _ _) (copy_src HRU.out 128) (by rw [cellsOf_len, cellsOf_len, List.length_take, HAL.out]; omega) (cells_one _) w.heap.size w HB.out HGL.out ?_; intro w2 hrow hb; have HR2 := Lib.hid hrow.out; have HB2 := Lib.hid hb; clear hrow hb)
      refine ⟨⟨k + 1, by rw [← HM.out]; omega, by go_num, ?_, HB2.out⟩, by simp [intOf]; omega⟩
      rw [HST.out, ← splice_overlay acc x 128 HAL.out]; exact HR2.out
    · obtain rfl : k = m := by omega
      go_wp2_with fail
      go_ret
      refine ⟨g, rfl, HGL.out, ?_, HB.out⟩
      have := HR.out
      rwa [HM.out, List.take_length] at this
end Go.Proofs.Ytlaaolbdadempaa

/- Restart, Check, Stop. -/
namespace Go.Proofs.Ytlaaolbdadempaa
open Go.RowKit

theorem below_two (w : World) (a b : Obj) : Below w.heap.size w ((w.alloc a).alloc b) := below_next (Joins.below_alloc1 w a) (Joins.below_alloc1 _ b)
theorem size25 : (Try.prog.info? 25).map (·.size) = some 4 := by kernel_rfl
theorem size76 : (Try.prog.info? 76).map (·.size) = some 2 := by kernel_rfl
theorem Row.far {w W' : World} {g g' T : Nat} {cs : List Value} {new : Array Value} (h : Row w g' T cs) (hne : g' ≠ g) (hW : W' = w.setRow g new) : Row W' g' T cs := by
  subst hW; exact (setRow_other w g g' _ hne).trans h
theorem below_setCell {B : Nat} {a w : World} (h : Below B a w) (g i : Nat) (v : Value) (hg : B ≤ g) : Below B a (w.setCell ⟨g, i, none⟩ v) :=
  ⟨h.os, h.tape, h.output, by have := h.size; simpa using this, fun k hk => (heap_setCell_other w ⟨g, i, none⟩ k v (by simp; omega)).trans (h.block k hk)⟩
theorem Row.setFar {w : World} {g g' T : Nat} {cs : List Value} (h : Row w g T cs) (i : Nat) (v : Value) (hne : g ≠ g') : Row (w.setCell ⟨g', i, none⟩ v) g T cs := (heap_setCell_other w ⟨g', i, none⟩ g v hne).trans h
/-- a struct is stored into a block that is known whole -/
theorem wpList_store_ag {ops : Array Oper} {rest : List Oper} {o : Oper} {a : Act} {w : World} {Q : Exit → Act → World → Prop} (hgd : o.guard = none) (T : TypeId) (x y : Operand) (ho : o.op = .store T x y)
    (g : Nat) (new cs : List Value) (hT : (Try.prog.info? T).map (·.size) = some new.length) (hl : cs.length = new.length) (hx : a.eval x = .pointer (some ⟨g, 0, none⟩)) (hy : a.eval y = .agg new.toArray) (hg : Row w g T cs)
    (h1 : new.all (·.oneCell') = true) {B : Nat} {w0 : World} (hb : Below B w0 w) (hB : B ≤ g)
    (h : ∀ w', Row w' g T new → Below B w0 w' → (∀ g' T cs, g' ≠ g → Row w g' T cs → Row w' g' T cs) → wpList Try.prog ops Q rest (a.put o.dst undef) w') : wpList Try.prog ops Q (o :: rest) a w :=
  wpList_plain hgd fun _ hK => wp_store_row T x y ho g new.toArray hx hy T cs.toArray hg (by rw [hT]; rfl) (by simp [hl]) (by simpa using h1) (hK _ _ (h _ (hg.setRow _) (below_setRow hb _ _ hB) fun g' T cs hne hr => hr.far hne rfl))
theorem wpList_load_dsk {ops : Array Oper} {rest : List Oper} {o : Oper} {a : Act} {w : World} {Q : Exit → Act → World → Prop} (hgd : o.guard = none) (x : Operand) (ho : o.op = .load 25 x)
    (g : Nat) (cs : List Value) (hl : cs.length = 4) (hx : a.eval x = .pointer (some ⟨g, 0, none⟩)) (hg : Row w g 25 cs)
    (h : wpList Try.prog ops Q rest (a.put o.dst (.agg cs.toArray)) w) : wpList Try.prog ops Q (o :: rest) a w :=
  wpList_load_row hgd 25 x ho g hx 25 cs.toArray (0, 0) _ hg Try.underlying25 rfl (by rw [size25]; simp [hl]) h

theorem results_dsk {fn : Func} {p q : Tmp} (h : fn.results = #[.cell p 25, .tmp q]) (tmps : Array Value) (w : World) (g : Nat) (cs : List Value) (hl : cs.length = 4)
    (hp : tmps.getD p undef = .pointer (some ⟨g, 0, none⟩)) (x : Value) (hx : tmps.getD q undef = x) (hg : Row w g 25 cs) :
    (results fn tmps).run Try.prog w = .ok (.tuple #[.agg cs.toArray, x]) w := by
  have hr : (loadVar 25 ⟨g, 0, none⟩).run Try.prog w = .ok (.agg cs.toArray) w := run_loadVar_row (P := Try.prog) w g 25 25 cs.toArray (0, 0) _ hg Try.underlying25 rfl (by rw [size25]; simp [hl])
  have hp' : tmps[p]?.getD undef = .pointer (some ⟨g, 0, none⟩) := by simpa using hp
  have hx' : tmps[q]?.getD undef = x := by simpa using hx
  simp [results, h, hp', hx', asAddr, hr]

def restartD (d : Dsk) : Dsk := ⟨d.secs, [], -1, false⟩
set_option maxHeartbeats 2000000 in
set_option maxRecDepth 100000 in
theorem restart_call (d : Dsk) (v : Value) (w : World) (h : DRest w.heap.size w d v) :
    Calls Try.prog 24 #[v] w fun e w' => ∃ v', e = .returned v' ∧ DRest w'.heap.size w' (restartD d) v' ∧ Below w.heap.size w w' := by
  obtain ⟨s, p, rfl, hs, hp⟩ := h
  have HS := Lib.hid hs
  obtain ⟨a, cap, rfl, hc1, hc2⟩ := hs.shape
  obtain ⟨a2, cap2, rfl, hc3, hc4⟩ := hp.shape
  clear hs hp
  unfold dskOf dskCells
  go_enter Try.func24, Try.ntmps24
  go_wp2_with fail
  refine bodyPost_ret (v := .agg #[.slice a d.secs.length cap, .slice none 0 0, .int .i64 (-1), .bool false]) (by simp [results, Try.results24, go_sem]) rfl ⟨_, rfl, ?_, below_two w _ _⟩
  exact ⟨_, _, rfl, HS.out.keep (below_two w _ _), prest_nil _ _⟩

set_option maxHeartbeats 2000000 in
set_option maxRecDepth 100000 in
theorem check_call (d : Dsk) (v : Value) (w : World) (h : DRest w.heap.size w d v) :
    Calls Try.prog 22 #[v] w fun e w' => e = .returned (.int .i64 (if validB d then 0 else 40)) ∧ Below w.heap.size w w' := by
  obtain ⟨s, p, rfl, hs, hp⟩ := h
  have HV : Hid (∀ W, Below w.heap.size w W → Calls Try.prog 52 #[dskOf s p d] W fun e w' => e = .returned (.bool (validB d)) ∧ Below W.heap.size W w') := Lib.hid (fun W hW => valid_call d _ W ⟨s, p, rfl, hs.keep hW, hp.keep hW⟩)
  clear hs hp
  obtain ⟨r, hr⟩ : ∃ r, r = validB d := ⟨_, rfl⟩
  rw [← hr] at HV ⊢
  clear hr
  unfold dskOf dskCells at *
  cases r
  all_goals
    go_enter Try.func22, Try.ntmps22
    go_wp2_with (go_at_call 52; refine (HV.out _ (Joins.below_alloc1 w _)).mono ?_; rintro e w2 ⟨rfl, hb⟩)
    go_ret
    exact ⟨rfl, below_next (Joins.below_alloc1 w _) hb⟩

def zeroD : Dsk := ⟨[], [], 0, false⟩
theorem drest_zero (B : Nat) (w : World) : DRest B w zeroD (.agg #[.slice none 0 0, .slice none 0 0, .int .i64 0, .bool false]) := ⟨_, _, rfl, nrest_nil _ _, prest_nil _ _⟩
def runsB (d : Dsk) : Bool := validB d && !d.stop
def stopD (d : Dsk) (left : Int) : Dsk × Int := if runsB d = true then (if left < 0 ∨ 65536 < left then (zeroD, 1) else (⟨d.secs, d.pend, left, d.stop⟩, 0)) else (zeroD, 40)
/-- what a call answers that returns a disk and an error -/
def Answers (w : World) (r : Dsk × Int) (e : Ending) (w' : World) : Prop := ∃ v', e = .returned (.tuple #[v', .int .i64 r.2]) ∧ DRest w'.heap.size w' r.1 v' ∧ Below w.heap.size w w'
set_option maxHeartbeats 4000000 in
set_option maxRecDepth 100000 in
theorem stop_call (d : Dsk) (v : Value) (left : Int) (w : World) (h : DRest w.heap.size w d v) :
    Calls Try.prog 32 #[v, .int .i64 left] w (Answers w (stopD d left)) := by
  obtain ⟨s, p, rfl, hs, hp⟩ := h
  have HS := Lib.hid hs
  have HP := Lib.hid hp
  have HV : Hid (∀ W, Below w.heap.size w W → Calls Try.prog 53 #[dskOf s p d] W fun e w' => e = .returned (.bool (runsB d)) ∧ Below W.heap.size W w') := Lib.hid (fun W hW => runs_call d _ W ⟨s, p, rfl, hs.keep hW, hp.keep hW⟩)
  obtain ⟨a, cap, rfl, hc1, hc2⟩ := hs.shape
  obtain ⟨a2, cap2, rfl, hc3, hc4⟩ := hp.shape
  clear hs hp
  unfold stopD
  obtain ⟨r, hr⟩ : ∃ r, r = runsB d := ⟨_, rfl⟩
  rw [← hr] at HV ⊢
  clear hr
  unfold dskOf dskCells at *
  have HRB : Hid (Row ((w.alloc (.cells #[.slice a d.secs.length cap, .slice a2 d.pend.length cap2, .int .i64 d.left, .bool d.stop] 25)).alloc (.cells #[.slice none 0 0, .slice none 0 0, .int .i64 0, .bool false] 25)) w.heap.size 25 [.slice a d.secs.length cap, .slice a2 d.pend.length cap2, .int .i64 d.left, .bool d.stop]) := Lib.hid ((row_new w 25 _).keep (Joins.below_alloc1 _ _))
  have HRR := Lib.hid (row_new (w.alloc (.cells #[.slice a d.secs.length cap, .slice a2 d.pend.length cap2, .int .i64 d.left, .bool d.stop] 25)) 25 [.slice none 0 0, .slice none 0 0, .int .i64 0, .bool false])
  have HB0 := Lib.hid (below_two w (.cells #[.slice a d.secs.length cap, .slice a2 d.pend.length cap2, .int .i64 d.left, .bool d.stop] 25) (.cells #[.slice none 0 0, .slice none 0 0, .int .i64 0, .bool false] 25))
  rw [World.size_alloc] at HRR
  cases r
  · go_enter Try.func32, Try.ntmps32
    go_wp2_with fail
    refine (HV.out _ HB0.out).mono ?_
    rintro e w2 ⟨rfl, hb⟩
    have HB := Lib.hid (below_next HB0.out hb)
    have HR2 := Lib.hid (HRR.out.keep hb)
    clear hb HRB HRR HB0
    go_wp2_with (refine wpList_store_ag rfl 25 (.tmp 4) (.tmp 9) rfl (w.heap.size + 1) [.slice none 0 0, .slice none 0 0, .int .i64 0, .bool false] _ size25 (by rfl) rfl rfl HR2.out (by rfl) HB.out (by omega) ?_; intro w3 hr hb hf)
    exact bodyPost_ret (results_dsk Try.results32 _ w3 (w.heap.size + 1) _ rfl rfl _ rfl hr) rfl ⟨_, rfl, drest_zero _ _, hb⟩
  · by_cases hl : left < 0
    · rw [if_pos rfl, if_pos (.inl hl)]
      go_enter Try.func32, Try.ntmps32
      go_wp2_with fail
      refine (HV.out _ HB0.out).mono ?_
      rintro e w2 ⟨rfl, hb⟩
      have HB := Lib.hid (below_next HB0.out hb)
      have HR2 := Lib.hid (HRR.out.keep hb)
      clear hb HRB HRR HB0
      go_wp2_with (refine wpList_store_ag rfl 25 (.tmp 4) (.tmp 16) rfl (w.heap.size + 1) [.slice none 0 0, .slice none 0 0, .int .i64 0, .bool false] _ size25 (by rfl) rfl rfl HR2.out (by rfl) HB.out (by omega) ?_; intro w3 hr hb hf)
      exact bodyPost_ret (results_dsk Try.results32 _ w3 (w.heap.size + 1) _ rfl rfl _ rfl hr) rfl ⟨_, rfl, drest_zero _ _, hb⟩
    · by_cases hl2 : 65536 < left
      · rw [if_pos rfl, if_pos (.inr hl2)]
        go_enter Try.func32, Try.ntmps32
        go_wp2_with fail
        refine (HV.out _ HB0.out).mono ?_
        rintro e w2 ⟨rfl, hb⟩
        have HB := Lib.hid (below_next HB0.out hb)
        have HR2 := Lib.hid (HRR.out.keep hb)
        clear hb HRB HRR HB0
        go_wp2_with (refine wpList_store_ag rfl 25 (.tmp 4) (.tmp 16) rfl (w.heap.size + 1) [.slice none 0 0, .slice none 0 0, .int .i64 0, .bool false] _ size25 (by rfl) rfl rfl HR2.out (by rfl) HB.out (by omega) ?_; intro w3 hr hb hf)
        exact bodyPost_ret (results_dsk Try.results32 _ w3 (w.heap.size + 1) _ rfl rfl _ rfl hr) rfl ⟨_, rfl, drest_zero _ _, hb⟩
      · rw [if_pos rfl, if_neg (by omega)]
        go_enter Try.func32, Try.ntmps32
        go_wp2_with fail
        refine (HV.out _ HB0.out).mono ?_
        rintro e w2 ⟨rfl, hb⟩
        have HB := Lib.hid (below_next HB0.out hb)
        have HR2 := Lib.hid (HRR.out.keep hb)
        have HR1 := Lib.hid (HRB.out.keep hb)
        have hc2 := HR1.out.cell (i := 2) rfl
        have hf2 := HR1.out.free 2
        clear hb HRB HRR HB0
        have HRX := Lib.hid (HR1.out.set (cs' := [.slice a d.secs.length cap, .slice a2 d.pend.length cap2, .int .i64 left, .bool d.stop]) 2 (.int .i64 left) rfl)
        have HRY := Lib.hid (HR2.out.setFar (g' := w.heap.size) 2 (.int .i64 left) (by omega))
        have HBX := Lib.hid (below_setCell HB.out w.heap.size 2 (.int .i64 left) (Nat.le_refl _))
        go_wp2_with (first
          | (refine wpList_load_dsk rfl (.tmp 2) rfl w.heap.size _ (by rfl) rfl HRX.out ?_)
          | (refine wpList_store_ag rfl 25 (.tmp 4) (.tmp 19) rfl (w.heap.size + 1) [.slice a d.secs.length cap, .slice a2 d.pend.length cap2, .int .i64 left, .bool d.stop] _ size25 (by rfl) rfl rfl HRY.out (by rfl) HBX.out (by omega) ?_; intro w3 hr hb hf))
        exact bodyPost_ret (results_dsk Try.results32 _ w3 (w.heap.size + 1) _ rfl rfl _ rfl hr) rfl ⟨_, rfl, ⟨_, _, rfl, HS.out.keep hb, HP.out.keep hb⟩, hb⟩
end Go.Proofs.Ytlaaolbdadempaa

/- The same with a set of blocks in which everything lies: what is stored elsewhere does not matter. -/
namespace Go.Proofs.Ytlaaolbdadempaa
open Go.RowKit

def RestS (S : Nat → Prop) (w : World) (bs : List UInt8) (v : Value) : Prop :=
  ∃ (a : Option Addr) (cap : Nat), v = .slice a bs.length cap ∧ bs.length ≤ cap ∧ cap ≤ maxLen ∧ (a = none → bs.length = 0 ∧ cap = 0) ∧
    (bs.length = 0 ∨ ∃ b off, a = some ⟨b, off, none⟩ ∧ S b ∧ ∀ i (h : i < bs.length), w.cell? ⟨b, off + i, none⟩ = some (.int .u8 (bs[i].toNat : Int)))
def NRestS (S : Nat → Prop) (w : World) (xs : List (List UInt8)) (v : Value) : Prop :=
  ∃ (a : Option Addr) (cap : Nat), v = .slice a xs.length cap ∧ xs.length ≤ cap ∧ cap ≤ maxLen ∧ (a = none → xs.length = 0 ∧ cap = 0) ∧
    (xs.length = 0 ∨ ∃ b off, a = some ⟨b, off, none⟩ ∧ S b ∧ ∀ i x, xs[i]? = some x → ∃ u, w.cell? ⟨b, off + i, none⟩ = some u ∧ RestS S w x u)
def PRestS (S : Nat → Prop) (w : World) (ps : List (Int × List UInt8)) (v : Value) : Prop :=
  ∃ (a : Option Addr) (cap : Nat), v = .slice a ps.length cap ∧ ps.length ≤ cap ∧ cap ≤ maxLen ∧ (a = none → ps.length = 0 ∧ cap = 0) ∧
    (ps.length = 0 ∨ ∃ b off, a = some ⟨b, off, none⟩ ∧ S b ∧ ∀ i p, ps[i]? = some p → ∃ u, w.cell? ⟨b, off + i * 2, none⟩ = some (.int .i64 p.1) ∧ w.cell? ⟨b, off + i * 2 + 1, none⟩ = some u ∧ RestS S w p.2 u)
def DRestS (S : Nat → Prop) (w : World) (d : Dsk) (v : Value) : Prop := ∃ s p, v = dskOf s p d ∧ NRestS S w d.secs s ∧ PRestS S w d.pend p

/-- S, and what lies at n or beyond -/
def Ext (S : Nat → Prop) (n : Nat) : Nat → Prop := fun b => S b ∨ n ≤ b
/-- the blocks of S that lie below n -/
def Cut (S : Nat → Prop) (n : Nat) : Nat → Prop := fun b => S b ∧ b < n
/-- from w to w' the blocks of S stay -/
def KeepS (S : Nat → Prop) (w w' : World) : Prop := ∀ b, S b → b < w.heap.size → w'.heap[b]? = w.heap[b]?
theorem lt_of_cell {w : World} {b o : Nat} {v : Value} (h : w.cell? ⟨b, o, none⟩ = some v) : b < w.heap.size := World.block_lt_of_cell? w ⟨b, o, none⟩ h
theorem KeepS.cell {S : Nat → Prop} {w w' : World} (h : KeepS S w w') {b o : Nat} {v : Value} (hb : S b) (hc : w.cell? ⟨b, o, none⟩ = some v) : w'.cell? ⟨b, o, none⟩ = some v := by
  have := h b hb (lt_of_cell hc)
  unfold World.cell? at hc ⊢
  simp only at hc ⊢
  rw [this]; exact hc
theorem KeepS.of_below {S : Nat → Prop} {w w' : World} {n : Nat} (h : Below n w w') : KeepS (Cut S n) w w' := fun b hb _ => h.block b hb.2
theorem KeepS.trans {S : Nat → Prop} {a b c : World} (h : KeepS S a b) (hs : a.heap.size ≤ b.heap.size) (k : KeepS S b c) : KeepS S a c := fun i hi hl => (k i hi (by omega)).trans (h i hi hl)
theorem KeepS.far {S : Nat → Prop} {w w' : World} (g : Nat) (hg : ¬ S g) (h : ∀ b, b ≠ g → w'.heap[b]? = w.heap[b]?) : KeepS S w w' := fun b hb _ => h b (fun e => hg (e ▸ hb))
theorem KeepS.weak {S S' : Nat → Prop} {w w' : World} (h : KeepS S w w') (hs : ∀ b, S' b → S b) : KeepS S' w w' := fun b hb hl => h b (hs b hb) hl
theorem KeepS.setCell {S : Nat → Prop} (w : World) (g i : Nat) (v : Value) (hg : ¬ S g) : KeepS S w (w.setCell ⟨g, i, none⟩ v) := .far g hg fun b hb => heap_setCell_other w ⟨g, i, none⟩ b v hb
theorem KeepS.below {S : Nat → Prop} {w w' : World} (h : Below w.heap.size w w') : KeepS S w w' := fun b _ hl => h.block b hl

section
variable {S S' : Nat → Prop} {w w' : World} {v : Value}
theorem RestS.keep {xs} (h : RestS S w xs v) (hk : KeepS S w w') : RestS S w' xs v := by
  obtain ⟨a, cap, h1, h2, h3, h4, h5⟩ := h
  refine ⟨a, cap, h1, h2, h3, h4, ?_⟩
  rcases h5 with h0 | ⟨b, off, ha, hs, hc⟩
  · exact .inl h0
  · exact .inr ⟨b, off, ha, hs, fun i hi => hk.cell hs (hc i hi)⟩
/-- the set may be any that holds those blocks of it that there are -/
theorem RestS.weak {xs} (h : RestS S w xs v) (hs : ∀ b, S b → b < w.heap.size → S' b) : RestS S' w xs v := by
  obtain ⟨a, cap, h1, h2, h3, h4, h5⟩ := h
  refine ⟨a, cap, h1, h2, h3, h4, ?_⟩
  rcases Nat.eq_zero_or_pos xs.length with h0 | h0
  · exact .inl h0
  · rcases h5 with h5 | ⟨b, off, ha, hb, hc⟩
    · exact .inl h5
    · exact .inr ⟨b, off, ha, hs b hb (lt_of_cell (hc 0 h0)), hc⟩
theorem NRestS.keep {xs} (h : NRestS S w xs v) (hk : KeepS S w w') : NRestS S w' xs v := by
  obtain ⟨a, cap, h1, h2, h3, h4, h5⟩ := h
  refine ⟨a, cap, h1, h2, h3, h4, ?_⟩
  rcases h5 with h0 | ⟨b, off, ha, hs, hc⟩
  · exact .inl h0
  · refine .inr ⟨b, off, ha, hs, fun i x hi => ?_⟩
    obtain ⟨u, h6, h7⟩ := hc i x hi
    exact ⟨u, hk.cell hs h6, h7.keep hk⟩
theorem NRestS.weak {xs} (h : NRestS S w xs v) (hs : ∀ b, S b → b < w.heap.size → S' b) : NRestS S' w xs v := by
  obtain ⟨a, cap, h1, h2, h3, h4, h5⟩ := h
  refine ⟨a, cap, h1, h2, h3, h4, ?_⟩
  rcases Nat.eq_zero_or_pos xs.length with h0 | h0
  · exact .inl h0
  · rcases h5 with h5 | ⟨b, off, ha, hb, hc⟩
    · exact .inl h5
    · obtain ⟨u0, h6, _⟩ := hc 0 _ (List.getElem?_eq_getElem h0)
      refine .inr ⟨b, off, ha, hs b hb (lt_of_cell h6), fun i x hi => ?_⟩
      obtain ⟨u, h6, h7⟩ := hc i x hi
      exact ⟨u, h6, h7.weak hs⟩
theorem PRestS.keep {xs} (h : PRestS S w xs v) (hk : KeepS S w w') : PRestS S w' xs v := by
  obtain ⟨a, cap, h1, h2, h3, h4, h5⟩ := h
  refine ⟨a, cap, h1, h2, h3, h4, ?_⟩
  rcases h5 with h0 | ⟨b, off, ha, hs, hc⟩
  · exact .inl h0
  · refine .inr ⟨b, off, ha, hs, fun i x hi => ?_⟩
    obtain ⟨u, h6, h7, h8⟩ := hc i x hi
    exact ⟨u, hk.cell hs h6, hk.cell hs h7, h8.keep hk⟩
theorem PRestS.weak {xs} (h : PRestS S w xs v) (hs : ∀ b, S b → b < w.heap.size → S' b) : PRestS S' w xs v := by
  obtain ⟨a, cap, h1, h2, h3, h4, h5⟩ := h
  refine ⟨a, cap, h1, h2, h3, h4, ?_⟩
  rcases Nat.eq_zero_or_pos xs.length with h0 | h0
  · exact .inl h0
  · rcases h5 with h5 | ⟨b, off, ha, hb, hc⟩
    · exact .inl h5
    · obtain ⟨u0, h6, _⟩ := hc 0 _ (List.getElem?_eq_getElem h0)
      refine .inr ⟨b, off, ha, hs b hb (lt_of_cell h6), fun i x hi => ?_⟩
      obtain ⟨u, h6, h7, h8⟩ := hc i x hi
      exact ⟨u, h6, h7, h8.weak hs⟩
theorem DRestS.keep {d} (h : DRestS S w d v) (hk : KeepS S w w') : DRestS S w' d v := by
  obtain ⟨s, p, rfl, h1, h2⟩ := h; exact ⟨s, p, rfl, h1.keep hk, h2.keep hk⟩
theorem DRestS.weak {d} (h : DRestS S w d v) (hs : ∀ b, S b → b < w.heap.size → S' b) : DRestS S' w d v := by
  obtain ⟨s, p, rfl, h1, h2⟩ := h; exact ⟨s, p, rfl, h1.weak hs, h2.weak hs⟩
theorem RestS.rest {xs} (h : RestS S w xs v) : Rest w.heap.size w xs v := h.weak (S' := fun b => b < w.heap.size) fun _ _ h => h
theorem NRestS.rest {xs} (h : NRestS S w xs v) : NRest w.heap.size w xs v := h.weak (S' := fun b => b < w.heap.size) fun _ _ h => h
theorem PRestS.rest {xs} (h : PRestS S w xs v) : PRest w.heap.size w xs v := h.weak (S' := fun b => b < w.heap.size) fun _ _ h => h
theorem DRestS.rest {d} (h : DRestS S w d v) : DRest w.heap.size w d v := h.weak (S' := fun b => b < w.heap.size) fun _ _ h => h
theorem RestS.of {B : Nat} {xs} (h : Rest B w xs v) : RestS (fun b => b < B) w xs v := h
theorem NRestS.of {B : Nat} {xs} (h : NRest B w xs v) : NRestS (fun b => b < B) w xs v := h
theorem PRestS.of {B : Nat} {xs} (h : PRest B w xs v) : PRestS (fun b => b < B) w xs v := h
theorem DRestS.of {B : Nat} {d} (h : DRest B w d v) : DRestS (fun b => b < B) w d v := h
/-- what came in, later in the call -/
theorem RestS.later {xs} (h : RestS S w xs v) (hb : Below w.heap.size w w') : RestS (Cut S w.heap.size) w' xs v := (h.weak (S' := Cut S w.heap.size) fun b h1 h2 => ⟨h1, h2⟩).keep (.of_below hb)
theorem NRestS.later {xs} (h : NRestS S w xs v) (hb : Below w.heap.size w w') : NRestS (Cut S w.heap.size) w' xs v := (h.weak (S' := Cut S w.heap.size) fun b h1 h2 => ⟨h1, h2⟩).keep (.of_below hb)
theorem PRestS.later {xs} (h : PRestS S w xs v) (hb : Below w.heap.size w w') : PRestS (Cut S w.heap.size) w' xs v := (h.weak (S' := Cut S w.heap.size) fun b h1 h2 => ⟨h1, h2⟩).keep (.of_below hb)
theorem DRestS.later {d} (h : DRestS S w d v) (hb : Below w.heap.size w w') : DRestS (Cut S w.heap.size) w' d v := (h.weak (S' := Cut S w.heap.size) fun b h1 h2 => ⟨h1, h2⟩).keep (.of_below hb)
theorem nrests_nil (S : Nat → Prop) (w : World) : NRestS S w [] (.slice none 0 0) := ⟨none, 0, rfl, by simp, by simp [maxLen], fun _ => ⟨rfl, rfl⟩, .inl rfl⟩
theorem prests_nil (S : Nat → Prop) (w : World) : PRestS S w [] (.slice none 0 0) := ⟨none, 0, rfl, by simp, by simp [maxLen], fun _ => ⟨rfl, rfl⟩, .inl rfl⟩
theorem rests_nil (S : Nat → Prop) (w : World) : RestS S w [] (.slice none 0 0) := ⟨none, 0, rfl, by simp, by simp [maxLen], fun _ => ⟨rfl, rfl⟩, .inl rfl⟩
theorem rows_rest {g n : Nat} {xs : List UInt8} (h : Row w g 5 (cellsOf xs)) (hl : xs.length = n) (hn : n ≤ 1000000) (hg : S g) : RestS S w xs (.slice (some ⟨g, 0, none⟩) n n) :=
  ⟨some ⟨g, 0, none⟩, n, by rw [hl], by omega, by unfold maxLen; omega, (fun h => by cases h), .inr ⟨g, 0, rfl, hg, fun i hi => by rw [Nat.zero_add]; exact h.cell (cellsOf_get hi)⟩⟩
theorem ext_weak {n m : Nat} (h : m ≤ n) : ∀ b, Ext (Cut S m) n b → b < w.heap.size → Ext S m b := fun b hb _ => by
  rcases hb with hb | hb
  · exact .inl hb.1
  · exact .inr (by omega)
end
end Go.Proofs.Ytlaaolbdadempaa
