/- Read. -/
import Derived.Test.YtlaaolbdadempaaZe7
import Derived.Test.YtlaaolbdadempaaZe5
namespace Go.Proofs.Ytlaaolbdadempaa
open Go.RowKit Go.Shelf
attribute [local go_sem] Oper.semAt_some

theorem row_kept {W W' : World} {row : Option Nat} {g T : Nat} {cs : List Value} (h : Row W g T cs) (hg : W.grownBy W' row) (hrow : ∀ r, row = some r → ∃ o : Obj, W.heap[r]? = some o ∧ o.isCells = false) : Row W' g T cs := by
  refine (hg.block g h.lt (fun e => ?_)).trans h
  obtain ⟨o, ho, hc⟩ := hrow g e.symm
  rw [show W.heap[g]? = _ from h] at ho
  cases ho; cases hc
theorem Rest.keepAt {w W : World} {x : List UInt8} {u : Value} (h : Rest w.heap.size w x u) (hb : Below w.heap.size w W) : Rest W.heap.size W x u := (h.stays hb).mono hb.size
/-- what is read: the last write to the sector, or the sector -/
def ReadData (d : Dsk) (at' : Int) (data : List UInt8) : Prop :=
  ((∀ j, j < d.pend.length → (d.pend.getD j (0, [])).1 ≠ at') ∧ data = d.secs.getD at'.toNat []) ∨ ∃ j, j < d.pend.length ∧ (d.pend.getD j (0, [])).1 = at' ∧ (∀ i, j < i → i < d.pend.length → (d.pend.getD i (0, [])).1 ≠ at') ∧ data = (d.pend.getD j (0, [])).2
def ReadPost (d : Dsk) (at' : Int) (w : World) (e : Ending) (w' : World) : Prop :=
  ∃ g data, e = .returned (.tuple #[.slice (some ⟨g, 0, none⟩) 128 128, .int .i64 0]) ∧ Row w' g 5 (cellsOf (sectorL [data])) ∧ w.heap.size ≤ g ∧ Below w.heap.size w w' ∧ ReadData d at' data
theorem others_below {W W' : World} (h : Below W.heap.size W W') : KeepsOthers W W' := ⟨h.size, fun k o hk _ => (h.block k (Array.getElem?_eq_some_iff.1 hk).1).trans hk⟩
set_option maxRecDepth 100000 in
set_option maxHeartbeats 8000000 in
theorem read_loop (d : Dsk) (at' : Int) (v : Value) (w : World) (h : DRest w.heap.size w d v) (hr : runsB d = true) (hh : hasB d.secs.length at' = true) :
    Calls Try.prog 28 #[v, .int .i64 at'] w (ReadPost d at' w) := by
  obtain ⟨s, p, rfl, hs, hp⟩ := h
  have HS := Lib.hid hs
  have HP := Lib.hid hp
  have HV : Hid (∀ W, Below w.heap.size w W → Calls Try.prog 53 #[dskOf s p d] W fun e w' => e = .returned (.bool true) ∧ Below W.heap.size W w') := Lib.hid (fun W hW => by have := runs_call d _ W ⟨s, p, rfl, hs.keep hW, hp.keep hW⟩; rwa [show (validB d && !d.stop) = true from hr] at this)
  have HH : Hid (∀ W, Calls Try.prog 54 #[dskOf s p d, .int .i64 at'] W fun e w' => e = .returned (.bool true) ∧ Below W.heap.size W w') := Lib.hid (fun W => by have := has_call d _ at' _ W w ⟨s, p, rfl, hs, hp⟩; rwa [hh] at this)
  obtain ⟨a, cap, rfl, hc1, hc2⟩ := hs.shape
  obtain ⟨a2, cap2, rfl, hc3, hc4⟩ := hp.shape
  obtain ⟨n, hn⟩ : ∃ n, n = d.pend.length := ⟨_, rfl⟩
  have hex : ∀ j, ∃ (ua : Option Addr) (uc : Nat), Rest w.heap.size w (d.pend.getD j (0, [])).2 (.slice ua (d.pend.getD j (0, [])).2.length uc) ∧ uc ≤ 9223372036854775807 ∧ (j < n → ∀ W, Below w.heap.size w W → ∃ b off, a2 = some ⟨b, off, none⟩ ∧ b < w.heap.size ∧ W.cell? ⟨b, off + j * 2, none⟩ = some (.int .i64 (d.pend.getD j (0, [])).1) ∧ W.cell? ⟨b, off + j * 2 + 1, none⟩ = some (.slice ua (d.pend.getD j (0, [])).2.length uc)) := fun j => by
    by_cases hj : j < n
    · obtain ⟨p, hpj⟩ : ∃ p, d.pend[j]? = some p := ⟨_, List.getElem?_eq_getElem (by omega)⟩
      obtain ⟨b, off, u, ha, hb, hru, hc⟩ := hp.at hpj
      obtain ⟨ua, uc, rfl, hu1, hu2⟩ := hru.shape
      have hg : d.pend.getD j (0, []) = p := by simp [List.getD, hpj]
      rw [hg]
      exact ⟨ua, uc, hru, hu1, fun _ W hW => ⟨b, off, ha, hb, hc W hW⟩⟩
    · have hg : d.pend.getD j (0, []) = (0, []) := by simp [List.getD, List.getElem?_eq_none (show d.pend.length ≤ j by omega)]
      rw [hg]
      exact ⟨none, 0, rest_nil _ _, by omega, fun h => absurd h hj⟩
  obtain ⟨ua, hex⟩ := Classical.skolem.1 hex
  obtain ⟨uc, hex⟩ := Classical.skolem.1 hex
  obtain ⟨av, hav⟩ : ∃ av : Nat → Int, av = fun j => (d.pend.getD j (0, [])).1 := ⟨_, rfl⟩
  obtain ⟨dl, hdl⟩ : ∃ dl : Nat → List UInt8, dl = fun j => (d.pend.getD j (0, [])).2 := ⟨_, rfl⟩
  have hex2 : ∀ j, Rest w.heap.size w (dl j) (.slice (ua j) (dl j).length (uc j)) ∧ uc j ≤ 9223372036854775807 ∧ (j < n → ∀ W, Below w.heap.size w W → ∃ b off, a2 = some ⟨b, off, none⟩ ∧ b < w.heap.size ∧ W.cell? ⟨b, off + j * 2, none⟩ = some (.int .i64 (av j)) ∧ W.cell? ⟨b, off + j * 2 + 1, none⟩ = some (.slice (ua j) (dl j).length (uc j))) := by
    rw [hav, hdl]; exact hex
  clear hex
  have HWR : Hid (∀ W, Below w.heap.size w W → Wrs w.heap.size W (.slice a2 n cap2) n av (fun j => .slice (ua j) (dl j).length (uc j))) := Lib.hid (fun W hW => by
    refine ⟨⟨a2, cap2, rfl, hc3, by omega⟩, ?_⟩
    rcases Nat.eq_zero_or_pos n with h0 | h0
    · exact .inl h0
    · obtain ⟨b, off, ha, hb, _⟩ := (hex2 0).2.2 h0 W hW
      refine .inr ⟨b, off, cap2, by rw [ha], hb, fun j hj => ?_⟩
      obtain ⟨b', off', ha', hb', h1, h2⟩ := (hex2 j).2.2 hj W hW
      rw [ha] at ha'
      injection ha' with ha'
      injection ha' with e1 e2
      subst e1 e2
      exact ⟨h1, h2⟩)
  have HEL : Hid (∀ j, Rest w.heap.size w (dl j) (.slice (ua j) (dl j).length (uc j))) := Lib.hid (fun j => (hex2 j).1)
  have HAV := Lib.hid hav
  have HDL := Lib.hid hdl
  have HN := Lib.hid hn
  rw [← hn] at HP HV HH hc4 ⊢
  clear hs hp hex2 hav hdl hn
  unfold dskOf dskCells at *
  obtain ⟨W0, hW0⟩ : ∃ W0, W0 = (((w.alloc (.cells #[.slice a d.secs.length cap, .slice a2 n cap2, .int .i64 d.left, .bool d.stop] 25)).alloc (.cells #[.int .i64 at'] 3)).alloc (.cells #[.slice none 0 0] 35)).alloc (.cells #[.int .i64 0] 28) := ⟨_, rfl⟩
  have hB0 : Below w.heap.size w W0 := by
    rw [hW0]
    exact below_next (below_next (below_next (Joins.below_alloc1 w _) (Joins.below_alloc1 _ _)) (Joins.below_alloc1 _ _)) (Joins.below_alloc1 _ _)
  have hr0 : Row W0 w.heap.size 25 [.slice a d.secs.length cap, .slice a2 n cap2, .int .i64 d.left, .bool d.stop] := by
    rw [hW0]; exact (((row_new w 25 _).keep (Joins.below_alloc1 _ _)).keep (Joins.below_alloc1 _ _)).keep (Joins.below_alloc1 _ _)
  have hr1 : Row W0 (w.heap.size + 1) 3 [.int .i64 at'] := by
    have := ((row_new (w.alloc (.cells #[.slice a d.secs.length cap, .slice a2 n cap2, .int .i64 d.left, .bool d.stop] 25)) 3 [.int .i64 at']).keep (Joins.below_alloc1 _ (.cells #[.slice none 0 0] 35))).keep (Joins.below_alloc1 _ (.cells #[.int .i64 0] 28))
    rw [hW0]; rwa [World.size_alloc] at this
  have hr2 : Row W0 (w.heap.size + 1 + 1) 35 [.slice none 0 0] := by
    have := (row_new ((w.alloc (.cells #[.slice a d.secs.length cap, .slice a2 n cap2, .int .i64 d.left, .bool d.stop] 25)).alloc (.cells #[.int .i64 at'] 3)) 35 [.slice none 0 0]).keep (Joins.below_alloc1 _ (.cells #[.int .i64 0] 28))
    rw [hW0]; rwa [World.size_alloc, World.size_alloc] at this
  have hr3 : Row W0 (w.heap.size + 1 + 1 + 1) 28 [.int .i64 0] := by
    have := row_new (((w.alloc (.cells #[.slice a d.secs.length cap, .slice a2 n cap2, .int .i64 d.left, .bool d.stop] 25)).alloc (.cells #[.int .i64 at'] 3)).alloc (.cells #[.slice none 0 0] 35)) 28 [.int .i64 0]
    rw [hW0]; rwa [World.size_alloc, World.size_alloc, World.size_alloc] at this
  have c1 := hr1.cell (i := 0) rfl
  refine (callsIn_wide (n := 6)).1 ?_
  refine callsIn_of_wp_marks Try.func28 rfl trivial ?_ rfl
  simp only [Try.ntmps28, List.size_toArray, List.length_cons, List.length_nil, Nat.reduceAdd, Nat.reduceSub, Array.replicate_succ, Array.replicate_zero, List.push_toArray, List.append_toArray, List.nil_append, List.cons_append]
  gi_wp2
  refine ⟨trivial, ?_⟩
  rw [← hW0]
  refine (callsIn_wide.2 (HV.out W0 hB0)).mono ?_
  rintro e w1 ⟨rfl, hb1⟩
  have k0 := (hr0.keep hb1).cell (i := 0) rfl
  have k1 := (hr0.keep hb1).cell (i := 1) rfl
  have k2 := (hr0.keep hb1).cell (i := 2) rfl
  have k3 := (hr0.keep hb1).cell (i := 3) rfl
  have k4 := (hr1.keep hb1).cell (i := 0) rfl
  have HB1 := Lib.hid hb1
  have HW0 := Lib.hid hW0
  clear hb1 hW0 c1
  gi_wp2
  refine ⟨trivial, ?_⟩
  refine (callsIn_wide.2 (HH.out w1)).mono ?_
  rintro e w2 ⟨rfl, hb2⟩
  have HB2 := Lib.hid (below_next HB1.out hb2)
  have j1 := (hr0.keep HB2.out).cell (i := 1) rfl
  clear hb2 k0 k1 k2 k3 k4
  gi_wp2
  refine ⟨trivial, ?_⟩
  refine (back_in Fence.wide 5 trivial rfl a2 n cap2 w2).mono ?_
  rintro e w3 ⟨rfl, rfl⟩
  gi_wp2
  obtain ⟨W3, hW3⟩ : ∃ W3, W3 = w2.alloc (.cells #[.slice a2 n cap2] 23) := ⟨_, rfl⟩
  have hs3 : W3.heap.size = w2.heap.size + 1 := by rw [hW3]; simp
  have hc3' : W3.cell? ⟨w2.heap.size, 0, none⟩ = some (.slice a2 n cap2) := by rw [hW3]; exact (row_new w2 23 [.slice a2 n cap2]).cell (i := 0) rfl
  have hb23 : Below w2.heap.size w2 W3 := by rw [hW3]; exact Joins.below_alloc1 w2 _
  rw [← hW3]
  clear hW3
  have HB3 := Lib.hid (below_next (below_next hB0 HB2.out) hb23)
  have HR0 := Lib.hid ((hr0.keep HB2.out).keep hb23)
  have HR1 := Lib.hid ((hr1.keep HB2.out).keep hb23)
  have HR2 := Lib.hid ((hr2.keep HB2.out).keep hb23)
  have HR3 := Lib.hid ((hr3.keep HB2.out).keep hb23)
  have hsz3 : w.heap.size + 1 + 1 + 1 < W3.heap.size := HR3.out.lt
  clear hr0 hr1 hr2 hr3 hB0 j1 HB2 HB1 HW0
  refine wpIn_rangeFunc_ownH (F := Fence.wide) (n := 6) rfl (by omega) (gf := 78) (lb := #[.pointer (some ⟨w2.heap.size, 0, none⟩)]) rfl trivial (enters_of Try.func78 (by kernel_rfl) rfl)
    (back_stops Fence.wide 5 trivial rfl (by omega) w2.heap.size W3.heap.size n _ av (fun j => .slice (ua j) (dl j).length (uc j)) W3 (by omega) (Nat.le_refl _) hc3' (by
      have := HWR.out W3 HB3.out
      refine ⟨this.1, ?_⟩
      rcases this.2 with h0 | ⟨b, off, c, h1, h2, h3⟩
      · exact .inl h0
      · exact .inr ⟨b, off, c, h1, by have := HB3.out.size; omega, h3⟩)) belowK_t (belowK_b (Nat.le_refl _)) (Below.refl _ _) (fun _ => rfl)
    (fun pre W => (∀ x ∈ pre, av x ≠ at') ∧ Below W3.heap.size W3 W)
    (fun c pre W => (c = .ret ∧ ∃ ini x g, pre = ini ++ [x] ∧ (∀ y ∈ ini, av y ≠ at') ∧ av x = at' ∧ W.cell? ⟨w.heap.size + 1 + 1, 0, none⟩ = some (.slice (some ⟨g, 0, none⟩) 128 128) ∧ W.cell? ⟨w.heap.size + 1 + 1 + 1, 0, none⟩ = some (.int .i64 0) ∧ w.heap.size ≤ g ∧ Row W g 5 (cellsOf (sectorL [dl x]))) ∧ Below w.heap.size w W)
    (OwnFrom.and (ownFrom_pure _ _) (ownFrom_below (Nat.le_refl _) (Nat.le_refl _)))
    (fun c => OwnFrom.and (Own.from (fun s A B row hs hg hr => by
      obtain ⟨e0, ini, x, g, e1, e2, e3, e4, e5, e6, e7⟩ := hs
      exact ⟨e0, ini, x, g, e1, e2, e3, cell_kept e4 hg hr, cell_kept e5 hg hr, e6, row_kept e7 hg hr⟩) _) (ownFrom_below (Nat.le_refl _) (by omega)))
    ⟨by simp, Below.refl _ _⟩
    (fun x a' W => ∃ Bx, W3.heap.size ≤ Bx ∧ Row W Bx 76 [.int .i64 (av x), .slice (ua x) (dl x).length (uc x)] ∧ a' = { tmps := #[.agg #[.slice a d.secs.length cap, .slice a2 n cap2, .int .i64 d.left, .bool d.stop], .int .i64 at', .pointer (some ⟨w.heap.size, 0, none⟩), .pointer (some ⟨w.heap.size + 1, 0, none⟩), .pointer (some ⟨w.heap.size + 1 + 1, 0, none⟩), .pointer (some ⟨w.heap.size + 1 + 1 + 1, 0, none⟩), undef, .pointer (some ⟨Bx, 0, none⟩), .agg #[.slice a d.secs.length cap, .slice a2 n cap2, .int .i64 d.left, .bool d.stop], .bool true, .bool false, .bool false, .agg #[.slice a d.secs.length cap, .slice a2 n cap2, .int .i64 d.left, .bool d.stop], .int .i64 at', .bool true, .bool false, .bool false, .pointer (some ⟨w.heap.size, 1, none⟩), .slice a2 n cap2, .func (.func 78) #[] #[.pointer (some ⟨w2.heap.size, 0, none⟩)], .int .i64 (x : Int), .agg #[.int .i64 (av x), .slice (ua x) (dl x).length (uc x)], undef, undef, undef, undef, undef, undef, undef, undef, undef, undef, undef, undef, undef, undef, undef], defers := [] })
    (fun x a' _ X Y row hs hg hr => by obtain ⟨Bx, h1, h2, h3⟩ := hs; exact ⟨Bx, h1, row_kept h2 hg (fun r e => (hr r e).2), h3⟩)
    ?assign ?body ?done ?stop
  case assign =>
    rintro l pre x W K ⟨hp, hB⟩ hK
    unfold encW
    gi_wp2
    exact hK _ _ ((KeepsOthers.alloc _ _).from _) ((Below.refl _ W).alloc hB.size _) ⟨hp, hB.alloc hB.size _⟩ ⟨W.heap.size, hB.size, row_new W 76 _, rfl⟩
  case body =>
    rintro l pre x a' W hl hlr ⟨hp, hB⟩ ⟨Bx, hBx, bX, rfl⟩ hlt
    have x0 := bX.cell (i := 0) rfl
    have x1 := bX.cell (i := 1) rfl
    have y0 := (HR1.out.keep hB).cell (i := 0) rfl
    by_cases hx : av x = at'
    · have hRW : Rest W.heap.size W (dl x) (.slice (ua x) (dl x).length (uc x)) := (HEL.out x).keepAt (below_next HB3.out hB)
      have HRW := Lib.hid hRW
      clear hRW
      gi_wp2
      refine ⟨trivial, ?_⟩
      refine (CallsIn.inRound l (callsIn_wide.2 (sector_call [dl x] _ _ (nrest_one (W := W) HRW.out)))).mono ?_
      rintro e w4 ⟨g4, rfl, hg4, hrow4, hb4⟩
      have hb : Below W.heap.size W w4 := below_next (Joins.below_alloc1 W _) hb4
      have p2 := ((HR2.out.keep hB).keep hb).cell (i := 0) rfl
      have p3 := ((HR3.out.keep hB).keep hb).cell (i := 0) rfl
      have q2 := ((HR2.out.keep hB).keep hb).free 0
      have q3 := ((HR3.out.keep hB).keep hb).free 0
      have hW4 : W.heap.size ≤ w4.heap.size := hb.size
      have hg5 : W.heap.size < g4 := by simp at hg4; omega
      have hWs := hB.size
      gi_wp2
      have r2 := (((HR2.out.keep hB).keep hb).set (cs' := [.slice (some ⟨g4, 0, none⟩) 128 128]) 0 (.slice (some ⟨g4, 0, none⟩) 128 128) rfl).setFar (g' := w.heap.size + 1 + 1 + 1) 0 (.int .i64 0) (by omega)
      have r3 := (((HR3.out.keep hB).keep hb).setFar (g' := w.heap.size + 1 + 1) 0 (.slice (some ⟨g4, 0, none⟩) 128 128) (by omega)).set (cs' := [.int .i64 0]) 0 (.int .i64 0) rfl
      have r4 := (hrow4.setFar (g' := w.heap.size + 1 + 1) 0 (.slice (some ⟨g4, 0, none⟩) 128 128) (by omega)).setFar (g' := w.heap.size + 1 + 1 + 1) 0 (.int .i64 0) (by omega)
      exact ⟨((others_below hb).trans ((KeepsOthers.setCell _ _ _).trans (KeepsOthers.setCell _ _ _))).from _, ⟨rfl, pre, x, g4, rfl, hp, hx, r2.cell (i := 0) rfl, r3.cell (i := 0) rfl, by have := HB3.out.size; omega, r4⟩,
        below_setCell (below_setCell (below_next (below_next HB3.out hB) hb) _ 0 _ (by omega)) _ 0 _ (by omega)⟩
    · gi_wp2
      exact ⟨KeepsFrom.refl _ _, Below.refl _ _, ⟨fun y hy => (List.mem_append.1 hy).elim (hp y) (fun e => by simp at e; subst e; exact hx), hB⟩⟩
  case done =>
    rintro D ys W hD rfl ⟨hne, hB⟩ hK
    have b0 := (HR0.out.keep hB).cell (i := 0) rfl
    have b1 := (HR1.out.keep hB).cell (i := 0) rfl
    obtain ⟨k, hk, hkn⟩ : ∃ k : Nat, at' = k ∧ k < d.secs.length := by
      have := hh; unfold hasB at this; simp at this; exact ⟨at'.toNat, by omega, by omega⟩
    obtain ⟨x, hx⟩ : ∃ x, d.secs[k]? = some x := ⟨_, List.getElem?_eq_getElem hkn⟩
    obtain ⟨b, off, u, rfl, hbl, hru, hcell⟩ := HS.out.at hx
    obtain ⟨xa, xc, rfl, hu1, hu2⟩ := hru.shape
    have hcx := hcell W (below_next HB3.out hB)
    have HRW := Lib.hid (hru.keepAt (below_next HB3.out hB))
    have hki : (k : Int) < (d.secs.length : Int) := by omega
    have HDATA : Hid (ReadData d at' x) := Lib.hid (.inl ⟨fun j hj => by
      have := hne j (by simp only [down, List.mem_map, List.mem_range]; exact ⟨n - 1 - j, by have := HN.out; omega, by have := HN.out; omega⟩)
      rwa [HAV.out] at this, by rw [hk]; simp [List.getD, hx]⟩)
    subst hk
    clear hx hcell hru hne hh hr
    gi_wp2
    refine ⟨trivial, ?_⟩
    refine (callsIn_wide.2 (sector_call [x] _ _ (nrest_one (W := W) HRW.out))).mono ?_
    rintro e w4 ⟨g4, rfl, hg4, hrow4, hb4⟩
    have hb : Below W.heap.size W w4 := below_next (Joins.below_alloc1 W _) hb4
    have p2 := ((HR2.out.keep hB).keep hb).cell (i := 0) rfl
    have p3 := ((HR3.out.keep hB).keep hb).cell (i := 0) rfl
    have q2 := ((HR2.out.keep hB).keep hb).free 0
    have q3 := ((HR3.out.keep hB).keep hb).free 0
    have hW4 : W.heap.size ≤ w4.heap.size := hb.size
    have hg5 : W.heap.size < g4 := by simp at hg4; omega
    have hWs := hB.size
    gi_wp2
    have r2 := (((HR2.out.keep hB).keep hb).set (cs' := [.slice (some ⟨g4, 0, none⟩) 128 128]) 0 (.slice (some ⟨g4, 0, none⟩) 128 128) rfl).setFar (g' := w.heap.size + 1 + 1 + 1) 0 (.int .i64 0) (by omega)
    have r3 := (((HR3.out.keep hB).keep hb).setFar (g' := w.heap.size + 1 + 1) 0 (.slice (some ⟨g4, 0, none⟩) 128 128) (by omega)).set (cs' := [.int .i64 0]) 0 (.int .i64 0) rfl
    have r4 := (hrow4.setFar (g' := w.heap.size + 1 + 1) 0 (.slice (some ⟨g4, 0, none⟩) 128 128) (by omega)).setFar (g' := w.heap.size + 1 + 1 + 1) 0 (.int .i64 0) (by omega)
    have hb9 := below_setCell (below_setCell (below_next (below_next HB3.out hB) hb) (w.heap.size + 1 + 1) 0 (.slice (some ⟨g4, 0, none⟩) 128 128) (by omega)) (w.heap.size + 1 + 1 + 1) 0 (.int .i64 0) (by omega)
    have hK' := ((others_below hb).trans ((KeepsOthers.setCell _ ⟨w.heap.size + 1 + 1, 0, none⟩ (.slice (some ⟨g4, 0, none⟩) 128 128)).trans (KeepsOthers.setCell _ ⟨w.heap.size + 1 + 1 + 1, 0, none⟩ (.int .i64 0)))).same D _ hK rfl
    generalize (w4.setCell ⟨w.heap.size + 1 + 1, 0, none⟩ (.slice (some ⟨g4, 0, none⟩) 128 128)).setCell ⟨w.heap.size + 1 + 1 + 1, 0, none⟩ (.int .i64 0) = W5 at r2 r3 r4 hb9 hK' ⊢
    refine ⟨by simp, .inl ⟨_, _, rfl, run_takeDeferred hK', ?_⟩⟩
    have s2 := (row_kept r2 (grownBy_putObj' W5 D (.deferred none)) (fun r e => by cases e; exact ⟨_, hK', rfl⟩)).cell (i := 0) rfl
    have s3 := (row_kept r3 (grownBy_putObj' W5 D (.deferred none)) (fun r e => by cases e; exact ⟨_, hK', rfl⟩)).cell (i := 0) rfl
    refine ⟨.tuple #[.slice (some ⟨g4, 0, none⟩) 128 128, .int .i64 0], by simp [results, Try.results28, go_sem, s2, s3], g4, x, rfl, row_kept r4 (grownBy_putObj' W5 D (.deferred none)) (fun r e => by cases e; exact ⟨_, hK', rfl⟩), by have := HB3.out.size; omega, hb9.trans (belowK_b (w := w) (Nat.le_refl _) W5 D _ _ (by have := HB3.out.size; omega) hK' rfl rfl), HDATA.out⟩
  case stop =>
    rintro D c pre W hD ⟨k, hk, rfl⟩ ⟨⟨rfl, ini, x, g, e1, e2, e3, e4, e5, e6, e7⟩, hB⟩ hK
    obtain ⟨k', rfl⟩ : ∃ k', k = k' + 1 := by
      cases k with
      | zero => simp [down] at e1
      | succ k' => exact ⟨k', rfl⟩
    rw [down_succ] at e1
    obtain ⟨rfl, e8⟩ := List.append_inj' e1 rfl
    obtain rfl : n - 1 - k' = x := by simpa using e8
    have HDATA : Hid (ReadData d at' (dl (n - 1 - k'))) := Lib.hid (.inr ⟨n - 1 - k', by have := HN.out; omega, by rw [← e3, HAV.out], fun i hi1 hi2 => by
      have := e2 i (by simp only [down, List.mem_map, List.mem_range]; exact ⟨n - 1 - i, by have := HN.out; omega, by have := HN.out; omega⟩)
      rwa [HAV.out] at this, by rw [HDL.out]⟩)
    clear e1 e2 e3 e8 hh hr
    gi_wp2
    refine ⟨by simp, .inl ⟨_, _, rfl, run_takeDeferred hK, ?_⟩⟩
    have s2 := cell_kept e4 (grownBy_putObj' W D (.deferred none)) (fun r e => by cases e; exact ⟨_, hK, rfl⟩)
    have s3 := cell_kept e5 (grownBy_putObj' W D (.deferred none)) (fun r e => by cases e; exact ⟨_, hK, rfl⟩)
    refine ⟨.tuple #[.slice (some ⟨g, 0, none⟩) 128 128, .int .i64 0], by simp [results, Try.results28, go_sem, s2, s3], g, _, rfl, row_kept e7 (grownBy_putObj' W D (.deferred none)) (fun r e => by cases e; exact ⟨_, hK, rfl⟩), e6, hB.trans (belowK_b (w := w) (Nat.le_refl _) W D _ _ (by have := HB3.out.size; omega) hK rfl rfl), HDATA.out⟩
end Go.Proofs.Ytlaaolbdadempaa

/- Read, whole. -/
namespace Go.Proofs.Ytlaaolbdadempaa
open Go.RowKit

def RefuseRead (w : World) (e : Ending) (w' : World) : Prop := e = .returned (.tuple #[.slice none 0 0, .int .i64 40]) ∧ Below w.heap.size w w'
theorem results_two {fn : Func} {p q : Tmp} (h : fn.results = #[.cell p 35, .cell q 28]) (tmps : Array Value) (w : World) (a b : Addr) (x y : Value) (hp : tmps.getD p undef = .pointer (some a)) (hq : tmps.getD q undef = .pointer (some b)) (hx : w.cell? a = some x) (hy : w.cell? b = some y) :
    (results fn tmps).run Try.prog w = .ok (.tuple #[x, y]) w := by
  have hp' : tmps[p]?.getD undef = .pointer (some a) := by simpa using hp
  have hq' : tmps[q]?.getD undef = .pointer (some b) := by simpa using hq
  simp [results, h, go_sem, hp', hq', hx, hy]
set_option maxRecDepth 100000 in
set_option maxHeartbeats 8000000 in
theorem read_refuse (d : Dsk) (at' : Int) (v : Value) (w : World) (h : DRest w.heap.size w d v) (hno : runsB d = false ∨ hasB d.secs.length at' = false) :
    Calls Try.prog 28 #[v, .int .i64 at'] w (RefuseRead w) := by
  obtain ⟨s, p, rfl, hs, hp⟩ := h
  have HV : Hid (∀ W, Below w.heap.size w W → Calls Try.prog 53 #[dskOf s p d] W fun e w' => e = .returned (.bool (runsB d)) ∧ Below W.heap.size W w') := Lib.hid (fun W hW => runs_call d _ W ⟨s, p, rfl, hs.keep hW, hp.keep hW⟩)
  have HH : Hid (∀ W, Calls Try.prog 54 #[dskOf s p d, .int .i64 at'] W fun e w' => e = .returned (.bool (hasB d.secs.length at')) ∧ Below W.heap.size W w') := Lib.hid (fun W => has_call d _ at' _ W w ⟨s, p, rfl, hs, hp⟩)
  obtain ⟨a, cap, rfl, hc1, hc2⟩ := hs.shape
  obtain ⟨a2, cap2, rfl, hc3, hc4⟩ := hp.shape
  clear hs hp
  obtain ⟨r, hr⟩ : ∃ r, r = runsB d := ⟨_, rfl⟩
  obtain ⟨r2, hr2⟩ : ∃ r, r = hasB d.secs.length at' := ⟨_, rfl⟩
  rw [← hr] at HV hno
  rw [← hr2] at HH hno
  clear hr hr2
  unfold dskOf dskCells at *
  obtain ⟨W0, hW0⟩ : ∃ W0, W0 = (((w.alloc (.cells #[.slice a d.secs.length cap, .slice a2 d.pend.length cap2, .int .i64 d.left, .bool d.stop] 25)).alloc (.cells #[.int .i64 at'] 3)).alloc (.cells #[.slice none 0 0] 35)).alloc (.cells #[.int .i64 0] 28) := ⟨_, rfl⟩
  have hB0 : Below w.heap.size w W0 := by
    rw [hW0]
    exact below_next (below_next (below_next (Joins.below_alloc1 w _) (Joins.below_alloc1 _ _)) (Joins.below_alloc1 _ _)) (Joins.below_alloc1 _ _)
  have hr0 : Row W0 w.heap.size 25 [.slice a d.secs.length cap, .slice a2 d.pend.length cap2, .int .i64 d.left, .bool d.stop] := by
    rw [hW0]; exact (((row_new w 25 _).keep (Joins.below_alloc1 _ _)).keep (Joins.below_alloc1 _ _)).keep (Joins.below_alloc1 _ _)
  have hr1 : Row W0 (w.heap.size + 1) 3 [.int .i64 at'] := by
    have := ((row_new (w.alloc (.cells #[.slice a d.secs.length cap, .slice a2 d.pend.length cap2, .int .i64 d.left, .bool d.stop] 25)) 3 [.int .i64 at']).keep (Joins.below_alloc1 _ (.cells #[.slice none 0 0] 35))).keep (Joins.below_alloc1 _ (.cells #[.int .i64 0] 28))
    rw [hW0]; rwa [World.size_alloc] at this
  have hr2 : Row W0 (w.heap.size + 1 + 1) 35 [.slice none 0 0] := by
    have := (row_new ((w.alloc (.cells #[.slice a d.secs.length cap, .slice a2 d.pend.length cap2, .int .i64 d.left, .bool d.stop] 25)).alloc (.cells #[.int .i64 at'] 3)) 35 [.slice none 0 0]).keep (Joins.below_alloc1 _ (.cells #[.int .i64 0] 28))
    rw [hW0]; rwa [World.size_alloc, World.size_alloc] at this
  have hr3 : Row W0 (w.heap.size + 1 + 1 + 1) 28 [.int .i64 0] := by
    have := row_new (((w.alloc (.cells #[.slice a d.secs.length cap, .slice a2 d.pend.length cap2, .int .i64 d.left, .bool d.stop] 25)).alloc (.cells #[.int .i64 at'] 3)).alloc (.cells #[.slice none 0 0] 35)) 28 [.int .i64 0]
    rw [hW0]; rwa [World.size_alloc, World.size_alloc, World.size_alloc] at this
  have HFIN : Hid (∀ W, Below w.heap.size w W → Row W (w.heap.size + 1 + 1) 35 [.slice none 0 0] → Row W (w.heap.size + 1 + 1 + 1) 28 [.int .i64 0] →
      Below w.heap.size w ((W.setCell ⟨w.heap.size + 1 + 1, 0, none⟩ (.slice none 0 0)).setCell ⟨w.heap.size + 1 + 1 + 1, 0, none⟩ (.int .i64 40)) ∧
      ((W.setCell ⟨w.heap.size + 1 + 1, 0, none⟩ (.slice none 0 0)).setCell ⟨w.heap.size + 1 + 1 + 1, 0, none⟩ (.int .i64 40)).cell? ⟨w.heap.size + 1 + 1, 0, none⟩ = some (.slice none 0 0) ∧
      ((W.setCell ⟨w.heap.size + 1 + 1, 0, none⟩ (.slice none 0 0)).setCell ⟨w.heap.size + 1 + 1 + 1, 0, none⟩ (.int .i64 40)).cell? ⟨w.heap.size + 1 + 1 + 1, 0, none⟩ = some (.int .i64 40)) := Lib.hid (fun W hW k2 k3 =>
    ⟨below_setCell (below_setCell hW _ 0 _ (by omega)) _ 0 _ (by omega), ((k2.set (cs' := [.slice none 0 0]) 0 (.slice none 0 0) rfl).setFar 0 _ (by omega)).cell (i := 0) rfl, ((k3.setFar (g' := w.heap.size + 1 + 1) 0 _ (by omega)).set (cs' := [.int .i64 40]) 0 (.int .i64 40) rfl).cell (i := 0) rfl⟩)
  cases r
  · go_enter Try.func28, Try.ntmps28
    go_wp2_with fail
    rw [← hW0]
    refine (HV.out W0 hB0).mono ?_
    rintro e w1 ⟨rfl, hb1⟩
    have k2 := hr2.keep hb1
    have k3 := hr3.keep hb1
    have p2 := k2.cell (i := 0) rfl
    have p3 := k3.cell (i := 0) rfl
    have q2 := k2.free 0
    have q3 := k3.free 0
    obtain ⟨m1, m2, m3⟩ := HFIN.out w1 (below_next hB0 hb1) k2 k3
    clear hW0 hr0 hr1 hr2 hr3 hB0 hb1 k2 k3
    have M1 := Lib.hid m1
    have M2 := Lib.hid m2
    have M3 := Lib.hid m3
    clear m1 m2 m3
    go_wp2_with fail
    exact bodyPost_ret (results_two Try.results28 _ _ _ _ _ _ rfl rfl M2.out M3.out) rfl ⟨rfl, M1.out⟩
  · have h2 : r2 = false := by simpa using hno
    subst h2
    go_enter Try.func28, Try.ntmps28
    go_wp2_with fail
    rw [← hW0]
    refine (HV.out W0 hB0).mono ?_
    rintro e w1 ⟨rfl, hb1⟩
    have k0 := (hr0.keep hb1).cell (i := 0) rfl
    have k1 := (hr0.keep hb1).cell (i := 1) rfl
    have k2' := (hr0.keep hb1).cell (i := 2) rfl
    have k3' := (hr0.keep hb1).cell (i := 3) rfl
    have k4 := (hr1.keep hb1).cell (i := 0) rfl
    go_wp2_with fail
    refine (HH.out w1).mono ?_
    rintro e w2 ⟨rfl, hb2⟩
    have k2 := (hr2.keep hb1).keep hb2
    have k3 := (hr3.keep hb1).keep hb2
    have p2 := k2.cell (i := 0) rfl
    have p3 := k3.cell (i := 0) rfl
    have q2 := k2.free 0
    have q3 := k3.free 0
    obtain ⟨m1, m2, m3⟩ := HFIN.out w2 (below_next (below_next hB0 hb1) hb2) k2 k3
    have M1 := Lib.hid m1
    have M2 := Lib.hid m2
    have M3 := Lib.hid m3
    clear hW0 hr0 hr1 hr2 hr3 hB0 hb1 k2 k3 m1 m2 m3 k0 k1 k2' k3' k4
    go_wp2_with fail
    exact bodyPost_ret (results_two Try.results28 _ _ _ _ _ _ rfl rfl M2.out M3.out) rfl ⟨rfl, M1.out⟩
end Go.Proofs.Ytlaaolbdadempaa

/- The reference's Check. -/
namespace Go.Proofs.Ytlaaolbdadempaa
open Go.RowKit

def limitsB (d : Dsk) : Bool := decide (1 ≤ d.secs.length) && (decide (d.secs.length ≤ 4096) && (decide (d.pend.length ≤ 4096) && (decide (-1 ≤ d.left) && decide (d.left ≤ 65536))))
theorem valid_parts (d : Dsk) : validB d = (limitsB d && (!anyDam d.secs && !anyWrong d.secs.length d.pend)) := by
  unfold validB limitsB
  cases decide (1 ≤ d.secs.length) <;> cases decide (d.secs.length ≤ 4096) <;> cases decide (d.pend.length ≤ 4096) <;> cases decide (-1 ≤ d.left) <;> cases decide (d.left ≤ 65536) <;> cases anyDam d.secs <;> cases anyWrong d.secs.length d.pend <;> rfl
set_option maxHeartbeats 4000000 in
set_option maxRecDepth 100000 in
theorem refcheck_call (d : Dsk) (v : Value) (w : World) (h : DRest w.heap.size w d v) :
    Calls Try.prog 23 #[v] w fun e w' => e = .returned (.int .i64 (if validB d then 0 else 40)) ∧ Below w.heap.size w w' := by
  rw [valid_parts]
  obtain ⟨s, p, rfl, hs, hp⟩ := h
  have HR0 := Lib.hid (row_new w 25 (dskCells s p d))
  have HS := Lib.hid hs
  have HP := Lib.hid hp
  obtain ⟨a, cap, rfl, hc1, hc2⟩ := hs.shape
  obtain ⟨a2, cap2, rfl, hc3, hc4⟩ := hp.shape
  clear hs hp
  unfold limitsB anyDam anyWrong
  unfold dskOf dskCells at *
  obtain ⟨xs, ps, left, stop⟩ := d
  simp only at HR0 HS HP hc2 hc4 ⊢
  obtain ⟨n, hn⟩ : ∃ n, n = xs.length := ⟨_, rfl⟩
  obtain ⟨m, hm⟩ : ∃ m, m = ps.length := ⟨_, rfl⟩
  rw [← hn] at HR0 HS hc2 ⊢
  rw [← hm] at HR0 HP hc4 ⊢
  have HN := Lib.hid hn
  have HM := Lib.hid hm
  clear hn hm
  by_cases h1 : 1 ≤ n
  · have i1 : ¬ (n : Int) < 1 := by omega
    rw [decide_eq_true h1, Bool.true_and]
    by_cases h2 : n ≤ 4096
    · have i2 : ¬ (4096 : Int) < (n : Int) := by omega
      rw [decide_eq_true h2, Bool.true_and]
      by_cases h3 : m ≤ 4096
      · have i3 : ¬ (4096 : Int) < (m : Int) := by omega
        rw [decide_eq_true h3, Bool.true_and]
        by_cases h4 : -1 ≤ left
        · have i4 : ¬ left < -1 := by omega
          rw [decide_eq_true h4, Bool.true_and]
          by_cases h5 : left ≤ 65536
          · have i5 : ¬ 65536 < left := by omega
            rw [decide_eq_true h5, Bool.true_and]
            generalize hR : (if ((!xs.any fun x => damB x.length) && !ps.any (wrongW n)) = true then (0 : Int) else 40) = R
            have HRES := Lib.hid hR
            clear hR
            go_enter Try.func23, Try.ntmps23
            go_wp2_with fail
            have HB0 := Lib.hid (Joins.below_alloc1 w (.cells #[.slice a n cap, .slice a2 m cap2, .int .i64 left, .bool stop] 25))
            generalize hW : w.alloc (.cells _ 25) = W1 at HR0 HB0
            have HW := Lib.hid hW
            try rw [hW]
            clear hW
            go_loopw [4] (fun s4 wr => IxHead (fun x => damB x.length) xs W1 s4 wr) (fun s4 _ => n - (intOf s4).toNat)
            case atStart => exact ⟨0, Nat.zero_le _, rfl, rfl, by first | exact Below.refl _ _ | (rw [HW.out]; exact Below.refl _ _)⟩
            case round =>
              obtain ⟨k, hk, rfl, hany, hb⟩ := hrel
              rw [← HN.out] at hk
              have HB := Lib.hid hb
              have HA := Lib.hid hany
              have c0 := HR0.out.later hb (i := 0) rfl
              have c1 := HR0.out.later hb (i := 1) rfl
              clear hb hany
              rcases Nat.lt_or_ge k n with hlt | hge
              · obtain ⟨x, hx⟩ : ∃ x, xs[k]? = some x := ⟨_, List.getElem?_eq_getElem (by rw [← HN.out]; exact hlt)⟩
                obtain ⟨b, off, u, rfl, hbl, hru, hcell⟩ := HS.out.at hx
                have hcu := hcell wr (below_next HB0.out HB.out)
                obtain ⟨ua, uc, rfl, hu1, hu2⟩ := hru.shape
                have HST := Lib.hid (any_step (p := fun x => damB x.length) hx)
                have hkn : (k : Int) < (n : Int) := by omega
                have hk0 : (0 : Int) ≤ (k : Int) := by omega
                obtain ⟨l, hl⟩ : ∃ l, l = x.length := ⟨_, rfl⟩
                rw [← hl] at hcu HST
                clear hru hcell hx hl hu1 hu2
                by_cases h128 : l = 128
                · have e1 : ((l : Int) != 128) = false := by simp; omega
                  have HD : Hid (damB l = false) := Lib.hid (by simp [damB, h128])
                  clear h128
                  go_wp2_with fail
                  exact ⟨⟨k + 1, by rw [← HN.out]; omega, by go_num, by rw [HA.out, HST.out, HD.out, Bool.false_or], HB.out⟩, by simp [intOf]; omega⟩
                · have e1 : ((l : Int) != 128) = true := by simp; omega
                  have HD : Hid (damB l = true) := Lib.hid (by simp [damB, h128])
                  clear h128
                  go_wp2_with fail
                  go_ret
                  exact ⟨ret_int (by rw [← HRES.out, HA.out, HST.out, HD.out]; rfl), below_next HB0.out HB.out⟩
              · obtain rfl : k = n := by omega
                have HAF : Hid ((xs.any fun x => damB x.length) = false) := Lib.hid (by rw [HA.out, HN.out, List.drop_length]; rfl)
                obtain ⟨W2, rfl⟩ : ∃ W2, W2 = wr := ⟨wr, rfl⟩
                go_wp2_with fail
                go_loopw [5] (fun s5 wr => IxHead (wrongW k) ps W2 s5 wr) (fun s5 _ => m - (intOf s5).toNat)
                case atStart => exact ⟨0, Nat.zero_le _, rfl, rfl, Below.refl _ _⟩
                case round =>
                  obtain ⟨j, hj, rfl, hany, hb2⟩ := hrel
                  rw [← HM.out] at hj
                  have HB2 := Lib.hid (below_next HB.out hb2)
                  have HB3 := Lib.hid hb2
                  have HA2 := Lib.hid hany
                  have c0 := HR0.out.later HB2.out (i := 0) rfl
                  have c1 := HR0.out.later HB2.out (i := 1) rfl
                  clear hb2 hany
                  rcases Nat.lt_or_ge j m with hlt | hge2
                  · obtain ⟨x, hx⟩ : ∃ x, ps[j]? = some x := ⟨_, List.getElem?_eq_getElem (by rw [← HM.out]; exact hlt)⟩
                    obtain ⟨b, off, u, rfl, hbl, hru, hcell⟩ := HP.out.at hx
                    have HC := Lib.hid (hcell wr (below_next HB0.out HB2.out))
                    obtain ⟨ua, uc, rfl, hu1, hu2⟩ := hru.shape
                    have HST := Lib.hid (any_step (p := wrongW k) hx)
                    have hjm : (j : Int) < (m : Int) := by omega
                    have hj0 : (0 : Int) ≤ (j : Int) := by omega
                    obtain ⟨at', data⟩ := x
                    simp only at HC hu2 HST
                    obtain ⟨l, hl⟩ : ∃ l, l = data.length := ⟨_, rfl⟩
                    rw [← hl] at HC hu2
                    have HWR : Hid (wrongW k (at', data) = (decide (at' < 0) || (decide ((k : Int) ≤ at') || decide (l ≠ 128)))) := Lib.hid (by
                      unfold wrongW hasB damB
                      rw [← hl, Bool.eq_iff_iff]; simp; omega)
                    clear hru hcell hx hl hu1 hu2
                    by_cases ha : at' < 0
                    · have HD : Hid (wrongW k (at', data) = true) := Lib.hid (by rw [HWR.out]; simp [ha])
                      go_wp2_with (refine wpList_load_wr rfl (.tmp 54) rfl b (off + j * 2) at' (.slice ua l uc) rfl HC.out ?_; unfold wrOf)
                      go_ret
                      exact ⟨ret_int (by rw [← HRES.out, HAF.out, HA2.out, HST.out, HD.out]; rfl), below_next (below_next HB0.out HB2.out) (Joins.below_alloc1 _ _)⟩
                    · by_cases hb : (k : Int) ≤ at'
                      · have HD : Hid (wrongW k (at', data) = true) := Lib.hid (by rw [HWR.out]; simp [hb])
                        go_wp2_with (refine wpList_load_wr rfl (.tmp 54) rfl b (off + j * 2) at' (.slice ua l uc) rfl HC.out ?_; unfold wrOf)
                        go_ret
                        exact ⟨ret_int (by rw [← HRES.out, HAF.out, HA2.out, HST.out, HD.out]; rfl), below_next (below_next HB0.out HB2.out) (Joins.below_alloc1 _ _)⟩
                      · by_cases h128 : l = 128
                        · have e1 : ((l : Int) != 128) = false := by simp; omega
                          have HD : Hid (wrongW k (at', data) = false) := Lib.hid (by rw [HWR.out]; simp [ha, hb, h128])
                          clear h128
                          go_wp2_with (refine wpList_load_wr rfl (.tmp 54) rfl b (off + j * 2) at' (.slice ua l uc) rfl HC.out ?_; unfold wrOf)
                          exact ⟨⟨j + 1, by rw [← HM.out]; omega, by go_num, by rw [HA2.out, HST.out, HD.out, Bool.false_or], below_next HB3.out (Joins.below_alloc1 _ _)⟩, by simp [intOf]; omega⟩
                        · have e1 : ((l : Int) != 128) = true := by simp; omega
                          have HD : Hid (wrongW k (at', data) = true) := Lib.hid (by rw [HWR.out]; simp [h128])
                          clear h128
                          go_wp2_with (refine wpList_load_wr rfl (.tmp 54) rfl b (off + j * 2) at' (.slice ua l uc) rfl HC.out ?_; unfold wrOf)
                          go_ret
                          exact ⟨ret_int (by rw [← HRES.out, HAF.out, HA2.out, HST.out, HD.out]; rfl), below_next (below_next HB0.out HB2.out) (Joins.below_alloc1 _ _)⟩
                  · obtain rfl : j = m := by omega
                    go_wp2_with fail
                    go_ret
                    exact ⟨ret_int (by rw [← HRES.out, HAF.out, HA2.out, HM.out, List.drop_length]; rfl), below_next HB0.out HB2.out⟩
          · have i5 : 65536 < left := by omega
            rw [decide_eq_false h5, Bool.false_and]
            go_enter Try.func23, Try.ntmps23
            go_wp2_with fail
            go_ret
            exact ⟨rfl, Joins.below_alloc1 w _⟩
        · have i4 : left < -1 := by omega
          rw [decide_eq_false h4, Bool.false_and, Bool.false_and]
          go_enter Try.func23, Try.ntmps23
          go_wp2_with fail
          go_ret
          exact ⟨rfl, Joins.below_alloc1 w _⟩
      · have i3 : (4096 : Int) < (m : Int) := by omega
        rw [decide_eq_false h3, Bool.false_and, Bool.false_and]
        go_enter Try.func23, Try.ntmps23
        go_wp2_with fail
        go_ret
        exact ⟨rfl, Joins.below_alloc1 w _⟩
    · have i2 : (4096 : Int) < (n : Int) := by omega
      rw [decide_eq_false h2, Bool.false_and, Bool.false_and]
      go_enter Try.func23, Try.ntmps23
      go_wp2_with fail
      go_ret
      exact ⟨rfl, Joins.below_alloc1 w _⟩
  · have i1 : (n : Int) < 1 := by omega
    rw [decide_eq_false h1, Bool.false_and, Bool.false_and]
    go_enter Try.func23, Try.ntmps23
    go_wp2_with fail
    go_ret
    exact ⟨rfl, Joins.below_alloc1 w _⟩
end Go.Proofs.Ytlaaolbdadempaa

/- The reference's Restart and Stop. -/
namespace Go.Proofs.Ytlaaolbdadempaa
open Go.RowKit

set_option maxHeartbeats 2000000 in
set_option maxRecDepth 100000 in
theorem refrestart_call (S : Nat → Prop) (d : Dsk) (v : Value) (w : World) (h : DRestS S w d v) :
    Calls Try.prog 25 #[v] w fun e w' => ∃ v', e = .returned v' ∧ DRestS (Ext S w.heap.size) w' (restartD d) v' ∧ Below w.heap.size w w' := by
  obtain ⟨s, p, rfl, hs, hp⟩ := h
  have HS := Lib.hid hs
  obtain ⟨a, cap, rfl, hc1, hc2⟩ := hs.rest.shape
  obtain ⟨a2, cap2, rfl, hc3, hc4⟩ := hp.rest.shape
  clear hs hp
  unfold dskOf dskCells
  go_enter Try.func25, Try.ntmps25
  go_wp2_with fail
  refine bodyPost_ret (v := .agg #[.slice a d.secs.length cap, .slice none 0 0, .int .i64 (-1), .bool false]) (by simp [results, Try.results25, go_sem]) rfl ⟨_, rfl, ?_, below_two w _ _⟩
  exact ⟨_, _, rfl, (HS.out.later (below_two w _ _)).weak (fun b h _ => .inl h.1), prests_nil _ _⟩
set_option maxHeartbeats 4000000 in
set_option maxRecDepth 100000 in
theorem refstop_call (S : Nat → Prop) (d : Dsk) (v : Value) (left : Int) (w : World) (h : DRestS S w d v) :
    Calls Try.prog 33 #[v, .int .i64 left] w (AnswersS S w (stopD d left)) := by
  obtain ⟨s, p, rfl, hs, hp⟩ := h
  have HS := Lib.hid hs
  have HP := Lib.hid hp
  have HV : Hid (∀ W, Below w.heap.size w W → Calls Try.prog 23 #[dskOf s p d] W fun e w' => e = .returned (.int .i64 (if validB d then 0 else 40)) ∧ Below W.heap.size W w') := Lib.hid (fun W hW => refcheck_call d _ W ⟨s, p, rfl, hs.rest.keep hW, hp.rest.keep hW⟩)
  obtain ⟨a, cap, rfl, hc1, hc2⟩ := hs.rest.shape
  obtain ⟨a2, cap2, rfl, hc3, hc4⟩ := hp.rest.shape
  clear hs hp
  unfold stopD runsB
  obtain ⟨r, hr⟩ : ∃ r, r = validB d := ⟨_, rfl⟩
  rw [← hr] at HV ⊢
  clear hr
  unfold dskOf dskCells at *
  obtain ⟨stp, hstp⟩ : ∃ b, b = d.stop := ⟨_, rfl⟩
  rw [← hstp] at HV ⊢
  clear hstp
  have HRB : Hid (Row ((w.alloc (.cells #[.slice a d.secs.length cap, .slice a2 d.pend.length cap2, .int .i64 d.left, .bool stp] 25)).alloc (.cells #[.slice none 0 0, .slice none 0 0, .int .i64 0, .bool false] 25)) w.heap.size 25 [.slice a d.secs.length cap, .slice a2 d.pend.length cap2, .int .i64 d.left, .bool stp]) := Lib.hid ((row_new w 25 _).keep (Joins.below_alloc1 _ _))
  have HRR := Lib.hid (row_new (w.alloc (.cells #[.slice a d.secs.length cap, .slice a2 d.pend.length cap2, .int .i64 d.left, .bool stp] 25)) 25 [.slice none 0 0, .slice none 0 0, .int .i64 0, .bool false])
  have HB0 := Lib.hid (below_two w (.cells #[.slice a d.secs.length cap, .slice a2 d.pend.length cap2, .int .i64 d.left, .bool stp] 25) (.cells #[.slice none 0 0, .slice none 0 0, .int .i64 0, .bool false] 25))
  rw [World.size_alloc] at HRR
  cases r
  · rw [Bool.false_and, if_neg (by decide)]
    rw [if_neg (by decide)] at HV
    go_enter Try.func33, Try.ntmps33
    go_wp2_with fail
    refine (HV.out _ HB0.out).mono ?_
    rintro e w2 ⟨rfl, hb⟩
    have HB := Lib.hid (below_next HB0.out hb)
    have HR2 := Lib.hid (HRR.out.keep hb)
    have HR1 := Lib.hid (HRB.out.keep hb)
    have hc2 := HR1.out.cell (i := 2) rfl
    have hf2 := HR1.out.free 2
    have hc3 := HR1.out.cell (i := 3) rfl
    clear hb HRB HRR HB0
    go_wp2_with (refine wpList_store_ag rfl 25 (.tmp 4) (.tmp 13) rfl (w.heap.size + 1) [.slice none 0 0, .slice none 0 0, .int .i64 0, .bool false] _ size25 (by rfl) rfl rfl HR2.out (by rfl) HB.out (by omega) ?_; intro w3 hr hb hf)
    exact bodyPost_ret (results_dsk Try.results33 _ w3 (w.heap.size + 1) _ rfl rfl _ rfl hr) rfl ⟨_, rfl, drests_zero _ _, hb⟩
  · rw [if_pos rfl] at HV
    cases stp
    · rw [Bool.true_and, Bool.not_false, if_pos rfl]
      by_cases hl : left < 0
      · rw [if_pos (.inl hl)]
        go_enter Try.func33, Try.ntmps33
        go_wp2_with fail
        refine (HV.out _ HB0.out).mono ?_
        rintro e w2 ⟨rfl, hb⟩
        have HB := Lib.hid (below_next HB0.out hb)
        have HR2 := Lib.hid (HRR.out.keep hb)
        have HR1 := Lib.hid (HRB.out.keep hb)
        have hc2 := HR1.out.cell (i := 2) rfl
        have hf2 := HR1.out.free 2
        have hc3 := HR1.out.cell (i := 3) rfl
        clear hb HRB HRR HB0
        go_wp2_with (refine wpList_store_ag rfl 25 (.tmp 4) (.tmp 20) rfl (w.heap.size + 1) [.slice none 0 0, .slice none 0 0, .int .i64 0, .bool false] _ size25 (by rfl) rfl rfl HR2.out (by rfl) HB.out (by omega) ?_; intro w3 hr hb hf)
        exact bodyPost_ret (results_dsk Try.results33 _ w3 (w.heap.size + 1) _ rfl rfl _ rfl hr) rfl ⟨_, rfl, drests_zero _ _, hb⟩
      · by_cases hl2 : 65536 < left
        · rw [if_pos (.inr hl2)]
          go_enter Try.func33, Try.ntmps33
          go_wp2_with fail
          refine (HV.out _ HB0.out).mono ?_
          rintro e w2 ⟨rfl, hb⟩
          have HB := Lib.hid (below_next HB0.out hb)
          have HR2 := Lib.hid (HRR.out.keep hb)
          have HR1 := Lib.hid (HRB.out.keep hb)
          have hc2 := HR1.out.cell (i := 2) rfl
          have hf2 := HR1.out.free 2
          have hc3 := HR1.out.cell (i := 3) rfl
          clear hb HRB HRR HB0
          go_wp2_with (refine wpList_store_ag rfl 25 (.tmp 4) (.tmp 20) rfl (w.heap.size + 1) [.slice none 0 0, .slice none 0 0, .int .i64 0, .bool false] _ size25 (by rfl) rfl rfl HR2.out (by rfl) HB.out (by omega) ?_; intro w3 hr hb hf)
          exact bodyPost_ret (results_dsk Try.results33 _ w3 (w.heap.size + 1) _ rfl rfl _ rfl hr) rfl ⟨_, rfl, drests_zero _ _, hb⟩
        · rw [if_neg (by omega)]
          go_enter Try.func33, Try.ntmps33
          go_wp2_with fail
          refine (HV.out _ HB0.out).mono ?_
          rintro e w2 ⟨rfl, hb⟩
          have HB := Lib.hid (below_next HB0.out hb)
          have HR2 := Lib.hid (HRR.out.keep hb)
          have HR1 := Lib.hid (HRB.out.keep hb)
          have hc2 := HR1.out.cell (i := 2) rfl
          have hf2 := HR1.out.free 2
          have hc3 := HR1.out.cell (i := 3) rfl
          clear hb HRB HRR HB0
          have HRX := Lib.hid (HR1.out.set (cs' := [.slice a d.secs.length cap, .slice a2 d.pend.length cap2, .int .i64 left, .bool false]) 2 (.int .i64 left) rfl)
          have HRY := Lib.hid (HR2.out.setFar (g' := w.heap.size) 2 (.int .i64 left) (by omega))
          have HBX := Lib.hid (below_setCell HB.out w.heap.size 2 (.int .i64 left) (Nat.le_refl _))
          go_wp2_with (first
            | (refine wpList_load_dsk rfl (.tmp 2) rfl w.heap.size _ (by rfl) rfl HRX.out ?_)
            | (refine wpList_store_ag rfl 25 (.tmp 4) (.tmp 23) rfl (w.heap.size + 1) [.slice a d.secs.length cap, .slice a2 d.pend.length cap2, .int .i64 left, .bool false] _ size25 (by rfl) rfl rfl HRY.out (by rfl) HBX.out (by omega) ?_; intro w3 hr hb hf))
          exact bodyPost_ret (results_dsk Try.results33 _ w3 (w.heap.size + 1) _ rfl rfl _ rfl hr) rfl ⟨_, rfl, ⟨_, _, rfl, (HS.out.later hb).weak (fun b h _ => .inl h.1), (HP.out.later hb).weak (fun b h _ => .inl h.1)⟩, hb⟩
    · rw [Bool.true_and, Bool.not_true, if_neg (by decide)]
      go_enter Try.func33, Try.ntmps33
      go_wp2_with fail
      refine (HV.out _ HB0.out).mono ?_
      rintro e w2 ⟨rfl, hb⟩
      have HB := Lib.hid (below_next HB0.out hb)
      have HR2 := Lib.hid (HRR.out.keep hb)
      have HR1 := Lib.hid (HRB.out.keep hb)
      have hc2 := HR1.out.cell (i := 2) rfl
      have hf2 := HR1.out.free 2
      have hc3 := HR1.out.cell (i := 3) rfl
      clear hb HRB HRR HB0
      go_wp2_with (refine wpList_store_ag rfl 25 (.tmp 4) (.tmp 13) rfl (w.heap.size + 1) [.slice none 0 0, .slice none 0 0, .int .i64 0, .bool false] _ size25 (by rfl) rfl rfl HR2.out (by rfl) HB.out (by omega) ?_; intro w3 hr hb hf)
      exact bodyPost_ret (results_dsk Try.results33 _ w3 (w.heap.size + 1) _ rfl rfl _ rfl hr) rfl ⟨_, rfl, drests_zero _ _, hb⟩
end Go.Proofs.Ytlaaolbdadempaa
