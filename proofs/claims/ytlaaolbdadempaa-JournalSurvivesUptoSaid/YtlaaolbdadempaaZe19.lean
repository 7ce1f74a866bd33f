/- The records collected: the library's functions. -/
import Derived.Maps.AppendAt
import Derived.Laws.AppendOwnNone
import Derived.Test.YtlaaolbdadempaaZe18
import Derived.Test.YtlaaolbdadempaaZe11
import Derived.Test.YtlaaolbdadempaaZe15
import Derived.Test.YtlaaolbdadempaaZe5
namespace Go.Proofs.Ytlaaolbdadempaa
open Go.RowKit Go.Shelf
attribute [local go_sem] Oper.semAt_some

theorem told_own (C n₀ : Nat) (x : Yl) : OwnFrom C (fun (_ : Unit) W => ToldY n₀ x W) := fun _ _ _ _ hs hg hr => ⟨Buf.grown hs.1 hg (fun r e => (hr r e).2), hs.2⟩
/-- the values of what has come -/
def valsY (pre : List Yl) : List Value := pre.map (·.2)
theorem told_all_own (C n₀ : Nat) : OwnFrom C (fun (pre : List Yl) W => ∀ x ∈ pre, ToldY n₀ x W) := fun _ _ _ _ hs hg hr x hx => ⟨Buf.grown (hs x hx).1 hg (fun r e => (hr r e).2), (hs x hx).2⟩
theorem bufs_apart {W : World} {y v : Value} {ys : List UInt8} {base k : Nat} {us : List Value} (hy : Buf W y ys) (hv : W.ownsRow base 35 1 v k us) : y.ownBlock = none ∨ y.ownBlock ≠ v.ownBlock := by
  rcases hy.2 with ⟨rfl, _⟩ | ⟨g, cap, cur, rfl, _, hg, _⟩
  · exact .inl rfl
  · refine .inr (fun e => ?_)
    rcases hv.2 with ⟨rfl, _⟩ | ⟨g2, cap2, cur2, rfl, _, hg2, _⟩
    · cases e
    · injection e with e
      subst e
      rw [hg] at hg2
      injection hg2 with hg2
      injection hg2 with _ h2
      cases h2
theorem hgrow_size {W w1 : World} {tmp : Obj} {o : Option Nat} {b : Nat} {v : Value} (h : (W.alloc tmp).grownBy w1 o) : W.heap.size ≤ (w1.setCell ⟨b, 0, none⟩ v).heap.size := by
  have := h.size; simp at this ⊢; omega
theorem nrests_put {S : Nat → Prop} {W : World} {xs : List (List UInt8)} {v : Value} {D : Nat} {o : Obj} (h : NRestS S W xs v) (hD : W.heap[D]? = some o) (ho : o.isCells = false := by rfl) : NRestS S (W.putObj D (.deferred none)) xs v := by
  have hb : ∀ b off (u : Value), W.cell? ⟨b, off, none⟩ = some u → (W.putObj D (.deferred none)).cell? ⟨b, off, none⟩ = some u := fun b off u hc =>
    cell_kept hc (grownBy_putObj' W D (.deferred none)) (fun r e => by cases e; exact ⟨_, hD, ho⟩)
  obtain ⟨a, cap, h1, h2, h3, h4, h5⟩ := h
  refine ⟨a, cap, h1, h2, h3, h4, ?_⟩
  rcases h5 with h0 | ⟨b, off, ha, hs, hc⟩
  · exact .inl h0
  · refine .inr ⟨b, off, ha, hs, fun i x hi => ?_⟩
    obtain ⟨u, h6, a2, cap2, k1, k2, k3, k4, k5⟩ := hc i x hi
    refine ⟨u, hb _ _ _ h6, a2, cap2, k1, k2, k3, k4, ?_⟩
    rcases k5 with k0 | ⟨b2, off2, k6, k7, k8⟩
    · exact .inl k0
    · exact .inr ⟨b2, off2, k6, k7, fun j hj => hb _ _ _ (k8 j hj)⟩
/-- a round that appends leaves what was handed over before -/
theorem told_step {W w1 : World} {n₀ base b0 k : Nat} {y v v' : Value} {ys : List UInt8} {us : List Value} {tmp : Obj} (h : Buf W y ys ∧ ∀ g, y.ownBlock = some g → n₀ ≤ g) (hrow : W.ownsRow base 35 1 v k us) (hgrow : (W.alloc tmp).grownBy w1 v.ownBlock) (hb : b0 < n₀) :
    Buf (w1.setCell ⟨b0, 0, none⟩ v') y ys ∧ ∀ g, y.ownBlock = some g → n₀ ≤ g := by
  have h1 : Buf (W.alloc tmp) y ys := buf_stays h.1 (Joins.below_alloc1 W tmp)
  have h2 : Buf w1 y ys := World.ownsRow.kept h1 hgrow (bufs_apart h1 (hrow.alloc tmp))
  exact ⟨buf_far h2 b0 0 v' (fun k hk => by have := h.2 k hk; omega), h.2⟩
/-- what was collected, as a list of byte slices -/
theorem got_nrests {n₀ base : Nat} {W : World} {v : Value} {secs : List (List UInt8)} {xs : List Yl} (hg : Got secs xs) (ho : W.ownsRow base 35 1 v xs.length (valsY xs)) (hb : n₀ ≤ base) (ht : ∀ x ∈ xs, ToldY n₀ x W) :
    NRestS (fun b => n₀ ≤ b) W (recsL secs) v := by
  have hl : xs.length = (recsL secs).length := by rw [← hg, List.length_map]
  refine nrests_of_owns ho hl (by unfold valsY; rw [List.length_map, hl]) (fun g h => Nat.le_trans hb (ho.lt g h).1) (fun i x u hx hu => ?_)
  rw [← hg, List.getElem?_map, Option.map_eq_some_iff] at hx
  unfold valsY at hu
  rw [List.getElem?_map, Option.map_eq_some_iff] at hu
  obtain ⟨y, hy, rfl⟩ := hx
  obtain ⟨z, hz, rfl⟩ := hu
  rw [hy] at hz; cases hz
  exact rests_of_buf (ht y (List.mem_of_getElem? hy)).1 (ht y (List.mem_of_getElem? hy)).2
theorem buf_one {W : World} {xs : List UInt8} {v : Value} (h : Buf W v xs) : v.oneCell' = true := by
  obtain ⟨a, c, rfl⟩ := buf_len h; rfl
theorem owns_grown {W W' : World} {row : Option Nat} {base k : Nat} {v : Value} {us : List Value} (h : W.ownsRow base 35 1 v k us) (hg : W.grownBy W' row) (hrow : ∀ r, row = some r → ∃ o : Obj, W.heap[r]? = some o ∧ o.isCells = false) : W'.ownsRow base 35 1 v k us := by
  refine World.ownsRow.kept h hg ?_
  rcases h.2 with ⟨rfl, _⟩ | ⟨g, cap, cur, rfl, _, hgb, _⟩
  · exact .inl rfl
  · refine .inr (fun e => ?_)
    obtain ⟨o, ho, hc⟩ := hrow g e.symm
    rw [hgb] at ho; cases ho; cases hc
set_option maxRecDepth 100000 in
set_option maxHeartbeats 4000000 in
theorem appendSeq_call (Bs : Nat) (secs : List (List UInt8)) (sv : Value) (w : World) (hBs : w.cell? ⟨Bs, 0, none⟩ = some sv) (h : NRest w.heap.size w secs sv) (hl : ∀ x ∈ secs, x.length = 128) (hn : secs.length ≤ 4096) :
    Calls Try.prog 99 #[.slice none 0 0, .func (.func 80) #[] #[.pointer (some ⟨Bs, 0, none⟩)]] w fun e w' => ∃ v, e = .returned v ∧ NRestS (fun b => w.heap.size ≤ b) w' (recsL secs) v ∧ Below w.heap.size w w' := by
  have hBl : Bs < w.heap.size := lt_of_cell hBs
  refine (callsIn_wide (n := 6)).1 ?_
  refine callsIn_of_wp_marks Try.func99 rfl trivial ?_ rfl
  simp only [Try.ntmps99, List.size_toArray, List.length_cons, List.length_nil, Nat.reduceAdd, Nat.reduceSub, Array.replicate_succ, Array.replicate_zero, List.push_toArray, List.append_toArray, List.nil_append, List.cons_append]
  gi_wp2
  obtain ⟨i0, hi, hz0, hz1, hz2⟩ := info_parts Try.info35
  obtain ⟨W0, hW0⟩ : ∃ W0, W0 = w.alloc (.cells #[.slice none 0 0] 22) := ⟨_, rfl⟩
  have hsz : W0.heap.size = w.heap.size + 1 := by rw [hW0]; simp
  have hB0 : Below w.heap.size w W0 := by rw [hW0]; exact Joins.below_alloc1 w _
  have bx0 : Boxed W0 w.heap.size 22 (.slice none 0 0) := by rw [hW0]; exact row_new w 22 [.slice none 0 0]
  rw [← hW0]
  clear hW0
  refine range_told (F := Fence.wide) (n := 6) rfl (by omega) (gf := 80) (lb := #[.pointer (some ⟨Bs, 0, none⟩)]) rfl trivial (enters_of Try.func80 (by kernel_rfl) rfl)
    (encs := encY) (T := ToldY W0.heap.size) (fun x => told_own _ _ x) (B := fun b => b < w.heap.size) (fun b hb => by omega) (S := Got secs) (N := secs.length)
    (fun W hW => records_tells 5 (by omega) Bs W0.heap.size (fun b => b < w.heap.size) secs sv W hBl (fun b hb => by have := hW.size; omega) ((hW.cell (p := ⟨Bs, 0, none⟩) (by simp; omega)).trans ((hB0.cell (p := ⟨Bs, 0, none⟩) hBl).trans hBs)) ((h.stays hB0).stays (hW.mono (by omega))) hl hn hW.size) (fun _ => rfl)
    (fun pre W => (∃ v, Boxed W w.heap.size 22 v ∧ W.ownsRow w.heap.size 35 1 v pre.length (valsY pre)) ∧ (∀ x ∈ pre, ToldY W0.heap.size x W) ∧ Below w.heap.size w W)
    ?own ⟨⟨_, bx0, World.ownsRow_nil _ _ _ _⟩, (fun x hx => by cases hx), hB0⟩
    (fun x => { tmps := #[.slice none 0 0, .func (.func 80) #[] #[.pointer (some ⟨Bs, 0, none⟩)], .pointer (some ⟨w.heap.size, 0, none⟩), undef, .slice none 0 0, x.2, .func (.func 80) #[] #[.pointer (some ⟨Bs, 0, none⟩)], x.2, undef, undef, undef, undef, undef], defers := [] }) ?assign ?body ?done
  case own =>
    intro pre A B row hs hg hr
    obtain ⟨⟨v, h1, h2⟩, h3, h4⟩ := hs
    have hnc : ∀ r, row = some r → ∃ o : Obj, A.heap[r]? = some o ∧ o.isCells = false := fun r e => (hr r e).2
    refine ⟨⟨v, boxed_own (β := Unit) _ _ (fun _ => v) () A B row h1 hg hnc, owns_grown h2 hg hnc⟩, told_all_own W0.heap.size W0.heap.size pre A B row h3 hg hr, ownFrom_below (Nat.le_refl _) (by omega) pre A B row h4 hg hr⟩
  case assign =>
    intro l x W K hK
    unfold encY
    gi_wp2
    exact hK
  case body =>
    rintro l pre x W ⟨⟨v, hv, hrow⟩, hall, hB⟩ ht hlen
    have hc0 := hv.cell
    have hf0 := hv.frozen
    obtain ⟨xb, xv⟩ := x
    obtain ⟨xa, xc, hxv⟩ := buf_len ht.1
    obtain ⟨xn, hxn⟩ : ∃ xn, xn = xb.length := ⟨_, rfl⟩
    simp only at hxv
    rw [← hxn] at hxv
    subst hxv
    clear hxn
    dsimp only
    gi_wp2_with (gi_at_builtin; refine wpListIn_append_own _ rfl (.tmp 8) (.tmp 10) 22 rfl w.heap.size 35 i0 _ 1 24 Try.underlying22 hi hz0 hz1 hz2 rfl (by decide) v pre.length (valsY pre) rfl (hrow.alloc _) ⟨W.heap.size, 0, none⟩ 1 1 [.slice xa xn xc] rfl rfl (cell_one_new _ _ _) (by intro u hu; simp at hu; subst hu; rfl) (by unfold maxLen; omega) (by omega) (by have := hB.size; simp; omega) ?_; intro v' w1 hown' hgrow _; obtain ⟨g', cap', rfl⟩ := ownsRow_succ hown'; obtain ⟨hv1, hv2, hr2, hk2, hb2⟩ := hv.appended (by decide) hrow hB.size (Nat.le_refl _) hown' hgrow; have hc1 := hv1.cell; have hf1 := hv1.frozen)
    refine ⟨hk2.from _, ⟨by have := hb2.size; exact hgrow_size hgrow, fun b hb _ => hb2.block b hb⟩, ⟨_, hv2, ?_⟩, ?_, hB.trans hb2⟩
    · have e : (pre ++ [((xb, .slice xa xn xc) : Yl)]).length = pre.length + 1 := by simp
      rw [e, show valsY (pre ++ [((xb, .slice xa xn xc) : Yl)]) = valsY pre ++ [.slice xa xn xc] by simp [valsY]]; exact hr2
    · intro y hy
      rcases List.mem_append.1 hy with hy | hy
      · exact told_step (hall y hy) hrow hgrow (by omega)
      · simp at hy; subst hy
        exact told_step ht hrow hgrow (by omega)
  case done =>
    rintro D ys W hD hg ⟨⟨v, hv, hrow⟩, hall, hB⟩ hK
    have hc0 := hv.cell
    have hn := got_nrests hg hrow (n₀ := w.heap.size) (Nat.le_refl _) (fun x hx => ⟨(hall x hx).1, fun g h => by have := (hall x hx).2 g h; omega⟩)
    gi_wp2
    refine ⟨by simp, .inl ⟨_, _, rfl, run_takeDeferred hK, ?_⟩⟩
    exact ⟨_, results_tmp rfl _ _ _, v, rfl, nrests_put hn hK, hB.trans (belowK_b (w := w) (Nat.le_refl _) W D _ _ (by omega) hK rfl rfl)⟩
end Go.Proofs.Ytlaaolbdadempaa

/- The examples of the chapter, reckoned. -/
namespace Go.Proofs.Ytlaaolbdadempaa
open Go.RowKit

def sD2 : Dsk := ⟨[zeros, zeros], [], -1, false⟩
def sDW : Dsk := ⟨[zeros, zeros], [(1, sectorL [[7]])], -1, false⟩
def sDS : Dsk := ⟨[zeros, zeros], [(1, sectorL [[7]])], 1, false⟩
def sDT : Dsk := ⟨[zeros, zeros], [(1, sectorL [[7]]), (0, sectorL [dbl 8])], 1, false⟩
def sX : Dsk := haltD sDT 1 (0, sectorL [dbl 8])
def sR : Dsk := restartD sX
def sQ : Dsk := restartD sDW
theorem new0 : newD 0 = (zeroD, 1) := by kernel_rfl
theorem new2 : newD 2 = (sD2, 0) := by kernel_rfl
theorem fw1 : writeD sD2 1 [7] = (sDW, 0) := by kernel_rfl
theorem fw2 : writeD sD2 0 (List.replicate 129 0) = (zeroD, 1) := by kernel_rfl
theorem st1 : stopD sDW 1 = (sDS, 0) := by kernel_rfl
theorem fw3 : writeD sDS 0 (dbl 8) = (sDT, 0) := by kernel_rfl
theorem sy1 : syncD sDT = (sX, 40) := by kernel_rfl
theorem runsW : runsB sDW = true ∧ hasB sDW.secs.length 1 = true := ⟨by kernel_rfl, by kernel_rfl⟩
theorem hasn : hasB sD2.secs.length 2 = false := by kernel_rfl
theorem runsR : runsB sR = true ∧ hasB sR.secs.length 1 = true ∧ hasB sR.secs.length 0 = true := ⟨by kernel_rfl, by kernel_rfl, by kernel_rfl⟩
theorem runsQ : runsB sQ = true ∧ hasB sQ.secs.length 1 = true := ⟨by kernel_rfl, by kernel_rfl⟩
theorem rdW : (sectorL [readF sDW 1])[0]? = some 7 := by kernel_rfl
theorem rdR1 : (sectorL [readF sR 1])[0]? = some 7 := by kernel_rfl
theorem rdR0 : (sectorL [readF sR 0])[0]? = some 8 ∧ (sectorL [readF sR 0])[64]? = some 0 := ⟨by kernel_rfl, by kernel_rfl⟩
theorem rdQ : (sectorL [readF sQ 1])[0]? = some 0 := by kernel_rfl
theorem stX : sX.stop = true := by kernel_rfl
theorem valz : validB zeroD = false := by kernel_rfl
theorem mk_bytes (n : Nat) (hn : n ≤ 100000) (W : World) : (Instr.makeSlice 35 (.int .i64 (n : Int)) (.int .i64 (n : Int))).run Try.prog W = .ok (.slice (some ⟨W.heap.size, 0, none⟩) n n) (W.alloc (.cells (cellsOf (List.replicate n 0)).toArray 5)) := by
  obtain ⟨i0, hi, hz0, hz1, hz2⟩ := info_parts Try.info5
  have hr := run_makeSlice (P := Try.prog) W 35 5 i0 (.int .u8 0) Try.underlying35 hi hz0 .i64 .i64 (n : Int) (n : Int) (by omega) (by omega) (by rw [hz1, Int.toNat_natCast]; omega) (by rw [hz2]; omega) (by omega)
  rw [hz1, Int.toNat_natCast, made_bytes] at hr
  exact hr
theorem cutB {F : Value → Value → Option Addr → Nat → Nat → Option Addr → Nat → Nat → Int → Bool → World → Prop} (G : Value → Value → Option Addr → Nat → Nat → Option Addr → Nat → Nat → Int → Bool → World → Prop) {R : Prop} (rest : (∀ a b c d e f g h i j k, F a b c d e f g h i j k → G a b c d e f g h i j k) → R) (kk : ∀ a b c d e f g h i j k, F a b c d e f g h i j k → G a b c d e f g h i j k) : R := rest kk
def zbox : List Value := [.slice none 0 0, .slice none 0 0, .int .i64 0, .bool false]
theorem box_first {w w' : World} {o : Obj} (hb : Below ((w.alloc (.cells #[.slice none 0 0, .slice none 0 0, .int .i64 0, .bool false] 25)).alloc o).drew.heap.size ((w.alloc (.cells #[.slice none 0 0, .slice none 0 0, .int .i64 0, .bool false] 25)).alloc o).drew w') : Row w' w.heap.size 25 [.slice none 0 0, .slice none 0 0, .int .i64 0, .bool false] :=
  ((row_new w 25 [.slice none 0 0, .slice none 0 0, .int .i64 0, .bool false]).keep (Joins.below_alloc1 _ o)).keep (below_undrew hb)
theorem box_second {w w' : World} {o : Obj} (hb : Below ((w.alloc o).alloc (.cells #[.slice none 0 0, .slice none 0 0, .int .i64 0, .bool false] 25)).drew.heap.size ((w.alloc o).alloc (.cells #[.slice none 0 0, .slice none 0 0, .int .i64 0, .bool false] 25)).drew w') : Row w' (w.heap.size + 1) 25 [.slice none 0 0, .slice none 0 0, .int .i64 0, .bool false] := by
  have := (row_new (w.alloc o) 25 [.slice none 0 0, .slice none 0 0, .int .i64 0, .bool false]).keep (below_undrew hb)
  rwa [World.size_alloc] at this
theorem slices_of {B : Nat} {w : World} {d : Dsk} {s p : Value} {l : Int} {b : Bool} (h : DRest B w d (dv s p l b)) : (∃ a n c, s = .slice a n c) ∧ ∃ a n c, p = .slice a n c := by
  obtain ⟨_, _, ⟨a, c, rfl⟩, ⟨a2, c2, rfl⟩⟩ := drest_left h
  exact ⟨⟨_, _, _, rfl⟩, ⟨_, _, _, rfl⟩⟩
theorem fld2 (s p : Value) (l : Int) (b : Bool) (w : World) : Sem.run Try.prog (Instr.field 25 (Value.agg #[s, p, Value.int IntKind.i64 l, Value.bool b]) 2) w = .ok (.int .i64 l) w := by kernel_rfl
/-- a byte of what was read -/
theorem read_cell {w : World} {g : Nat} {L : List UInt8} {i : Nat} {c : UInt8} (h : Row w g 5 (cellsOf L)) (hi : L[i]? = some c) : w.cell? ⟨g, i, none⟩ = some (.int .u8 (c.toNat : Int)) := h.cell (by simp [cellsOf, hi])
end Go.Proofs.Ytlaaolbdadempaa

/- The examples of the chapter hold. -/
namespace Go.Proofs.Ytlaaolbdadempaa
open Go.RowKit

set_option maxHeartbeats 8000000 in
set_option maxRecDepth 100000 in
theorem sane_call (w : World) : Calls Try.prog 17 #[] w fun e w' => e = .returned (.bool true) ∧ Below w.heap.size w w' := by
  have HB := Lib.hid (Below.refl w.heap.size w)
  go_enter Try.func17, Try.ntmps17
  go_wp2_with fail
  refine (new_law 0 new0).mono ?_
  rintro e w0 ⟨s0, p0, l0, b0, rfl, hd, hb⟩
  have HB := Lib.hid (below_next HB.out hb)
  have HD0 := Lib.hid hd
  clear hd hb
  unfold dv at *
  go_wp2_with (first
    | (refine wpList_store_ags rfl _ _ _ rfl w0.heap.size [s0, p0, .int .i64 l0, .bool b0] _ size25 (by rfl) rfl rfl (row_new w0 25 _) (one_all HD0.out) (Joins.below_alloc1 w0 _) (Nat.le_refl _) ?_; intro v0 hr hb _; have HB := Lib.hid (below_next HB.out hb); have HX0 := Lib.hid (Box.new HD0.out hr hb); clear hr hb))
  refine (new_law 2 new2).mono ?_
  rintro e w1 ⟨s1, p1, l1, b1, rfl, hd, hb⟩
  have HB := Lib.hid (below_next HB.out hb)
  have HD1 := Lib.hid hd
  clear hd hb
  unfold dv at *
  go_wp2_with (first
    | (refine wpList_store_ags rfl _ _ _ rfl w1.heap.size [s1, p1, .int .i64 l1, .bool b1] _ size25 (by rfl) rfl rfl (row_new w1 25 _) (one_all HD1.out) (Joins.below_alloc1 w1 _) (Nat.le_refl _) ?_; intro v1 hr hb _; have HB := Lib.hid (below_next HB.out hb); have HX1 := Lib.hid (Box.new HD1.out hr hb); clear hr hb)
    | (refine wpList_load_dsk rfl _ rfl _ _ (by rfl) rfl HX1.out.row ?_))
  obtain ⟨W3, hW3⟩ : ∃ W3, W3 = v1.alloc (.cells #[.int .u8 7] 5) := ⟨_, rfl⟩
  have hba : Below v1.heap.size v1 W3 := by rw [hW3]; exact Joins.below_alloc1 v1 _
  have hrow : Row W3 v1.heap.size 5 (cellsOf [7]) := by rw [hW3]; exact row_new v1 5 _
  rw [← hW3]
  have HB := Lib.hid (below_next HB.out hba)
  replace HX1 := Lib.hid (HX1.out.keep hba)
  have HROW := Lib.hid (row_rest hrow (n := 1) rfl (by omega))
  clear hW3 hba hrow
  refine (write_law HX1.out.drest 1 HROW.out fw1).mono ?_
  rintro e w2 ⟨s2, p2, l2, b2, rfl, hd, hb⟩
  have HB := Lib.hid (below_next HB.out hb)
  replace HX1 := Lib.hid (HX1.out.keep hb)
  have HD2 := Lib.hid hd
  clear hd hb
  unfold dv at *
  go_wp2_with (first
    | (refine wpList_store_ags rfl _ _ _ rfl w2.heap.size [s2, p2, .int .i64 l2, .bool b2] _ size25 (by rfl) rfl rfl (row_new w2 25 _) (one_all HD2.out) (Joins.below_alloc1 w2 _) (Nat.le_refl _) ?_; intro v2 hr hb _; have HB := Lib.hid (below_next HB.out hb); replace HX1 := Lib.hid (HX1.out.keep hb); have HX2 := Lib.hid (Box.new HD2.out hr hb); clear hr hb)
    | (refine wpList_load_dsk rfl _ rfl _ _ (by rfl) rfl HX2.out.row ?_))
  refine (read_law HX2.out.drest 1 runsW.1 runsW.2 rfl).mono ?_
  rintro e w3 ⟨g3, rfl, hr, _, hb⟩
  have HB := Lib.hid (below_next HB.out hb)
  replace HX1 := Lib.hid (HX1.out.keep hb)
  replace HX2 := Lib.hid (HX2.out.keep hb)
  have HR3 := Lib.hid hr
  clear hr hb
  go_wp2_with (first
    | (refine wpList_load_dsk rfl _ rfl _ _ (by rfl) rfl HX1.out.row ?_))
  refine (read_none HX1.out.drest 2 (.inr hasn)).mono ?_
  rintro e w4 ⟨rfl, hb⟩
  have HB := Lib.hid (below_next HB.out hb)
  replace HX1 := Lib.hid (HX1.out.keep hb)
  replace HX2 := Lib.hid (HX2.out.keep hb)
  replace HR3 := Lib.hid (HR3.out.keep hb)
  clear hb
  obtain ⟨ZB, hZB⟩ : ∃ ZB, ZB = (cellsOf (List.replicate 129 0)).toArray := ⟨_, rfl⟩
  have HZB := Lib.hid hZB
  have HMK : Hid (∀ W : World, (Instr.makeSlice 35 (.int .i64 129) (.int .i64 129)).run Try.prog W = .ok (.slice (some ⟨W.heap.size, 0, none⟩) 129 129) (W.alloc (.cells ZB 5))) := Lib.hid (by rw [hZB]; exact mk_bytes 129 (by omega))
  clear hZB
  go_wp2_with fail
  have c0 := HX1.out.row.cell (i := 0) rfl
  have c1 := HX1.out.row.cell (i := 1) rfl
  have c2 := HX1.out.row.cell (i := 2) rfl
  have c3 := HX1.out.row.cell (i := 3) rfl
  have hmk := HMK.out
  have hlt1 := HX1.out.lt
  have HWR : Hid (∀ (W : World) gz, Below w4.heap.size w4 W → W.heap[gz]? = some (.cells ZB 5 (0, 0)) → Calls Try.prog 26 #[.agg #[s1, p1, .int .i64 l1, .bool b1], .int .i64 0, .slice (some ⟨gz, 0, none⟩) 129 129] W (NewD W zeroD 1)) :=
    Lib.hid (fun W gz hb hz => write_law (HX1.out.drest.keep hb) 0 (row_rest (g := gz) (xs := List.replicate 129 0) (n := 129) (by unfold Row; rw [hz, HZB.out]) (by simp) (by omega)) fw2)
  refine' cutB (F := fun _ _ _ _ _ _ _ _ _ _ W9 => Below w4.heap.size w4 W9) _ ?rest6 ?kk6
  case rest6 =>
    intro K
    go_region_law (go_simp; go_at_call 26; refine (HWR.out _ _ (by first | exact below_drew (Joins.below_alloc1 w4 _) | exact below_drew (below_two w4 _ _)) (by first | exact heap_alloc_new w4 _ | exact (Joins.below_alloc1 (w4.alloc (.cells ZB 5)) _).block w4.heap.size (by simp) |>.trans (heap_alloc_new w4 _) | (have h9 := heap_alloc_new (w4.alloc (.cells #[.slice none 0 0, .slice none 0 0, .int .i64 0, .bool false] 25)) (.cells ZB 5); rw [World.size_alloc] at h9; exact h9))).mono ?_; rintro e w5 ⟨s5, p5, l5, b5, rfl, hd5, hb5⟩; obtain ⟨⟨sa, sn, sc, rfl⟩, ⟨pa, pn, pc, rfl⟩⟩ := slices_of hd5; unfold dv; (first | (have r0 := box_first hb5; have q0 := r0.cell (i := 0) rfl; have q1 := r0.cell (i := 1) rfl; have q2 := r0.cell (i := 2) rfl; have q3 := r0.cell (i := 3) rfl; have k0 := r0.free 0; have k1 := r0.free 1; have k2 := r0.free 2; have k3 := r0.free 3) | (have r0 := box_second hb5; have q0 := r0.cell (i := 0) rfl; have q1 := r0.cell (i := 1) rfl; have q2 := r0.cell (i := 2) rfl; have q3 := r0.cell (i := 3) rfl; have k0 := r0.free 0; have k1 := r0.free 1; have k2 := r0.free 2; have k3 := r0.free 3) | skip))
    · have hF : Below w4.heap.size w4 (w5.alloc (.cells #[.slice sa sn sc, .slice pa pn pc, .int .i64 l5, .bool b5] 25)) := below_next ((Joins.below_alloc1 w4 _).trans ((below_undrew hb5).mono (by simp))) (Joins.below_alloc1 w5 _)
      generalize (Value.slice (some ⟨w4.heap.size, 0, none⟩) 129 129) = vz
      generalize (Value.pointer (some ⟨w5.heap.size, 0, none⟩)) = vp
      generalize w5.alloc (.cells #[.slice sa sn sc, .slice pa pn pc, .int .i64 l5, .bool b5] 25) = W9 at hF ⊢
      exact K vz vp sa sn sc pa pn pc l5 b5 W9 hF
    all_goals
      refine K _ _ _ _ _ _ _ _ _ _ _ ?_
      first
        | exact below_next ((Joins.below_alloc1 w4 _).trans ((below_undrew hb5).mono (by simp))) (Joins.below_alloc1 w5 _)
        | exact below4 ((Joins.below_alloc1 w4 _).trans ((below_undrew hb5).mono (by simp))) _ _ _ _ _ (by simp)
        | exact below4 ((below_two w4 _ _).trans ((below_undrew hb5).mono (by simp; omega))) _ _ _ _ _ (by simp)
  case kk6 =>
    intro vz6 vp6 sa6 sn6 sc6 pa6 pn6 pc6 l6 b6 W9 hF
    have HB := Lib.hid (below_next HB.out hF)
    replace HX2 := Lib.hid (HX2.out.keep hF)
    replace HR3 := Lib.hid (HR3.out.keep hF)
    clear hF HX1 HMK HWR hmk c0 c1 c2 c3 hlt1 HZB
    go_wp2_with (first
      | (refine wpList_load_dsk rfl _ rfl _ _ (by rfl) rfl HX2.out.row ?_))
    refine (stop_law HX2.out.drest 1 st1).mono ?_
    rintro e w7 ⟨s7, p7, l7, b7, rfl, hd, hb⟩
    have HB := Lib.hid (below_next HB.out hb)
    replace HX2 := Lib.hid (HX2.out.keep hb)
    replace HR3 := Lib.hid (HR3.out.keep hb)
    have HD7 := Lib.hid hd
    clear hd hb
    unfold dv at *
    have hg3 := HR3.out.lt
    have hg2 := HX2.out.lt
    have HB7 := Lib.hid HB.out
    go_wp2_with (first
      | (refine wpList_store_ags rfl _ _ _ rfl w7.heap.size [s7, p7, .int .i64 l7, .bool b7] _ size25 (by rfl) rfl rfl (row_new w7 25 _) (one_all HD7.out) (Joins.below_alloc1 w7 _) (Nat.le_refl _) ?_; intro v7 hr hb _; have HB := Lib.hid (below_next HB.out hb); replace HX2 := Lib.hid (HX2.out.keep hb); replace HR3 := Lib.hid (HR3.out.keep hb); have HX7 := Lib.hid (Box.new HD7.out hr hb); clear hr hb))
    have c0 := HX7.out.row.cell (i := 0) rfl
    have c1 := HX7.out.row.cell (i := 1) rfl
    have c2 := HX7.out.row.cell (i := 2) rfl
    have c3 := HX7.out.row.cell (i := 3) rfl
    have hlt7 := HX7.out.lt
    have hge7 := HB7.out.size
    have HDBL : Hid (∀ W : World, Calls Try.prog 34 #[.int .u8 8] W fun e w' => ∃ g, e = .returned (.slice (some ⟨g, 0, none⟩) 128 128) ∧ W.heap.size ≤ g ∧ Row w' g 5 (cellsOf (dbl 8)) ∧ Below W.heap.size W w') := Lib.hid (fun W => double_call 8 W)
    have HWR : Hid (∀ (W : World) gz, Below v7.heap.size v7 W → Row W gz 5 (cellsOf (dbl 8)) → Calls Try.prog 26 #[.agg #[s7, p7, .int .i64 l7, .bool b7], .int .i64 0, .slice (some ⟨gz, 0, none⟩) 128 128] W (NewDS (fun b => b < w7.heap.size) W sDT 0)) :=
      Lib.hid (fun W gz hb hz => write_lawS (S := fun b => b < w7.heap.size) ((HX7.out.keep hb).rest) 0 (row_rest hz (n := 128) (dbl_len 8) (by omega)) fw3)
    refine' cutB (F := fun _ _ sa sn sc pa pn pc l8 b8 W9 => Row W9 w7.heap.size 25 [.slice sa sn sc, .slice pa pn pc, .int .i64 l8, .bool b8] ∧ DRest W9.heap.size W9 sDT (dv (.slice sa sn sc) (.slice pa pn pc) l8 b8) ∧ Below w7.heap.size v7 W9) _ ?rest8 ?kk8
    case rest8 =>
      intro K
      obtain ⟨vq, _⟩ : ∃ v : Value, v = undef := ⟨_, rfl⟩
      go_region_law (go_simp; first | (go_at_call 34; refine (HDBL.out _).mono ?_; rintro e wA ⟨gA, rfl, hgA, hrA, hbA⟩; have hbA := below_undrew hbA; have rA := (HX7.out.keep hbA).row; have c0 := rA.cell (i := 0) rfl; have c1 := rA.cell (i := 1) rfl; have c2 := rA.cell (i := 2) rfl; have c3 := rA.cell (i := 3) rfl) | (go_at_call 26; refine (HWR.out _ _ hbA hrA).mono ?_; rintro e wB ⟨sB, pB, l8, b8, rfl, hdB, hbB⟩; obtain ⟨⟨sa, sn, sc, rfl⟩, ⟨pa, pn, pc, rfl⟩⟩ := slices_of hdB.rest; unfold dv; have rB := ((HX7.out.keep hbA).keep hbB).row; have q0 := rB.cell (i := 0) rfl; have q1 := rB.cell (i := 1) rfl; have q2 := rB.cell (i := 2) rfl; have q3 := rB.cell (i := 3) rfl; have k0 := rB.free 0; have k1 := rB.free 1; have k2 := rB.free 2; have k3 := rB.free 3))
      · have hF := box_over rB (by have := hbA.size; omega) hdB ((hbA.trans (hbB.mono hbA.size)).mono (Nat.le_of_lt hlt7))
        generalize ((((wB.setCell ⟨w7.heap.size, 0, none⟩ (.slice sa sn sc)).setCell ⟨w7.heap.size, 1, none⟩ (.slice pa pn pc)).setCell ⟨w7.heap.size, 2, none⟩ (.int .i64 l8)).setCell ⟨w7.heap.size, 3, none⟩ (.bool b8)) = W9 at hF ⊢
        generalize (Value.slice (some ⟨gA, 0, none⟩) 128 128) = vz
        exact K vz vq sa sn sc pa pn pc l8 b8 W9 hF
      all_goals
        exact K _ vq _ _ _ _ _ _ _ _ _ (box_over rB (by have := hbA.size; omega) hdB ((hbA.trans (hbB.mono hbA.size)).mono (Nat.le_of_lt hlt7)))
    case kk8 =>
      rintro vz8 vq8 sa8 sn8 sc8 pa8 pn8 pc8 l8 b8 W8 ⟨hr8, hd8, hb8⟩
      have HB := Lib.hid (HB.out.trans (hb8.mono hge7))
      replace HX2 := Lib.hid (HX2.out.stays hb8 hg2)
      replace HR3 := Lib.hid (HR3.out.stays hb8 hg3)
      have HR8 := Lib.hid hr8
      have HD8 := Lib.hid hd8
      clear hr8 hd8 hb8 HX7 HDBL HWR c0 c1 c2 c3 hlt7
      unfold dv at *
      go_wp2_with (first
        | (refine wpList_load_dsk rfl _ rfl _ _ (by rfl) rfl HR8.out ?_))
      refine (sync_law HD8.out sy1).mono ?_
      rintro e w9 ⟨s9, p9, l9, b9, rfl, hd, hb⟩
      have HB := Lib.hid (below_next HB.out hb)
      replace HX2 := Lib.hid (HX2.out.keep hb)
      replace HR3 := Lib.hid (HR3.out.keep hb)
      have HD9 := Lib.hid hd
      clear hd hb
      unfold dv at *
      have HS9 : Hid (b9 = true) := Lib.hid (drest_left HD9.out).2.1
      have hg32 := HR3.out.lt
      have hg22 := HX2.out.lt
      have HB9 := Lib.hid HB.out
      go_wp2_with (first
        | (refine wpList_store_ags rfl _ _ _ rfl w9.heap.size [s9, p9, .int .i64 l9, .bool b9] _ size25 (by rfl) rfl rfl (row_new w9 25 _) (one_all HD9.out) (Joins.below_alloc1 w9 _) (Nat.le_refl _) ?_; intro v9 hr hb _; have HB := Lib.hid (below_next HB.out hb); replace HX2 := Lib.hid (HX2.out.keep hb); replace HR3 := Lib.hid (HR3.out.keep hb); have HX9 := Lib.hid (Box.new HD9.out hr hb); have d3 := HX9.out.row.cell (i := 3) rfl; rw [HS9.out] at d3; clear hr hb)
        | (refine wpList_load_dsk rfl _ rfl _ _ (by rfl) rfl HX9.out.row ?_))
      refine (restart_lawS (S := fun b => b < w9.heap.size) HX9.out.rest (d' := sR) rfl).mono ?_
      rintro e w12 ⟨s12, p12, l12, b12, rfl, hd, hb⟩
      have hge9 := HB9.out.size
      have hltv := HX9.out.lt
      replace HX9 := Lib.hid (HX9.out.keep hb)
      have HB := Lib.hid (below_next HB.out hb)
      replace HX2 := Lib.hid (HX2.out.keep hb)
      replace HR3 := Lib.hid (HR3.out.keep hb)
      have hlt9 := HX9.out.lt
      have hgr : ∀ v : World, (∀ b, b ≠ w9.heap.size → v.heap[b]? = w12.heap[b]?) → DRestS (Ext (fun b => b < w9.heap.size) v9.heap.size) v sR (dv s12 p12 l12 b12) := fun v hf => hd.keep (.far w9.heap.size (fun h => by rcases h with h | h <;> omega) hf)
      have HD12 := Lib.hid hd
      clear hd hb d3
      unfold dv at *
      go_wp2_with (first
        | (refine wpList_store_ags rfl _ _ _ rfl w9.heap.size [s12, p12, .int .i64 l12, .bool b12] _ size25 (by rfl) rfl rfl HX9.out.row (one_all HD12.out.rest) (Below.refl w9.heap.size w12) (Nat.le_refl _) ?_; intro v12 hr hb hf; have HB := Lib.hid (HB.out.trans (hb.mono hge9)); replace HX2 := Lib.hid (HX2.out.stays hb hg22); replace HR3 := Lib.hid (HR3.out.stays hb hg32); have HR12 := Lib.hid hr; have HD := Lib.hid ((hgr v12 hf).rest); clear hr hb hf hgr)
        | (refine wpList_load_dsk rfl _ rfl _ _ (by rfl) rfl HR12.out ?_))
      refine (read_law HD.out 1 runsR.1 runsR.2.1 rfl).mono ?_
      rintro e w13 ⟨g13, rfl, hr, _, hb⟩
      have HB := Lib.hid (below_next HB.out hb)
      replace HX2 := Lib.hid (HX2.out.keep hb)
      replace HR3 := Lib.hid (HR3.out.keep hb)
      replace HR12 := Lib.hid (HR12.out.keep hb)
      replace HD := Lib.hid (HD.out.keep hb)
      have HR13 := Lib.hid hr
      clear hr hb
      go_wp2_with (first
        | (refine wpList_load_dsk rfl _ rfl _ _ (by rfl) rfl HR12.out ?_))
      refine (read_law HD.out 0 runsR.1 runsR.2.2 rfl).mono ?_
      rintro e w14 ⟨g14, rfl, hr, _, hb⟩
      have HB := Lib.hid (below_next HB.out hb)
      replace HX2 := Lib.hid (HX2.out.keep hb)
      replace HR3 := Lib.hid (HR3.out.keep hb)
      replace HR12 := Lib.hid (HR12.out.keep hb)
      replace HD := Lib.hid (HD.out.keep hb)
      replace HR13 := Lib.hid (HR13.out.keep hb)
      have HR14 := Lib.hid hr
      clear hr hb
      go_wp2_with (first
        | (refine wpList_load_dsk rfl _ rfl _ _ (by rfl) rfl HX2.out.row ?_))
      refine (restart_law HX2.out.drest (d' := sQ) rfl).mono ?_
      rintro e w15 ⟨s15, p15, l15, b15, rfl, hd, hb⟩
      have HB := Lib.hid (below_next HB.out hb)
      replace HX2 := Lib.hid (HX2.out.keep hb)
      replace HR3 := Lib.hid (HR3.out.keep hb)
      replace HR13 := Lib.hid (HR13.out.keep hb)
      replace HR14 := Lib.hid (HR14.out.keep hb)
      have HD15 := Lib.hid hd
      clear hd hb
      unfold dv at *
      go_wp2_with fail
      refine (read_law HD15.out 1 runsQ.1 runsQ.2 rfl).mono ?_
      rintro e w16 ⟨g16, rfl, hr, _, hb⟩
      have HB := Lib.hid (below_next HB.out hb)
      replace HX2 := Lib.hid (HX2.out.keep hb)
      replace HR3 := Lib.hid (HR3.out.keep hb)
      replace HR13 := Lib.hid (HR13.out.keep hb)
      replace HR14 := Lib.hid (HR14.out.keep hb)
      have HR16 := Lib.hid hr
      clear hr hb
      have e1 := read_cell HR3.out rdW
      have e2 := read_cell HR13.out rdR1
      have e3 := read_cell HR14.out rdR0.1
      have e4 := read_cell HR14.out rdR0.2
      have e5 := read_cell HR16.out rdQ
      go_wp2_with fail
      refine (show Calls Try.prog 22 _ w16 (fun e w' => e = .returned (.int .i64 40) ∧ Below w16.heap.size w16 w') from by have := check_call zeroD _ w16 (drest_zero _ _); rwa [valz, if_neg (by decide)] at this).mono ?_
      rintro e w17 ⟨rfl, hb⟩
      have HB := Lib.hid (below_next HB.out hb)
      clear hb e1 e2 e3 e4 e5
      go_wp2_with fail
      refine (restart_law (s := .slice none 0 0) (p := .slice none 0 0) (l := 0) (b := false) (W := w17) (drest_zero _ _) (d' := restartD zeroD) rfl).mono ?_
      rintro e w18 ⟨s18, p18, l18, b18, rfl, hd, hb⟩
      have hl : l18 = -1 := (drest_left hd).1
      subst hl
      have HB := Lib.hid (below_next HB.out hb)
      clear hb hd
      have hfd := fld2 s18 p18 (-1) b18 w18
      unfold dv at *
      go_wp2_with fail
      go_ret
      exact ⟨rfl, HB.out⟩
end Go.Proofs.Ytlaaolbdadempaa

/- The reference's Write where it refuses. -/
namespace Go.Proofs.Ytlaaolbdadempaa
open Go.RowKit

theorem valid_pend {d : Dsk} (h : validB d = true) : d.pend.length ≤ 4096 := by
  unfold validB at h
  simp only [Bool.and_eq_true, decide_eq_true_eq] at h
  exact h.2.2.2.1
theorem writeD_cases (d : Dsk) (at' : Int) (b : List UInt8) :
    ((validB d = false ∨ (validB d = true ∧ d.stop = true) ∨ (validB d = true ∧ d.stop = false ∧ at' < 0) ∨ (validB d = true ∧ d.stop = false ∧ ¬ at' < 0 ∧ (d.secs.length : Int) ≤ at')) ∧ writeD d at' b = (zeroD, 40)) ∨
    (validB d = true ∧ d.stop = false ∧ ¬ at' < 0 ∧ ¬ (d.secs.length : Int) ≤ at' ∧
      ((128 < b.length ∧ writeD d at' b = (zeroD, 1)) ∨ (b.length ≤ 128 ∧ d.pend.length = 4096 ∧ writeD d at' b = (zeroD, 2)) ∨
       (b.length ≤ 128 ∧ d.pend.length < 4096 ∧ writeD d at' b = (⟨d.secs, d.pend ++ [(at', sectorL [b])], d.left, d.stop⟩, 0)))) := by
  unfold writeD
  by_cases hr : (runsB d && hasB d.secs.length at') = true
  · rw [if_pos hr]
    right
    rw [Bool.and_eq_true] at hr
    obtain ⟨h1, h2⟩ := hr
    have hv : validB d = true ∧ d.stop = false := by unfold runsB at h1; simpa using h1
    have hh : 0 ≤ at' ∧ at' < d.secs.length := by unfold hasB at h2; simpa using h2
    have hp := valid_pend hv.1
    refine ⟨hv.1, hv.2, by omega, by omega, ?_⟩
    by_cases h128 : 128 < b.length
    · rw [if_pos h128]; exact .inl ⟨h128, rfl⟩
    · rw [if_neg h128]
      by_cases h4 : 4096 ≤ d.pend.length
      · rw [if_pos h4]; exact .inr (.inl ⟨by omega, by omega, rfl⟩)
      · rw [if_neg h4]; exact .inr (.inr ⟨by omega, by omega, rfl⟩)
  · rw [if_neg hr]
    refine .inl ⟨?_, rfl⟩
    unfold runsB hasB at hr
    rcases hb : validB d with _ | _ <;> rcases hs : d.stop with _ | _ <;> simp [hb, hs] at hr ⊢
    rcases Int.lt_or_le at' 0 with k | k
    · exact .inl k
    · exact .inr ⟨k, hr k⟩
set_option maxHeartbeats 8000000 in
set_option maxRecDepth 100000 in
theorem refwrite_refuse (S : Nat → Prop) (d : Dsk) (v : Value) (at' : Int) (b : List UInt8) (bv : Value) (w : World) (h : DRestS S w d v) (hbv : Rest w.heap.size w b bv) (hno : (writeD d at' b).2 ≠ 0) :
    Calls Try.prog 27 #[v, .int .i64 at', bv] w (AnswersS S w (writeD d at' b)) := by
  have hcase := writeD_cases d at' b
  obtain ⟨s, p, rfl, hs, hp⟩ := h
  have HV : Hid (∀ W, Below w.heap.size w W → Calls Try.prog 23 #[dskOf s p d] W fun e w' => e = .returned (.int .i64 (if validB d then 0 else 40)) ∧ Below W.heap.size W w') := Lib.hid (fun W hW => refcheck_call d _ W ⟨s, p, rfl, hs.rest.keep hW, hp.rest.keep hW⟩)
  obtain ⟨a, cap, rfl, hc1, hc2⟩ := hs.rest.shape
  obtain ⟨a2, cap2, rfl, hc3, hc4⟩ := hp.rest.shape
  obtain ⟨ba, bc, rfl, hb1, hb2⟩ := hbv.shape
  clear hs hp hbv
  unfold dskOf dskCells at *
  generalize validB d = vb at *
  generalize d.stop = st at *
  generalize d.left = left at *
  generalize d.secs.length = n at *
  generalize hpl : d.pend.length = m at *
  have HRB : Hid (Row ((w.alloc (.cells #[.slice a n cap, .slice a2 m cap2, .int .i64 left, .bool st] 25)).alloc (.cells #[.slice none 0 0, .slice none 0 0, .int .i64 0, .bool false] 25)) w.heap.size 25 [.slice a n cap, .slice a2 m cap2, .int .i64 left, .bool st]) := Lib.hid ((row_new w 25 _).keep (Joins.below_alloc1 _ _))
  have HRR := Lib.hid (row_new (w.alloc (.cells #[.slice a n cap, .slice a2 m cap2, .int .i64 left, .bool st] 25)) 25 [.slice none 0 0, .slice none 0 0, .int .i64 0, .bool false])
  have HB0 := Lib.hid (below_two w (.cells #[.slice a n cap, .slice a2 m cap2, .int .i64 left, .bool st] 25) (.cells #[.slice none 0 0, .slice none 0 0, .int .i64 0, .bool false] 25))
  rw [World.size_alloc] at HRR
  have hall : (vb = false ∧ writeD d at' b = (zeroD, 40)) ∨ (vb = true ∧ st = true ∧ writeD d at' b = (zeroD, 40)) ∨ (vb = true ∧ st = false ∧ at' < 0 ∧ writeD d at' b = (zeroD, 40)) ∨ (vb = true ∧ st = false ∧ ¬ at' < 0 ∧ (n : Int) ≤ at' ∧ writeD d at' b = (zeroD, 40)) ∨
      (vb = true ∧ st = false ∧ ¬ at' < 0 ∧ ¬ (n : Int) ≤ at' ∧ (128 : Int) < (b.length : Int) ∧ writeD d at' b = (zeroD, 1)) ∨ (vb = true ∧ st = false ∧ ¬ at' < 0 ∧ ¬ (n : Int) ≤ at' ∧ ¬ (128 : Int) < (b.length : Int) ∧ m = 4096 ∧ writeD d at' b = (zeroD, 2)) := by
    rcases hcase with ⟨h1, h2⟩ | ⟨h1, h2, h3, h4, h5⟩
    · rcases h1 with h1 | ⟨h1, h3⟩ | ⟨h1, h3, h4⟩ | ⟨h1, h3, h4, h5⟩
      · exact .inl ⟨h1, h2⟩
      · exact .inr (.inl ⟨h1, h3, h2⟩)
      · exact .inr (.inr (.inl ⟨h1, h3, h4, h2⟩))
      · exact .inr (.inr (.inr (.inl ⟨h1, h3, h4, h5, h2⟩)))
    · rcases h5 with ⟨h5, h6⟩ | ⟨h5, h6, h7⟩ | ⟨_, _, h7⟩
      · exact .inr (.inr (.inr (.inr (.inl ⟨h1, h2, h3, h4, by omega, h6⟩))))
      · exact .inr (.inr (.inr (.inr (.inr ⟨h1, h2, h3, h4, by omega, h6, h7⟩))))
      · rw [h7] at hno; exact absurd rfl hno
  clear hcase hno hpl
  rcases hall with ⟨h1, h9⟩ | ⟨h1, h2, h9⟩ | ⟨h1, h2, h3, h9⟩ | ⟨h1, h2, h3, h4, h9⟩ | ⟨h1, h2, h3, h4, h5, h9⟩ | ⟨h1, h2, h3, h4, h5, h6, h9⟩
  all_goals rw [h9]
  all_goals clear h9
  all_goals subst h1
  all_goals try subst h2
  all_goals try subst h6
  all_goals go_enter Try.func27, Try.ntmps27
  all_goals go_wp2_with fail
  all_goals refine (HV.out _ HB0.out).mono ?_
  all_goals rintro e w1 ⟨rfl, hb⟩
  all_goals have HB1 := Lib.hid (below_next HB0.out hb)
  all_goals have HRB1 := Lib.hid (HRB.out.keep hb)
  all_goals have HRR1 := Lib.hid (HRR.out.keep hb)
  all_goals have c0 := HRB1.out.cell (i := 0) rfl
  all_goals have c1 := HRB1.out.cell (i := 1) rfl
  all_goals have c3 := HRB1.out.cell (i := 3) rfl
  all_goals clear hb HRB HRR HB0
  all_goals try simp only [Bool.false_eq_true, if_false, if_true]
  all_goals go_wp2_with (first
    | (refine wpList_store_ag rfl 25 (.tmp 6) (.tmp 27) rfl (w.heap.size + 1) [.slice none 0 0, .slice none 0 0, .int .i64 0, .bool false] _ size25 (by rfl) rfl rfl HRR1.out (by rfl) HB1.out (by omega) ?_; intro w9 hr hb hf)
    | (refine wpList_store_ag rfl 25 (.tmp 6) (.tmp 31) rfl (w.heap.size + 1) [.slice none 0 0, .slice none 0 0, .int .i64 0, .bool false] _ size25 (by rfl) rfl rfl HRR1.out (by rfl) HB1.out (by omega) ?_; intro w9 hr hb hf)
    | (refine wpList_store_ag rfl 25 (.tmp 6) (.tmp 36) rfl (w.heap.size + 1) [.slice none 0 0, .slice none 0 0, .int .i64 0, .bool false] _ size25 (by rfl) rfl rfl HRR1.out (by rfl) HB1.out (by omega) ?_; intro w9 hr hb hf))
  all_goals exact bodyPost_ret (results_dsk Try.results27 _ w9 (w.heap.size + 1) _ rfl rfl _ rfl hr) rfl ⟨_, rfl, drests_zero _ _, hb⟩
end Go.Proofs.Ytlaaolbdadempaa

/- Bytes and pending writes appended to a slice of the call's own; the padding of a sector. -/
namespace Go.Proofs.Ytlaaolbdadempaa
open Go.RowKit

theorem own_shape {w : World} {base e size n : Nat} {v : Value} {xs : List Value} (h : w.ownsRow base e size v n xs) : ∃ a cap, v = .slice a n cap ∧ n ≤ cap ∧ cap ≤ maxLen := by
  rcases h.2 with ⟨rfl, rfl⟩ | ⟨g, cap, cur, rfl, _, _, h1, h2, _⟩
  · exact ⟨none, 0, rfl, Nat.le_refl _, by unfold maxLen; omega⟩
  · exact ⟨_, cap, rfl, h1, h2⟩
set_option maxRecDepth 100000 in
theorem wpList_append_rest {w : World} {ops : Array Oper} {rest : List Oper} {o : Oper} {a : Act} {Q : Exit → Act → World → Prop} (hgd : o.guard = none) (s x : Operand) (ho : o.op = .call { callee := .builtin .append, args := #[s, x], argTypes := #[35, 35] })
    (base : Nat) (v : Value) (n : Nat) (xs : List UInt8) (hs : a.eval s = v) (hown : w.ownsRow base 5 1 v n (cellsOf xs)) (ys : List UInt8) (y : Value) (hx : a.eval x = y) {B : Nat} (hr : Rest B w ys y) (hlen : n + ys.length ≤ 1000000) (hbase : base ≤ w.heap.size)
    (h : ∀ v' w', w'.ownsRow base 5 1 v' (n + ys.length) (cellsOf (xs ++ ys)) → w.grownBy w' v.ownBlock → wpList Try.prog ops Q rest (a.put o.dst v') w') : wpList Try.prog ops Q (o :: rest) a w := by
  obtain ⟨ba, bc, rfl, h2, h3, h4, h5⟩ := hr
  obtain ⟨i0, hi, hz0, hz1, hz2⟩ := info_parts Try.info5
  cases ba with
  | none =>
    obtain ⟨h6, rfl⟩ := h4 rfl
    obtain rfl : ys = [] := List.eq_nil_of_length_eq_zero h6
    exact wpList_append_own_none hgd s x 35 ho base 5 i0 1 Try.underlying35 hi v n _ hs hown hx (h v w (by simpa using hown) ⟨rfl, rfl, rfl, Nat.le_refl _, fun _ _ _ => rfl⟩)
  | some ad =>
    refine wpList_append_own w hgd s x 35 ho base 5 i0 _ 1 1 Try.underlying35 hi hz0 hz1 hz2 rfl (by decide) v n _ hs hown ad ys.length bc (cellsOf ys) hx (by rw [cellsOf_len]; omega) (fun j u hj => ?_) (cells_one ys) (by unfold maxLen; omega) (by omega) hbase fun v' w' h6 h7 _ => ?_
    · have hjl : j < ys.length := by have := (List.getElem?_eq_some_iff.1 hj).1; rwa [cellsOf_len] at this
      rcases h5 with h5 | ⟨b, off, h5, h6, h7⟩
      · omega
      · injection h5 with h5
        subst h5
        rw [Addr.add_lit, h7 j hjl]
        rw [cellsOf_get hjl] at hj
        exact hj
    · rw [← cellsOf_append] at h6
      exact h v' w' h6 h7
set_option maxRecDepth 100000 in
theorem wpList_append_zero {w : World} {ops : Array Oper} {rest : List Oper} {o : Oper} {a : Act} {Q : Exit → Act → World → Prop} (hgd : o.guard = none) (s x : Operand) (ho : o.op = .call { callee := .builtin .append, args := #[s, x], argTypes := #[35, 35] })
    (base : Nat) (v : Value) (n : Nat) (xs : List UInt8) (hs : a.eval s = v) (hown : w.ownsRow base 5 1 v n (cellsOf xs)) (g : Nat) (hx : a.eval x = .slice (some ⟨g, 0, none⟩) 1 1) (hr : Row w g 5 [.int .u8 0]) (hlen : n + 1 ≤ 1000000) (hbase : base ≤ w.heap.size)
    (h : ∀ v' w', w'.ownsRow base 5 1 v' (n + 1) (cellsOf (xs ++ [0])) → w.grownBy w' v.ownBlock → wpList Try.prog ops Q rest (a.put o.dst v') w') : wpList Try.prog ops Q (o :: rest) a w := by
  have h1 : Rest w.heap.size w [0] (.slice (some ⟨g, 0, none⟩) 1 1) := ⟨_, 1, rfl, Nat.le_refl _, by unfold maxLen; omega, (fun h => by cases h), .inr ⟨g, 0, rfl, hr.lt, fun i hi => by
    have h0 : i = 0 := by simpa using hi
    subst h0
    exact hr.cell (i := 0) rfl⟩⟩
  exact wpList_append_rest hgd s x ho base v n xs hs hown [0] _ hx h1 hlen hbase h
def lenOf : Value → Nat
  | .slice _ n _ => n
  | _ => 0
/-- all pending writes appended to a slice of the call's own -/
theorem wpList_append_pend {w : World} {ops : Array Oper} {rest : List Oper} {o : Oper} {a : Act} {Q : Exit → Act → World → Prop} (hgd : o.guard = none) (s x : Operand) (ho : o.op = .call { callee := .builtin .append, args := #[s, x], argTypes := #[23, 23] })
    (base : Nat) (v : Value) (n : Nat) (old : List Value) (hs : a.eval s = v) (hown : w.ownsRow base 76 2 v n old) (ao : Option Addr) (m cap : Nat) (ps : List (Int × List UInt8)) (us : List Value) (hx : a.eval x = .slice ao m cap) (hm : m = ps.length) (hnone : ao = none → m = 0 ∧ cap = 0) (hul : us.length = ps.length)
    (hold : m = 0 ∨ ∃ b off, ao = some ⟨b, off, none⟩ ∧ ∀ (j : Nat) x, (pcells ps us)[j]? = some x → w.cell? ⟨b, off + j, none⟩ = some x ∧ x.oneCell' = true) (hlen : n + m ≤ 65536) (hbase : base ≤ w.heap.size)
    (h : ∀ v' w', w'.ownsRow base 76 2 v' (n + m) (old ++ pcells ps us) → w.grownBy w' v.ownBlock → wpList Try.prog ops Q rest (a.put o.dst v') w') : wpList Try.prog ops Q (o :: rest) a w := by
  obtain ⟨i0, hi, hz0, hz1, hz2⟩ := info_parts Try.info76
  have hlo := pcells_len ps us hul
  cases ao with
  | none =>
    obtain ⟨h6, rfl⟩ := hnone rfl
    subst h6
    have hp : pcells ps us = [] := List.eq_nil_of_length_eq_zero (by omega)
    exact wpList_append_own_none hgd s x 23 ho base 76 i0 2 Try.underlying23 hi v n _ hs hown hx (h v w (by rw [hp]; simpa using hown) ⟨rfl, rfl, rfl, Nat.le_refl _, fun _ _ _ => rfl⟩)
  | some ad =>
    have hcell : ∀ j u, (pcells ps us)[j]? = some u → w.cell? (ad.add j) = some u ∧ u.oneCell' = true := fun j u hj => by
      rcases hold with h0 | ⟨b, off, h5, h6⟩
      · have := (List.getElem?_eq_some_iff.1 hj).1; omega
      · injection h5 with h5
        subst h5
        rw [Addr.add_lit]
        exact h6 j u hj
    refine wpList_append_own w hgd s x 23 ho base 76 i0 _ 2 32 Try.underlying23 hi hz0 hz1 hz2 rfl (by decide) v n _ hs hown ad m cap (pcells ps us) hx (by rw [hlo, hm]) (fun j u hj => (hcell j u hj).1) (fun u hu => ?_) (by unfold maxLen; omega) (by omega) hbase fun v' w' h6 h7 _ => h v' w' h6 h7
    obtain ⟨j, hj⟩ := List.mem_iff_getElem?.1 hu
    exact (hcell j u hj).2
end Go.Proofs.Ytlaaolbdadempaa

/- The reference's Write where it performs. -/
namespace Go.Proofs.Ytlaaolbdadempaa
open Go.RowKit

theorem row_grew {w w' : World} {g T base e size n : Nat} {v : Value} {xs cs : List Value} (h : Row w g T cs) (ho : w.ownsRow base e size v n xs) (hg : w.grownBy w' v.ownBlock) (hb : g < base) : Row w' g T cs :=
  (hg.block g h.lt (fun e => by have := (ho.lt g e.symm).1; omega)).trans h
theorem below_grewn {B : Nat} {w w' : World} {base e size n : Nat} {v : Value} {xs : List Value} (ho : w.ownsRow base e size v n xs) (hg : w.grownBy w' v.ownBlock) (hB : B ≤ w.heap.size) (hb : B ≤ base) : Below B w w' :=
  ⟨hg.os, hg.tape, hg.output, hg.size, fun k hk => hg.block k (Nat.lt_of_lt_of_le hk hB) (fun e => by have := (ho.lt k e.symm).1; omega)⟩
theorem own_neT {w : World} {base g' n T e size : Nat} {v : Value} {xs cs : List Value} (h : w.ownsRow base e size v n xs) (hr : Row w g' T cs) (hT : T ≠ e) : some g' ≠ v.ownBlock := by
  rcases h.2 with ⟨rfl, _⟩ | ⟨g, cap, cur, rfl, _, hg, _⟩
  · intro h; cases h
  · intro h
    injection h with h
    subst h
    unfold Row at hr
    rw [hg] at hr
    injection hr with hr
    injection hr with _ hr
    exact hT hr.symm
theorem owns_heap {w w' : World} {B0 e size n : Nat} {v : Value} {xs : List Value} (h : w.ownsRow B0 e size v n xs) (hb : ∀ g, B0 ≤ g → w'.heap[g]? = w.heap[g]?) : w'.ownsRow B0 e size v n xs := by
  refine ⟨h.1, ?_⟩
  rcases h.2 with ⟨he, h0⟩ | ⟨g, cap, cur, he, hbg, hg, hr⟩
  · exact .inl ⟨he, h0⟩
  · exact .inr ⟨g, cap, cur, he, hbg, (hb g hbg).trans hg, hr⟩
theorem rests_of_owns {S : Nat → Prop} {w : World} {base g n c : Nat} {xs : List UInt8} (h : w.ownsRow base 5 1 (.slice (some ⟨g, 0, none⟩) n c) n (cellsOf xs)) (hn : n = xs.length) (hS : S g) : RestS S w xs (.slice (some ⟨g, 0, none⟩) n c) := by
  subst hn
  obtain ⟨a', c', he, h1, h2⟩ := own_shape h
  injection he with _ _ he
  subst he
  exact ⟨_, _, rfl, h1, h2, (fun h => by cases h), .inr ⟨g, 0, rfl, hS, fun i hi => by have := World.ownsRow.cells h (g := g) rfl i _ (cellsOf_get hi); rwa [Addr.add_lit] at this⟩⟩
def PadHead (b : List UInt8) (w : World) (box : List Value) (s8 : Value) (wr : World) : Prop := ∃ k : Nat, b.length + k ≤ 128 ∧ wr.ownsRow (w.heap.size + 2) 5 1 s8 (b.length + k) (cellsOf (b ++ List.replicate k 0)) ∧
  Row wr w.heap.size 25 box ∧ Row wr (w.heap.size + 1) 25 [.slice none 0 0, .slice none 0 0, .int .i64 0, .bool false] ∧ Below w.heap.size w wr
set_option maxHeartbeats 8000000 in
set_option maxRecDepth 100000 in
theorem refwrite_ok (S : Nat → Prop) (d : Dsk) (v : Value) (at' : Int) (b : List UInt8) (bv : Value) (w : World) (h : DRestS S w d v) (hbv : Rest w.heap.size w b bv)
    (h1 : validB d = true) (h2 : d.stop = false) (h3 : ¬ at' < 0) (h4 : ¬ (d.secs.length : Int) ≤ at') (h5 : b.length ≤ 128) (h6 : d.pend.length < 4096) :
    Calls Try.prog 27 #[v, .int .i64 at', bv] w (AnswersS S w (⟨d.secs, d.pend ++ [(at', sectorL [b])], d.left, d.stop⟩, 0)) := by
  obtain ⟨s, p, rfl, hs, hp⟩ := h
  have HS := Lib.hid hs
  have HP := Lib.hid hp
  have HBV := Lib.hid hbv
  have HV : Hid (∀ W, Below w.heap.size w W → Calls Try.prog 23 #[dskOf s p d] W fun e w' => e = .returned (.int .i64 0) ∧ Below W.heap.size W w') := Lib.hid (fun W hW => by have := refcheck_call d _ W ⟨s, p, rfl, hs.rest.keep hW, hp.rest.keep hW⟩; rwa [h1, if_pos rfl] at this)
  obtain ⟨a, cap, rfl, hc1, hc2⟩ := hs.rest.shape
  obtain ⟨a2, cap2, rfl, hc3, hc4⟩ := hp.rest.shape
  obtain ⟨ba, bc, rfl, hb1, hb2⟩ := hbv.shape
  obtain ⟨us, hul, huel, huc⟩ := hp.vals
  have hnone : a2 = none → d.pend.length = 0 ∧ cap2 = 0 := by
    obtain ⟨a3, c3, he, _, _, h4, _⟩ := hp
    injection he with he1 he2 he3
    subst he1 he3
    exact h4
  have HNONE := Lib.hid hnone
  have HUL := Lib.hid hul
  have HUEL := Lib.hid huel
  have HUC := Lib.hid huc
  clear hs hp hbv hnone hul huel huc h1
  unfold dskOf dskCells at *
  rw [h2] at HV ⊢
  have HRB : Hid (Row ((w.alloc (.cells #[.slice a d.secs.length cap, .slice a2 d.pend.length cap2, .int .i64 d.left, .bool false] 25)).alloc (.cells #[.slice none 0 0, .slice none 0 0, .int .i64 0, .bool false] 25)) w.heap.size 25 [.slice a d.secs.length cap, .slice a2 d.pend.length cap2, .int .i64 d.left, .bool false]) := Lib.hid ((row_new w 25 _).keep (Joins.below_alloc1 _ _))
  have HRR := Lib.hid (row_new (w.alloc (.cells #[.slice a d.secs.length cap, .slice a2 d.pend.length cap2, .int .i64 d.left, .bool false] 25)) 25 [.slice none 0 0, .slice none 0 0, .int .i64 0, .bool false])
  have HB0 := Lib.hid (below_two w (.cells #[.slice a d.secs.length cap, .slice a2 d.pend.length cap2, .int .i64 d.left, .bool false] 25) (.cells #[.slice none 0 0, .slice none 0 0, .int .i64 0, .bool false] 25))
  rw [World.size_alloc] at HRR
  obtain ⟨m, hm⟩ : ∃ m, m = d.pend.length := ⟨_, rfl⟩
  obtain ⟨n, hn⟩ : ∃ n, n = d.secs.length := ⟨_, rfl⟩
  obtain ⟨bl, hbl⟩ : ∃ n, n = b.length := ⟨_, rfl⟩
  have HM := Lib.hid hm
  have HN := Lib.hid hn
  have HBL := Lib.hid hbl
  rw [← hm] at HV HP HNONE HUC HRB HRR HB0 h6 hc4 ⊢
  rw [← hn] at HV HS HRB HRR HB0 h4 hc2 ⊢
  rw [← hbl] at HBV h5 hb2 ⊢
  clear hm hn hbl h2
  have i5 : ¬ (128 : Int) < (bl : Int) := by omega
  have i6 : ¬ (m : Int) = 4096 := by omega
  go_enter Try.func27, Try.ntmps27
  go_wp2_with fail
  refine (HV.out _ HB0.out).mono ?_
  rintro e w1 ⟨rfl, hb⟩
  have HB1 := Lib.hid (below_next HB0.out hb)
  have HRB1 := Lib.hid (HRB.out.keep hb)
  have HRR1 := Lib.hid (HRR.out.keep hb)
  have c0 := HRB1.out.cell (i := 0) rfl
  have c1 := HRB1.out.cell (i := 1) rfl
  have c3 := HRB1.out.cell (i := 3) rfl
  have hw1 := HRR1.out.lt
  clear hb HRB HRR HB0
  have HMADE : Hid ((w1.alloc (.cells #[] 5)).ownsRow (w.heap.size + 2) 5 1 (.slice (some ⟨w1.heap.size, 0, none⟩) 0 0) 0 (cellsOf [])) := Lib.hid (World.ownsRow_made w1 #[] 0 (by omega) (by unfold maxLen; omega) rfl)
  go_wp2_with (refine wpList_append_rest rfl (.tmp 37) (.tmp 38) rfl (w.heap.size + 2) (.slice (some ⟨w1.heap.size, 0, none⟩) 0 0) 0 [] rfl HMADE.out b _ rfl ((HBV.out.stays HB1.out).stays ((Joins.below_alloc1 w1 (.cells #[] 5)).mono HB1.out.size)) (by rw [← HBL.out]; omega) (by rw [World.size_alloc]; omega) ?_; intro v8 w8 hown hgrow)
  have HHEAD : Hid (PadHead b w [.slice a n cap, .slice a2 m cap2, .int .i64 d.left, .bool false] v8 w8) := Lib.hid ⟨0, by rw [← HBL.out]; omega, by simpa using hown, row_grew (HRB1.out.keep (Joins.below_alloc1 w1 _)) HMADE.out hgrow (by omega), row_grew (HRR1.out.keep (Joins.below_alloc1 w1 _)) HMADE.out hgrow (by omega), (below_next HB1.out (Joins.below_alloc1 w1 _)).trans (below_grewn HMADE.out hgrow (by rw [World.size_alloc]; omega) (by omega))⟩
  clear hown hgrow c0 c1 c3 HMADE
  go_loopw [8] (fun s8 wr => PadHead b w [.slice a n cap, .slice a2 m cap2, .int .i64 d.left, .bool false] s8 wr) (fun s8 _ => 128 - lenOf s8)
  case atStart => exact HHEAD.out
  case round =>
    obtain ⟨k, hk, ho, hrb, hrr, hb⟩ := hrel
    obtain ⟨a8, c8, rfl, hc8, hc9⟩ := own_shape ho
    obtain ⟨L, hL⟩ : ∃ L, L = b.length + k := ⟨_, rfl⟩
    rw [← hL] at ho hk hc8 ⊢
    have HL := Lib.hid hL
    have HO := Lib.hid ho
    have HRB8 := Lib.hid hrb
    have HRR8 := Lib.hid hrr
    have HB8 := Lib.hid hb
    have hwr := hrr.lt
    clear hL ho hrb hrr hb
    rcases Nat.lt_or_ge L 128 with hlt | hge
    · have hl : (L : Int) < 128 := by omega
      have HO9 : Hid ((wr.alloc (.cells #[.int .u8 0] 5)).ownsRow (w.heap.size + 2) 5 1 (.slice a8 L c8) L (cellsOf (b ++ List.replicate k 0))) := Lib.hid (HO.out.alloc _)
      go_wp2_with (refine wpList_append_zero rfl (.tmp 43) (.tmp 44) rfl (w.heap.size + 2) (.slice a8 L c8) L (b ++ List.replicate k 0) rfl HO9.out wr.heap.size rfl (row_new wr 5 [.int .u8 0]) (by omega) (by rw [World.size_alloc]; omega) ?_; intro v9 w9 hown hgrow; obtain ⟨a9, c9, rfl, h91, h92⟩ := own_shape hown; have HN9 := Lib.hid hown; have HG9 := Lib.hid hgrow; clear hown hgrow)
      refine ⟨⟨k + 1, by rw [← Nat.add_assoc, ← HL.out]; omega, by rw [← Nat.add_assoc, ← HL.out, List.replicate_succ', ← List.append_assoc]; exact HN9.out, row_grew (HRB8.out.keep (Joins.below_alloc1 wr _)) HO9.out HG9.out (by omega), row_grew (HRR8.out.keep (Joins.below_alloc1 wr _)) HO9.out HG9.out (by omega), (below_next HB8.out (Joins.below_alloc1 wr _)).trans (below_grewn HO9.out HG9.out (by rw [World.size_alloc]; omega) (by omega))⟩, by simp [lenOf]; omega⟩
    · obtain rfl : L = 128 := by omega
      have e1 := (HRB8.out.keep (Joins.below_alloc1 wr (.cells #[] 76))).cell (i := 1) rfl
      have HM10 : Hid ((wr.alloc (.cells #[] 76)).ownsRow (w.heap.size + 2) 76 2 (.slice (some ⟨wr.heap.size, 0, none⟩) 0 0) 0 []) := Lib.hid (World.ownsRow_made wr #[] 0 (by omega) (by unfold maxLen; omega) rfl)
      go_wp2_with (first
        | (refine wpList_append_pend rfl (.tmp 46) (.tmp 48) rfl (w.heap.size + 2) (.slice (some ⟨wr.heap.size, 0, none⟩) 0 0) 0 [] rfl HM10.out a2 m cap2 d.pend us rfl HM.out HNONE.out HUL.out (HUC.out.imp id (fun ⟨b1, o1, q1, q2, q3⟩ => ⟨b1, o1, q1, fun j x hj => ⟨((HB8.out.trans ((Joins.below_alloc1 wr _).mono HB8.out.size)).cell (p := ⟨b1, o1 + j, none⟩) q2).trans (q3 j x hj).1, (q3 j x hj).2⟩⟩)) (by omega) (by rw [World.size_alloc]; omega) ?_; intro v49 w49 hown hgrow; rw [Nat.zero_add, List.nil_append] at hown; obtain ⟨a49, c49, rfl, q491, q492⟩ := own_shape hown; have HN49 := Lib.hid hown; have HG49 := Lib.hid hgrow; have hs49 : wr.heap.size + 1 ≤ w49.heap.size := (by have := hgrow.size; rwa [World.size_alloc] at this); have HB49 := Lib.hid ((below_next HB8.out (Joins.below_alloc1 wr _)).trans (below_grewn HM10.out hgrow (by rw [World.size_alloc]; omega) (by omega))); have HRB49 := Lib.hid ((row_grew (HRB8.out.keep (Joins.below_alloc1 wr _)) HM10.out hgrow (by omega)).keep (Joins.below_alloc1 w49 (.cells #[.int .i64 at', .slice a8 128 c8] 76))); have HRR49 := Lib.hid ((row_grew (HRR8.out.keep (Joins.below_alloc1 wr _)) HM10.out hgrow (by omega)).keep (Joins.below_alloc1 w49 (.cells #[.int .i64 at', .slice a8 128 c8] 76))); have HO49 : Hid ((w49.alloc (.cells #[.int .i64 at', .slice a8 128 c8] 76)).ownsRow (w.heap.size + 2) 76 2 (.slice a49 m c49) m (pcells d.pend us)) := Lib.hid (hown.alloc _); clear hown hgrow)
        | (refine wpList_append_pend rfl (.tmp 49) (.tmp 53) rfl (w.heap.size + 2) (.slice a49 m c49) m (pcells d.pend us) rfl HO49.out (some ⟨w49.heap.size, 0, none⟩) 1 1 [(at', b ++ List.replicate k 0)] [.slice a8 128 c8] rfl rfl (fun h => by cases h) rfl (.inr ⟨w49.heap.size, 0, rfl, fun j x hj => ⟨by rw [Nat.zero_add]; exact (row_new w49 76 [.int .i64 at', .slice a8 128 c8]).cell hj, by have := List.mem_iff_getElem?.2 ⟨j, hj⟩; simp [pcells] at this; rcases this with rfl | rfl <;> rfl⟩⟩) (by omega) (by rw [World.size_alloc]; omega) ?_; intro v54 w54 hown hgrow; obtain ⟨a54, c54, rfl, q541, q542⟩ := own_shape hown; have HN54 := Lib.hid hown; have HG54 := Lib.hid hgrow; have hRB := row_grew HRB49.out HO49.out hgrow (by omega); have e54 := hRB.cell (i := 1) rfl; have f54 := hRB.free 1; have HRX := Lib.hid (hRB.set (cs' := [.slice a n cap, .slice a54 (m + 1) c54, .int .i64 d.left, .bool false]) 1 (.slice a54 (m + 1) c54) rfl); have HRY := Lib.hid ((row_grew HRR49.out HO49.out hgrow (by omega)).setFar (g' := w.heap.size) 1 (.slice a54 (m + 1) c54) (by omega)); have HBX := Lib.hid (below_setCell ((below_next HB49.out (Joins.below_alloc1 w49 _)).trans (below_grewn HO49.out hgrow (by rw [World.size_alloc]; omega) (by omega))) w.heap.size 1 (.slice a54 (m + 1) c54) (Nat.le_refl _)); clear hown hgrow hRB)
        | (refine wpList_load_dsk rfl (.tmp 3) rfl w.heap.size _ (by rfl) rfl HRX.out ?_)
        | (refine wpList_store_ags rfl 25 (.tmp 6) (.tmp 56) rfl (w.heap.size + 1) [.slice a n cap, .slice a54 (m + 1) c54, .int .i64 d.left, .bool false] _ size25 (by rfl) rfl rfl HRY.out (by rfl) HBX.out (by omega) ?_; intro w9 hr hb hf))
      have hfar : ∀ g', w.heap.size + 2 ≤ g' → w9.heap[g']? = w54.heap[g']? := fun g' hg' => (hf g' (by omega)).trans (heap_setCell_other w54 ⟨w.heap.size, 1, none⟩ g' (.slice a54 (m + 1) c54) (by show g' ≠ w.heap.size; omega))
      have h54 := owns_heap HN54.out hfar
      obtain ⟨g8, c8', e8, hge8, hlt8⟩ := HO.out.form (by omega)
      injection e8 with e81 e82 e83
      subst e81
      subst e83
      obtain ⟨cs8, r8, k8⟩ := owns_row HO.out
      have r81 := r8.keep (Joins.below_alloc1 wr (.cells #[] 76))
      have r82 : Row w49 g8 5 cs8 := (HG49.out.block g8 r81.lt (own_neT HM10.out r81 (by decide))).trans r81
      have r83 := r82.keep (Joins.below_alloc1 w49 (.cells #[.int .i64 at', .slice (some ⟨g8, 0, none⟩) 128 c8] 76))
      have r84 : Row w54 g8 5 cs8 := (HG54.out.block g8 r83.lt (own_neT HO49.out r83 (by decide))).trans r83
      have hx : b ++ List.replicate k 0 = sectorL [b] := by
        have := HL.out
        have h128 : b.length ≤ 128 := by omega
        rw [sectorL_pad b h128, show k = 128 - b.length by omega]
      have h8 : RestS (Ext S w.heap.size) w9 (sectorL [b]) (.slice (some ⟨g8, 0, none⟩) 128 c8) := by
        rw [← hx]
        exact rests_of_owns (k8 w9 ((hfar g8 hge8).trans r84)) (by rw [List.length_append, List.length_replicate]; exact HL.out) (.inr (by omega))
      have hp9 : PRestS (Ext S w.heap.size) w9 (d.pend ++ [(at', sectorL [b])]) (.slice a54 (m + 1) c54) := by
        rw [hx] at h54
        exact prests_more (u := .slice (some ⟨g8, 0, none⟩) 128 c8) h54 (by rw [HM.out]) HUL.out (fun g h => .inr (by have := (HN54.out.lt g h).1; omega)) (fun i q x hq hx => ((HUEL.out i q x hq hx).later hb).weak (fun b h _ => .inl h.1)) h8
      exact bodyPost_ret (results_dsk Try.results27 _ w9 (w.heap.size + 1) _ rfl rfl _ rfl hr) rfl ⟨_, rfl, ⟨_, _, rfl, (HS.out.later hb).weak (fun b h _ => .inl h.1), hp9⟩, hb⟩
theorem refwrite_call (S : Nat → Prop) (d : Dsk) (v : Value) (at' : Int) (b : List UInt8) (bv : Value) (w : World) (hd : DRestS S w d v) (hbv : Rest w.heap.size w b bv) :
    Calls Try.prog 27 #[v, .int .i64 at', bv] w (AnswersS S w (writeD d at' b)) := by
  rcases writeD_cases d at' b with ⟨_, h⟩ | ⟨h1, h2, h3, h4, ⟨_, h⟩ | ⟨_, _, h⟩ | ⟨h5, h6, h⟩⟩
  · exact refwrite_refuse S d v at' b bv w hd hbv (by rw [h]; decide)
  · exact refwrite_refuse S d v at' b bv w hd hbv (by rw [h]; decide)
  · exact refwrite_refuse S d v at' b bv w hd hbv (by rw [h]; decide)
  · rw [h]; exact refwrite_ok S d v at' b bv w hd hbv h1 h2 h3 h4 h5 h6
end Go.Proofs.Ytlaaolbdadempaa

/- The reference's Few. -/
namespace Go.Proofs.Ytlaaolbdadempaa
open Go.RowKit

def FewHead (n : Nat) (W : World) (s3 s4 : Value) (wr : World) : Prop := ∃ (z : Int) (k : Nat), k ≤ n ∧ s3 = .int .i64 z ∧ s4 = .int .i64 (k : Int) ∧ Below W.heap.size W wr
def SomeBool (w : World) (e : Ending) (w' : World) : Prop := ∃ r : Bool, e = .returned (.bool r) ∧ Below w.heap.size w w'
set_option maxHeartbeats 4000000 in
set_option maxRecDepth 100000 in
theorem few_call (d : Dsk) (v : Value) (w : World) (h : DRest w.heap.size w d v) : Calls Try.prog 18 #[v] w (SomeBool w) := by
  obtain ⟨s, p, rfl, hs, hp⟩ := h
  have HR0 := Lib.hid (row_new w 25 (dskCells s p d))
  have HS := Lib.hid hs
  have HP := Lib.hid hp
  obtain ⟨a, cap, rfl, hc1, hc2⟩ := hs.shape
  obtain ⟨a2, cap2, rfl, hc3, hc4⟩ := hp.shape
  clear hs hp
  unfold dskOf dskCells at *
  obtain ⟨xs, ps, left, stop⟩ := d
  simp only at HR0 HS HP hc2 hc4 ⊢
  obtain ⟨n, hn⟩ : ∃ n, n = xs.length := ⟨_, rfl⟩
  obtain ⟨m, hm⟩ : ∃ m, m = ps.length := ⟨_, rfl⟩
  rw [← hn] at HR0 HS hc2 ⊢
  rw [← hm] at HR0 HP hc4 ⊢
  have HN := Lib.hid hn
  have HM := Lib.hid hm
  clear hn hm
  have hn63 : n ≤ 9223372036854775807 := by omega
  have hm63 : m ≤ 9223372036854775807 := by omega
  go_enter Try.func18, Try.ntmps18
  go_wp2_with fail
  have HB0 := Lib.hid (Joins.below_alloc1 w (.cells #[.slice a n cap, .slice a2 m cap2, .int .i64 left, .bool stop] 25))
  generalize hW : w.alloc (.cells _ 25) = W1 at HR0 HB0
  try rw [hW]
  clear hW
  go_loopw [3, 4] (fun s3 s4 wr => FewHead n W1 s3 s4 wr) (fun _ s4 _ => n - (intOf s4).toNat)
  case atStart => exact ⟨0, 0, Nat.zero_le _, rfl, rfl, Below.refl _ _⟩
  case round =>
    obtain ⟨z, k, hk, rfl, rfl, hb⟩ := hrel
    have HB := Lib.hid hb
    have c0 := HR0.out.later hb (i := 0) rfl
    have c1 := HR0.out.later hb (i := 1) rfl
    clear hb
    by_cases hgo : k < n ∧ z ≤ 9000
    · obtain ⟨hlt, hz⟩ := hgo
      obtain ⟨x, hx⟩ : ∃ x, xs[k]? = some x := ⟨_, List.getElem?_eq_getElem (by rw [← HN.out]; exact hlt)⟩
      obtain ⟨b, off, u, rfl, hbl, hru, hcell⟩ := HS.out.at hx
      have hcu := hcell wr (below_next HB0.out HB.out)
      obtain ⟨ua, uc, rfl, hu1, hu2⟩ := hru.shape
      have hkn : (k : Int) < (n : Int) := by omega
      have hk0 : (0 : Int) ≤ (k : Int) := by omega
      generalize x.length = l at hcu
      clear hru hcell hx hu1 hu2
      go_wp2_with fail
      exact ⟨⟨_, k + 1, hlt, rfl, by go_num, HB.out⟩, by simp [intOf]; omega⟩
    · have hend : ¬ k < n ∨ (k < n ∧ ¬ z ≤ 9000) := by omega
      have HEND := Lib.hid hend
      clear hgo hend
      obtain ⟨W2, rfl⟩ : ∃ W2, W2 = wr := ⟨wr, rfl⟩
      rcases HEND.out with hge | ⟨hlt, hz⟩
      all_goals
        first
        | have hkn : ¬ (k : Int) < (n : Int) := by omega
        | have hkn : (k : Int) < (n : Int) := by omega
        go_wp2_with fail
        go_loopw [3, 5] (fun s3 s5 wr => FewHead m W2 s3 s5 wr) (fun _ s5 _ => m - (intOf s5).toNat)
        case atStart => exact ⟨z, 0, Nat.zero_le _, rfl, rfl, Below.refl _ _⟩
        case round =>
          obtain ⟨z2, j, hj, rfl, rfl, hb⟩ := hrel
          have HB2 := Lib.hid (below_next HB.out hb)
          have HB3 := Lib.hid hb
          have c0 := HR0.out.later HB2.out (i := 0) rfl
          have c1 := HR0.out.later HB2.out (i := 1) rfl
          clear hb
          by_cases hgo : j < m ∧ z2 ≤ 9000
          · obtain ⟨hlt2, hz2⟩ := hgo
            obtain ⟨x, hx⟩ : ∃ x, ps[j]? = some x := ⟨_, List.getElem?_eq_getElem (by rw [← HM.out]; exact hlt2)⟩
            obtain ⟨b, off, u, rfl, hbl, hru, hcell⟩ := HP.out.at hx
            have hcu := (hcell wr (below_next HB0.out HB2.out)).2
            obtain ⟨ua, uc, rfl, hu1, hu2⟩ := hru.shape
            have hkn : (j : Int) < (m : Int) := by omega
            have hk0 : (0 : Int) ≤ (j : Int) := by omega
            generalize x.2.length = l at hcu
            clear hru hcell hx hu1 hu2
            go_wp2_with fail
            exact ⟨⟨_, j + 1, hlt2, rfl, by go_num, HB3.out⟩, by simp [intOf]; omega⟩
          · have hend : ¬ j < m ∨ (j < m ∧ ¬ z2 ≤ 9000) := by omega
            clear hgo
            rcases hend with hge | ⟨hlt, hz⟩
            · have hkn : ¬ (j : Int) < (m : Int) := by omega
              go_wp2_with fail
              go_ret
              exact ⟨_, rfl, below_next HB0.out HB2.out⟩
            · have hkn : (j : Int) < (m : Int) := by omega
              go_wp2_with fail
              go_ret
              exact ⟨_, rfl, below_next HB0.out HB2.out⟩
end Go.Proofs.Ytlaaolbdadempaa
