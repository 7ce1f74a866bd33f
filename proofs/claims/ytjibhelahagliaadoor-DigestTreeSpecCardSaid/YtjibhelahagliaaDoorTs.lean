/- DigestTreeSpec: the law's walk. -/
import Derived.Test.YtjibhelahagliaaDoorPk
import Derived.Test.YtjibhelahagliaaDoorTa
import Derived.Deep.RegionLaw
import Derived.Deep.RegionHeld
import Derived.BigRegion
namespace Go.Proofs.YtjibhelahagliaaDoor
open Go.RowKit

def TsHead (W : World) (s : Value) (N : Nat) (wr : World) : Prop := ∃ i : Nat, i ≤ N ∧ s = .int .i64 (i : Int) ∧ Below W.heap.size W wr
theorem two_get (a b : Int) (i : Nat) (hi : i < 2) : ∃ x : Int, ([Value.int .i64 a, .int .i64 b])[i]? = some (.int .i64 x) := by
  match i, hi with
  | 0, _ => exact ⟨a, rfl⟩
  | 1, _ => exact ⟨b, rfl⟩
theorem drest_half {B : Nat} {w : World} {a : Option Addr} {t c : Nat} {ps : List (List UInt8)} (hr : DRest B w ps (.slice a t c)) (ht : t = ps.length) (h : Nat) (hh : h = t / 2) : DRest B w (ps.take h) (.slice a h c) := by
  rcases Nat.eq_zero_or_pos t with h0 | h0
  · have h1 : h = 0 := by omega
    have h2 : ps = [] := List.eq_nil_of_length_eq_zero (by omega)
    subst h1 h2
    simpa [h0] using hr
  · obtain ⟨b, off, cap, he, h1, h2, h3, h4⟩ := hr.some (by omega)
    injection he with e1 e2 e3
    subst e1 e3
    have := drest_part (h := hr) 0 h c (by omega) (by omega) (Nat.le_refl _)
    rwa [List.drop_zero, Nat.zero_mul, Nat.add_zero] at this
theorem info30' : ∃ i0, Tryd.prog.info? 30 = some i0 ∧ i0.size = 1 ∧ i0.zero = some (.slice none 0 0) := by
  have h1 : (Tryd.prog.info? 30).map (fun i => i.size) = some 1 := by kernel_rfl
  have h2 : (Tryd.prog.info? 30).map (fun i => i.zero) = some (some (.slice none 0 0)) := by kernel_rfl
  cases h : Tryd.prog.info? 30 with
  | none => rw [h] at h1; cases h1
  | some i => rw [h] at h1 h2; exact ⟨i, rfl, by simpa using h1, by simpa using h2⟩
theorem run_half (qa : Option Addr) (t qc h : Nat) (hh : h ≤ qc) (w : World) : (Instr.sliceAt 30 (Value.slice qa t qc) none (some (Value.int IntKind.i64 ↑h)) none).run Tryd.prog w = .ok (.slice qa h qc) w := by
  obtain ⟨i0, hi, -, -, -⟩ := info_parts Tryd.info26
  have he : Tryd.prog.elem 30 = 26 := by kernel_rfl
  rw [run_sliceAt_slice w 30 _ _ _ _ (by kernel_rfl), run_slice_h w 30 qa t qc (by kernel_rfl) .i64 h (by omega) (by omega)]
  cases qa with
  | none => simp [he, sizeOf, typeInfo, hi, sliced, Result.andThen]
  | some ad => simp [he, sizeOf, typeInfo, hi, sliced, Result.andThen, Addr.add]
theorem wp_half {o : Oper} {a : Act} {w : World} {K : Act → World → Prop} {Q : Exit → Act → World → Prop} (x y : Operand) (ho : o.op = .slice 30 x none (some y) none)
    (qa : Option Addr) (t qc h : Nat) (hx : a.eval x = .slice qa t qc) (hy : a.eval y = .int .i64 (h : Int)) (hh : h ≤ qc)
    (k : K (a.put o.dst (.slice qa h qc)) w) : o.wp Tryd.prog a w K Q := by
  unfold Oper.wp execOp
  simp [ho, hx, hy, run_half qa t qc h hh w, Result.andThen]
  exact k
theorem run_three (a1 a2 a3 : Option Addr) (n1 n2 n3 c1 c2 c3 : Nat) (w : World) :
    (Instr.buildSlice 38 3 #[(0, .slice a1 n1 c1), (1, .slice a2 n2 c2), (2, .slice a3 n3 c3)]).run Tryd.prog w = .ok (.slice (some ⟨w.heap.size, 0, none⟩) 3 3) (w.alloc (.cells #[.slice a1 n1 c1, .slice a2 n2 c2, .slice a3 n3 c3] 30)) := by
  unfold Instr.buildSlice
  have hu : Tryd.prog.underlying 38 = some (.slice 30) := by kernel_rfl
  obtain ⟨i0, hi, hz0, hz1⟩ := info30'
  have hr : Array.range 3 = #[0, 1, 2] := by decide
  simp [Sem.run_bind, run_underlying hu w, sizeOf, typeInfo, hi, hz0, hz1, zeroValue, Instr.fill, Value.cells, hr, newRow, newObj]
  rfl
theorem wp_three {o : Oper} {a : Act} {w : World} {K : Act → World → Prop} {Q : Exit → Act → World → Prop} (x y z : Operand) (ho : o.op = .buildSlice 38 3 #[(0, x), (1, y), (2, z)])
    (a1 a2 a3 : Option Addr) (n1 n2 n3 c1 c2 c3 : Nat) (hx : a.eval x = .slice a1 n1 c1) (hy : a.eval y = .slice a2 n2 c2) (hz : a.eval z = .slice a3 n3 c3)
    (h : ∀ g w', Row w' g 30 [.slice a1 n1 c1, .slice a2 n2 c2, .slice a3 n3 c3] → Below w.heap.size w w' → K (a.put o.dst (.slice (some ⟨g, 0, none⟩) 3 3)) w') : o.wp Tryd.prog a w K Q := by
  have := h _ _ (row_new w 30 _) (Joins.below_alloc1 w _)
  unfold Oper.wp execOp
  simp [ho, hx, hy, hz, run_three a1 a2 a3 n1 n2 n3 c1 c2 c3 w, Sem.run_bind]
  exact this
theorem cut7 {A B C D E F G' : Type} {R0 : A → B → C → D → E → F → G' → Prop} (G : A → B → C → D → E → F → G' → Prop) {R : Prop} (rest : (∀ a b c d e f g, R0 a b c d e f g → G a b c d e f g) → R) (kk : ∀ a b c d e f g, R0 a b c d e f g → G a b c d e f g) : R := rest kk
theorem three_get {Pr : Value → Prop} (x y z : Value) (hx : Pr x) (hy : Pr y) (hz : Pr z) (i : Nat) (hi : i < 3) : ∃ v, [x, y, z][i]? = some v ∧ Pr v := by
  match i, hi with
  | 0, _ => exact ⟨x, rfl, hx⟩
  | 1, _ => exact ⟨y, rfl, hy⟩
  | 2, _ => exact ⟨z, rfl, hz⟩

set_option maxHeartbeats 8000000 in
set_option maxRecDepth 100000 in
theorem treespec_walk (hs : Sane) (bs : List UInt8) (v : Value) (at_ n : Int) (ha0 : -9223372036854775808 ≤ at_) (ha1 : at_ ≤ 9223372036854775807) (d : List UInt8) (hd : d.length = 32) (w : World) (hr : Rest w.heap.size w bs v) (hT : Tab w) :
    Calls Tryd.prog 4 #[v, .int .i64 at_, .int .i64 n, dg d] w fun e w' => e = .returned (.bool true) ∧ Below w.heap.size w w' := by
  have HT := Lib.hid hT
  have HR := Lib.hid hr
  have HDL := Lib.hid hd
  obtain ⟨va, vc, rfl⟩ : ∃ a cap, v = .slice a bs.length cap := by obtain ⟨a, cap, h, _⟩ := hr; exact ⟨a, cap, h⟩
  have HS : Hid (∀ W', Tab W' → Calls Tryd.prog 11 #[] W' fun e w' => e = .returned (.bool true) ∧ Below W'.heap.size W' w') := fun W' h => hs W' h
  have HB0 := Lib.hid (Below.refl w.heap.size w)
  clear hs hT hr hd
  go_enter Tryd.func4, Tryd.ntmps4
  go_wp2_with (first
    | (refine wpList_box_u rfl 7 rfl (.tmp 3) rfl (cellsOf d) rfl ?_; intro g7 w1 hg hrow hb; have H7 := Lib.hid hrow; have HB0 := Lib.hid (below_next HB0.out hb); clear hg hrow hb)
    | (go_at_call 11; (refine (HS.out _ (HT.out.keep HB0.out)).mono ?_); rintro e w2 ⟨rfl, hb⟩; have H7 := Lib.hid (H7.out.keep hb); have HB0 := Lib.hid (below_next HB0.out hb); clear hb)
    | fail)
  have HD := Lib.hid (digestsOf_call bs _ w2 (rest_keep HR.out HB0.out))
  refine HD.out.mono ?_
  rintro e W0 ⟨v3, rfl, hnew⟩
  clear HD
  obtain ⟨ds, hds⟩ : ∃ ds, ds = dgs bs := ⟨_, rfl⟩
  rw [← hds] at hnew
  have hlen : ds.length ≤ 24 := by rw [hds, dgs_len]; omega
  have HBW := Lib.hid (below_next HB0.out hnew.2.1)
  have H7W := Lib.hid (H7.out.keep hnew.2.1)
  have HTW := Lib.hid (HT.out.keep HBW.out)
  have HDS := Lib.hid (dbuf_rest hnew.1)
  obtain ⟨a3, c3, rfl⟩ := hnew.shape
  obtain ⟨m, hm⟩ : ∃ m, m = ds.length := ⟨_, rfl⟩
  rw [← hm] at hlen HDS ⊢
  obtain ⟨tC, htC⟩ : ∃ tC, tC = tree ds := ⟨_, rfl⟩
  have HLC : Hid (tC.length = 32) := by rw [htC]; exact tree_len _
  have HT17 : Hid (∀ W', Below W0.heap.size W0 W' → Calls Tryd.prog 17 #[.slice a3 m c3] W' (RetD W' tC)) := fun W' h => by rw [htC]; exact tree_call ds (by omega) _ W' (HDS.out.keep h) (HTW.out.keep h)
  have HT18 : Hid (∀ W', Below W0.heap.size W0 W' → Calls Tryd.prog 18 #[.slice a3 m c3] W' (RetD W' tC)) := fun W' h => by rw [htC]; exact reftree_call ds (by omega) _ W' (HDS.out.keep h)
  have HBZ := Lib.hid (Below.refl W0.heap.size W0)
  have hmm : ds.length ≤ 1073741824 := by omega
  clear hds hnew hm htC
  go_wp2_with (first
    | (go_at_call 17; (with_reducible refine (HT17.out _ HBZ.out).mono ?_); rintro e w4 ⟨rfl, hb⟩; have HBZ := Lib.hid (below_next HBZ.out hb); clear hb)
    | (go_at_call 18; (with_reducible refine (HT18.out _ HBZ.out).mono ?_); rintro e w5 ⟨rfl, hb⟩; have HBZ := Lib.hid (below_next HBZ.out hb); clear hb)
    | (refine wpList_neq_dig _ _ rfl tC tC HLC.out HLC.out rfl rfl (by rfl) ?_; rw [beq_self_eq_true, Bool.not_true])
    | fail)
  obtain ⟨x2, hx2⟩ : ∃ x, x = bits BinOp.and IntKind.i64 at_ 15 := ⟨_, rfl⟩
  rw [← hx2]
  obtain ⟨W1, hW1⟩ : ∃ W1, W1 = w5.alloc (.cells #[.int .i64 at_, .int .i64 x2] 3) := ⟨_, rfl⟩
  rw [← hW1]
  have HRow1 : Hid (Row W1 w5.heap.size 3 [.int .i64 at_, .int .i64 x2]) := by rw [hW1]; exact row_new w5 3 _
  have hb1 : Below w5.heap.size w5 W1 := by rw [hW1]; exact Joins.below_alloc1 w5 _
  have HB1 := Lib.hid (below_next HBZ.out hb1)
  clear hx2 hW1 hb1
  go_loopw [38] (fun s38 wr => TsHead W1 s38 2 wr) (fun s38 _ => 2 - (intOf s38).toNat)
  case atStart => exact ⟨0, by omega, by go_num, Below.refl _ _⟩
  case round =>
    obtain ⟨k, hk, rfl, hbr⟩ := hrel
    have HBR := Lib.hid hbr
    clear hbr
    rcases Nat.lt_or_ge k 2 with hlt | hge
    · obtain ⟨x, hx⟩ := two_get at_ x2 k hlt
      have hcell : wr.cell? ⟨w5.heap.size, k, none⟩ = some (.int .i64 x) := (HRow1.out.keep HBR.out).cell hx
      have hk2 : (k : Int) < 2 := by omega
      obtain ⟨ps, x1, hps, hp19, hp20⟩ := both_path ds hmm x
      have HP19 := Lib.hid hp19
      have HP20 := Lib.hid hp20
      obtain ⟨t, ht⟩ : ∃ t, t = ps.length := ⟨_, rfl⟩
      rw [← ht] at hps
      have HTT := Lib.hid ht
      have HB := Lib.hid (below_next HB1.out HBR.out)
      clear hp19 hp20 hx ht
      go_wp2_with (first
        | (go_at_call 19; (refine (HP19.out _ _ (HDS.out.keep HB.out) (HTW.out.keep HB.out)).mono ?_); rintro e w6 ⟨u1, rfl, hn⟩; have HU1 := Lib.hid (dbuf_rest hn.1); have HB := Lib.hid (below_next HB.out hn.2.1); have HBR := Lib.hid (below_next HBR.out hn.2.1); clear hn)
        | (go_at_call 20; (refine (HP20.out _ _ (HDS.out.keep HB.out) (HTW.out.keep HB.out)).mono ?_); rintro e w7 ⟨u2, rfl, hn⟩; have HU1 := Lib.hid (HU1.out.keep hn.2.1); have HU2 := Lib.hid (dbuf_rest hn.1); have HB := Lib.hid (below_next HB.out hn.2.1); have HBR := Lib.hid (below_next HBR.out hn.2.1); obtain ⟨qa, qc, hu2⟩ := hn.shape; rw [← HTT.out] at hu2; subst hu2; clear hn)
        | (go_at_call 21; (refine (same_call ps _ _ _ HU1.out HU2.out).mono ?_); rintro e w8 ⟨rfl, hb⟩; have HU2 := Lib.hid (HU2.out.keep hb); have HB := Lib.hid (below_next HB.out hb); have HBR := Lib.hid (below_next HBR.out hb); clear hb)
        | fail)
      obtain ⟨W2, hW2⟩ : ∃ W2, W2 = w8.alloc (.cells #[.int .i64 n, .int .i64 (m : Int)] 3) := ⟨_, rfl⟩
      rw [← hW2]
      have HRow2 : Hid (Row W2 w8.heap.size 3 [.int .i64 n, .int .i64 (m : Int)]) := by rw [hW2]; exact row_new w8 3 _
      have hb2 : Below w8.heap.size w8 W2 := by rw [hW2]; exact Joins.below_alloc1 w8 _
      have HB2 := Lib.hid (below_next HB.out hb2)
      have HBR2 := Lib.hid (below_next HBR.out hb2)
      have HU3 := Lib.hid (HU2.out.keep hb2)
      clear hW2 hb2
      go_loopw [68] (fun s68 wr => TsHead W2 s68 2 wr) (fun s68 _ => 2 - (intOf s68).toNat)
      case atStart => exact ⟨0, by omega, by go_num, Below.refl _ _⟩
      case round =>
        obtain ⟨k2, hkk2, rfl, hbr2⟩ := hrel
        have HBS := Lib.hid hbr2
        clear hbr2
        rcases Nat.lt_or_ge k2 2 with hlt2 | hge2
        · obtain ⟨y, hy⟩ := two_get n (m : Int) k2 hlt2
          have hcell2 : wr.cell? ⟨w8.heap.size, k2, none⟩ = some (.int .i64 y) := (HRow2.out.keep HBS.out).cell hy
          have hk22 : (k2 : Int) < 2 := by omega
          have HB3 := Lib.hid (below_next HB2.out HBS.out)
          have HBR3 := Lib.hid (below_next HBR2.out HBS.out)
          clear hy
          have HDA : Hid (DigAt (fun w' => Below wr.heap.size wr w') g7 d) := ⟨HDL.out, fun W' h => range_row (H7W.out.keep (below_next HB3.out h))⟩
          have HPS : Hid (∀ W' : World, Below wr.heap.size wr W' → DRest W'.heap.size W' ps (.slice qa t qc)) := fun W' h => HU3.out.keep (below_next HBS.out h)
          obtain ⟨h, hh⟩ : ∃ h, h = t / 2 := ⟨_, rfl⟩
          have HH := Lib.hid hh
          have hdiv : (t : Int).tdiv 2 = (h : Int) := by rw [Int.tdiv_eq_ediv_of_nonneg (by omega)]; omega
          have hcap : t ≤ qc := by obtain ⟨_, _, _, he, hc, _⟩ := HU3.out; injection he with _ _ e3; omega
          have hwr : IntKind.i64.wrap (h : Int) = (h : Int) := by rw [IntKind.wrap_i64]; omega
          have hhc : h ≤ qc := by omega
          have HL1 : Hid (([] : List (List UInt8)).length + ps.length ≤ 1099511627776) := by show ([] : List (List UInt8)).length + ps.length ≤ 1099511627776; rw [List.length_nil, ← HTT.out]; omega
          have HL2 : Hid (ps.length + [d].length ≤ 1099511627776) := by show ps.length + [d].length ≤ 1099511627776; rw [List.length_singleton, ← HTT.out]; omega
          clear hh
          go_wp2_with fail
          refine' cut7 (R0 := fun (_ _ : Value) (a2 : Option Addr) (c2 : Nat) (_ gq : Nat) (w' : World) => DNew wr w' (.slice a2 (ps ++ [d]).length c2) (ps ++ [d]) ∧ Row w' gq 30 [.slice qa t qc, .slice a2 (ps ++ [d]).length c2, .slice qa h qc]) _ ?rest ?kk
          case rest =>
            intro K
            (refine wp_region_held_drew (S := fun w' => Below wr.heap.size wr w') (by kernel_rfl) ((Below.refl _ wr).drew) (fun hHeld => ?_))
            (obtain ⟨w0, hw0⟩ : ∃ x, x = wr.drew := ⟨_, rfl⟩; rw [← hw0] at hHeld ⊢; have HB0 := Lib.hid hHeld; clear hHeld hw0)
            refine wpAnyH_take (i := 0) (oi := { dst := some 72, op := Op.move (Operand.tmp 14), type := 30, pos := "law.go:68", after := #[], guard := none }) (v := ?_) rfl (by kernel_rfl) (by kernel_rfl) (by kernel_rfl) (fun _ _ _ h => h) (Or.inl ⟨by rfl, ?_⟩) HB0.out ?_
            rotate_left
            · (intro w _; go_simp; with_reducible rfl)
            try simp only [Act.put, List.setIfInBounds_toArray, List.set_cons_zero, List.set_cons_succ]
            refine wpAnyH_take (i := 2) (oi := { dst := some 74, op := Op.move (Operand.tmp 14), type := 30, pos := "law.go:68", after := #[], guard := none }) (v := ?_) rfl (by kernel_rfl) (by kernel_rfl) (by kernel_rfl) (fun _ _ _ h => h) (Or.inl ⟨by rfl, ?_⟩) HB0.out ?_
            rotate_left
            · (intro w _; go_simp; with_reducible rfl)
            try simp only [Act.put, List.setIfInBounds_toArray, List.set_cons_zero, List.set_cons_succ]
            refine wpAnyH_take (i := 7) (oi := { dst := some 79, op := Op.move (Operand.tmp 14), type := 30, pos := "law.go:68", after := #[], guard := none }) (v := ?_) rfl (by kernel_rfl) (by kernel_rfl) (by kernel_rfl) (fun _ _ _ h => h) (Or.inl ⟨by rfl, ?_⟩) HB0.out ?_
            rotate_left
            · (intro w _; go_simp; with_reducible rfl)
            try simp only [Act.put, List.setIfInBounds_toArray, List.set_cons_zero, List.set_cons_succ]
            refine wpAnyH_take (i := 8) (oi := { dst := some 80, op := Op.move (Operand.tmp 14), type := 30, pos := "law.go:68", after := #[], guard := none }) (v := ?_) rfl (by kernel_rfl) (by kernel_rfl) (by kernel_rfl) (fun _ _ _ h => h) (Or.inl ⟨by rfl, ?_⟩) HB0.out ?_
            rotate_left
            · (intro w _; go_simp; with_reducible rfl)
            try simp only [Act.put, List.setIfInBounds_toArray, List.set_cons_zero, List.set_cons_succ]
            refine wpAnyH_take (i := 9) (oi := { dst := some 81, op := Op.call { callee := Callee.builtin Builtin.len, args := #[Operand.tmp 80], argTypes := #[30] }, type := 3, pos := "law.go:68", after := #[{ on := 8, ground := Ground.data }], guard := none }) (v := ?_) rfl (by kernel_rfl) (by kernel_rfl) (by kernel_rfl) (fun _ _ _ h => h) (Or.inl ⟨by rfl, ?_⟩) HB0.out ?_
            rotate_left
            · (intro w _; go_simp; with_reducible rfl)
            try simp only [Act.put, List.setIfInBounds_toArray, List.set_cons_zero, List.set_cons_succ]
            refine wpAnyH_take (i := 10) (oi := { dst := some 82, op := Op.binOp BinOp.quo 3 (Operand.tmp 81) (Operand.const (Value.int IntKind.i64 2)) 3, type := 3, pos := "law.go:68", after := #[{ on := 9, ground := Ground.data }], guard := none }) (v := ?_) rfl (by kernel_rfl) (by kernel_rfl) (by kernel_rfl) (fun _ _ _ h => h) (Or.inl ⟨by rfl, ?_⟩) HB0.out ?_
            rotate_left
            · (intro w _; go_simp; with_reducible rfl)
            try simp only [Act.put, List.setIfInBounds_toArray, List.set_cons_zero, List.set_cons_succ]
            refine wpAnyH_take (i := 11) (oi := { dst := some 83, op := Op.slice 30 (Operand.tmp 79) none (some (Operand.tmp 82)) none, type := 30, pos := "law.go:68", after := #[{ on := 7, ground := Ground.data }, { on := 10, ground := Ground.data }], guard := none }) (v := ?_) rfl (by kernel_rfl) (by kernel_rfl) (by kernel_rfl) (fun _ _ _ h => h) (Or.inl ⟨by rfl, ?_⟩) HB0.out ?_
            rotate_left
            · (intro w _; go_simp; with_reducible rfl)
            try simp only [Act.put, List.setIfInBounds_toArray, List.set_cons_zero, List.set_cons_succ]
            refine wpAnyH_take (i := 14) (oi := { dst := some 86, op := Op.move (Operand.const (Value.int IntKind.i64 0)), type := 3, pos := "law.go:68", after := #[], guard := none }) (v := ?_) rfl (by kernel_rfl) (by kernel_rfl) (by kernel_rfl) (fun _ _ _ h => h) (Or.inl ⟨by rfl, ?_⟩) HB0.out ?_
            rotate_left
            · (intro w _; go_simp; with_reducible rfl)
            try simp only [Act.put, List.setIfInBounds_toArray, List.set_cons_zero, List.set_cons_succ]
            refine take_dig (i := 4) (oi := { dst := some 76, op := Op.load 26 (Operand.tmp 7), type := 26, pos := "law.go:68", after := #[], guard := none }) (HDA.out) rfl (by kernel_rfl) (by kernel_rfl) (by kernel_rfl) (fun _ _ _ h => h) HB0.out rfl rfl (by rfl) ?_
            try simp only [Act.put, List.setIfInBounds_toArray, List.set_cons_zero, List.set_cons_succ]
            refine wpAnyH_ready (rs := [1, 5]) (by kernel_rfl) (by simp) ?_
            refine AllReadyH.cons (o := { dst := some 73, op := Op.buildSlice 30 0 #[], type := 30, pos := "law.go:68", after := #[], guard := none }) rfl (fun K hK => ?_) ?_
            · rw [if_pos (by rfl)]
              ((refine wp_dnone' rfl HB0.out ?_; intro v0 w11 hn hown hb; (try have hdG := own_ne HG.out hown); (try have HG := Lib.hid (HG.out.keep hb)); have HN := Lib.hid hn; have HB0 := Lib.hid hn.2.1; clear hn hown hb))
              refine hK.out _ _ HB0.out (fun _ => ?_)
              clear hK K
              try simp only [Act.put, List.setIfInBounds_toArray, List.set_cons_zero, List.set_cons_succ]
              refine wpAnyH_ready (rs := [3, 5]) (by kernel_rfl) (by simp) ?_
              refine AllReadyH.cons (o := { dst := some 75, op := Op.call { callee := Callee.builtin Builtin.append, args := #[Operand.tmp 73, Operand.tmp 74], argTypes := #[30, 30] }, type := 30, pos := "law.go:68", after := #[{ on := 1, ground := Ground.data }, { on := 2, ground := Ground.data }], guard := none }) rfl (fun K hK => ?_) ?_
              · rw [if_pos (by rfl)]
                ((refine wp_dapp' rfl _ _ rfl v0 [] rfl HN.out _ _ ps rfl (HPS.out _ HB0.out) HL1.out ?_; intro v1 w13 hn hk; (try have hx := hk _ _ _ HG.out hdG; have hdG := hx.2; have HG := Lib.hid hx.1; clear hx); have HN : Hid (DNew wr w13 v1 ps) := hn; have HB0 := Lib.hid hn.2.1; clear hn hk))
                refine hK.out _ _ HB0.out (fun _ => ?_)
                clear hK K
                try simp only [Act.put, List.setIfInBounds_toArray, List.set_cons_zero, List.set_cons_succ]
                refine wpAnyH_ready (rs := [5]) (by kernel_rfl) (by simp) ?_
                refine AllReadyH.cons (o := { dst := some 77, op := Op.buildSlice 30 1 #[(0, Operand.tmp 76)], type := 30, pos := "law.go:68", after := #[{ on := 4, ground := Ground.data }], guard := none }) rfl (fun K hK => ?_) ?_
                · rw [if_pos (by rfl)]
                  ((refine wp_one' _ rfl d HDL.out rfl ?_; intro g0 w12 hrow hg hb; (try have hdG := dnew_ne HN.out hg); (try have HN := Lib.hid (HN.out.keep hb)); have HG := Lib.hid hrow; have HB0 := Lib.hid (below_next HB0.out hb); clear hrow hg hb))
                  refine hK.out _ _ HB0.out (fun _ => ?_)
                  clear hK K
                  try simp only [Act.put, List.setIfInBounds_toArray, List.set_cons_zero, List.set_cons_succ]
                  refine wpAnyH_ready (rs := [6]) (by kernel_rfl) (by simp) ?_
                  refine AllReadyH.cons (o := { dst := some 78, op := Op.call { callee := Callee.builtin Builtin.append, args := #[Operand.tmp 75, Operand.tmp 77], argTypes := #[30, 30] }, type := 30, pos := "law.go:68", after := #[{ on := 3, ground := Ground.data }, { on := 5, ground := Ground.data }, { on := 3, ground := Ground.chain }], guard := none }) rfl (fun K hK => ?_) ?_
                  · rw [if_pos (by rfl)]
                    ((refine wp_dapp' rfl _ _ rfl v1 ps rfl HN.out _ _ [d] rfl (drest_one' HG.out HDL.out) HL2.out ?_; intro v2 w14 hn hk; obtain ⟨a2, c2, rfl⟩ := hn.shape; have HN := Lib.hid hn; have HB0 := Lib.hid hn.2.1; clear hn hk))
                    refine hK.out _ _ HB0.out (fun _ => ?_)
                    clear hK K
                    try simp only [Act.put, List.setIfInBounds_toArray, List.set_cons_zero, List.set_cons_succ]
                    refine wpAnyH_ready (rs := [12]) (by kernel_rfl) (by simp) ?_
                    refine AllReadyH.cons (o := { dst := some 84, op := Op.buildSlice 38 3 #[(0, Operand.tmp 72), (1, Operand.tmp 78), (2, Operand.tmp 83)], type := 38, pos := "law.go:68", after := #[{ on := 0, ground := Ground.data }, { on := 6, ground := Ground.data }, { on := 11, ground := Ground.data }], guard := none }) rfl (fun K hK => ?_) ?_
                    · rw [if_pos (by rfl)]
                      ((refine wp_three _ _ _ rfl qa a2 qa t (ps ++ [d]).length h qc c2 qc rfl rfl rfl ?_; intro gq w15 hrow hb; have HQ := Lib.hid hrow; have HN := Lib.hid (HN.out.keep hb); have HB0 := Lib.hid (below_next HB0.out hb); clear hrow hb))
                      refine hK.out _ _ HB0.out (fun _ => ?_)
                      clear hK K
                      try simp only [Act.put, List.setIfInBounds_toArray, List.set_cons_zero, List.set_cons_succ]
                      refine wpAnyH_take (i := 13) (oi := { dst := some 85, op := Op.call { callee := Callee.builtin Builtin.len, args := #[Operand.tmp 84], argTypes := #[38] }, type := 3, pos := "law.go:68", after := #[{ on := 12, ground := Ground.data }], guard := none }) (v := ?_) rfl (by kernel_rfl) (by kernel_rfl) (by kernel_rfl) (fun _ _ _ h => h) (Or.inl ⟨by rfl, ?_⟩) HB0.out ?_
                      rotate_left
                      · (intro w _; go_simp; with_reducible rfl)
                      try simp only [Act.put, List.setIfInBounds_toArray, List.set_cons_zero, List.set_cons_succ]
                      refine wpAnyH_done (by kernel_rfl) ?_ _
                      ((exact K v0 v1 a2 c2 g0 gq _ ⟨HN.out, HQ.out⟩))
                    exact AllReadyH.nil
                  exact AllReadyH.nil
                exact AllReadyH.nil
              refine AllReadyH.cons (o := { dst := some 77, op := Op.buildSlice 30 1 #[(0, Operand.tmp 76)], type := 30, pos := "law.go:68", after := #[{ on := 4, ground := Ground.data }], guard := none }) rfl (fun K hK => ?_) ?_
              · rw [if_pos (by rfl)]
                ((refine wp_one' _ rfl d HDL.out rfl ?_; intro g0 w12 hrow hg hb; (try have hdG := dnew_ne HN.out hg); (try have HN := Lib.hid (HN.out.keep hb)); have HG := Lib.hid hrow; have HB0 := Lib.hid (below_next HB0.out hb); clear hrow hg hb))
                refine hK.out _ _ HB0.out (fun _ => ?_)
                clear hK K
                try simp only [Act.put, List.setIfInBounds_toArray, List.set_cons_zero, List.set_cons_succ]
                refine wpAnyH_ready (rs := [3]) (by kernel_rfl) (by simp) ?_
                refine AllReadyH.cons (o := { dst := some 75, op := Op.call { callee := Callee.builtin Builtin.append, args := #[Operand.tmp 73, Operand.tmp 74], argTypes := #[30, 30] }, type := 30, pos := "law.go:68", after := #[{ on := 1, ground := Ground.data }, { on := 2, ground := Ground.data }], guard := none }) rfl (fun K hK => ?_) ?_
                · rw [if_pos (by rfl)]
                  ((refine wp_dapp' rfl _ _ rfl v0 [] rfl HN.out _ _ ps rfl (HPS.out _ HB0.out) HL1.out ?_; intro v1 w13 hn hk; (try have hx := hk _ _ _ HG.out hdG; have hdG := hx.2; have HG := Lib.hid hx.1; clear hx); have HN : Hid (DNew wr w13 v1 ps) := hn; have HB0 := Lib.hid hn.2.1; clear hn hk))
                  refine hK.out _ _ HB0.out (fun _ => ?_)
                  clear hK K
                  try simp only [Act.put, List.setIfInBounds_toArray, List.set_cons_zero, List.set_cons_succ]
                  refine wpAnyH_ready (rs := [6]) (by kernel_rfl) (by simp) ?_
                  refine AllReadyH.cons (o := { dst := some 78, op := Op.call { callee := Callee.builtin Builtin.append, args := #[Operand.tmp 75, Operand.tmp 77], argTypes := #[30, 30] }, type := 30, pos := "law.go:68", after := #[{ on := 3, ground := Ground.data }, { on := 5, ground := Ground.data }, { on := 3, ground := Ground.chain }], guard := none }) rfl (fun K hK => ?_) ?_
                  · rw [if_pos (by rfl)]
                    ((refine wp_dapp' rfl _ _ rfl v1 ps rfl HN.out _ _ [d] rfl (drest_one' HG.out HDL.out) HL2.out ?_; intro v2 w14 hn hk; obtain ⟨a2, c2, rfl⟩ := hn.shape; have HN := Lib.hid hn; have HB0 := Lib.hid hn.2.1; clear hn hk))
                    refine hK.out _ _ HB0.out (fun _ => ?_)
                    clear hK K
                    try simp only [Act.put, List.setIfInBounds_toArray, List.set_cons_zero, List.set_cons_succ]
                    refine wpAnyH_ready (rs := [12]) (by kernel_rfl) (by simp) ?_
                    refine AllReadyH.cons (o := { dst := some 84, op := Op.buildSlice 38 3 #[(0, Operand.tmp 72), (1, Operand.tmp 78), (2, Operand.tmp 83)], type := 38, pos := "law.go:68", after := #[{ on := 0, ground := Ground.data }, { on := 6, ground := Ground.data }, { on := 11, ground := Ground.data }], guard := none }) rfl (fun K hK => ?_) ?_
                    · rw [if_pos (by rfl)]
                      ((refine wp_three _ _ _ rfl qa a2 qa t (ps ++ [d]).length h qc c2 qc rfl rfl rfl ?_; intro gq w15 hrow hb; have HQ := Lib.hid hrow; have HN := Lib.hid (HN.out.keep hb); have HB0 := Lib.hid (below_next HB0.out hb); clear hrow hb))
                      refine hK.out _ _ HB0.out (fun _ => ?_)
                      clear hK K
                      try simp only [Act.put, List.setIfInBounds_toArray, List.set_cons_zero, List.set_cons_succ]
                      refine wpAnyH_take (i := 13) (oi := { dst := some 85, op := Op.call { callee := Callee.builtin Builtin.len, args := #[Operand.tmp 84], argTypes := #[38] }, type := 3, pos := "law.go:68", after := #[{ on := 12, ground := Ground.data }], guard := none }) (v := ?_) rfl (by kernel_rfl) (by kernel_rfl) (by kernel_rfl) (fun _ _ _ h => h) (Or.inl ⟨by rfl, ?_⟩) HB0.out ?_
                      rotate_left
                      · (intro w _; go_simp; with_reducible rfl)
                      try simp only [Act.put, List.setIfInBounds_toArray, List.set_cons_zero, List.set_cons_succ]
                      refine wpAnyH_done (by kernel_rfl) ?_ _
                      ((exact K v0 v1 a2 c2 g0 gq _ ⟨HN.out, HQ.out⟩))
                    exact AllReadyH.nil
                  exact AllReadyH.nil
                exact AllReadyH.nil
              exact AllReadyH.nil
            refine AllReadyH.cons (o := { dst := some 77, op := Op.buildSlice 30 1 #[(0, Operand.tmp 76)], type := 30, pos := "law.go:68", after := #[{ on := 4, ground := Ground.data }], guard := none }) rfl (fun K hK => ?_) ?_
            · rw [if_pos (by rfl)]
              ((refine wp_one' _ rfl d HDL.out rfl ?_; intro g0 w12 hrow hg hb; (try have hdG := dnew_ne HN.out hg); (try have HN := Lib.hid (HN.out.keep hb)); have HG := Lib.hid hrow; have HB0 := Lib.hid (below_next HB0.out hb); clear hrow hg hb))
              refine hK.out _ _ HB0.out (fun _ => ?_)
              clear hK K
              try simp only [Act.put, List.setIfInBounds_toArray, List.set_cons_zero, List.set_cons_succ]
              refine wpAnyH_ready (rs := [1]) (by kernel_rfl) (by simp) ?_
              refine AllReadyH.cons (o := { dst := some 73, op := Op.buildSlice 30 0 #[], type := 30, pos := "law.go:68", after := #[], guard := none }) rfl (fun K hK => ?_) ?_
              · rw [if_pos (by rfl)]
                ((refine wp_dnone' rfl HB0.out ?_; intro v0 w11 hn hown hb; (try have hdG := own_ne HG.out hown); (try have HG := Lib.hid (HG.out.keep hb)); have HN := Lib.hid hn; have HB0 := Lib.hid hn.2.1; clear hn hown hb))
                refine hK.out _ _ HB0.out (fun _ => ?_)
                clear hK K
                try simp only [Act.put, List.setIfInBounds_toArray, List.set_cons_zero, List.set_cons_succ]
                refine wpAnyH_ready (rs := [3]) (by kernel_rfl) (by simp) ?_
                refine AllReadyH.cons (o := { dst := some 75, op := Op.call { callee := Callee.builtin Builtin.append, args := #[Operand.tmp 73, Operand.tmp 74], argTypes := #[30, 30] }, type := 30, pos := "law.go:68", after := #[{ on := 1, ground := Ground.data }, { on := 2, ground := Ground.data }], guard := none }) rfl (fun K hK => ?_) ?_
                · rw [if_pos (by rfl)]
                  ((refine wp_dapp' rfl _ _ rfl v0 [] rfl HN.out _ _ ps rfl (HPS.out _ HB0.out) HL1.out ?_; intro v1 w13 hn hk; (try have hx := hk _ _ _ HG.out hdG; have hdG := hx.2; have HG := Lib.hid hx.1; clear hx); have HN : Hid (DNew wr w13 v1 ps) := hn; have HB0 := Lib.hid hn.2.1; clear hn hk))
                  refine hK.out _ _ HB0.out (fun _ => ?_)
                  clear hK K
                  try simp only [Act.put, List.setIfInBounds_toArray, List.set_cons_zero, List.set_cons_succ]
                  refine wpAnyH_ready (rs := [6]) (by kernel_rfl) (by simp) ?_
                  refine AllReadyH.cons (o := { dst := some 78, op := Op.call { callee := Callee.builtin Builtin.append, args := #[Operand.tmp 75, Operand.tmp 77], argTypes := #[30, 30] }, type := 30, pos := "law.go:68", after := #[{ on := 3, ground := Ground.data }, { on := 5, ground := Ground.data }, { on := 3, ground := Ground.chain }], guard := none }) rfl (fun K hK => ?_) ?_
                  · rw [if_pos (by rfl)]
                    ((refine wp_dapp' rfl _ _ rfl v1 ps rfl HN.out _ _ [d] rfl (drest_one' HG.out HDL.out) HL2.out ?_; intro v2 w14 hn hk; obtain ⟨a2, c2, rfl⟩ := hn.shape; have HN := Lib.hid hn; have HB0 := Lib.hid hn.2.1; clear hn hk))
                    refine hK.out _ _ HB0.out (fun _ => ?_)
                    clear hK K
                    try simp only [Act.put, List.setIfInBounds_toArray, List.set_cons_zero, List.set_cons_succ]
                    refine wpAnyH_ready (rs := [12]) (by kernel_rfl) (by simp) ?_
                    refine AllReadyH.cons (o := { dst := some 84, op := Op.buildSlice 38 3 #[(0, Operand.tmp 72), (1, Operand.tmp 78), (2, Operand.tmp 83)], type := 38, pos := "law.go:68", after := #[{ on := 0, ground := Ground.data }, { on := 6, ground := Ground.data }, { on := 11, ground := Ground.data }], guard := none }) rfl (fun K hK => ?_) ?_
                    · rw [if_pos (by rfl)]
                      ((refine wp_three _ _ _ rfl qa a2 qa t (ps ++ [d]).length h qc c2 qc rfl rfl rfl ?_; intro gq w15 hrow hb; have HQ := Lib.hid hrow; have HN := Lib.hid (HN.out.keep hb); have HB0 := Lib.hid (below_next HB0.out hb); clear hrow hb))
                      refine hK.out _ _ HB0.out (fun _ => ?_)
                      clear hK K
                      try simp only [Act.put, List.setIfInBounds_toArray, List.set_cons_zero, List.set_cons_succ]
                      refine wpAnyH_take (i := 13) (oi := { dst := some 85, op := Op.call { callee := Callee.builtin Builtin.len, args := #[Operand.tmp 84], argTypes := #[38] }, type := 3, pos := "law.go:68", after := #[{ on := 12, ground := Ground.data }], guard := none }) (v := ?_) rfl (by kernel_rfl) (by kernel_rfl) (by kernel_rfl) (fun _ _ _ h => h) (Or.inl ⟨by rfl, ?_⟩) HB0.out ?_
                      rotate_left
                      · (intro w _; go_simp; with_reducible rfl)
                      try simp only [Act.put, List.setIfInBounds_toArray, List.set_cons_zero, List.set_cons_succ]
                      refine wpAnyH_done (by kernel_rfl) ?_ _
                      ((exact K v0 v1 a2 c2 g0 gq _ ⟨HN.out, HQ.out⟩))
                    exact AllReadyH.nil
                  exact AllReadyH.nil
                exact AllReadyH.nil
              exact AllReadyH.nil
            exact AllReadyH.nil
          case kk =>
            rintro v0 v1 a2 c2 g0 gq W3 ⟨hnew, hrow3⟩
            obtain ⟨t1, ht1⟩ : ∃ t1, t1 = (ps ++ [d]).length := ⟨_, rfl⟩
            rw [← ht1] at hnew hrow3 ⊢
            clear ht1
            have HBX := Lib.hid hnew.2.1
            have HRow3 := Lib.hid hrow3
            have HPick : Hid (∀ i, i < 3 → ∃ v, [Value.slice qa t qc, .slice a2 t1 c2, .slice qa h qc][i]? = some v ∧ ∃ pl, DRest W3.heap.size W3 pl v) := fun i hi =>
              three_get (Pr := fun v => ∃ pl, DRest W3.heap.size W3 pl v) _ _ _ ⟨ps, HPS.out _ HBX.out⟩ ⟨_, dbuf_rest hnew.1⟩ ⟨_, drest_half (HPS.out _ HBX.out) HTT.out h HH.out⟩ i hi
            have HB4 := Lib.hid (below_next HB3.out HBX.out)
            clear hnew hrow3 hdiv hwr hhc hcap
            go_wp2_with fail
            go_loopw [86] (fun s86 wx => TsHead W3 s86 3 wx) (fun s86 _ => 3 - (intOf s86).toNat)
            case atStart => exact ⟨0, by omega, by go_num, Below.refl _ _⟩
            case round =>
              obtain ⟨k3, hkk3, rfl, hbr3⟩ := hrel
              have HBT := Lib.hid hbr3
              clear hbr3
              rcases Nat.lt_or_ge k3 3 with hlt3 | hge3
              · obtain ⟨v, hv, pl, hpl⟩ := HPick.out k3 hlt3
                have hcell3 : wr.cell? ⟨gq, k3, none⟩ = some v := (HRow3.out.keep HBT.out).cell hv
                have hk33 : (k3 : Int) < 3 := by omega
                obtain ⟨r, xx, hrl, hB1, hB2⟩ := both_climb d HDL.out x y pl
                have HRL := Lib.hid hrl
                have HPL := Lib.hid (hpl.keep HBT.out)
                have HB5 := Lib.hid (below_next HB4.out HBT.out)
                have H7X := Lib.hid (H7W.out.keep HB5.out)
                have HC22 : Hid (∀ W', Below wr.heap.size wr W' → Calls Tryd.prog 22 #[dg d, .int .i64 x, .int .i64 y, v] W' fun e w' => e = .returned (.tuple #[dg r, .int .i64 xx]) ∧ Below W'.heap.size W' w') := fun W' h => hB1 W' v (HPL.out.keep h) (HTW.out.keep (below_next HB5.out h))
                have HC23 : Hid (∀ W', Below wr.heap.size wr W' → Calls Tryd.prog 23 #[dg d, .int .i64 x, .int .i64 y, v] W' fun e w' => e = .returned (.tuple #[dg r, .int .i64 xx]) ∧ Below W'.heap.size W' w') := fun W' h => hB2 W' v (HPL.out.keep h)
                have HRow7n : g7 < wr.heap.size := H7X.out.lt
                have HBL := Lib.hid (Below.refl wr.heap.size wr)
                obtain ⟨-, va', vc', rfl, -⟩ := hpl
                clear hB1 hB2 hrl hv
                go_wp2_with (first
                  | (refine wpList_row_dig rfl (.tmp 7) rfl g7 d HDL.out rfl H7X.out ?_)
                  | (go_at_call 22; (with_reducible refine (HC22.out _ HBL.out).mono ?_); rintro e w21 ⟨rfl, hb⟩; have H7X := Lib.hid (H7X.out.keep hb); have HBL := Lib.hid (below_next HBL.out hb); clear hb)
                  | (go_at_call 23; (with_reducible refine (HC23.out _ HBL.out).mono ?_); rintro e w24 ⟨rfl, hb⟩; have H20 := Lib.hid (H20.out.keep hb); have HBL := Lib.hid (below_next HBL.out hb); clear hb)
                  | (refine wpList_alloc_dig rfl 20 rfl rfl ?_; intro g20 w22 hg hrow hb; have hge20 : wr.heap.size ≤ g20 := (by have := HBL.out.size; omega); have H7X := Lib.hid (H7X.out.keep hb); have H20 := Lib.hid hrow; have HBL := Lib.hid (below_next HBL.out hb); clear hg hrow hb)
                  | (refine wpList_store_dig rfl (.tmp 20) (.tmp 96) rfl g20 r HRL.out rfl rfl H20.out HBL.out hge20 ?_; intro w23 hrow hb hoth; have H7X := Lib.hid (hoth _ _ _ (by have := HRow7n; omega) H7X.out); have H20 := Lib.hid hrow; have HBL := Lib.hid hb; clear hrow hb hoth)
                  | (refine wpList_alloc_dig rfl 22 rfl rfl ?_; intro g22 w25 hg hrow hb; have hge22 : wr.heap.size ≤ g22 := (by have := HBL.out.size; omega); have hne22 : g20 ≠ g22 := (by have := H20.out.lt; omega); have H20 := Lib.hid (H20.out.keep hb); have H22 := Lib.hid hrow; have HBL := Lib.hid (below_next HBL.out hb); clear hg hrow hb)
                  | (refine wpList_store_dig rfl (.tmp 22) (.tmp 104) rfl g22 r HRL.out rfl rfl H22.out HBL.out hge22 ?_; intro w26 hrow hb hoth; have H20 := Lib.hid (hoth _ _ _ hne22 H20.out); have H22 := Lib.hid hrow; have HBL := Lib.hid hb; clear hrow hb hoth)
                  | (refine wpList_row_dig rfl (.tmp 20) rfl g20 r HRL.out rfl H20.out ?_)
                  | (refine wpList_row_dig rfl (.tmp 22) rfl g22 r HRL.out rfl H22.out ?_)
                  | (refine wpList_neq_dig _ _ rfl r r HRL.out HRL.out rfl rfl (by rfl) ?_; rw [beq_self_eq_true, Bool.not_true])
                  | fail)
                go_roundw
                case rel => exact ⟨k3 + 1, by omega, by go_num, below_next HBT.out HBL.out⟩
                case measure => simp [intOf]; omega
              · obtain rfl : k3 = 3 := by omega
                have hk33 : k2 < 2 := hlt2
                go_wp2_with fail
                go_roundw
                case rel => exact ⟨k2 + 1, by omega, by go_num, below_next HBS.out (below_next HBX.out HBT.out)⟩
                case measure => simp [intOf]; omega
        · obtain rfl : k2 = 2 := by omega
          have hk23 : k < 2 := hlt
          go_wp2_with fail
          go_roundw
          case rel => exact ⟨k + 1, by omega, by go_num, below_next HBR2.out HBS.out⟩
          case measure => simp [intOf]; omega
    · obtain rfl : k = 2 := by omega
      go_wp2_with fail
      go_ret
      exact ⟨rfl, below_next HBW.out (below_next HB1.out HBR.out)⟩
end Go.Proofs.YtjibhelahagliaaDoor
