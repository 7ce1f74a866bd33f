/- The reference's Sector: the bytes of a sector, put together by appends. -/
import Derived.Lib.AppendZerosOnto
import Derived.Test.YtlaaolbdadempaaZe25
namespace Go.Proofs.Ytlaaolbdadempaa
open Go.RowKit

theorem zero_cells (k : Nat) : Builtin.zeroCells (Value.int IntKind.u8 0).cells k = (cellsOf (List.replicate k 0)).toArray := by
  have e : (Value.int IntKind.u8 0).cells = #[Value.int IntKind.u8 0] := rfl
  unfold Builtin.zeroCells
  rw [e]
  apply Array.ext
  · simp [cellsOf]
  · intro i h1 h2
    simp [cellsOf]
    have : i % 1 = 0 := by omega
    simp [this]
theorem run_append_zeros (w : World) (base : Nat) (v : Value) (n : Nat) (xs : List UInt8) (hown : w.ownsRow base 5 1 v n (cellsOf xs)) (h0 : 0 < n) (k : Nat) (hlen : n + k ≤ 1000000) (hbase : base ≤ w.heap.size) (ty : TypeId) :
    ∃ v' w', (Builtin.append_ #[35, 3] ty #[v, .int .i64 (k : Int)]).run Try.prog w = .ok v' w' ∧ w'.ownsRow base 5 1 v' (n + k) (cellsOf (xs ++ List.replicate k 0)) ∧ w.grownBy w' v.ownBlock := by
  obtain ⟨i0, hi, hz0, hz1, hz2⟩ := info_parts Try.info5
  have hxl : xs.length = n := by have := hown.1; rw [cellsOf_len] at this; omega
  have hlen2 : (cellsOf (xs ++ List.replicate k 0)).length = (n + k) * 1 := by rw [cellsOf_len, List.length_append, List.length_replicate]; omega
  rcases hown.2 with ⟨rfl, h9⟩ | ⟨g, cap, cur, rfl, hbg, hg, hnc, hcm, hcs, htake⟩
  · omega
  · have hw : IntKind.i64.wrap (k : Int) = k := by rw [IntKind.wrap_i64]; omega
    have hneg : ¬ ((k : Int) < 0) := by omega
    have h48i : ¬ (281474976710656 < (k : Int) * (i0.bytes : Int)) := by rw [hz2]; omega
    by_cases hroom : n + k ≤ cap
    · rcases Nat.eq_zero_or_pos k with hk | hk
      · subst hk
        have hr : (Builtin.append_ #[35, 3] ty #[.slice (some ⟨g, 0, none⟩) n cap, .int .i64 ((0 : Nat) : Int)]).run Try.prog w = .ok (.slice (some ⟨g, 0, none⟩) n cap) w := by
          have hst := run_storeCells_at Try.prog g (n * 1) 5 [] 0 cur w hg (by simp; omega) (by simp)
          simp only [Nat.add_zero] at hst
          have hw0 : IntKind.i64.wrap 0 = 0 := by rw [IntKind.wrap_i64]; omega
          simp [Builtin.append_, run_underlying Try.underlying35, run_underlying Try.underlying3, sizeOf, typeInfo, zeroValue, hi, hz0, hz1, asInt, asIntOf, hnc, Addr.add_lit, storeCells, hw0]
        exact ⟨_, _, hr, by simpa using hown, ⟨rfl, rfl, rfl, Nat.le_refl _, fun _ _ _ => rfl⟩⟩
      · have hfit : n * 1 + (cellsOf (List.replicate k 0)).length ≤ cur.size := by rw [cellsOf_len, List.length_replicate, hcs]; omega
        have hst := run_storeCells_at Try.prog g (n * 1) 5 (cellsOf (List.replicate k 0)) 0 cur w hg (by simpa using hfit) (cells_one _)
        simp only [Nat.add_zero, Nat.mul_one, List.append_assoc] at hst
        have hk0 : ¬ k = 0 := by omega
        have hr : (Builtin.append_ #[35, 3] ty #[.slice (some ⟨g, 0, none⟩) n cap, .int .i64 (k : Int)]).run Try.prog w =
            .ok (.slice (some ⟨g, 0, none⟩) (n + k) cap) (w.setRow g (cur.toList.take n ++ (cellsOf (List.replicate k 0) ++ cur.toList.drop (n + (cellsOf (List.replicate k 0)).length))).toArray) := by
          simp [Builtin.append_, run_underlying Try.underlying35, run_underlying Try.underlying3, sizeOf, typeInfo, zeroValue, hi, hz0, hz1, asInt, asIntOf, hroom, Addr.add_lit, hw, hneg, h48i, hk0, zero_cells, hst]
        refine ⟨_, _, hr, ⟨hlen2, .inr ⟨g, cap, _, rfl, hbg, setRow_heap w g cur _ 5 _ hg, hroom, hcm, ?_, ?_⟩⟩, ⟨rfl, rfl, rfl, by simp, fun k _ hk => setRow_other w g k _ (fun e => hk (by simp [Value.ownBlock, e]))⟩⟩
        · simp only [List.size_toArray, List.length_append, List.length_take, List.length_drop, Array.length_toList]
          omega
        · rw [Nat.mul_one] at htake
          rw [htake, ← hlen2, cellsOf_append, ← List.append_assoc]
          exact List.take_left
    · have hk : 0 < k := by omega
      have holds : ∀ j u, (cellsOf xs)[j]? = some u → w.cell? ((⟨g, 0, none⟩ : Addr).add j) = some u := hown.cells (g := g) rfl
      have hold := run_firstCells_some (P := Try.prog) w.drew 1 n ⟨g, 0, none⟩ n cap (cellsOf xs) hown.1 (by simpa using holds)
      have hfitg : Builtin.nextslicecap (n + k) cap * i0.bytes ≤ 281474976710656 := growslice_fits (by omega) (by rw [hz2]; omega)
      have hr := Lib.run_append_grow_zeros (P := Try.prog) w 35 3 ty 5 i0 (.int .u8 0) .i64 .i64 Try.underlying35 Try.underlying3 hi hz0 (some ⟨g, 0, none⟩) n cap (cellsOf xs) (by rw [hz1]; exact hold) k hk (by omega) (by omega) (by omega) (by rw [hz2]; omega) hfitg
      have hge := grownCap_ge w (n + k) cap 5
      have hcm2 : grownCap w (n + k) cap 5 ≤ maxLen := grownCap_le_maxLen w (n + k) cap 5 (by unfold maxLen; omega)
      refine ⟨_, _, hr, ⟨hlen2, .inr ⟨w.heap.size, _, _, rfl, hbase, heap_alloc_new w.drew _, hge, hcm2, ?_, ?_⟩⟩, ⟨rfl, rfl, rfl, by simp, fun k hk _ => Below.heap_alloc w.drew _ k hk⟩⟩
      · rw [zero_cells, zero_cells]
        simp only [Array.size_append, List.size_toArray, cellsOf_len, List.length_replicate]
        omega
      · rw [zero_cells, zero_cells]
        simp only [Array.toList_append]
        rw [← cellsOf_append, ← hlen2]
        exact List.take_left
theorem wpList_append_zeros {w : World} {ops : Array Oper} {rest : List Oper} {o : Oper} {a : Act} {Q : Exit → Act → World → Prop} (hgd : o.guard = none) (s x : Operand) (ho : o.op = .call { callee := .builtin .append, args := #[s, x], argTypes := #[35, 3] })
    (base : Nat) (v : Value) (n : Nat) (xs : List UInt8) (hs : a.eval s = v) (hown : w.ownsRow base 5 1 v n (cellsOf xs)) (h0 : 0 < n) (k : Nat) (hx : a.eval x = .int .i64 (k : Int)) (hlen : n + k ≤ 1000000) (hbase : base ≤ w.heap.size)
    (h : ∀ v' w', w'.ownsRow base 5 1 v' (n + k) (cellsOf (xs ++ List.replicate k 0)) → w.grownBy w' v.ownBlock → wpList Try.prog ops Q rest (a.put o.dst v') w') : wpList Try.prog ops Q (o :: rest) a w := by
  obtain ⟨v', w', hr, h2, h3⟩ := run_append_zeros w base v n xs hown h0 k hlen hbase o.type
  exact Lib.wpList_append_run w hgd s x 35 3 ho _ _ hs hx v' w' hr (h v' w' h2 h3)
end Go.Proofs.Ytlaaolbdadempaa

/- The reference's Sector, walked. -/
namespace Go.Proofs.Ytlaaolbdadempaa
open Go.RowKit

def kindN (b1 b2 : Bool) : Nat := (if b1 then 1 else 0) + (if b2 then 2 else 0)
theorem two_row (w : World) {kd L : Nat} (h1 : kd < 256) (h2 : L < 256) : Row (w.alloc (.cells #[.int .u8 (kd : Int), .int .u8 (L : Int)] 5)) w.heap.size 5 (cellsOf [UInt8.ofNat kd, UInt8.ofNat L]) := by
  have h := row_new w 5 (cellsOf [UInt8.ofNat kd, UInt8.ofNat L])
  have e : cellsOf [UInt8.ofNat kd, UInt8.ofNat L] = [.int .u8 (kd : Int), .int .u8 (L : Int)] := by
    simp only [cellsOf, List.map_cons, List.map_nil, UInt8.toNat_ofNat']
    rw [show kd % 2 ^ 8 = kd by omega, show L % 2 ^ 8 = L by omega]
  rw [e] at h ⊢
  exact h
theorem own_rest {w : World} {base n : Nat} {v : Value} {xs : List UInt8} (h : w.ownsRow base 5 1 v n (cellsOf xs)) (hn : n = xs.length) : Rest w.heap.size w xs v := (rests_own h hn).rest
theorem own_keep {w w' : World} {base e size n : Nat} {v : Value} {xs : List Value} (h : w.ownsRow base e size v n xs) (hb : Below w.heap.size w w') : w'.ownsRow base e size v n xs :=
  h.kept (row := none) ⟨hb.os, hb.tape, hb.output, hb.size, fun k hk _ => hb.block k hk⟩ (by cases hv : v.ownBlock <;> simp)
/-- what Sector answers -/
def SeAns (w : World) (l : List UInt8) (e : Ending) (w' : World) : Prop := ∃ a c, e = .returned (.slice a 128 c) ∧ Rest w'.heap.size w' l (.slice a 128 c) ∧ Below w.heap.size w w'
set_option maxHeartbeats 8000000 in
set_option maxRecDepth 100000 in
theorem refsector_call (gen k kd : Nat) (b1 b2 : Bool) (hkd : kindN b1 b2 = kd) (piece : List UInt8) (pv : Value) (w : World) (h : Rest w.heap.size w piece pv) (hg : gen < 4294967296) (hk : k < 65536) (hl : piece.length ≤ 112) :
    Calls Try.prog 73 #[.int .u64 (gen : Int), .int .i64 (k : Int), .bool b1, .bool b2, pv] w (SeAns w (secP ⟨gen, UInt8.ofNat kd, piece⟩ k)) := by
  obtain ⟨pa, pc, rfl, hp1, hp2⟩ := h.shape
  have HP := Lib.hid h
  have HN2 : Hid (∀ W, Calls Try.prog 90 #[.int .u64 (k : Int), .int .i64 2] W (NmAns W (tailN k 2) 2)) := Lib.hid (fun W => numeral_call k 2 (by omega) (by omega) W)
  have HGA : Hid (∀ W, Calls Try.prog 90 #[.int .u64 (gen : Int), .int .i64 4] W (NmAns W (tailN gen 4) 4)) := Lib.hid (fun W => numeral_call gen 4 (by omega) (by omega) W)
  have HGB := Lib.hid HGA.out
  obtain ⟨BD, hBD⟩ : ∃ BD, BD = bodyP ⟨gen, UInt8.ofNat kd, piece⟩ k := ⟨_, rfl⟩
  have hBDl : BD.length = 116 := by rw [hBD]; unfold bodyP; simp; omega
  obtain ⟨L, hL⟩ : ∃ L, L = piece.length := ⟨_, rfl⟩
  have hBD2 : (tailN k 2 ++ [UInt8.ofNat kd, UInt8.ofNat L] ++ piece) ++ List.replicate (112 - L) 0 = BD := by
    rw [hBD, tailN_2, hL]; unfold bodyP; simp
  have HBD2 := Lib.hid hBD2
  have hsec : (tailN gen 4 ++ tailN (crc BD) 4 ++ BD) ++ tailN gen 4 = secP ⟨gen, UInt8.ofNat kd, piece⟩ k := by
    rw [tailN_4, tailN_4, hBD]; unfold secP; simp
  have HSEC := Lib.hid hsec
  have HSL := Lib.hid (secP_len ⟨gen, UInt8.ofNat kd, piece⟩ k hl)
  have hcr := crc_lt BD
  obtain ⟨cr, hcre⟩ : ∃ cr, cr = crc BD := ⟨_, rfl⟩
  rw [← hcre] at hcr HSEC
  have HCR := Lib.hid hcre
  have HGC : Hid (∀ W, Calls Try.prog 90 #[.int .u64 (cr : Int), .int .i64 4] W (NmAns W (tailN cr 4) 4)) := Lib.hid (fun W => numeral_call cr 4 (by omega) (by omega) W)
  have HBDL := Lib.hid hBDl
  rw [← hL] at HP hl hp2 ⊢
  have HL := Lib.hid hL
  obtain ⟨z, hz⟩ : ∃ z : Nat, z = 112 - L := ⟨_, rfl⟩
  rw [← hz] at HBD2
  have hsub : (112 : Int) - (L : Int) = (z : Int) := by omega
  have hwk : IntKind.u64.wrap (k : Int) = (k : Int) := by rw [IntKind.wrap_u64]; omega
  have hwl : IntKind.u8.wrap (L : Int) = (L : Int) := by rw [IntKind.wrap_u8]; omega
  have hwz : IntKind.i64.wrap (112 - (L : Int)) = (z : Int) := by rw [IntKind.wrap_i64]; omega
  have hwc : IntKind.u64.wrap (cr : Int) = (cr : Int) := by rw [IntKind.wrap_u64]; omega
  have HZ := Lib.hid hz
  clear h hBD hBDl hBD2 hsec hcre hL hz
  cases b1 <;> cases b2 <;> (simp only [kindN, Bool.false_eq_true, if_true, if_false, Nat.reduceAdd] at hkd; subst hkd)
  · go_enter Try.func73, Try.ntmps73
    go_wp2_with (first
      | (go_at_call 90; refine (HN2.out _).mono ?_; rintro e w1 ⟨g1, rfl, hr, hg1, hb⟩; have HB1 := Lib.hid hb; have HO1 : Hid ((w1.alloc (.cells #[.int .u8 0, .int .u8 (L : Int)] 5)).ownsRow w.heap.size 5 1 (.slice (some ⟨g1, 0, none⟩) 2 2) 2 (cellsOf (tailN k 2))) := Lib.hid ((owns_of_row (base := w.heap.size) hr (tailN_len _ _) (by omega) hg1).alloc _); have hs1 := hb.size; have HT := Lib.hid (two_row w1 (kd := 0) (L := L) (by omega) (by omega)); clear hr hg1 hb HN2)
      | (refine wpList_append_rest rfl (.tmp 22) (.tmp 27) rfl w.heap.size (.slice (some ⟨g1, 0, none⟩) 2 2) 2 (tailN k 2) rfl HO1.out [UInt8.ofNat 0, UInt8.ofNat L] (.slice (some ⟨w1.heap.size, 0, none⟩) 2 2) rfl (row_restT HT.out rfl (by omega)) (by simp) (by rw [World.size_alloc]; omega) ?_; intro v2 w2 hown hgrow; have HB2 := Lib.hid ((below_next HB1.out (Joins.below_alloc1 w1 _)).trans (below_grewn HO1.out hgrow (by rw [World.size_alloc]; omega) (Nat.le_refl _))); obtain ⟨a2, c2, rfl, q21, q22⟩ := own_shape hown; have HO2 := Lib.hid hown; have hs2 := HB2.out.size; clear hown hgrow HO1 HT HB1 hs1)
      | (refine wpList_append_rest rfl (.tmp 29) (.tmp 30) rfl w.heap.size (.slice a2 4 c2) 4 _ rfl HO2.out piece (.slice pa L pc) rfl (HP.out.stays HB2.out) (by rw [← HL.out]; omega) (by omega) ?_; intro v3 w3 hown hgrow; have HB3 := Lib.hid (HB2.out.trans (below_grewn HO2.out hgrow (by omega) (Nat.le_refl _))); rw [← HL.out] at hown; obtain ⟨a3, c3, rfl, q31, q32⟩ := own_shape hown; have HO3 := Lib.hid hown; have hs3 := HB3.out.size; clear hown hgrow HO2 HB2 hs2 q21 q22)
      | (refine wpList_append_zeros rfl (.tmp 32) (.tmp 35) rfl w.heap.size (.slice a3 (4 + L) c3) (4 + L) _ rfl HO3.out (by omega) z rfl (by have := HZ.out; omega) (by omega) ?_; intro v4 w4 hown hgrow; have HB4 := Lib.hid (HB3.out.trans (below_grewn HO3.out hgrow (by omega) (Nat.le_refl _))); rw [show 4 + L + z = 116 by have := HZ.out; omega, HBD2.out] at hown; obtain ⟨a4, c4, rfl, q41, q42⟩ := own_shape hown; have HO4 := Lib.hid (own_rest hown HBDL.out.symm); have hs4 := HB4.out.size; clear hown hgrow HO3 HB3 hs3 q31 q32)
      | (go_at_call 90; refine (HGA.out _).mono ?_; rintro e w5 ⟨g5, rfl, hr, hg5, hb⟩; have HB5 := Lib.hid hb; have HO5 := Lib.hid (owns_of_row (base := w4.heap.size) hr (tailN_len _ _) (by omega) hg5); have HR5 := Lib.hid (HO4.out.stays hb); have hs5 := hb.size; clear hr hg5 hb HGA)
      | (go_at_call 91; refine (refcrc_call BD (.slice a4 116 c4) _ w5 HR5.out).mono ?_; rintro e w5' ⟨rfl, rfl⟩; rw [← HCR.out])
      | (go_at_call 90; refine (HGC.out _).mono ?_; rintro e w6 ⟨g6, rfl, hr, hg6, hb⟩; have HB6 := Lib.hid (HB5.out.trans (hb.mono hs5)); have HO6 := Lib.hid (own_keep HO5.out hb); have HR6 := Lib.hid (row_restT hr (tailN_len _ _) (by omega)); have hs6 := hb.size; clear hr hg6 hb HGC HO5 HR5 HB5)
      | (refine wpList_append_rest rfl (.tmp 38) (.tmp 42) rfl w4.heap.size (.slice (some ⟨g5, 0, none⟩) 4 4) 4 (tailN gen 4) rfl HO6.out (tailN cr 4) (.slice (some ⟨g6, 0, none⟩) 4 4) rfl HR6.out (by rw [tailN_len]; omega) (by omega) ?_; intro v7 w7 hown hgrow; have HB7 := Lib.hid (HB6.out.trans (below_grewn HO6.out hgrow (by omega) (Nat.le_refl _))); rw [tailN_len] at hown; obtain ⟨a7, c7, rfl, q71, q72⟩ := own_shape hown; have HO7 := Lib.hid hown; have hs7 := HB7.out.size; have HR7 := Lib.hid (HO4.out.stays HB7.out); clear hown hgrow HO6 HR6 HB6)
      | (refine wpList_append_rest rfl (.tmp 44) (.tmp 45) rfl w4.heap.size (.slice a7 8 c7) 8 _ rfl HO7.out BD (.slice a4 116 c4) rfl HR7.out (by rw [HBDL.out]; omega) (by omega) ?_; intro v8 w8 hown hgrow; have HB8 := Lib.hid (HB7.out.trans (below_grewn HO7.out hgrow (by omega) (Nat.le_refl _))); rw [HBDL.out] at hown; obtain ⟨a8, c8, rfl, q81, q82⟩ := own_shape hown; have HO8 := Lib.hid hown; have hs8 := HB8.out.size; clear hown hgrow HO7 HR7 HB7 q71 q72)
      | (go_at_call 90; refine (HGB.out _).mono ?_; rintro e w9 ⟨g9, rfl, hr, hg9, hb⟩; have HB9 := Lib.hid (HB8.out.trans (hb.mono hs8)); have HO9 := Lib.hid (own_keep HO8.out hb); have HR9 := Lib.hid (row_restT hr (tailN_len _ _) (by omega)); have hs9 := hb.size; clear hr hg9 hb HGB HO8 HB8)
      | (refine wpList_append_rest rfl (.tmp 46) (.tmp 48) rfl w4.heap.size (.slice a8 124 c8) 124 _ rfl HO9.out (tailN gen 4) (.slice (some ⟨g9, 0, none⟩) 4 4) rfl HR9.out (by rw [tailN_len]; omega) (by omega) ?_; intro v10 w10 hown hgrow; have HB10 := Lib.hid (HB9.out.trans (below_grewn HO9.out hgrow (by omega) (Nat.le_refl _))); rw [tailN_len, HSEC.out] at hown; obtain ⟨a10, c10, rfl, q101, q102⟩ := own_shape hown; have HR10 := Lib.hid (own_rest hown HSL.out.symm); clear hown hgrow HO9 HR9 HB9))
    go_ret
    exact ⟨a10, c10, rfl, HR10.out, HB4.out.trans (HB10.out.mono hs4)⟩
  · go_enter Try.func73, Try.ntmps73
    go_wp2_with (first
      | (go_at_call 90; refine (HN2.out _).mono ?_; rintro e w1 ⟨g1, rfl, hr, hg1, hb⟩; have HB1 := Lib.hid hb; have HO1 : Hid ((w1.alloc (.cells #[.int .u8 2, .int .u8 (L : Int)] 5)).ownsRow w.heap.size 5 1 (.slice (some ⟨g1, 0, none⟩) 2 2) 2 (cellsOf (tailN k 2))) := Lib.hid ((owns_of_row (base := w.heap.size) hr (tailN_len _ _) (by omega) hg1).alloc _); have hs1 := hb.size; have HT := Lib.hid (two_row w1 (kd := 2) (L := L) (by omega) (by omega)); clear hr hg1 hb HN2)
      | (refine wpList_append_rest rfl (.tmp 22) (.tmp 27) rfl w.heap.size (.slice (some ⟨g1, 0, none⟩) 2 2) 2 (tailN k 2) rfl HO1.out [UInt8.ofNat 2, UInt8.ofNat L] (.slice (some ⟨w1.heap.size, 0, none⟩) 2 2) rfl (row_restT HT.out rfl (by omega)) (by simp) (by rw [World.size_alloc]; omega) ?_; intro v2 w2 hown hgrow; have HB2 := Lib.hid ((below_next HB1.out (Joins.below_alloc1 w1 _)).trans (below_grewn HO1.out hgrow (by rw [World.size_alloc]; omega) (Nat.le_refl _))); obtain ⟨a2, c2, rfl, q21, q22⟩ := own_shape hown; have HO2 := Lib.hid hown; have hs2 := HB2.out.size; clear hown hgrow HO1 HT HB1 hs1)
      | (refine wpList_append_rest rfl (.tmp 29) (.tmp 30) rfl w.heap.size (.slice a2 4 c2) 4 _ rfl HO2.out piece (.slice pa L pc) rfl (HP.out.stays HB2.out) (by rw [← HL.out]; omega) (by omega) ?_; intro v3 w3 hown hgrow; have HB3 := Lib.hid (HB2.out.trans (below_grewn HO2.out hgrow (by omega) (Nat.le_refl _))); rw [← HL.out] at hown; obtain ⟨a3, c3, rfl, q31, q32⟩ := own_shape hown; have HO3 := Lib.hid hown; have hs3 := HB3.out.size; clear hown hgrow HO2 HB2 hs2 q21 q22)
      | (refine wpList_append_zeros rfl (.tmp 32) (.tmp 35) rfl w.heap.size (.slice a3 (4 + L) c3) (4 + L) _ rfl HO3.out (by omega) z rfl (by have := HZ.out; omega) (by omega) ?_; intro v4 w4 hown hgrow; have HB4 := Lib.hid (HB3.out.trans (below_grewn HO3.out hgrow (by omega) (Nat.le_refl _))); rw [show 4 + L + z = 116 by have := HZ.out; omega, HBD2.out] at hown; obtain ⟨a4, c4, rfl, q41, q42⟩ := own_shape hown; have HO4 := Lib.hid (own_rest hown HBDL.out.symm); have hs4 := HB4.out.size; clear hown hgrow HO3 HB3 hs3 q31 q32)
      | (go_at_call 90; refine (HGA.out _).mono ?_; rintro e w5 ⟨g5, rfl, hr, hg5, hb⟩; have HB5 := Lib.hid hb; have HO5 := Lib.hid (owns_of_row (base := w4.heap.size) hr (tailN_len _ _) (by omega) hg5); have HR5 := Lib.hid (HO4.out.stays hb); have hs5 := hb.size; clear hr hg5 hb HGA)
      | (go_at_call 91; refine (refcrc_call BD (.slice a4 116 c4) _ w5 HR5.out).mono ?_; rintro e w5' ⟨rfl, rfl⟩; rw [← HCR.out])
      | (go_at_call 90; refine (HGC.out _).mono ?_; rintro e w6 ⟨g6, rfl, hr, hg6, hb⟩; have HB6 := Lib.hid (HB5.out.trans (hb.mono hs5)); have HO6 := Lib.hid (own_keep HO5.out hb); have HR6 := Lib.hid (row_restT hr (tailN_len _ _) (by omega)); have hs6 := hb.size; clear hr hg6 hb HGC HO5 HR5 HB5)
      | (refine wpList_append_rest rfl (.tmp 38) (.tmp 42) rfl w4.heap.size (.slice (some ⟨g5, 0, none⟩) 4 4) 4 (tailN gen 4) rfl HO6.out (tailN cr 4) (.slice (some ⟨g6, 0, none⟩) 4 4) rfl HR6.out (by rw [tailN_len]; omega) (by omega) ?_; intro v7 w7 hown hgrow; have HB7 := Lib.hid (HB6.out.trans (below_grewn HO6.out hgrow (by omega) (Nat.le_refl _))); rw [tailN_len] at hown; obtain ⟨a7, c7, rfl, q71, q72⟩ := own_shape hown; have HO7 := Lib.hid hown; have hs7 := HB7.out.size; have HR7 := Lib.hid (HO4.out.stays HB7.out); clear hown hgrow HO6 HR6 HB6)
      | (refine wpList_append_rest rfl (.tmp 44) (.tmp 45) rfl w4.heap.size (.slice a7 8 c7) 8 _ rfl HO7.out BD (.slice a4 116 c4) rfl HR7.out (by rw [HBDL.out]; omega) (by omega) ?_; intro v8 w8 hown hgrow; have HB8 := Lib.hid (HB7.out.trans (below_grewn HO7.out hgrow (by omega) (Nat.le_refl _))); rw [HBDL.out] at hown; obtain ⟨a8, c8, rfl, q81, q82⟩ := own_shape hown; have HO8 := Lib.hid hown; have hs8 := HB8.out.size; clear hown hgrow HO7 HR7 HB7 q71 q72)
      | (go_at_call 90; refine (HGB.out _).mono ?_; rintro e w9 ⟨g9, rfl, hr, hg9, hb⟩; have HB9 := Lib.hid (HB8.out.trans (hb.mono hs8)); have HO9 := Lib.hid (own_keep HO8.out hb); have HR9 := Lib.hid (row_restT hr (tailN_len _ _) (by omega)); have hs9 := hb.size; clear hr hg9 hb HGB HO8 HB8)
      | (refine wpList_append_rest rfl (.tmp 46) (.tmp 48) rfl w4.heap.size (.slice a8 124 c8) 124 _ rfl HO9.out (tailN gen 4) (.slice (some ⟨g9, 0, none⟩) 4 4) rfl HR9.out (by rw [tailN_len]; omega) (by omega) ?_; intro v10 w10 hown hgrow; have HB10 := Lib.hid (HB9.out.trans (below_grewn HO9.out hgrow (by omega) (Nat.le_refl _))); rw [tailN_len, HSEC.out] at hown; obtain ⟨a10, c10, rfl, q101, q102⟩ := own_shape hown; have HR10 := Lib.hid (own_rest hown HSL.out.symm); clear hown hgrow HO9 HR9 HB9))
    go_ret
    exact ⟨a10, c10, rfl, HR10.out, HB4.out.trans (HB10.out.mono hs4)⟩
  · go_enter Try.func73, Try.ntmps73
    go_wp2_with (first
      | (go_at_call 90; refine (HN2.out _).mono ?_; rintro e w1 ⟨g1, rfl, hr, hg1, hb⟩; have HB1 := Lib.hid hb; have HO1 : Hid ((w1.alloc (.cells #[.int .u8 1, .int .u8 (L : Int)] 5)).ownsRow w.heap.size 5 1 (.slice (some ⟨g1, 0, none⟩) 2 2) 2 (cellsOf (tailN k 2))) := Lib.hid ((owns_of_row (base := w.heap.size) hr (tailN_len _ _) (by omega) hg1).alloc _); have hs1 := hb.size; have HT := Lib.hid (two_row w1 (kd := 1) (L := L) (by omega) (by omega)); clear hr hg1 hb HN2)
      | (refine wpList_append_rest rfl (.tmp 22) (.tmp 27) rfl w.heap.size (.slice (some ⟨g1, 0, none⟩) 2 2) 2 (tailN k 2) rfl HO1.out [UInt8.ofNat 1, UInt8.ofNat L] (.slice (some ⟨w1.heap.size, 0, none⟩) 2 2) rfl (row_restT HT.out rfl (by omega)) (by simp) (by rw [World.size_alloc]; omega) ?_; intro v2 w2 hown hgrow; have HB2 := Lib.hid ((below_next HB1.out (Joins.below_alloc1 w1 _)).trans (below_grewn HO1.out hgrow (by rw [World.size_alloc]; omega) (Nat.le_refl _))); obtain ⟨a2, c2, rfl, q21, q22⟩ := own_shape hown; have HO2 := Lib.hid hown; have hs2 := HB2.out.size; clear hown hgrow HO1 HT HB1 hs1)
      | (refine wpList_append_rest rfl (.tmp 29) (.tmp 30) rfl w.heap.size (.slice a2 4 c2) 4 _ rfl HO2.out piece (.slice pa L pc) rfl (HP.out.stays HB2.out) (by rw [← HL.out]; omega) (by omega) ?_; intro v3 w3 hown hgrow; have HB3 := Lib.hid (HB2.out.trans (below_grewn HO2.out hgrow (by omega) (Nat.le_refl _))); rw [← HL.out] at hown; obtain ⟨a3, c3, rfl, q31, q32⟩ := own_shape hown; have HO3 := Lib.hid hown; have hs3 := HB3.out.size; clear hown hgrow HO2 HB2 hs2 q21 q22)
      | (refine wpList_append_zeros rfl (.tmp 32) (.tmp 35) rfl w.heap.size (.slice a3 (4 + L) c3) (4 + L) _ rfl HO3.out (by omega) z rfl (by have := HZ.out; omega) (by omega) ?_; intro v4 w4 hown hgrow; have HB4 := Lib.hid (HB3.out.trans (below_grewn HO3.out hgrow (by omega) (Nat.le_refl _))); rw [show 4 + L + z = 116 by have := HZ.out; omega, HBD2.out] at hown; obtain ⟨a4, c4, rfl, q41, q42⟩ := own_shape hown; have HO4 := Lib.hid (own_rest hown HBDL.out.symm); have hs4 := HB4.out.size; clear hown hgrow HO3 HB3 hs3 q31 q32)
      | (go_at_call 90; refine (HGA.out _).mono ?_; rintro e w5 ⟨g5, rfl, hr, hg5, hb⟩; have HB5 := Lib.hid hb; have HO5 := Lib.hid (owns_of_row (base := w4.heap.size) hr (tailN_len _ _) (by omega) hg5); have HR5 := Lib.hid (HO4.out.stays hb); have hs5 := hb.size; clear hr hg5 hb HGA)
      | (go_at_call 91; refine (refcrc_call BD (.slice a4 116 c4) _ w5 HR5.out).mono ?_; rintro e w5' ⟨rfl, rfl⟩; rw [← HCR.out])
      | (go_at_call 90; refine (HGC.out _).mono ?_; rintro e w6 ⟨g6, rfl, hr, hg6, hb⟩; have HB6 := Lib.hid (HB5.out.trans (hb.mono hs5)); have HO6 := Lib.hid (own_keep HO5.out hb); have HR6 := Lib.hid (row_restT hr (tailN_len _ _) (by omega)); have hs6 := hb.size; clear hr hg6 hb HGC HO5 HR5 HB5)
      | (refine wpList_append_rest rfl (.tmp 38) (.tmp 42) rfl w4.heap.size (.slice (some ⟨g5, 0, none⟩) 4 4) 4 (tailN gen 4) rfl HO6.out (tailN cr 4) (.slice (some ⟨g6, 0, none⟩) 4 4) rfl HR6.out (by rw [tailN_len]; omega) (by omega) ?_; intro v7 w7 hown hgrow; have HB7 := Lib.hid (HB6.out.trans (below_grewn HO6.out hgrow (by omega) (Nat.le_refl _))); rw [tailN_len] at hown; obtain ⟨a7, c7, rfl, q71, q72⟩ := own_shape hown; have HO7 := Lib.hid hown; have hs7 := HB7.out.size; have HR7 := Lib.hid (HO4.out.stays HB7.out); clear hown hgrow HO6 HR6 HB6)
      | (refine wpList_append_rest rfl (.tmp 44) (.tmp 45) rfl w4.heap.size (.slice a7 8 c7) 8 _ rfl HO7.out BD (.slice a4 116 c4) rfl HR7.out (by rw [HBDL.out]; omega) (by omega) ?_; intro v8 w8 hown hgrow; have HB8 := Lib.hid (HB7.out.trans (below_grewn HO7.out hgrow (by omega) (Nat.le_refl _))); rw [HBDL.out] at hown; obtain ⟨a8, c8, rfl, q81, q82⟩ := own_shape hown; have HO8 := Lib.hid hown; have hs8 := HB8.out.size; clear hown hgrow HO7 HR7 HB7 q71 q72)
      | (go_at_call 90; refine (HGB.out _).mono ?_; rintro e w9 ⟨g9, rfl, hr, hg9, hb⟩; have HB9 := Lib.hid (HB8.out.trans (hb.mono hs8)); have HO9 := Lib.hid (own_keep HO8.out hb); have HR9 := Lib.hid (row_restT hr (tailN_len _ _) (by omega)); have hs9 := hb.size; clear hr hg9 hb HGB HO8 HB8)
      | (refine wpList_append_rest rfl (.tmp 46) (.tmp 48) rfl w4.heap.size (.slice a8 124 c8) 124 _ rfl HO9.out (tailN gen 4) (.slice (some ⟨g9, 0, none⟩) 4 4) rfl HR9.out (by rw [tailN_len]; omega) (by omega) ?_; intro v10 w10 hown hgrow; have HB10 := Lib.hid (HB9.out.trans (below_grewn HO9.out hgrow (by omega) (Nat.le_refl _))); rw [tailN_len, HSEC.out] at hown; obtain ⟨a10, c10, rfl, q101, q102⟩ := own_shape hown; have HR10 := Lib.hid (own_rest hown HSL.out.symm); clear hown hgrow HO9 HR9 HB9))
    go_ret
    exact ⟨a10, c10, rfl, HR10.out, HB4.out.trans (HB10.out.mono hs4)⟩
  · go_enter Try.func73, Try.ntmps73
    go_wp2_with (first
      | (go_at_call 90; refine (HN2.out _).mono ?_; rintro e w1 ⟨g1, rfl, hr, hg1, hb⟩; have HB1 := Lib.hid hb; have HO1 : Hid ((w1.alloc (.cells #[.int .u8 3, .int .u8 (L : Int)] 5)).ownsRow w.heap.size 5 1 (.slice (some ⟨g1, 0, none⟩) 2 2) 2 (cellsOf (tailN k 2))) := Lib.hid ((owns_of_row (base := w.heap.size) hr (tailN_len _ _) (by omega) hg1).alloc _); have hs1 := hb.size; have HT := Lib.hid (two_row w1 (kd := 3) (L := L) (by omega) (by omega)); clear hr hg1 hb HN2)
      | (refine wpList_append_rest rfl (.tmp 22) (.tmp 27) rfl w.heap.size (.slice (some ⟨g1, 0, none⟩) 2 2) 2 (tailN k 2) rfl HO1.out [UInt8.ofNat 3, UInt8.ofNat L] (.slice (some ⟨w1.heap.size, 0, none⟩) 2 2) rfl (row_restT HT.out rfl (by omega)) (by simp) (by rw [World.size_alloc]; omega) ?_; intro v2 w2 hown hgrow; have HB2 := Lib.hid ((below_next HB1.out (Joins.below_alloc1 w1 _)).trans (below_grewn HO1.out hgrow (by rw [World.size_alloc]; omega) (Nat.le_refl _))); obtain ⟨a2, c2, rfl, q21, q22⟩ := own_shape hown; have HO2 := Lib.hid hown; have hs2 := HB2.out.size; clear hown hgrow HO1 HT HB1 hs1)
      | (refine wpList_append_rest rfl (.tmp 29) (.tmp 30) rfl w.heap.size (.slice a2 4 c2) 4 _ rfl HO2.out piece (.slice pa L pc) rfl (HP.out.stays HB2.out) (by rw [← HL.out]; omega) (by omega) ?_; intro v3 w3 hown hgrow; have HB3 := Lib.hid (HB2.out.trans (below_grewn HO2.out hgrow (by omega) (Nat.le_refl _))); rw [← HL.out] at hown; obtain ⟨a3, c3, rfl, q31, q32⟩ := own_shape hown; have HO3 := Lib.hid hown; have hs3 := HB3.out.size; clear hown hgrow HO2 HB2 hs2 q21 q22)
      | (refine wpList_append_zeros rfl (.tmp 32) (.tmp 35) rfl w.heap.size (.slice a3 (4 + L) c3) (4 + L) _ rfl HO3.out (by omega) z rfl (by have := HZ.out; omega) (by omega) ?_; intro v4 w4 hown hgrow; have HB4 := Lib.hid (HB3.out.trans (below_grewn HO3.out hgrow (by omega) (Nat.le_refl _))); rw [show 4 + L + z = 116 by have := HZ.out; omega, HBD2.out] at hown; obtain ⟨a4, c4, rfl, q41, q42⟩ := own_shape hown; have HO4 := Lib.hid (own_rest hown HBDL.out.symm); have hs4 := HB4.out.size; clear hown hgrow HO3 HB3 hs3 q31 q32)
      | (go_at_call 90; refine (HGA.out _).mono ?_; rintro e w5 ⟨g5, rfl, hr, hg5, hb⟩; have HB5 := Lib.hid hb; have HO5 := Lib.hid (owns_of_row (base := w4.heap.size) hr (tailN_len _ _) (by omega) hg5); have HR5 := Lib.hid (HO4.out.stays hb); have hs5 := hb.size; clear hr hg5 hb HGA)
      | (go_at_call 91; refine (refcrc_call BD (.slice a4 116 c4) _ w5 HR5.out).mono ?_; rintro e w5' ⟨rfl, rfl⟩; rw [← HCR.out])
      | (go_at_call 90; refine (HGC.out _).mono ?_; rintro e w6 ⟨g6, rfl, hr, hg6, hb⟩; have HB6 := Lib.hid (HB5.out.trans (hb.mono hs5)); have HO6 := Lib.hid (own_keep HO5.out hb); have HR6 := Lib.hid (row_restT hr (tailN_len _ _) (by omega)); have hs6 := hb.size; clear hr hg6 hb HGC HO5 HR5 HB5)
      | (refine wpList_append_rest rfl (.tmp 38) (.tmp 42) rfl w4.heap.size (.slice (some ⟨g5, 0, none⟩) 4 4) 4 (tailN gen 4) rfl HO6.out (tailN cr 4) (.slice (some ⟨g6, 0, none⟩) 4 4) rfl HR6.out (by rw [tailN_len]; omega) (by omega) ?_; intro v7 w7 hown hgrow; have HB7 := Lib.hid (HB6.out.trans (below_grewn HO6.out hgrow (by omega) (Nat.le_refl _))); rw [tailN_len] at hown; obtain ⟨a7, c7, rfl, q71, q72⟩ := own_shape hown; have HO7 := Lib.hid hown; have hs7 := HB7.out.size; have HR7 := Lib.hid (HO4.out.stays HB7.out); clear hown hgrow HO6 HR6 HB6)
      | (refine wpList_append_rest rfl (.tmp 44) (.tmp 45) rfl w4.heap.size (.slice a7 8 c7) 8 _ rfl HO7.out BD (.slice a4 116 c4) rfl HR7.out (by rw [HBDL.out]; omega) (by omega) ?_; intro v8 w8 hown hgrow; have HB8 := Lib.hid (HB7.out.trans (below_grewn HO7.out hgrow (by omega) (Nat.le_refl _))); rw [HBDL.out] at hown; obtain ⟨a8, c8, rfl, q81, q82⟩ := own_shape hown; have HO8 := Lib.hid hown; have hs8 := HB8.out.size; clear hown hgrow HO7 HR7 HB7 q71 q72)
      | (go_at_call 90; refine (HGB.out _).mono ?_; rintro e w9 ⟨g9, rfl, hr, hg9, hb⟩; have HB9 := Lib.hid (HB8.out.trans (hb.mono hs8)); have HO9 := Lib.hid (own_keep HO8.out hb); have HR9 := Lib.hid (row_restT hr (tailN_len _ _) (by omega)); have hs9 := hb.size; clear hr hg9 hb HGB HO8 HB8)
      | (refine wpList_append_rest rfl (.tmp 46) (.tmp 48) rfl w4.heap.size (.slice a8 124 c8) 124 _ rfl HO9.out (tailN gen 4) (.slice (some ⟨g9, 0, none⟩) 4 4) rfl HR9.out (by rw [tailN_len]; omega) (by omega) ?_; intro v10 w10 hown hgrow; have HB10 := Lib.hid (HB9.out.trans (below_grewn HO9.out hgrow (by omega) (Nat.le_refl _))); rw [tailN_len, HSEC.out] at hown; obtain ⟨a10, c10, rfl, q101, q102⟩ := own_shape hown; have HR10 := Lib.hid (own_rest hown HSL.out.symm); clear hown hgrow HO9 HR9 HB9))
    go_ret
    exact ⟨a10, c10, rfl, HR10.out, HB4.out.trans (HB10.out.mono hs4)⟩
end Go.Proofs.Ytlaaolbdadempaa
