/- The reference's Sector: the bytes of a sector, put together by appends. -/
import Derived.Lib.AppendZerosOnto
import Derived.Deep.AppendLies
import Derived.Deep.RegionHeld3
import Derived.StillTailTactics
import Derived.Deep.DeepCutAuto
import Derived.Deep.RegionLaw
import Derived.Deep.RegionHeld
import Derived.BigRegion
import Derived.Test.YtlaaolbdadempaaZs23
import Derived.Test.YtlaaolbdadempaaZs21
import Derived.Test.YtlaaolbdadempaaZs19
namespace Go.Proofs.Ytlaaolbdadempaa
open Go.RowKit

theorem zero_cells (k : Nat) : Builtin.zeroCells (Value.int IntKind.u8 0).cells k = (cellsOf (List.replicate k 0)).toArray := by
  have e : (Value.int IntKind.u8 0).cells = #[Value.int IntKind.u8 0] := rfl
  unfold Builtin.zeroCells
  rw [e]
  apply Array.ext
  · simp [cellsOf]
  · intro i h1 h2
    simp [cellsOf]
    have : i % 1 = 0 := by omega
    simp [this]
theorem run_append_zeros (w : World) (base : Nat) (v : Value) (n : Nat) (xs : List UInt8) (hown : w.ownsRow base 5 1 v n (cellsOf xs)) (h0 : 0 < n) (k : Nat) (hlen : n + k ≤ 1000000) (hbase : base ≤ w.heap.size) (ty : TypeId) :
    ∃ v' w', (Builtin.append_ #[35, 3] ty #[v, .int .i64 (k : Int)]).run Try.prog w = .ok v' w' ∧ w'.ownsRow base 5 1 v' (n + k) (cellsOf (xs ++ List.replicate k 0)) ∧ w.grownBy w' v.ownBlock := by
  obtain ⟨i0, hi, hz0, hz1, hz2⟩ := info_parts Try.info5
  have hxl : xs.length = n := by have := hown.1; rw [cellsOf_len] at this; omega
  have hlen2 : (cellsOf (xs ++ List.replicate k 0)).length = (n + k) * 1 := by rw [cellsOf_len, List.length_append, List.length_replicate]; omega
  rcases hown.2 with ⟨rfl, h9⟩ | ⟨g, cap, cur, rfl, hbg, hg, hnc, hcm, hcs, htake⟩
  · omega
  · have hw : IntKind.i64.wrap (k : Int) = k := by rw [IntKind.wrap_i64]; omega
    have hneg : ¬ ((k : Int) < 0) := by omega
    have h48i : ¬ (281474976710656 < (k : Int) * (i0.bytes : Int)) := by rw [hz2]; omega
    by_cases hroom : n + k ≤ cap
    · rcases Nat.eq_zero_or_pos k with hk | hk
      · subst hk
        have hr : (Builtin.append_ #[35, 3] ty #[.slice (some ⟨g, 0, none⟩) n cap, .int .i64 ((0 : Nat) : Int)]).run Try.prog w = .ok (.slice (some ⟨g, 0, none⟩) n cap) w := by
          have hst := run_storeCells_at Try.prog g (n * 1) 5 [] 0 cur w hg (by simp; omega) (by simp)
          simp only [Nat.add_zero] at hst
          have hw0 : IntKind.i64.wrap 0 = 0 := by rw [IntKind.wrap_i64]; omega
          simp [Builtin.append_, run_underlying Try.underlying35, run_underlying Try.underlying3, sizeOf, typeInfo, zeroValue, hi, hz0, hz1, asInt, asIntOf, hnc, Addr.add_lit, storeCells, hw0]
        exact ⟨_, _, hr, by simpa using hown, ⟨rfl, rfl, rfl, Nat.le_refl _, fun _ _ _ => rfl⟩⟩
      · have hfit : n * 1 + (cellsOf (List.replicate k 0)).length ≤ cur.size := by rw [cellsOf_len, List.length_replicate, hcs]; omega
        have hst := run_storeCells_at Try.prog g (n * 1) 5 (cellsOf (List.replicate k 0)) 0 cur w hg (by simpa using hfit) (cells_one _)
        simp only [Nat.add_zero, Nat.mul_one, List.append_assoc] at hst
        have hk0 : ¬ k = 0 := by omega
        have hr : (Builtin.append_ #[35, 3] ty #[.slice (some ⟨g, 0, none⟩) n cap, .int .i64 (k : Int)]).run Try.prog w =
            .ok (.slice (some ⟨g, 0, none⟩) (n + k) cap) (w.setRow g (cur.toList.take n ++ (cellsOf (List.replicate k 0) ++ cur.toList.drop (n + (cellsOf (List.replicate k 0)).length))).toArray) := by
          simp [Builtin.append_, run_underlying Try.underlying35, run_underlying Try.underlying3, sizeOf, typeInfo, zeroValue, hi, hz0, hz1, asInt, asIntOf, hroom, Addr.add_lit, hw, hneg, h48i, hk0, zero_cells, hst]
        refine ⟨_, _, hr, ⟨hlen2, .inr ⟨g, cap, _, rfl, hbg, setRow_heap w g cur _ 5 _ hg, hroom, hcm, ?_, ?_⟩⟩, ⟨rfl, rfl, rfl, by simp, fun k _ hk => setRow_other w g k _ (fun e => hk (by simp [Value.ownBlock, e]))⟩⟩
        · simp only [List.size_toArray, List.length_append, List.length_take, List.length_drop, Array.length_toList]
          omega
        · rw [Nat.mul_one] at htake
          rw [htake, ← hlen2, cellsOf_append, ← List.append_assoc]
          exact List.take_left
    · have hk : 0 < k := by omega
      have holds : ∀ j u, (cellsOf xs)[j]? = some u → w.cell? ((⟨g, 0, none⟩ : Addr).add j) = some u := hown.cells (g := g) rfl
      have hold := run_firstCells_some (P := Try.prog) w.drew 1 n ⟨g, 0, none⟩ n cap (cellsOf xs) hown.1 (by simpa using holds)
      have hfitg : Builtin.nextslicecap (n + k) cap * i0.bytes ≤ 281474976710656 := growslice_fits (by omega) (by rw [hz2]; omega)
      have hr := Lib.run_append_grow_zeros (P := Try.prog) w 35 3 ty 5 i0 (.int .u8 0) .i64 .i64 Try.underlying35 Try.underlying3 hi hz0 (some ⟨g, 0, none⟩) n cap (cellsOf xs) (by rw [hz1]; exact hold) k hk (by omega) (by omega) (by omega) (by rw [hz2]; omega) hfitg
      have hge := grownCap_ge w (n + k) cap 5
      have hcm2 : grownCap w (n + k) cap 5 ≤ maxLen := grownCap_le_maxLen w (n + k) cap 5 (by unfold maxLen; omega)
      refine ⟨_, _, hr, ⟨hlen2, .inr ⟨w.heap.size, _, _, rfl, hbase, heap_alloc_new w.drew _, hge, hcm2, ?_, ?_⟩⟩, ⟨rfl, rfl, rfl, by simp, fun k hk _ => Below.heap_alloc w.drew _ k hk⟩⟩
      · rw [zero_cells, zero_cells]
        simp only [Array.size_append, List.size_toArray, cellsOf_len, List.length_replicate]
        omega
      · rw [zero_cells, zero_cells]
        simp only [Array.toList_append]
        rw [← cellsOf_append, ← hlen2]
        exact List.take_left
theorem wpList_append_zeros {w : World} {ops : Array Oper} {rest : List Oper} {o : Oper} {a : Act} {Q : Exit → Act → World → Prop} (hgd : o.guard = none) (s x : Operand) (ho : o.op = .call { callee := .builtin .append, args := #[s, x], argTypes := #[35, 3] })
    (base : Nat) (v : Value) (n : Nat) (xs : List UInt8) (hs : a.eval s = v) (hown : w.ownsRow base 5 1 v n (cellsOf xs)) (h0 : 0 < n) (k : Nat) (hx : a.eval x = .int .i64 (k : Int)) (hlen : n + k ≤ 1000000) (hbase : base ≤ w.heap.size)
    (h : ∀ v' w', w'.ownsRow base 5 1 v' (n + k) (cellsOf (xs ++ List.replicate k 0)) → w.grownBy w' v.ownBlock → wpList Try.prog ops Q rest (a.put o.dst v') w') : wpList Try.prog ops Q (o :: rest) a w := by
  obtain ⟨v', w', hr, h2, h3⟩ := run_append_zeros w base v n xs hown h0 k hlen hbase o.type
  exact Lib.wpList_append_run w hgd s x 35 3 ho _ _ hs hx v' w' hr (h v' w' h2 h3)
end Go.Proofs.Ytlaaolbdadempaa

/- The reference's Sector, walked. -/
namespace Go.Proofs.Ytlaaolbdadempaa
open Go.RowKit

def kindN (b1 b2 : Bool) : Nat := (if b1 then 1 else 0) + (if b2 then 2 else 0)
theorem two_row (w : World) {kd L : Nat} (h1 : kd < 256) (h2 : L < 256) : Row (w.alloc (.cells #[.int .u8 (kd : Int), .int .u8 (L : Int)] 5)) w.heap.size 5 (cellsOf [UInt8.ofNat kd, UInt8.ofNat L]) := by
  have h := row_new w 5 (cellsOf [UInt8.ofNat kd, UInt8.ofNat L])
  have e : cellsOf [UInt8.ofNat kd, UInt8.ofNat L] = [.int .u8 (kd : Int), .int .u8 (L : Int)] := by
    simp only [cellsOf, List.map_cons, List.map_nil, UInt8.toNat_ofNat']
    rw [show kd % 2 ^ 8 = kd by omega, show L % 2 ^ 8 = L by omega]
  rw [e] at h ⊢
  exact h
theorem own_rest {w : World} {base n : Nat} {v : Value} {xs : List UInt8} (h : w.ownsRow base 5 1 v n (cellsOf xs)) (hn : n = xs.length) : Rest w.heap.size w xs v := (rests_own h hn).rest
theorem own_keep {w w' : World} {base e size n : Nat} {v : Value} {xs : List Value} (h : w.ownsRow base e size v n xs) (hb : Below w.heap.size w w') : w'.ownsRow base e size v n xs :=
  h.kept (row := none) ⟨hb.os, hb.tape, hb.output, hb.size, fun k hk _ => hb.block k hk⟩ (by cases hv : v.ownBlock <;> simp)
/-- what Sector answers -/
def SeAns (w : World) (l : List UInt8) (e : Ending) (w' : World) : Prop := ∃ a c, e = .returned (.slice a 128 c) ∧ Rest w'.heap.size w' l (.slice a 128 c) ∧ Below w.heap.size w w'
set_option maxHeartbeats 8000000 in
set_option maxRecDepth 100000 in
theorem refsector_call (gen k kd : Nat) (b1 b2 : Bool) (hkd : kindN b1 b2 = kd) (piece : List UInt8) (pv : Value) (w : World) (h : Rest w.heap.size w piece pv) (hg : gen < 4294967296) (hk : k < 65536) (hl : piece.length ≤ 112) :
    Calls Try.prog 73 #[.int .u64 (gen : Int), .int .i64 (k : Int), .bool b1, .bool b2, pv] w (SeAns w (secP ⟨gen, UInt8.ofNat kd, piece⟩ k)) := by
  obtain ⟨pa, pc, rfl, hp1, hp2⟩ := h.shape
  have HP := Lib.hid h
  have HN2 : Hid (∀ W, Calls Try.prog 90 #[.int .u64 (k : Int), .int .i64 2] W (NmAns W (tailN k 2) 2)) := Lib.hid (fun W => numeral_call k 2 (by omega) (by omega) W)
  have HGA : Hid (∀ W, Calls Try.prog 90 #[.int .u64 (gen : Int), .int .i64 4] W (NmAns W (tailN gen 4) 4)) := Lib.hid (fun W => numeral_call gen 4 (by omega) (by omega) W)
  have HGB := Lib.hid HGA.out
  obtain ⟨BD, hBD⟩ : ∃ BD, BD = bodyP ⟨gen, UInt8.ofNat kd, piece⟩ k := ⟨_, rfl⟩
  have hBDl : BD.length = 116 := by rw [hBD]; unfold bodyP; simp; omega
  obtain ⟨L, hL⟩ : ∃ L, L = piece.length := ⟨_, rfl⟩
  have hBD2 : (tailN k 2 ++ [UInt8.ofNat kd, UInt8.ofNat L] ++ piece) ++ List.replicate (112 - L) 0 = BD := by
    rw [hBD, tailN_2, hL]; unfold bodyP; simp
  have HBD2 := Lib.hid hBD2
  have hsec : (tailN gen 4 ++ tailN (crc BD) 4 ++ BD) ++ tailN gen 4 = secP ⟨gen, UInt8.ofNat kd, piece⟩ k := by
    rw [tailN_4, tailN_4, hBD]; unfold secP; simp
  have HSEC := Lib.hid hsec
  have HSL := Lib.hid (secP_len ⟨gen, UInt8.ofNat kd, piece⟩ k hl)
  have hcr := crc_lt BD
  obtain ⟨cr, hcre⟩ : ∃ cr, cr = crc BD := ⟨_, rfl⟩
  rw [← hcre] at hcr HSEC
  have HCR := Lib.hid hcre
  have HGC : Hid (∀ W, Calls Try.prog 90 #[.int .u64 (cr : Int), .int .i64 4] W (NmAns W (tailN cr 4) 4)) := Lib.hid (fun W => numeral_call cr 4 (by omega) (by omega) W)
  have HBDL := Lib.hid hBDl
  rw [← hL] at HP hl hp2 ⊢
  have HL := Lib.hid hL
  obtain ⟨z, hz⟩ : ∃ z : Nat, z = 112 - L := ⟨_, rfl⟩
  rw [← hz] at HBD2
  have hsub : (112 : Int) - (L : Int) = (z : Int) := by omega
  have hwk : IntKind.u64.wrap (k : Int) = (k : Int) := by rw [IntKind.wrap_u64]; omega
  have hwl : IntKind.u8.wrap (L : Int) = (L : Int) := by rw [IntKind.wrap_u8]; omega
  have hwz : IntKind.i64.wrap (112 - (L : Int)) = (z : Int) := by rw [IntKind.wrap_i64]; omega
  have hwc : IntKind.u64.wrap (cr : Int) = (cr : Int) := by rw [IntKind.wrap_u64]; omega
  have HZ := Lib.hid hz
  clear h hBD hBDl hBD2 hsec hcre hL hz
  cases b1 <;> cases b2 <;> (simp only [kindN, Bool.false_eq_true, if_true, if_false, Nat.reduceAdd] at hkd; subst hkd)
  · go_enter Try.func73, Try.ntmps73
    go_wp2_with (first
      | (go_at_call 90; refine (HN2.out _).mono ?_; rintro e w1 ⟨g1, rfl, hr, hg1, hb⟩; have HB1 := Lib.hid hb; have HO1 : Hid ((w1.alloc (.cells #[.int .u8 0, .int .u8 (L : Int)] 5)).ownsRow w.heap.size 5 1 (.slice (some ⟨g1, 0, none⟩) 2 2) 2 (cellsOf (tailN k 2))) := Lib.hid ((owns_of_row (base := w.heap.size) hr (tailN_len _ _) (by omega) hg1).alloc _); have hs1 := hb.size; have HT := Lib.hid (two_row w1 (kd := 0) (L := L) (by omega) (by omega)); clear hr hg1 hb HN2)
      | (refine wpList_append_rest rfl (.tmp 22) (.tmp 27) rfl w.heap.size (.slice (some ⟨g1, 0, none⟩) 2 2) 2 (tailN k 2) rfl HO1.out [UInt8.ofNat 0, UInt8.ofNat L] (.slice (some ⟨w1.heap.size, 0, none⟩) 2 2) rfl (row_restT HT.out rfl (by omega)) (by simp) (by rw [World.size_alloc]; omega) ?_; intro v2 w2 hown hgrow; have HB2 := Lib.hid ((below_next HB1.out (Joins.below_alloc1 w1 _)).trans (below_grewn HO1.out hgrow (by rw [World.size_alloc]; omega) (Nat.le_refl _))); obtain ⟨a2, c2, rfl, q21, q22⟩ := own_shape hown; have HO2 := Lib.hid hown; have hs2 := HB2.out.size; clear hown hgrow HO1 HT HB1 hs1)
      | (refine wpList_append_rest rfl (.tmp 29) (.tmp 30) rfl w.heap.size (.slice a2 4 c2) 4 _ rfl HO2.out piece (.slice pa L pc) rfl (HP.out.stays HB2.out) (by rw [← HL.out]; omega) (by omega) ?_; intro v3 w3 hown hgrow; have HB3 := Lib.hid (HB2.out.trans (below_grewn HO2.out hgrow (by omega) (Nat.le_refl _))); rw [← HL.out] at hown; obtain ⟨a3, c3, rfl, q31, q32⟩ := own_shape hown; have HO3 := Lib.hid hown; have hs3 := HB3.out.size; clear hown hgrow HO2 HB2 hs2 q21 q22)
      | (refine wpList_append_zeros rfl (.tmp 32) (.tmp 35) rfl w.heap.size (.slice a3 (4 + L) c3) (4 + L) _ rfl HO3.out (by omega) z rfl (by have := HZ.out; omega) (by omega) ?_; intro v4 w4 hown hgrow; have HB4 := Lib.hid (HB3.out.trans (below_grewn HO3.out hgrow (by omega) (Nat.le_refl _))); rw [show 4 + L + z = 116 by have := HZ.out; omega, HBD2.out] at hown; obtain ⟨a4, c4, rfl, q41, q42⟩ := own_shape hown; have HO4 := Lib.hid (own_rest hown HBDL.out.symm); have hs4 := HB4.out.size; clear hown hgrow HO3 HB3 hs3 q31 q32)
      | (go_at_call 90; refine (HGA.out _).mono ?_; rintro e w5 ⟨g5, rfl, hr, hg5, hb⟩; have HB5 := Lib.hid hb; have HO5 := Lib.hid (owns_of_row (base := w4.heap.size) hr (tailN_len _ _) (by omega) hg5); have HR5 := Lib.hid (HO4.out.stays hb); have hs5 := hb.size; clear hr hg5 hb HGA)
      | (go_at_call 91; refine (refcrc_call BD (.slice a4 116 c4) _ w5 HR5.out).mono ?_; rintro e w5' ⟨rfl, rfl⟩; rw [← HCR.out])
      | (go_at_call 90; refine (HGC.out _).mono ?_; rintro e w6 ⟨g6, rfl, hr, hg6, hb⟩; have HB6 := Lib.hid (HB5.out.trans (hb.mono hs5)); have HO6 := Lib.hid (own_keep HO5.out hb); have HR6 := Lib.hid (row_restT hr (tailN_len _ _) (by omega)); have hs6 := hb.size; clear hr hg6 hb HGC HO5 HR5 HB5)
      | (refine wpList_append_rest rfl (.tmp 38) (.tmp 42) rfl w4.heap.size (.slice (some ⟨g5, 0, none⟩) 4 4) 4 (tailN gen 4) rfl HO6.out (tailN cr 4) (.slice (some ⟨g6, 0, none⟩) 4 4) rfl HR6.out (by rw [tailN_len]; omega) (by omega) ?_; intro v7 w7 hown hgrow; have HB7 := Lib.hid (HB6.out.trans (below_grewn HO6.out hgrow (by omega) (Nat.le_refl _))); rw [tailN_len] at hown; obtain ⟨a7, c7, rfl, q71, q72⟩ := own_shape hown; have HO7 := Lib.hid hown; have hs7 := HB7.out.size; have HR7 := Lib.hid (HO4.out.stays HB7.out); clear hown hgrow HO6 HR6 HB6)
      | (refine wpList_append_rest rfl (.tmp 44) (.tmp 45) rfl w4.heap.size (.slice a7 8 c7) 8 _ rfl HO7.out BD (.slice a4 116 c4) rfl HR7.out (by rw [HBDL.out]; omega) (by omega) ?_; intro v8 w8 hown hgrow; have HB8 := Lib.hid (HB7.out.trans (below_grewn HO7.out hgrow (by omega) (Nat.le_refl _))); rw [HBDL.out] at hown; obtain ⟨a8, c8, rfl, q81, q82⟩ := own_shape hown; have HO8 := Lib.hid hown; have hs8 := HB8.out.size; clear hown hgrow HO7 HR7 HB7 q71 q72)
      | (go_at_call 90; refine (HGB.out _).mono ?_; rintro e w9 ⟨g9, rfl, hr, hg9, hb⟩; have HB9 := Lib.hid (HB8.out.trans (hb.mono hs8)); have HO9 := Lib.hid (own_keep HO8.out hb); have HR9 := Lib.hid (row_restT hr (tailN_len _ _) (by omega)); have hs9 := hb.size; clear hr hg9 hb HGB HO8 HB8)
      | (refine wpList_append_rest rfl (.tmp 46) (.tmp 48) rfl w4.heap.size (.slice a8 124 c8) 124 _ rfl HO9.out (tailN gen 4) (.slice (some ⟨g9, 0, none⟩) 4 4) rfl HR9.out (by rw [tailN_len]; omega) (by omega) ?_; intro v10 w10 hown hgrow; have HB10 := Lib.hid (HB9.out.trans (below_grewn HO9.out hgrow (by omega) (Nat.le_refl _))); rw [tailN_len, HSEC.out] at hown; obtain ⟨a10, c10, rfl, q101, q102⟩ := own_shape hown; have HR10 := Lib.hid (own_rest hown HSL.out.symm); clear hown hgrow HO9 HR9 HB9))
    go_ret
    exact ⟨a10, c10, rfl, HR10.out, HB4.out.trans (HB10.out.mono hs4)⟩
  · go_enter Try.func73, Try.ntmps73
    go_wp2_with (first
      | (go_at_call 90; refine (HN2.out _).mono ?_; rintro e w1 ⟨g1, rfl, hr, hg1, hb⟩; have HB1 := Lib.hid hb; have HO1 : Hid ((w1.alloc (.cells #[.int .u8 2, .int .u8 (L : Int)] 5)).ownsRow w.heap.size 5 1 (.slice (some ⟨g1, 0, none⟩) 2 2) 2 (cellsOf (tailN k 2))) := Lib.hid ((owns_of_row (base := w.heap.size) hr (tailN_len _ _) (by omega) hg1).alloc _); have hs1 := hb.size; have HT := Lib.hid (two_row w1 (kd := 2) (L := L) (by omega) (by omega)); clear hr hg1 hb HN2)
      | (refine wpList_append_rest rfl (.tmp 22) (.tmp 27) rfl w.heap.size (.slice (some ⟨g1, 0, none⟩) 2 2) 2 (tailN k 2) rfl HO1.out [UInt8.ofNat 2, UInt8.ofNat L] (.slice (some ⟨w1.heap.size, 0, none⟩) 2 2) rfl (row_restT HT.out rfl (by omega)) (by simp) (by rw [World.size_alloc]; omega) ?_; intro v2 w2 hown hgrow; have HB2 := Lib.hid ((below_next HB1.out (Joins.below_alloc1 w1 _)).trans (below_grewn HO1.out hgrow (by rw [World.size_alloc]; omega) (Nat.le_refl _))); obtain ⟨a2, c2, rfl, q21, q22⟩ := own_shape hown; have HO2 := Lib.hid hown; have hs2 := HB2.out.size; clear hown hgrow HO1 HT HB1 hs1)
      | (refine wpList_append_rest rfl (.tmp 29) (.tmp 30) rfl w.heap.size (.slice a2 4 c2) 4 _ rfl HO2.out piece (.slice pa L pc) rfl (HP.out.stays HB2.out) (by rw [← HL.out]; omega) (by omega) ?_; intro v3 w3 hown hgrow; have HB3 := Lib.hid (HB2.out.trans (below_grewn HO2.out hgrow (by omega) (Nat.le_refl _))); rw [← HL.out] at hown; obtain ⟨a3, c3, rfl, q31, q32⟩ := own_shape hown; have HO3 := Lib.hid hown; have hs3 := HB3.out.size; clear hown hgrow HO2 HB2 hs2 q21 q22)
      | (refine wpList_append_zeros rfl (.tmp 32) (.tmp 35) rfl w.heap.size (.slice a3 (4 + L) c3) (4 + L) _ rfl HO3.out (by omega) z rfl (by have := HZ.out; omega) (by omega) ?_; intro v4 w4 hown hgrow; have HB4 := Lib.hid (HB3.out.trans (below_grewn HO3.out hgrow (by omega) (Nat.le_refl _))); rw [show 4 + L + z = 116 by have := HZ.out; omega, HBD2.out] at hown; obtain ⟨a4, c4, rfl, q41, q42⟩ := own_shape hown; have HO4 := Lib.hid (own_rest hown HBDL.out.symm); have hs4 := HB4.out.size; clear hown hgrow HO3 HB3 hs3 q31 q32)
      | (go_at_call 90; refine (HGA.out _).mono ?_; rintro e w5 ⟨g5, rfl, hr, hg5, hb⟩; have HB5 := Lib.hid hb; have HO5 := Lib.hid (owns_of_row (base := w4.heap.size) hr (tailN_len _ _) (by omega) hg5); have HR5 := Lib.hid (HO4.out.stays hb); have hs5 := hb.size; clear hr hg5 hb HGA)
      | (go_at_call 91; refine (refcrc_call BD (.slice a4 116 c4) _ w5 HR5.out).mono ?_; rintro e w5' ⟨rfl, rfl⟩; rw [← HCR.out])
      | (go_at_call 90; refine (HGC.out _).mono ?_; rintro e w6 ⟨g6, rfl, hr, hg6, hb⟩; have HB6 := Lib.hid (HB5.out.trans (hb.mono hs5)); have HO6 := Lib.hid (own_keep HO5.out hb); have HR6 := Lib.hid (row_restT hr (tailN_len _ _) (by omega)); have hs6 := hb.size; clear hr hg6 hb HGC HO5 HR5 HB5)
      | (refine wpList_append_rest rfl (.tmp 38) (.tmp 42) rfl w4.heap.size (.slice (some ⟨g5, 0, none⟩) 4 4) 4 (tailN gen 4) rfl HO6.out (tailN cr 4) (.slice (some ⟨g6, 0, none⟩) 4 4) rfl HR6.out (by rw [tailN_len]; omega) (by omega) ?_; intro v7 w7 hown hgrow; have HB7 := Lib.hid (HB6.out.trans (below_grewn HO6.out hgrow (by omega) (Nat.le_refl _))); rw [tailN_len] at hown; obtain ⟨a7, c7, rfl, q71, q72⟩ := own_shape hown; have HO7 := Lib.hid hown; have hs7 := HB7.out.size; have HR7 := Lib.hid (HO4.out.stays HB7.out); clear hown hgrow HO6 HR6 HB6)
      | (refine wpList_append_rest rfl (.tmp 44) (.tmp 45) rfl w4.heap.size (.slice a7 8 c7) 8 _ rfl HO7.out BD (.slice a4 116 c4) rfl HR7.out (by rw [HBDL.out]; omega) (by omega) ?_; intro v8 w8 hown hgrow; have HB8 := Lib.hid (HB7.out.trans (below_grewn HO7.out hgrow (by omega) (Nat.le_refl _))); rw [HBDL.out] at hown; obtain ⟨a8, c8, rfl, q81, q82⟩ := own_shape hown; have HO8 := Lib.hid hown; have hs8 := HB8.out.size; clear hown hgrow HO7 HR7 HB7 q71 q72)
      | (go_at_call 90; refine (HGB.out _).mono ?_; rintro e w9 ⟨g9, rfl, hr, hg9, hb⟩; have HB9 := Lib.hid (HB8.out.trans (hb.mono hs8)); have HO9 := Lib.hid (own_keep HO8.out hb); have HR9 := Lib.hid (row_restT hr (tailN_len _ _) (by omega)); have hs9 := hb.size; clear hr hg9 hb HGB HO8 HB8)
      | (refine wpList_append_rest rfl (.tmp 46) (.tmp 48) rfl w4.heap.size (.slice a8 124 c8) 124 _ rfl HO9.out (tailN gen 4) (.slice (some ⟨g9, 0, none⟩) 4 4) rfl HR9.out (by rw [tailN_len]; omega) (by omega) ?_; intro v10 w10 hown hgrow; have HB10 := Lib.hid (HB9.out.trans (below_grewn HO9.out hgrow (by omega) (Nat.le_refl _))); rw [tailN_len, HSEC.out] at hown; obtain ⟨a10, c10, rfl, q101, q102⟩ := own_shape hown; have HR10 := Lib.hid (own_rest hown HSL.out.symm); clear hown hgrow HO9 HR9 HB9))
    go_ret
    exact ⟨a10, c10, rfl, HR10.out, HB4.out.trans (HB10.out.mono hs4)⟩
  · go_enter Try.func73, Try.ntmps73
    go_wp2_with (first
      | (go_at_call 90; refine (HN2.out _).mono ?_; rintro e w1 ⟨g1, rfl, hr, hg1, hb⟩; have HB1 := Lib.hid hb; have HO1 : Hid ((w1.alloc (.cells #[.int .u8 1, .int .u8 (L : Int)] 5)).ownsRow w.heap.size 5 1 (.slice (some ⟨g1, 0, none⟩) 2 2) 2 (cellsOf (tailN k 2))) := Lib.hid ((owns_of_row (base := w.heap.size) hr (tailN_len _ _) (by omega) hg1).alloc _); have hs1 := hb.size; have HT := Lib.hid (two_row w1 (kd := 1) (L := L) (by omega) (by omega)); clear hr hg1 hb HN2)
      | (refine wpList_append_rest rfl (.tmp 22) (.tmp 27) rfl w.heap.size (.slice (some ⟨g1, 0, none⟩) 2 2) 2 (tailN k 2) rfl HO1.out [UInt8.ofNat 1, UInt8.ofNat L] (.slice (some ⟨w1.heap.size, 0, none⟩) 2 2) rfl (row_restT HT.out rfl (by omega)) (by simp) (by rw [World.size_alloc]; omega) ?_; intro v2 w2 hown hgrow; have HB2 := Lib.hid ((below_next HB1.out (Joins.below_alloc1 w1 _)).trans (below_grewn HO1.out hgrow (by rw [World.size_alloc]; omega) (Nat.le_refl _))); obtain ⟨a2, c2, rfl, q21, q22⟩ := own_shape hown; have HO2 := Lib.hid hown; have hs2 := HB2.out.size; clear hown hgrow HO1 HT HB1 hs1)
      | (refine wpList_append_rest rfl (.tmp 29) (.tmp 30) rfl w.heap.size (.slice a2 4 c2) 4 _ rfl HO2.out piece (.slice pa L pc) rfl (HP.out.stays HB2.out) (by rw [← HL.out]; omega) (by omega) ?_; intro v3 w3 hown hgrow; have HB3 := Lib.hid (HB2.out.trans (below_grewn HO2.out hgrow (by omega) (Nat.le_refl _))); rw [← HL.out] at hown; obtain ⟨a3, c3, rfl, q31, q32⟩ := own_shape hown; have HO3 := Lib.hid hown; have hs3 := HB3.out.size; clear hown hgrow HO2 HB2 hs2 q21 q22)
      | (refine wpList_append_zeros rfl (.tmp 32) (.tmp 35) rfl w.heap.size (.slice a3 (4 + L) c3) (4 + L) _ rfl HO3.out (by omega) z rfl (by have := HZ.out; omega) (by omega) ?_; intro v4 w4 hown hgrow; have HB4 := Lib.hid (HB3.out.trans (below_grewn HO3.out hgrow (by omega) (Nat.le_refl _))); rw [show 4 + L + z = 116 by have := HZ.out; omega, HBD2.out] at hown; obtain ⟨a4, c4, rfl, q41, q42⟩ := own_shape hown; have HO4 := Lib.hid (own_rest hown HBDL.out.symm); have hs4 := HB4.out.size; clear hown hgrow HO3 HB3 hs3 q31 q32)
      | (go_at_call 90; refine (HGA.out _).mono ?_; rintro e w5 ⟨g5, rfl, hr, hg5, hb⟩; have HB5 := Lib.hid hb; have HO5 := Lib.hid (owns_of_row (base := w4.heap.size) hr (tailN_len _ _) (by omega) hg5); have HR5 := Lib.hid (HO4.out.stays hb); have hs5 := hb.size; clear hr hg5 hb HGA)
      | (go_at_call 91; refine (refcrc_call BD (.slice a4 116 c4) _ w5 HR5.out).mono ?_; rintro e w5' ⟨rfl, rfl⟩; rw [← HCR.out])
      | (go_at_call 90; refine (HGC.out _).mono ?_; rintro e w6 ⟨g6, rfl, hr, hg6, hb⟩; have HB6 := Lib.hid (HB5.out.trans (hb.mono hs5)); have HO6 := Lib.hid (own_keep HO5.out hb); have HR6 := Lib.hid (row_restT hr (tailN_len _ _) (by omega)); have hs6 := hb.size; clear hr hg6 hb HGC HO5 HR5 HB5)
      | (refine wpList_append_rest rfl (.tmp 38) (.tmp 42) rfl w4.heap.size (.slice (some ⟨g5, 0, none⟩) 4 4) 4 (tailN gen 4) rfl HO6.out (tailN cr 4) (.slice (some ⟨g6, 0, none⟩) 4 4) rfl HR6.out (by rw [tailN_len]; omega) (by omega) ?_; intro v7 w7 hown hgrow; have HB7 := Lib.hid (HB6.out.trans (below_grewn HO6.out hgrow (by omega) (Nat.le_refl _))); rw [tailN_len] at hown; obtain ⟨a7, c7, rfl, q71, q72⟩ := own_shape hown; have HO7 := Lib.hid hown; have hs7 := HB7.out.size; have HR7 := Lib.hid (HO4.out.stays HB7.out); clear hown hgrow HO6 HR6 HB6)
      | (refine wpList_append_rest rfl (.tmp 44) (.tmp 45) rfl w4.heap.size (.slice a7 8 c7) 8 _ rfl HO7.out BD (.slice a4 116 c4) rfl HR7.out (by rw [HBDL.out]; omega) (by omega) ?_; intro v8 w8 hown hgrow; have HB8 := Lib.hid (HB7.out.trans (below_grewn HO7.out hgrow (by omega) (Nat.le_refl _))); rw [HBDL.out] at hown; obtain ⟨a8, c8, rfl, q81, q82⟩ := own_shape hown; have HO8 := Lib.hid hown; have hs8 := HB8.out.size; clear hown hgrow HO7 HR7 HB7 q71 q72)
      | (go_at_call 90; refine (HGB.out _).mono ?_; rintro e w9 ⟨g9, rfl, hr, hg9, hb⟩; have HB9 := Lib.hid (HB8.out.trans (hb.mono hs8)); have HO9 := Lib.hid (own_keep HO8.out hb); have HR9 := Lib.hid (row_restT hr (tailN_len _ _) (by omega)); have hs9 := hb.size; clear hr hg9 hb HGB HO8 HB8)
      | (refine wpList_append_rest rfl (.tmp 46) (.tmp 48) rfl w4.heap.size (.slice a8 124 c8) 124 _ rfl HO9.out (tailN gen 4) (.slice (some ⟨g9, 0, none⟩) 4 4) rfl HR9.out (by rw [tailN_len]; omega) (by omega) ?_; intro v10 w10 hown hgrow; have HB10 := Lib.hid (HB9.out.trans (below_grewn HO9.out hgrow (by omega) (Nat.le_refl _))); rw [tailN_len, HSEC.out] at hown; obtain ⟨a10, c10, rfl, q101, q102⟩ := own_shape hown; have HR10 := Lib.hid (own_rest hown HSL.out.symm); clear hown hgrow HO9 HR9 HB9))
    go_ret
    exact ⟨a10, c10, rfl, HR10.out, HB4.out.trans (HB10.out.mono hs4)⟩
  · go_enter Try.func73, Try.ntmps73
    go_wp2_with (first
      | (go_at_call 90; refine (HN2.out _).mono ?_; rintro e w1 ⟨g1, rfl, hr, hg1, hb⟩; have HB1 := Lib.hid hb; have HO1 : Hid ((w1.alloc (.cells #[.int .u8 3, .int .u8 (L : Int)] 5)).ownsRow w.heap.size 5 1 (.slice (some ⟨g1, 0, none⟩) 2 2) 2 (cellsOf (tailN k 2))) := Lib.hid ((owns_of_row (base := w.heap.size) hr (tailN_len _ _) (by omega) hg1).alloc _); have hs1 := hb.size; have HT := Lib.hid (two_row w1 (kd := 3) (L := L) (by omega) (by omega)); clear hr hg1 hb HN2)
      | (refine wpList_append_rest rfl (.tmp 22) (.tmp 27) rfl w.heap.size (.slice (some ⟨g1, 0, none⟩) 2 2) 2 (tailN k 2) rfl HO1.out [UInt8.ofNat 3, UInt8.ofNat L] (.slice (some ⟨w1.heap.size, 0, none⟩) 2 2) rfl (row_restT HT.out rfl (by omega)) (by simp) (by rw [World.size_alloc]; omega) ?_; intro v2 w2 hown hgrow; have HB2 := Lib.hid ((below_next HB1.out (Joins.below_alloc1 w1 _)).trans (below_grewn HO1.out hgrow (by rw [World.size_alloc]; omega) (Nat.le_refl _))); obtain ⟨a2, c2, rfl, q21, q22⟩ := own_shape hown; have HO2 := Lib.hid hown; have hs2 := HB2.out.size; clear hown hgrow HO1 HT HB1 hs1)
      | (refine wpList_append_rest rfl (.tmp 29) (.tmp 30) rfl w.heap.size (.slice a2 4 c2) 4 _ rfl HO2.out piece (.slice pa L pc) rfl (HP.out.stays HB2.out) (by rw [← HL.out]; omega) (by omega) ?_; intro v3 w3 hown hgrow; have HB3 := Lib.hid (HB2.out.trans (below_grewn HO2.out hgrow (by omega) (Nat.le_refl _))); rw [← HL.out] at hown; obtain ⟨a3, c3, rfl, q31, q32⟩ := own_shape hown; have HO3 := Lib.hid hown; have hs3 := HB3.out.size; clear hown hgrow HO2 HB2 hs2 q21 q22)
      | (refine wpList_append_zeros rfl (.tmp 32) (.tmp 35) rfl w.heap.size (.slice a3 (4 + L) c3) (4 + L) _ rfl HO3.out (by omega) z rfl (by have := HZ.out; omega) (by omega) ?_; intro v4 w4 hown hgrow; have HB4 := Lib.hid (HB3.out.trans (below_grewn HO3.out hgrow (by omega) (Nat.le_refl _))); rw [show 4 + L + z = 116 by have := HZ.out; omega, HBD2.out] at hown; obtain ⟨a4, c4, rfl, q41, q42⟩ := own_shape hown; have HO4 := Lib.hid (own_rest hown HBDL.out.symm); have hs4 := HB4.out.size; clear hown hgrow HO3 HB3 hs3 q31 q32)
      | (go_at_call 90; refine (HGA.out _).mono ?_; rintro e w5 ⟨g5, rfl, hr, hg5, hb⟩; have HB5 := Lib.hid hb; have HO5 := Lib.hid (owns_of_row (base := w4.heap.size) hr (tailN_len _ _) (by omega) hg5); have HR5 := Lib.hid (HO4.out.stays hb); have hs5 := hb.size; clear hr hg5 hb HGA)
      | (go_at_call 91; refine (refcrc_call BD (.slice a4 116 c4) _ w5 HR5.out).mono ?_; rintro e w5' ⟨rfl, rfl⟩; rw [← HCR.out])
      | (go_at_call 90; refine (HGC.out _).mono ?_; rintro e w6 ⟨g6, rfl, hr, hg6, hb⟩; have HB6 := Lib.hid (HB5.out.trans (hb.mono hs5)); have HO6 := Lib.hid (own_keep HO5.out hb); have HR6 := Lib.hid (row_restT hr (tailN_len _ _) (by omega)); have hs6 := hb.size; clear hr hg6 hb HGC HO5 HR5 HB5)
      | (refine wpList_append_rest rfl (.tmp 38) (.tmp 42) rfl w4.heap.size (.slice (some ⟨g5, 0, none⟩) 4 4) 4 (tailN gen 4) rfl HO6.out (tailN cr 4) (.slice (some ⟨g6, 0, none⟩) 4 4) rfl HR6.out (by rw [tailN_len]; omega) (by omega) ?_; intro v7 w7 hown hgrow; have HB7 := Lib.hid (HB6.out.trans (below_grewn HO6.out hgrow (by omega) (Nat.le_refl _))); rw [tailN_len] at hown; obtain ⟨a7, c7, rfl, q71, q72⟩ := own_shape hown; have HO7 := Lib.hid hown; have hs7 := HB7.out.size; have HR7 := Lib.hid (HO4.out.stays HB7.out); clear hown hgrow HO6 HR6 HB6)
      | (refine wpList_append_rest rfl (.tmp 44) (.tmp 45) rfl w4.heap.size (.slice a7 8 c7) 8 _ rfl HO7.out BD (.slice a4 116 c4) rfl HR7.out (by rw [HBDL.out]; omega) (by omega) ?_; intro v8 w8 hown hgrow; have HB8 := Lib.hid (HB7.out.trans (below_grewn HO7.out hgrow (by omega) (Nat.le_refl _))); rw [HBDL.out] at hown; obtain ⟨a8, c8, rfl, q81, q82⟩ := own_shape hown; have HO8 := Lib.hid hown; have hs8 := HB8.out.size; clear hown hgrow HO7 HR7 HB7 q71 q72)
      | (go_at_call 90; refine (HGB.out _).mono ?_; rintro e w9 ⟨g9, rfl, hr, hg9, hb⟩; have HB9 := Lib.hid (HB8.out.trans (hb.mono hs8)); have HO9 := Lib.hid (own_keep HO8.out hb); have HR9 := Lib.hid (row_restT hr (tailN_len _ _) (by omega)); have hs9 := hb.size; clear hr hg9 hb HGB HO8 HB8)
      | (refine wpList_append_rest rfl (.tmp 46) (.tmp 48) rfl w4.heap.size (.slice a8 124 c8) 124 _ rfl HO9.out (tailN gen 4) (.slice (some ⟨g9, 0, none⟩) 4 4) rfl HR9.out (by rw [tailN_len]; omega) (by omega) ?_; intro v10 w10 hown hgrow; have HB10 := Lib.hid (HB9.out.trans (below_grewn HO9.out hgrow (by omega) (Nat.le_refl _))); rw [tailN_len, HSEC.out] at hown; obtain ⟨a10, c10, rfl, q101, q102⟩ := own_shape hown; have HR10 := Lib.hid (own_rest hown HSL.out.symm); clear hown hgrow HO9 HR9 HB9))
    go_ret
    exact ⟨a10, c10, rfl, HR10.out, HB4.out.trans (HB10.out.mono hs4)⟩
end Go.Proofs.Ytlaaolbdadempaa

/- A record's generation is that of its first sector. -/
namespace Go.Proofs.Ytlaaolbdadempaa
open Go.RowKit

theorem recGo_gen (secs : List (List UInt8)) (at' : Nat) : ∀ (f k : Nat) (acc : List UInt8) (last : Pce), at' ≤ k → (at' < k → last.gen = num4 (secs.getD at' [])) → (recGo secs at' f k acc last).2.2 ≠ 0 → (recGo secs at' f k acc last).2.1 = num4 (secs.getD at' [])
  | 0, _, _, _, _, _, h => by simp [recGo] at h
  | f + 1, k, acc, last, hk, hl, h => by
    unfold recGo at h ⊢
    simp only at h ⊢
    by_cases hg : (goodB (secs.getD k []) k && !breakB at' k (pceOf (secs.getD k [])) last) = true
    · rw [if_pos hg] at h ⊢
      have hgen : (pceOf (secs.getD k [])).gen = num4 (secs.getD at' []) := by
        rcases Nat.eq_or_lt_of_le hk with h1 | h1
        · subst h1; rfl
        · have h2 := hl h1
          simp only [Bool.and_eq_true, Bool.not_eq_true', breakB, Bool.or_eq_false_iff, Bool.and_eq_false_iff, decide_eq_false_iff_not, Bool.not_eq_false'] at hg
          rcases hg.2.2 with h3 | h3
          · exact absurd h1 h3
          · unfold conB at h3
            simp only [Bool.and_eq_true, decide_eq_true_eq] at h3
            rw [h3.1.1, h2]
      by_cases he : endB (pceOf (secs.getD k [])) = true
      · rw [if_pos he]; exact hgen
      · rw [if_neg he] at h ⊢
        exact recGo_gen secs at' f (k + 1) _ _ (by omega) (fun _ => hgen) h
    · rw [if_neg hg] at h; simp at h
theorem recP_gen (secs : List (List UInt8)) (at' : Nat) (h : (recP secs at').2.2 ≠ 0) : (recP secs at').2.1 = num4 (secs.getD at' []) :=
  recGo_gen secs at' _ _ _ _ (Nat.le_refl _) (fun h => absurd h (Nat.lt_irrefl _)) h
theorem recP_end (secs : List (List UInt8)) (at' : Nat) (h : secs.length ≤ at') : recP secs at' = ([], 0, 0) := by
  unfold recP; rw [show secs.length - at' = 0 by omega]; rfl
end Go.Proofs.Ytlaaolbdadempaa

/- The reference's Records, walked. -/
namespace Go.Proofs.Ytlaaolbdadempaa
open Go.RowKit Go.Shelf

structure RsI (secs : List (List UInt8)) (w : World) (s3 : Value) (at' least : Nat) (xs : List Yl) (wr : World) : Prop where
  le : at' ≤ secs.length
  own : wr.ownsRow w.heap.size 35 1 s3 xs.length (valsY xs)
  told : ∀ x ∈ xs, ToldY w.heap.size x wr
  cnt : xs.length ≤ at'
  go : ∃ f, secs.length ≤ at' + f ∧ recsL secs = xs.map (·.1) ++ recsGo secs f at' least
  lst : least < 4294967296
  bel : Below w.heap.size w wr
def RsHd (secs : List (List UInt8)) (w : World) (s3 s4 s5 : Value) (wr : World) : Prop := ∃ (at' least : Nat) (xs : List Yl), s4 = .int .i64 (at' : Int) ∧ s5 = .int .u64 (least : Int) ∧ RsI secs w s3 at' least xs wr
theorem RsI.done {secs : List (List UInt8)} {w wr : World} {s3 : Value} {at' least : Nat} {xs : List Yl} (h : RsI secs w s3 at' least xs wr) (hno : ∀ f, recsGo secs f at' least = []) {w' : World} (hb : Below wr.heap.size wr w') : NRestS (fun b => w.heap.size ≤ b) w' (recsL secs) s3 := by
  have hg : Got secs xs := by
    obtain ⟨f, _, hf⟩ := h.go
    unfold Got; rw [hf, hno, List.append_nil]
  have hl : xs.length = (recsL secs).length := by rw [← hg, List.length_map]
  refine nrests_of_owns (owns_below (World.ownsRow.mono h.own (Nat.zero_le _)) hb) hl (by unfold valsY; rw [List.length_map, hl]) (fun g h9 => (h.own.lt g h9).1) (fun i x u hx hu => ?_)
  rw [← hg, List.getElem?_map, Option.map_eq_some_iff] at hx
  unfold valsY at hu
  rw [List.getElem?_map, Option.map_eq_some_iff] at hu
  obtain ⟨y, hy, rfl⟩ := hx
  obtain ⟨z, hz, rfl⟩ := hu
  rw [hy] at hz; cases hz
  have ht := h.told y (List.mem_of_getElem? hy)
  exact rests_of_buf (buf_stays ht.1 hb) ht.2
theorem own_later {w w' : World} {base e size n : Nat} {v : Value} {xs : List Value} (h : w.ownsRow base e size v n xs) (hb : Below w.heap.size w w') : w'.ownsRow base e size v n xs := by
  rcases Nat.eq_zero_or_pos n with h0 | h0
  · exact h.kept (row := none) ⟨hb.os, hb.tape, hb.output, hb.size, fun k hk _ => hb.block k hk⟩ (by cases hv : v.ownBlock <;> simp)
  · exact h.kept (row := none) ⟨hb.os, hb.tape, hb.output, hb.size, fun k hk _ => hb.block k hk⟩ (by cases hv : v.ownBlock <;> simp)
set_option maxHeartbeats 40000000 in
set_option maxRecDepth 100000 in
theorem refrecords_call (secs : List (List UInt8)) (v : Value) (w : World) (h : NRest w.heap.size w secs v) (hl : ∀ x ∈ secs, x.length = 128) (hn : secs.length ≤ 4096) :
    Calls Try.prog 61 #[v] w fun e w' => ∃ u, e = .returned u ∧ NRestS (fun b => w.heap.size ≤ b) w' (recsL secs) u ∧ Below w.heap.size w w' := by
  have HV := Lib.hid h
  obtain ⟨va, vc, rfl⟩ := nrest_slice h
  have HL := Lib.hid hl
  have hvc : secs.length ≤ vc := by obtain ⟨_, _, he, h1, _⟩ := h; injection he with _ _ h3; omega
  have HMADE : Hid ((w.alloc (.cells #[] 35)).ownsRow w.heap.size 35 1 (.slice (some ⟨w.heap.size, 0, none⟩) 0 0) 0 []) := Lib.hid (World.ownsRow_made w #[] 0 (Nat.le_refl _) (by unfold maxLen; omega) rfl)
  obtain ⟨S, hS⟩ : ∃ S, S = secs.length := ⟨_, rfl⟩
  have HREC : Hid (∀ (at' : Nat) W, at' ≤ S → Below w.heap.size w W → Calls Try.prog 82 #[.slice va S vc, .int .i64 (at' : Int)] W (RecAns secs at' W)) := Lib.hid (fun at' W ha hW => by
    rw [hS]; exact refrecord_call secs at' _ W (h.keep hW) hl hn (by omega))
  rw [← hS] at HV hn hvc ⊢
  have HS := Lib.hid hS
  clear h hl hS
  go_enter Try.func61, Try.ntmps61
  go_wp2_with fail
  go_loopw [3, 4, 5] (fun s3 s4 s5 wr => RsHd secs w s3 s4 s5 wr) (fun _ s4 _ _ => S - (intOf s4).toNat)
  case atStart => exact ⟨0, 0, [], rfl, rfl, Nat.zero_le _, HMADE.out, by simp, Nat.le_refl _, ⟨secs.length, by omega, rfl⟩, by omega, Joins.below_alloc1 w _⟩
  case round =>
    obtain ⟨at', least, xs, rfl, rfl, hi⟩ := hrel
    obtain ⟨a3, c3, rfl, hc6, hc7⟩ := own_shape hi.own
    have HI := Lib.hid hi
    have hle := hi.le
    rw [← HS.out] at hle
    clear hi
    have HCALL := Lib.hid (HREC.out at' wr hle HI.out.bel)
    obtain ⟨n, hn2⟩ : ∃ n, n = (recP secs at').2.2 := ⟨_, rfl⟩
    unfold RecAns at HCALL
    rw [← hn2] at HCALL
    by_cases hz : n = 0
    · have hno : ∀ f, recsGo secs f at' least = [] := fun f => by
        cases f with
        | zero => rfl
        | succ f =>
          rcases Nat.lt_or_ge at' secs.length with h1 | h1
          · rw [recsGo_step secs f at' least h1, if_pos (.inl (by rw [← hn2]; exact hz))]
          · exact recsGo_end secs _ at' least h1
      have HNO := Lib.hid hno
      clear hno hn2
      subst hz
      go_wp2_with (go_at_call 82; refine HCALL.out.mono ?_; rintro e w2 ⟨v2, rfl, hbf, ⟨a9, n9, c9, rfl⟩, hb⟩)
      go_ret
      exact ⟨_, rfl, HI.out.done HNO.out hb, below_next HI.out.bel hb⟩
    · have hat : at' < S := by
        rcases Nat.lt_or_ge at' S with h1 | h1
        · exact h1
        · rw [recP_end secs at' (by rw [← HS.out]; exact h1)] at hn2; exact absurd hn2 hz
      obtain ⟨b, hx⟩ : ∃ x, secs[at']? = some x := ⟨_, List.getElem?_eq_getElem (by rw [← HS.out]; exact hat)⟩
      have hbl := HL.out b (List.mem_of_getElem? hx)
      obtain ⟨vb, vo, u, rfl, _, hru, hcu⟩ := HV.out.at hx
      obtain ⟨u0, uc, rfl, huc, huc2⟩ := hru.shape
      obtain ⟨ub, uo, rfl, _⟩ := rest_some hru (by omega)
      have hgen := recP_gen secs at' (by rw [← hn2]; exact hz)
      rw [show secs.getD at' [] = b from by rw [List.getD_eq_getElem?_getD, hx]; rfl] at hgen
      obtain ⟨g, hg⟩ : ∃ g, g = num4 b := ⟨_, rfl⟩
      rw [← hg] at hgen
      have hgl : g < 4294967296 := by rw [hg]; exact num4_lt b
      have HU := Lib.hid hru
      have HCU := Lib.hid hcu
      have HBL := Lib.hid hbl
      have HG := Lib.hid hg
      have HGEN := Lib.hid hgen
      have HN2 := Lib.hid hn2
      have hple := recP_le secs at' (by rw [← HS.out]; exact hle)
      rw [← hn2, ← HS.out] at hple
      have HNUM : Hid (∀ W, Below w.heap.size w W → Calls Try.prog 83 #[.slice (some ⟨ub, uo, none⟩) 4 uc] W fun e w' => e = .returned (.int .u64 (g : Int)) ∧ w' = W) := Lib.hid (fun W hW => by
        have hr := HU.out.stays hW
        have := refnumber_call ((b.drop 0).take 4) (.slice (some ⟨ub, uo + 0, none⟩) 4 uc) _ _ (rest_part hr 0 4 uc (by omega) (by omega) (by omega)) (by rw [List.length_take]; omega)
        rw [List.drop_zero, Nat.add_zero, numR_take4 b HBL.out, ← HG.out] at this
        exact this)
      rw [hbl] at hcu huc2
      have HCU2 : Hid (∀ W, Below w.heap.size w W → W.cell? ⟨vb, vo + at', none⟩ = some (.slice (some ⟨ub, uo, none⟩) 128 uc)) := Lib.hid hcu
      have hai : (at' : Int) < (S : Int) := by omega
      have ha0 : (0 : Int) ≤ (at' : Int) := by omega
      have huc4 : (4 : Int) ≤ (uc : Int) := by omega
      have hcnt := HI.out.cnt
      have hnz : ((n : Int) == 0) = false := by simp; omega
      have hnz2 : ¬ (n : Int) = 0 := by omega
      clear hru hcu hx hbl hg hgen hn2 hz
      by_cases hlt : g < least
      · have HNO : Hid (∀ f, recsGo secs f at' least = []) := Lib.hid (fun f => by
          cases f with
          | zero => rfl
          | succ f => rw [recsGo_step secs f at' least (by rw [← HS.out]; exact hat), if_pos (.inr (by rw [HGEN.out]; exact hlt))])
        have hlt2 : (g : Int) < (least : Int) := by omega
        go_wp2_with (first
          | (go_at_call 82; refine HCALL.out.mono ?_; rintro e w2 ⟨v2, rfl, hbf, ⟨a9, n9, c9, rfl⟩, hb⟩; have HB2 := Lib.hid hb; have hcx := HCU2.out w2 (below_next HI.out.bel hb); clear hb hbf)
          | (go_at_call 83; refine (HNUM.out _ (below_next HI.out.bel HB2.out)).mono ?_; rintro e w3 ⟨rfl, rfl⟩))
        go_ret
        exact ⟨_, rfl, HI.out.done HNO.out HB2.out, below_next HI.out.bel HB2.out⟩
      · have hlt2 : ¬ (g : Int) < (least : Int) := by omega
        have hwa : IntKind.i64.wrap ((at' : Int) + (n : Int)) = ((at' + n : Nat) : Int) := by rw [IntKind.wrap_i64]; omega
        go_wp2_with (first
          | (go_at_call 82; refine HCALL.out.mono ?_; rintro e w2 ⟨v2, rfl, hbf, ⟨a9, n9, c9, rfl⟩, hb⟩; have HB2 := Lib.hid hb; have HBF := Lib.hid hbf; have hcx := HCU2.out w2 (below_next HI.out.bel hb); have HOWN : Hid ((w2.alloc (.cells #[.slice a9 n9 c9] 35)).ownsRow w.heap.size 35 1 (.slice a3 xs.length c3) xs.length (valsY xs)) := Lib.hid (World.ownsRow.alloc (own_later HI.out.own hb) _); clear hb hbf)
          | (go_at_call 83; refine (HNUM.out _ (below_next HI.out.bel HB2.out)).mono ?_; rintro e w3 ⟨rfl, rfl⟩)
          | (refine wpList_append_ns rfl (.tmp 34) (.tmp 36) rfl w.heap.size (.slice a3 xs.length c3) xs.length (valsY xs) rfl HOWN.out (some ⟨w3.heap.size, 0, none⟩) 1 1 [.slice a9 n9 c9] rfl (fun h => by cases h) rfl (fun b hb j u hu => by injection hb with hb; subst hb; rw [Addr.add_lit, Nat.zero_add]; exact (row_new w3 35 [.slice a9 n9 c9]).cell hu) (by intro u hu; simp at hu; subst hu; rfl) (by omega) (by rw [World.size_alloc]; have := (below_next HI.out.bel HB2.out).size; omega) ?_; intro v37 w37 hown hgrow; obtain ⟨a37, c37, rfl, _, _⟩ := own_shape hown; have HO := Lib.hid hown; have HGR := Lib.hid hgrow; clear hown hgrow))
        have hn0 : n ≠ 0 := by omega
        obtain ⟨hb1, hb2⟩ := HBF.out hn0
        have hbel2 := below_next HI.out.bel HB2.out
        have hal := Joins.below_alloc1 w3 (.cells #[.slice a9 n9 c9] 35)
        have keep : ∀ (y : Value) (ys : List UInt8), Buf w3 y ys → Buf w37 y ys := fun y ys h =>
          World.ownsRow.kept (buf_stays h hal) HGR.out (bufs_apart (buf_stays h hal) HOWN.out)
        refine ⟨⟨at' + n, g, xs ++ [((recP secs at').1, .slice a9 n9 c9)], by go_num, rfl, ?_⟩, by simp [intOf]; omega⟩
        refine ⟨by rw [← HS.out]; exact hple, by rw [List.length_append]; simpa [valsY] using HO.out, fun x hx => ?_, by rw [List.length_append]; simp; omega, ?_, hgl, ?_⟩
        · rcases List.mem_append.1 hx with hx | hx
          · have ht := HI.out.told x hx
            exact ⟨keep _ _ (buf_stays ht.1 HB2.out), ht.2⟩
          · simp at hx
            subst hx
            exact ⟨keep _ _ hb1, fun q hq => Nat.le_trans HI.out.bel.size (hb2 q hq)⟩
        · obtain ⟨f, hf, hgo⟩ := HI.out.go
          rw [← HS.out] at hf
          cases f with
          | zero => omega
          | succ f =>
            refine ⟨f, by rw [← HS.out]; omega, ?_⟩
            rw [hgo, recsGo_step secs f at' least (by rw [← HS.out]; exact hat), if_neg (by rw [← HN2.out, HGEN.out]; omega), HGEN.out, ← HN2.out, List.map_append, List.append_assoc]
            rfl
        · exact (below_next hbel2 hal).trans (below_grewn HOWN.out HGR.out (by rw [World.size_alloc]; have := hbel2.size; omega) (Nat.le_refl _))
end Go.Proofs.Ytlaaolbdadempaa

/- The reference's Open. -/
namespace Go.Proofs.Ytlaaolbdadempaa
open Go.RowKit

set_option maxHeartbeats 8000000 in
set_option maxRecDepth 100000 in
theorem jrefopen_call (d : Dsk) (s p : Value) (w : World) (h : DRest w.heap.size w d (dv s p d.left d.stop)) (l : List (List UInt8)) (m s1 k : Int) (hr : openJ d = (⟨l, m, s1⟩, k)) :
    Calls Try.prog 39 #[dv s p d.left d.stop] w (NewJ w l m s1 k) := by
  have HCK : Hid (∀ W, Below w.heap.size w W → Calls Try.prog 23 #[dv s p d.left d.stop] W fun e w' => e = .returned (.int .i64 (if validB d then 0 else 40)) ∧ Below W.heap.size W w') := Lib.hid (fun W hW => refcheck_call d _ W (h.keep hW))
  have HVS : Hid (chkD d = 0 → _) := Lib.hid (valid_secs (d := d))
  obtain ⟨_, _, ⟨a, c, rfl⟩, ⟨a2, c2, rfl⟩⟩ := drest_left h
  have HS : Hid (NRest w.heap.size w d.secs (.slice a d.secs.length c)) := Lib.hid (by
    obtain ⟨s', p', he, h1, h2⟩ := h
    unfold dv dskOf dskCells at he
    simp at he
    rw [he.1]; exact h1)
  have HREC : Hid (chkD d = 0 → ∀ W, Below w.heap.size w W → Calls Try.prog 61 #[.slice a d.secs.length c] W fun e w' => ∃ u, e = .returned u ∧ NRestS (fun b => W.heap.size ≤ b) w' (recsL d.secs) u ∧ Below W.heap.size W w') := Lib.hid (fun h0 W hW => by
    obtain ⟨h1, h2, _⟩ := HVS.out h0
    exact refrecords_call d.secs _ W ((HS.out.stays hW).mono hW.size) h1 h2)
  have HV : Hid (openJ d = if chkD d = 0 then (⟨recsL d.secs, d.secs.length, (recsL d.secs).length⟩, 0) else (zeroJ, chkD d)) := Lib.hid rfl
  have HC : Hid (chkD d = if validB d then if d.stop then 40 else if 0 < d.pend.length then 1 else 0 else 40) := Lib.hid rfl
  have HRR := Lib.hid hr
  clear h hr
  unfold dv at *
  have HR1 := Lib.hid ((row_new w 25 [.slice a d.secs.length c, .slice a2 d.pend.length c2, .int .i64 d.left, .bool d.stop]).keep (Joins.below_alloc1 _ (.cells #[.slice none 0 0, .int .i64 0, .int .i64 0] 55)))
  have HR2 := row_new (w.alloc (.cells #[.slice a d.secs.length c, .slice a2 d.pend.length c2, .int .i64 d.left, .bool d.stop] 25)) 55 [.slice none 0 0, .int .i64 0, .int .i64 0]
  rw [World.size_alloc] at HR2
  replace HR2 := Lib.hid HR2
  have HB := Lib.hid (below_two w (.cells #[.slice a d.secs.length c, .slice a2 d.pend.length c2, .int .i64 d.left, .bool d.stop] 25) (.cells #[.slice none 0 0, .int .i64 0, .int .i64 0] 55))
  have hzero : ∀ (code : Int) (w9 : World), openJ d = (zeroJ, code) → Below w.heap.size w w9 → NewJ w l m s1 k (.returned (.tuple #[.agg #[.slice none 0 0, .int .i64 0, .int .i64 0], .int .i64 code])) w9 := fun code w9 h hb => by
    rw [HRR.out] at h
    unfold zeroJ at h
    injection h with h9 h10
    injection h9 with h91 h92 h93
    subst h91 h92 h93 h10
    exact ⟨_, rfl, nrests_nil _ _, hb⟩
  have HZ := Lib.hid hzero
  clear hzero
  generalize d.left = lf at *
  obtain ⟨va, hva⟩ : ∃ va, va = validB d := ⟨_, rfl⟩
  obtain ⟨st, hst⟩ : ∃ st, st = d.stop := ⟨_, rfl⟩
  obtain ⟨pm, hpm⟩ : ∃ pm, pm = d.pend.length := ⟨_, rfl⟩
  obtain ⟨n, hn⟩ : ∃ n, n = d.secs.length := ⟨_, rfl⟩
  rw [← hva] at HCK HC
  rw [← hst] at HCK HC HR1 HR2 HB ⊢
  rw [← hpm] at HCK HC HR1 HR2 HB ⊢
  rw [← hn] at HCK HREC HR1 HR2 HB HV ⊢
  clear hva hst hpm hn
  cases va
  · go_enter Try.func39, Try.ntmps39
    go_wp2_with (first
      | (go_at_call 23; refine (HCK.out _ HB.out).mono ?_; rintro e w2 ⟨rfl, hb⟩; replace HR2 := Lib.hid (HR2.out.keep hb); replace HB := Lib.hid (below_next HB.out hb); clear hb)
      | (refine wpList_store_ags rfl 55 (.tmp 2) (.tmp 10) rfl (w.heap.size + 1) [.slice none 0 0, .int .i64 0, .int .i64 0] _ size55 (by rfl) rfl rfl HR2.out (by rfl) HB.out (by omega) ?_; intro w9 hr hb hf))
    exact bodyPost_ret (results_jn Try.results39 _ w9 (w.heap.size + 1) _ rfl rfl _ rfl hr) rfl (HZ.out 40 w9 (by rw [HV.out, HC.out]; simp) hb)
  · cases st
    · by_cases hp : 0 < pm
      · have hp2 : (0 : Int) < (pm : Int) := by omega
        go_enter Try.func39, Try.ntmps39
        go_wp2_with (first
          | (go_at_call 23; refine (HCK.out _ HB.out).mono ?_; rintro e w2 ⟨rfl, hb⟩; have c1 := HR1.out.later hb (i := 1) rfl; have c3 := HR1.out.later hb (i := 3) rfl; replace HR2 := Lib.hid (HR2.out.keep hb); replace HB := Lib.hid (below_next HB.out hb); clear hb)
          | (refine wpList_store_ags rfl 55 (.tmp 2) (.tmp 19) rfl (w.heap.size + 1) [.slice none 0 0, .int .i64 0, .int .i64 0] _ size55 (by rfl) rfl rfl HR2.out (by rfl) HB.out (by omega) ?_; intro w9 hr hb hf))
        exact bodyPost_ret (results_jn Try.results39 _ w9 (w.heap.size + 1) _ rfl rfl _ rfl hr) rfl (HZ.out 1 w9 (by rw [HV.out, HC.out]; simp [hp]) hb)
      · have hp2 : ¬ (0 : Int) < (pm : Int) := by omega
        have h0 : chkD d = 0 := by rw [HC.out]; simp [hp]
        have HRC := Lib.hid (HREC.out h0)
        have HO := Lib.hid (show ((⟨l, m, s1⟩ : Jnl), k) = (⟨recsL d.secs, n, (recsL d.secs).length⟩, 0) from by rw [← HRR.out, HV.out, if_pos h0])
        clear h0
        go_enter Try.func39, Try.ntmps39
        go_wp2_with (first
          | (go_at_call 23; refine (HCK.out _ HB.out).mono ?_; rintro e w2 ⟨rfl, hb⟩; have c0 := HR1.out.later hb (i := 0) rfl; have c1 := HR1.out.later hb (i := 1) rfl; have c3 := HR1.out.later hb (i := 3) rfl; have HR12 := Lib.hid (HR1.out.keep hb); replace HR2 := Lib.hid (HR2.out.keep hb); replace HB := Lib.hid (below_next HB.out hb); clear hb)
          | (go_at_call 61; refine (HRC.out _ HB.out).mono ?_; have HLT := Lib.hid HR2.out.lt; rintro e w3 ⟨u, rfl, hu, hb⟩; have HUU := Lib.hid hu; obtain ⟨ua, uc, rfl⟩ := nrest_slice hu.rest; clear c0 c1 c3; have c0 := HR12.out.later hb (i := 0) rfl; replace HR2 := Lib.hid (HR2.out.keep hb); replace HB := Lib.hid (below_next HB.out hb); clear hb hu)
          | (refine wpList_store_ags rfl 55 (.tmp 2) (.tmp 29) rfl (w.heap.size + 1) [.slice ua (recsL d.secs).length uc, .int .i64 n, .int .i64 (recsL d.secs).length] _ size55 (by rfl) rfl rfl HR2.out (by rfl) HB.out (by omega) ?_; intro w9 hr hb hf))
        refine bodyPost_ret (results_jn Try.results39 _ w9 (w.heap.size + 1) _ rfl rfl _ rfl hr) rfl ?_
        have hu9 := HUU.out.keep (.far (w.heap.size + 1) (fun h9 => Nat.lt_irrefl _ (Nat.lt_of_lt_of_le HLT.out h9)) hf)
        have h9 := HO.out
        injection h9 with h9 h10
        injection h9 with h91 h92 h93
        subst h91 h92 h93 h10
        exact ⟨_, rfl, hu9.rest, hb⟩
    · go_enter Try.func39, Try.ntmps39
      go_wp2_with (first
        | (go_at_call 23; refine (HCK.out _ HB.out).mono ?_; rintro e w2 ⟨rfl, hb⟩; have c3 := HR1.out.later hb (i := 3) rfl; replace HR2 := Lib.hid (HR2.out.keep hb); replace HB := Lib.hid (below_next HB.out hb); clear hb)
        | (refine wpList_store_ags rfl 55 (.tmp 2) (.tmp 14) rfl (w.heap.size + 1) [.slice none 0 0, .int .i64 0, .int .i64 0] _ size55 (by rfl) rfl rfl HR2.out (by rfl) HB.out (by omega) ?_; intro w9 hr hb hf))
      exact bodyPost_ret (results_jn Try.results39 _ w9 (w.heap.size + 1) _ rfl rfl _ rfl hr) rfl (HZ.out 40 w9 (by rw [HV.out, HC.out]; simp) hb)
end Go.Proofs.Ytlaaolbdadempaa

/- The reference's Sync, where it refuses early. -/
namespace Go.Proofs.Ytlaaolbdadempaa
open Go.RowKit

set_option maxHeartbeats 8000000 in
set_option maxRecDepth 100000 in
theorem refsy_early (j : Jnl) (v : Value) (d : Dsk) (s p : Value) (w : World) (h : NRest w.heap.size w j.recs v) (hj : Mild j) (hd : DRest w.heap.size w d (dv s p d.left d.stop)) (hno : jokB j = false ∨ chkD d ≠ 0 ∨ j.many ≠ (d.secs.length : Int)) :
    Calls Try.prog 48 #[jv v j.many j.synced, dv s p d.left d.stop] w (SyRefuse w (chkB j d)) := by
  have HC1 : Hid (∀ W, Below w.heap.size w W → Calls Try.prog 44 #[jv v j.many j.synced] W fun e w' => e = .returned (.int .i64 (if jokB j then 0 else 1)) ∧ Below W.heap.size W w') := Lib.hid (fun W hW => jrefcheck_call j v W (h.keep hW) hj)
  have HC2 : Hid (∀ W, Below w.heap.size w W → Calls Try.prog 23 #[dv s p d.left d.stop] W fun e w' => e = .returned (.int .i64 (if validB d then 0 else 40)) ∧ Below W.heap.size W w') := Lib.hid (fun W hW => refcheck_call d _ W (hd.keep hW))
  have HX := Lib.hid (chkB_eq j d)
  have HY : Hid (chkD d = if validB d then if d.stop then 40 else if 0 < d.pend.length then 1 else 0 else 40) := Lib.hid rfl
  obtain ⟨_, _, ⟨a, c, rfl⟩, ⟨a2, c2, rfl⟩⟩ := drest_left hd
  obtain ⟨ja, jc, rfl, _, _⟩ := h.shape
  clear h hj hd
  unfold jv dv at *
  generalize chkB j d = res at *
  generalize chkD d = cd at *
  generalize jokB j = jo at *
  generalize validB d = vb at *
  generalize j.recs.length = jn at *
  generalize d.secs.length = n at *
  generalize d.pend.length = m at *
  generalize j.many = jm at *
  generalize j.synced = js at *
  generalize d.left = lf at *
  generalize d.stop = st at *
  have HS := Lib.hid (sy4_new w [.slice ja jn jc, .int .i64 jm, .int .i64 js] [.slice a n c, .slice a2 m c2, .int .i64 lf, .bool st])
  unfold zJc zDc at HS
  cases jo
  · simp only [Bool.false_eq_true, if_false] at HC1
    have HRES : Hid (res = 1) := Lib.hid (by rw [HX.out]; simp)
    clear HX HY hno
    go_enter Try.func48, Try.ntmps48
    go_wp2_with (first
      | (go_at_call 44; refine (HC1.out _ HS.out.bel).mono ?_; rintro e w2 ⟨rfl, hb⟩; replace HS := Lib.hid (HS.out.keep hb); have x0 := HS.out.r3.cell (i := 0) rfl; have x1 := HS.out.r3.cell (i := 1) rfl; have x2 := HS.out.r3.cell (i := 2) rfl; have x3 := HS.out.r3.cell (i := 3) rfl; clear hb)
      | (go_at_call 23; refine (HC2.out _ HS.out.bel).mono ?_; rintro e w3 ⟨rfl, hb⟩; replace HS := Lib.hid (HS.out.keep hb); clear x0 x1 x2 x3; have x0 := HS.out.r3.cell (i := 0) rfl; have x1 := HS.out.r3.cell (i := 1) rfl; have x3 := HS.out.r3.cell (i := 3) rfl; have j1 := HS.out.r2.cell (i := 1) rfl; clear hb)
      | (refine wpList_store_ags rfl 55 (.tmp 4) _ rfl (w.heap.size + 2) zJc _ size55 (by rfl) rfl rfl HS.out.r4 (by rfl) HS.out.bel (by omega) ?_; intro w8 hr hb hf; have HR4 := Lib.hid hr; have HR5 := Lib.hid (HS.out.r5.same (hf _ (by omega))); have HB := Lib.hid hb; clear hr hb hf)
      | (refine wpList_store_ags rfl 25 (.tmp 5) _ rfl (w.heap.size + 3) zDc _ size25 (by rfl) rfl rfl HR5.out (by rfl) HB.out (by omega) ?_; intro w9 hr hb hf; replace HR4 := Lib.hid (HR4.out.same (hf _ (by omega))); replace HR5 := Lib.hid hr; replace HB := Lib.hid hb; clear hr hb hf))
    refine bodyPost_ret (results_sy Try.results48 _ w9 (w.heap.size + 2) (w.heap.size + 3) _ _ rfl rfl rfl rfl _ rfl HR4.out HR5.out) rfl ⟨by rw [HRES.out]; rfl, HB.out⟩
  cases vb
  · simp only [Bool.false_eq_true, if_false, if_true] at HC1 HC2
    have hy := HY.out
    simp only [Bool.false_eq_true, if_false] at hy
    subst hy
    have HRES : Hid (res = 40) := Lib.hid (by rw [HX.out]; simp)
    clear HX HY hno
    go_enter Try.func48, Try.ntmps48
    go_wp2_with (first
      | (go_at_call 44; refine (HC1.out _ HS.out.bel).mono ?_; rintro e w2 ⟨rfl, hb⟩; replace HS := Lib.hid (HS.out.keep hb); have x0 := HS.out.r3.cell (i := 0) rfl; have x1 := HS.out.r3.cell (i := 1) rfl; have x2 := HS.out.r3.cell (i := 2) rfl; have x3 := HS.out.r3.cell (i := 3) rfl; clear hb)
      | (go_at_call 23; refine (HC2.out _ HS.out.bel).mono ?_; rintro e w3 ⟨rfl, hb⟩; replace HS := Lib.hid (HS.out.keep hb); clear x0 x1 x2 x3; have x0 := HS.out.r3.cell (i := 0) rfl; have x1 := HS.out.r3.cell (i := 1) rfl; have x3 := HS.out.r3.cell (i := 3) rfl; have j1 := HS.out.r2.cell (i := 1) rfl; clear hb)
      | (refine wpList_store_ags rfl 55 (.tmp 4) _ rfl (w.heap.size + 2) zJc _ size55 (by rfl) rfl rfl HS.out.r4 (by rfl) HS.out.bel (by omega) ?_; intro w8 hr hb hf; have HR4 := Lib.hid hr; have HR5 := Lib.hid (HS.out.r5.same (hf _ (by omega))); have HB := Lib.hid hb; clear hr hb hf)
      | (refine wpList_store_ags rfl 25 (.tmp 5) _ rfl (w.heap.size + 3) zDc _ size25 (by rfl) rfl rfl HR5.out (by rfl) HB.out (by omega) ?_; intro w9 hr hb hf; replace HR4 := Lib.hid (HR4.out.same (hf _ (by omega))); replace HR5 := Lib.hid hr; replace HB := Lib.hid hb; clear hr hb hf))
    refine bodyPost_ret (results_sy Try.results48 _ w9 (w.heap.size + 2) (w.heap.size + 3) _ _ rfl rfl rfl rfl _ rfl HR4.out HR5.out) rfl ⟨by rw [HRES.out]; rfl, HB.out⟩
  simp only [if_true] at HC1 HC2
  rcases hst : st with _ | _
  rotate_left
  · subst hst
    have hy := HY.out
    simp only [if_true] at hy
    subst hy
    have HRES : Hid (res = 40) := Lib.hid (by rw [HX.out]; simp)
    clear HX HY hno
    go_enter Try.func48, Try.ntmps48
    go_wp2_with (first
      | (go_at_call 44; refine (HC1.out _ HS.out.bel).mono ?_; rintro e w2 ⟨rfl, hb⟩; replace HS := Lib.hid (HS.out.keep hb); have x0 := HS.out.r3.cell (i := 0) rfl; have x1 := HS.out.r3.cell (i := 1) rfl; have x2 := HS.out.r3.cell (i := 2) rfl; have x3 := HS.out.r3.cell (i := 3) rfl; clear hb)
      | (go_at_call 23; refine (HC2.out _ HS.out.bel).mono ?_; rintro e w3 ⟨rfl, hb⟩; replace HS := Lib.hid (HS.out.keep hb); clear x0 x1 x2 x3; have x0 := HS.out.r3.cell (i := 0) rfl; have x1 := HS.out.r3.cell (i := 1) rfl; have x3 := HS.out.r3.cell (i := 3) rfl; have j1 := HS.out.r2.cell (i := 1) rfl; clear hb)
      | (refine wpList_store_ags rfl 55 (.tmp 4) _ rfl (w.heap.size + 2) zJc _ size55 (by rfl) rfl rfl HS.out.r4 (by rfl) HS.out.bel (by omega) ?_; intro w8 hr hb hf; have HR4 := Lib.hid hr; have HR5 := Lib.hid (HS.out.r5.same (hf _ (by omega))); have HB := Lib.hid hb; clear hr hb hf)
      | (refine wpList_store_ags rfl 25 (.tmp 5) _ rfl (w.heap.size + 3) zDc _ size25 (by rfl) rfl rfl HR5.out (by rfl) HB.out (by omega) ?_; intro w9 hr hb hf; replace HR4 := Lib.hid (HR4.out.same (hf _ (by omega))); replace HR5 := Lib.hid hr; replace HB := Lib.hid hb; clear hr hb hf))
    refine bodyPost_ret (results_sy Try.results48 _ w9 (w.heap.size + 2) (w.heap.size + 3) _ _ rfl rfl rfl rfl _ rfl HR4.out HR5.out) rfl ⟨by rw [HRES.out]; rfl, HB.out⟩
  subst hst
  by_cases hjm : jm = (n : Int)
  · subst hjm
    have hy := HY.out
    simp only [if_true, Bool.false_eq_true, if_false] at hy
    have hmp : 0 < m := by
      rcases Nat.eq_zero_or_pos m with h0 | h0
      · subst h0
        simp at hy
        rcases hno with h1 | h1 | h1
        · cases h1
        · exact absurd hy h1
        · exact absurd rfl h1
      · exact h0
    rw [if_pos hmp] at hy
    subst hy
    have hmi : (0 : Int) < (m : Int) := by omega
    have HRES : Hid (res = 1) := Lib.hid (by rw [HX.out]; simp)
    clear HX HY hno
    go_enter Try.func48, Try.ntmps48
    go_wp2_with (first
      | (go_at_call 44; refine (HC1.out _ HS.out.bel).mono ?_; rintro e w2 ⟨rfl, hb⟩; replace HS := Lib.hid (HS.out.keep hb); have x0 := HS.out.r3.cell (i := 0) rfl; have x1 := HS.out.r3.cell (i := 1) rfl; have x2 := HS.out.r3.cell (i := 2) rfl; have x3 := HS.out.r3.cell (i := 3) rfl; clear hb)
      | (go_at_call 23; refine (HC2.out _ HS.out.bel).mono ?_; rintro e w3 ⟨rfl, hb⟩; replace HS := Lib.hid (HS.out.keep hb); clear x0 x1 x2 x3; have x0 := HS.out.r3.cell (i := 0) rfl; have x1 := HS.out.r3.cell (i := 1) rfl; have x3 := HS.out.r3.cell (i := 3) rfl; have j1 := HS.out.r2.cell (i := 1) rfl; clear hb)
      | (refine wpList_store_ags rfl 55 (.tmp 4) _ rfl (w.heap.size + 2) zJc _ size55 (by rfl) rfl rfl HS.out.r4 (by rfl) HS.out.bel (by omega) ?_; intro w8 hr hb hf; have HR4 := Lib.hid hr; have HR5 := Lib.hid (HS.out.r5.same (hf _ (by omega))); have HB := Lib.hid hb; clear hr hb hf)
      | (refine wpList_store_ags rfl 25 (.tmp 5) _ rfl (w.heap.size + 3) zDc _ size25 (by rfl) rfl rfl HR5.out (by rfl) HB.out (by omega) ?_; intro w9 hr hb hf; replace HR4 := Lib.hid (HR4.out.same (hf _ (by omega))); replace HR5 := Lib.hid hr; replace HB := Lib.hid hb; clear hr hb hf))
    refine bodyPost_ret (results_sy Try.results48 _ w9 (w.heap.size + 2) (w.heap.size + 3) _ _ rfl rfl rfl rfl _ rfl HR4.out HR5.out) rfl ⟨by rw [HRES.out]; rfl, HB.out⟩
  · have hcd : cd = 0 ∨ cd = 1 := by
      have hy := HY.out
      simp only [if_true, Bool.false_eq_true, if_false] at hy
      split at hy
      · exact .inr hy
      · exact .inl hy
    have HRES : Hid (res = 1) := Lib.hid (by rw [HX.out]; rcases hcd with h1 | h1 <;> simp [h1, hjm])
    clear HX HY hno
    go_enter Try.func48, Try.ntmps48
    go_wp2_with (first
      | (go_at_call 44; refine (HC1.out _ HS.out.bel).mono ?_; rintro e w2 ⟨rfl, hb⟩; replace HS := Lib.hid (HS.out.keep hb); have x0 := HS.out.r3.cell (i := 0) rfl; have x1 := HS.out.r3.cell (i := 1) rfl; have x2 := HS.out.r3.cell (i := 2) rfl; have x3 := HS.out.r3.cell (i := 3) rfl; clear hb)
      | (go_at_call 23; refine (HC2.out _ HS.out.bel).mono ?_; rintro e w3 ⟨rfl, hb⟩; replace HS := Lib.hid (HS.out.keep hb); clear x0 x1 x2 x3; have x0 := HS.out.r3.cell (i := 0) rfl; have x1 := HS.out.r3.cell (i := 1) rfl; have x3 := HS.out.r3.cell (i := 3) rfl; have j1 := HS.out.r2.cell (i := 1) rfl; clear hb)
      | (refine wpList_store_ags rfl 55 (.tmp 4) _ rfl (w.heap.size + 2) zJc _ size55 (by rfl) rfl rfl HS.out.r4 (by rfl) HS.out.bel (by omega) ?_; intro w8 hr hb hf; have HR4 := Lib.hid hr; have HR5 := Lib.hid (HS.out.r5.same (hf _ (by omega))); have HB := Lib.hid hb; clear hr hb hf)
      | (refine wpList_store_ags rfl 25 (.tmp 5) _ rfl (w.heap.size + 3) zDc _ size25 (by rfl) rfl rfl HR5.out (by rfl) HB.out (by omega) ?_; intro w9 hr hb hf; replace HR4 := Lib.hid (HR4.out.same (hf _ (by omega))); replace HR5 := Lib.hid hr; replace HB := Lib.hid hb; clear hr hb hf))
    refine bodyPost_ret (results_sy Try.results48 _ w9 (w.heap.size + 2) (w.heap.size + 3) _ _ rfl rfl rfl rfl _ rfl HR4.out HR5.out) rfl ⟨by rw [HRES.out]; rfl, HB.out⟩
end Go.Proofs.Ytlaaolbdadempaa

/- The reference's Sync: plain data, and what it holds while it works. -/
namespace Go.Proofs.Ytlaaolbdadempaa
open Go.RowKit

theorem put1_set {s : List (List UInt8)} {p : Int × List UInt8} (hs : ∀ x ∈ s, x.length = 128) (hp : hasB s.length p.1 = true) (hl : p.2.length = 128) : put1 s p = s.set p.1.toNat p.2 := by
  have h2 : 0 ≤ p.1 ∧ p.1 < (s.length : Int) := by unfold hasB at hp; simpa using hp
  unfold put1
  have hx : (s.getD p.1.toNat []).length = 128 := by
    have : p.1.toNat < s.length := by omega
    rw [show s.getD p.1.toNat [] = s[p.1.toNat] by simp [List.getD, this]]
    exact hs _ (List.getElem_mem _)
  rw [sectorL_top hx hl]
theorem halt_secs {d : Dsk} {k : Nat} {q : Int × List UInt8} (h : Runs d) (hq : d.pend[k]? = some q) : (haltD d k q).secs = (performL d.secs (d.pend.take k)).set q.1.toNat (q.2.take 64 ++ ((performL d.secs (d.pend.take k)).getD q.1.toNat []).drop 64) := by
  have hm := h.pend q (List.mem_of_getElem? hq)
  have h2 : 0 ≤ q.1 ∧ q.1 < (d.secs.length : Int) := by have := hm.1; unfold hasB at this; simpa using this
  show performL d.secs (haltL d k q) = _
  unfold haltL performL
  rw [List.foldl_append, List.foldl_cons, List.foldl_nil]
  show put1 (performL d.secs (d.pend.take k)) (torn q) = _
  unfold put1 torn
  simp only
  have hx : ((performL d.secs (d.pend.take k)).getD q.1.toNat []).length = 128 := by
    have : q.1.toNat < (performL d.secs (d.pend.take k)).length := by rw [performL_len]; omega
    rw [show (performL d.secs (d.pend.take k)).getD q.1.toNat [] = (performL d.secs (d.pend.take k))[q.1.toNat] by simp [List.getD, this]]
    exact performL_secs h.secs _ (List.getElem_mem _)
  rw [sectorL_half hx (by rw [List.length_take]; omega), List.length_take, hm.2]; rfl
/-- the blocks in which sectors may lie while x is made: not its list, not its box, not the result -/
def Free3 (a b c : Nat) : Nat → Prop := fun i => i ≠ a ∧ i ≠ b ∧ i ≠ c
/-- x, while it is made -/
def RsX (w : World) (box : List Value) (xs : List (List UInt8)) (left : Int) (stop : Bool) (g gs cap : Nat) (wx : World) : Prop :=
  ∃ vs, w.heap.size + 2 ≤ g ∧ w.heap.size + 2 ≤ gs ∧ g ≠ gs ∧ cap ≤ maxLen ∧ Row wx g 25 [.slice (some ⟨gs, 0, none⟩) xs.length cap, .slice none 0 0, .int .i64 left, .bool stop] ∧
    Tab (Free3 gs g (w.heap.size + 1)) gs cap wx xs vs ∧ Row wx w.heap.size 25 box ∧ Row wx (w.heap.size + 1) 25 [.slice none 0 0, .slice none 0 0, .int .i64 0, .bool false] ∧ Below w.heap.size w wx
def RsCut (w : World) (box : List Value) (xs : List (List UInt8)) (left : Int) (s6 : Value) (wx : World) : Prop := ∃ g gs cap, s6 = .pointer (some ⟨g, 0, none⟩) ∧ RsX w box xs left false g gs cap wx
def RsLoop (w : World) (box : List Value) (d : Dsk) (left : Int) (m g gs cap : Nat) (s7 : Value) (wx : World) : Prop := ∃ k, k ≤ m ∧ s7 = .int .i64 (k : Int) ∧ RsX w box (performL d.secs (d.pend.take k)) left false g gs cap wx
theorem tab_own {S : Nat → Prop} {w : World} {base g n cap : Nat} {xs : List (List UInt8)} {vs : List Value} (h : w.ownsRow base 35 1 (.slice (some ⟨g, 0, none⟩) n cap) n vs) (hl : vs.length = xs.length)
    (hel : ∀ (i : Nat) x, xs[i]? = some x → ∃ u, vs[i]? = some u ∧ RestS S w x u) : Tab S g cap w xs vs ∧ cap ≤ maxLen ∧ base ≤ g := by
  rcases h.2 with ⟨he, _⟩ | ⟨g2, cap2, cur, he, hbg, hg, hnc, hcm, hcs, htake⟩
  · cases he
  · injection he with he1 he2 he3
    injection he1 with he1
    injection he1 with he1
    subst he1 he3
    have htk : cur.toList.take n = vs := by simpa using htake
    refine ⟨⟨⟨cur.toList.drop n, ?_, ?_⟩, hl, hel⟩, hcm, hbg⟩
    · show w.heap[g]? = some (.cells (vs ++ cur.toList.drop n).toArray 35 (0, 0))
      rw [← htk, List.take_append_drop]; simpa using hg
    · rw [← htk, List.take_append_drop]; simp; omega
theorem Tab.heap {S : Nat → Prop} {w w' : World} {g cap : Nat} {xs : List (List UInt8)} {vs : List Value} (h : Tab S g cap w xs vs) (hg : w'.heap[g]? = w.heap[g]?) (hk : KeepS S w w') : Tab S g cap w' xs vs := by
  obtain ⟨ex, h1, h2⟩ := h.row
  refine ⟨⟨ex, hg.trans h1, h2⟩, h.len, fun i x hi => ?_⟩
  obtain ⟨u, h3, h4⟩ := h.el i x hi
  exact ⟨u, h3, h4.keep hk⟩
/-- the list made, its box made behind it -/
theorem rs_new {w w4 : World} {box : List Value} {xs : List (List UInt8)} {left : Int} {gs n cap : Nat} {vs : List Value} (hown : w4.ownsRow (w.heap.size + 2) 35 1 (.slice (some ⟨gs, 0, none⟩) n cap) n vs) (hn : n = xs.length) (hl : vs.length = xs.length)
    (hel : ∀ (i : Nat) x, xs[i]? = some x → ∃ u, vs[i]? = some u ∧ Rest w.heap.size w x u) (hb : Below w.heap.size w w4) (h1 : Row w4 w.heap.size 25 box) (h2 : Row w4 (w.heap.size + 1) 25 [.slice none 0 0, .slice none 0 0, .int .i64 0, .bool false]) :
    RsCut w box xs left (.pointer (some ⟨w4.heap.size, 0, none⟩)) (w4.alloc (.cells #[.slice (some ⟨gs, 0, none⟩) n cap, .slice none 0 0, .int .i64 left, .bool false] 25)) := by
  subst hn
  have hlt := h2.lt
  have hgs := (hown.lt gs rfl).2
  obtain ⟨ht, hc, hg⟩ := tab_own (S := Free3 gs w4.heap.size (w.heap.size + 1)) (xs := xs) hown hl (fun i x hi => by
    obtain ⟨u, e1, e2⟩ := hel i x hi
    exact ⟨u, e1, (RestS.of (e2.stays hb)).weak (fun b hb1 _ => ⟨by have := (hown.lt gs rfl).1; omega, by omega, by omega⟩)⟩)
  exact ⟨_, _, _, rfl, vs, by omega, hg, by omega, hc, row_new _ _ _, ht.keep (Joins.below_alloc1 _ _), h1.keep (Joins.below_alloc1 _ _), h2.keep (Joins.below_alloc1 _ _), below_next hb (Joins.below_alloc1 _ _)⟩
/-- the same, where its box was there before -/
theorem rs_old {w w4 : World} {box : List Value} {xs : List (List UInt8)} {left : Int} {g gs n cap : Nat} {vs : List Value} (hown : w4.ownsRow (w.heap.size + 2) 35 1 (.slice (some ⟨gs, 0, none⟩) n cap) n vs) (hn : n = xs.length) (hl : vs.length = xs.length)
    (hel : ∀ (i : Nat) x, xs[i]? = some x → ∃ u, vs[i]? = some u ∧ Rest w.heap.size w x u) (hb : Below w.heap.size w w4) (h1 : Row w4 w.heap.size 25 box) (h2 : Row w4 (w.heap.size + 1) 25 [.slice none 0 0, .slice none 0 0, .int .i64 0, .bool false])
    (hbx : Row w4 g 25 [.slice none 0 0, .slice none 0 0, .int .i64 0, .bool false]) (hg : w.heap.size + 2 ≤ g) (hne : g ≠ gs) :
    RsCut w box xs left (.pointer (some ⟨g, 0, none⟩)) ((((w4.setCell ⟨g, 0, none⟩ (.slice (some ⟨gs, 0, none⟩) n cap)).setCell ⟨g, 1, none⟩ (.slice none 0 0)).setCell ⟨g, 2, none⟩ (.int .i64 left)).setCell ⟨g, 3, none⟩ (.bool false)) := by
  subst hn
  obtain ⟨ht, hc, hg2⟩ := tab_own (S := Free3 gs g (w.heap.size + 1)) (xs := xs) hown hl (fun i x hi => by
    obtain ⟨u, e1, e2⟩ := hel i x hi
    exact ⟨u, e1, (RestS.of (e2.stays hb)).weak (fun b hb1 _ => ⟨by have := (hown.lt gs rfl).1; omega, by omega, by omega⟩)⟩)
  have far : ∀ g', g' ≠ g → ((((w4.setCell ⟨g, 0, none⟩ (.slice (some ⟨gs, 0, none⟩) xs.length cap)).setCell ⟨g, 1, none⟩ (.slice none 0 0)).setCell ⟨g, 2, none⟩ (.int .i64 left)).setCell ⟨g, 3, none⟩ (.bool false)).heap[g']? = w4.heap[g']? := fun g' h => by
    rw [heap_setCell_other _ _ _ _ h, heap_setCell_other _ _ _ _ h, heap_setCell_other _ _ _ _ h, heap_setCell_other _ _ _ _ h]
  refine ⟨_, _, _, rfl, vs, hg, hg2, hne, hc, row_set4 hbx _ _ _ _, ht.heap (far _ (Ne.symm hne)) (.far g (fun h => h.2.1 rfl) far), (far _ (by omega)).trans h1, (far _ (by omega)).trans h2, below4 hb g _ _ _ _ (by omega)⟩
theorem own_apart {w : World} {base g g' n m c T : Nat} {xs cs : List Value} (h : w.ownsRow base 35 1 (.slice (some ⟨g, 0, none⟩) n c) m xs) (hr : Row w g' T cs) (hT : T ≠ 35) : g' ≠ g := fun e => own_ne h hr hT (by rw [e]; rfl)
theorem RsX.drewN {w wx : World} {box : List Value} {xs : List (List UInt8)} {left : Int} {stop : Bool} {g gs cap : Nat} (h : RsX w box xs left stop g gs cap wx) (q : Nat) : RsX w box xs left stop g gs cap (wx.drewN q) := by
  obtain ⟨vs, h1, h2, h3, h4, h5, h6, h7, h8, h9⟩ := h
  exact ⟨vs, h1, h2, h3, h4, h5, h6.heap rfl (fun _ _ _ => rfl), h7, h8, below_drewN h9 q⟩
theorem RsX.put {w wx : World} {box : List Value} {xs : List (List UInt8)} {left : Int} {stop : Bool} {g gs cap : Nat} (h : RsX w box xs left stop g gs cap wx) {i : Nat} (hi : i < xs.length) {y : List UInt8} {u : Value}
    (hu : RestS (Free3 gs g (w.heap.size + 1)) wx y u) : RsX w box (xs.set i y) left stop g gs cap (wx.setCell ⟨gs, i, none⟩ u) := by
  obtain ⟨vs, h1, h2, h3, h4, h5, h6, h7, h8, h9⟩ := h
  exact ⟨_, h1, h2, h3, h4, by rw [List.length_set]; exact h5.setFar i u h3, h6.set hi hu (fun h => h.1 rfl), h7.setFar i u (by omega), h8.setFar i u (by omega), below_setCell h9 gs i u (by omega)⟩
theorem RsX.low {w wx : World} {box : List Value} {xs : List (List UInt8)} {left : Int} {stop : Bool} {g gs cap : Nat} (h : RsX w box xs left stop g gs cap wx) {y : List UInt8} {u : Value} (hu : Rest w.heap.size w y u) : RestS (Free3 gs g (w.heap.size + 1)) wx y u := by
  obtain ⟨vs, h1, h2, h3, h4, h5, h6, h7, h8, h9⟩ := h
  exact (RestS.of (hu.stays h9)).weak (fun b hb _ => ⟨by omega, by omega, by omega⟩)
/-- a number in the box of x is written -/
theorem RsX.left' {w wx : World} {box : List Value} {xs : List (List UInt8)} {left : Int} {stop : Bool} {g gs cap : Nat} (h : RsX w box xs left stop g gs cap wx) (l : Int) : RsX w box xs l stop g gs cap (wx.setCell ⟨g, 2, none⟩ (.int .i64 l)) := by
  obtain ⟨vs, h1, h2, h3, h4, h5, h6, h7, h8, h9⟩ := h
  exact ⟨_, h1, h2, h3, h4, h5.set 2 _ rfl, h6.heap (heap_setCell_other _ _ _ _ (Ne.symm h3)) (.setCell _ g 2 _ (fun h => h.2.1 rfl)), h7.setFar 2 _ (by omega), h8.setFar 2 _ (by omega), below_setCell h9 g 2 _ (by omega)⟩
theorem RsX.stop' {w wx : World} {box : List Value} {xs : List (List UInt8)} {left : Int} {stop : Bool} {g gs cap : Nat} (h : RsX w box xs left stop g gs cap wx) (b : Bool) : RsX w box xs left b g gs cap (wx.setCell ⟨g, 3, none⟩ (.bool b)) := by
  obtain ⟨vs, h1, h2, h3, h4, h5, h6, h7, h8, h9⟩ := h
  exact ⟨_, h1, h2, h3, h4, h5.set 3 _ rfl, h6.heap (heap_setCell_other _ _ _ _ (Ne.symm h3)) (.setCell _ g 3 _ (fun h => h.2.1 rfl)), h7.setFar 3 _ (by omega), h8.setFar 3 _ (by omega), below_setCell h9 g 3 _ (by omega)⟩
/-- x is handed back -/
theorem RsX.done {w wx w9 : World} {box : List Value} {xs : List (List UInt8)} {left : Int} {stop : Bool} {g gs cap : Nat} {n : Nat} (h : RsX w box xs left stop g gs cap wx) (hn : n = xs.length) (hb : Below w.heap.size w w9) (hf : ∀ b, b ≠ w.heap.size + 1 → w9.heap[b]? = wx.heap[b]?) :
    DRest w9.heap.size w9 ⟨xs, [], left, stop⟩ (dv (.slice (some ⟨gs, 0, none⟩) n cap) (.slice none 0 0) left stop) := by
  subst hn
  obtain ⟨vs, h1, h2, h3, h4, h5, h6, h7, h8, h9⟩ := h
  have h10 := h6.heap (hf gs (by omega)) (.far (w.heap.size + 1) (fun h => h.2.2 rfl) hf)
  exact ⟨_, _, rfl, h10.nrest (S' := fun b => b < w9.heap.size) h4 h10.lt (fun b _ h => h), prest_nil _ _⟩
theorem RsX.drew1 {w wx : World} {box : List Value} {xs : List (List UInt8)} {left : Int} {stop : Bool} {g gs cap : Nat} (h : RsX w box xs left stop g gs cap wx) : RsX w box xs left stop g gs cap wx.drew := by
  obtain ⟨vs, h1, h2, h3, h4, h5, h6, h7, h8, h9⟩ := h
  exact ⟨vs, h1, h2, h3, h4, h5, h6.heap rfl (fun _ _ _ => rfl), h7, h8, below_drew h9⟩
theorem RestS.drew1 {S : Nat → Prop} {w : World} {y : List UInt8} {u : Value} (h : RestS S w y u) : RestS S w.drew y u := h.keep (fun _ _ _ => rfl)
theorem RsX.grow {w wx wy : World} {box : List Value} {xs : List (List UInt8)} {left : Int} {stop : Bool} {g gs cap : Nat} (h : RsX w box xs left stop g gs cap wx) (hb : Below wx.heap.size wx wy) : RsX w box xs left stop g gs cap wy := by
  obtain ⟨vs, h1, h2, h3, h4, h5, h6, h7, h8, h9⟩ := h
  exact ⟨vs, h1, h2, h3, h4, h5.keep hb, h6.keep hb, h7.keep hb, h8.keep hb, below_next h9 hb⟩
/-- all blocks but one are as they were -/
def SS (W8 : World) (gs : Nat) (W : World) : Prop := ∀ b, b < W8.heap.size → b ≠ gs → W.heap[b]? = W8.heap[b]?
theorem SS.cell {W8 W : World} {gs : Nat} (h : SS W8 gs W) {b o : Nat} (hb : b < W8.heap.size) (hg : b ≠ gs) : W.cell? ⟨b, o, none⟩ = W8.cell? ⟨b, o, none⟩ := by
  unfold World.cell?
  simp only
  rw [h b hb hg]
theorem SS.below {W8 W : World} {gs : Nat} (h : Below W8.heap.size W8 W) : SS W8 gs W := fun b hb _ => h.block b hb
theorem SS.put {W8 W : World} {gs i : Nat} {v : Value} (h : SS W8 gs W) : SS W8 gs (W.setCell ⟨gs, i, none⟩ v) := fun b hb hg => (heap_setCell_other W ⟨gs, i, none⟩ b v hg).trans (h b hb hg)
def RsEnd (w : World) (box : List Value) (xs : List (List UInt8)) (left : Int) (g gs cap : Nat) (wx : World) : Prop := RsX w box xs left false g gs cap wx
/-- the torn write is laid into the list -/
theorem rs_torn {w W8 w5 : World} {box : List Value} {xs : List (List UInt8)} {left : Int} {stop : Bool} {g gs cap g5 c5 i : Nat} {A B : List UInt8} (h : RsX w box xs left stop g gs cap W8) (hb : Below W8.heap.size W8 w5)
    (hown : w5.ownsRow W8.heap.size 5 1 (.slice (some ⟨g5, 0, none⟩) (64 + 64) c5) (64 + 64) (cellsOf A ++ cellsOf B)) (hA : A.length = 64) (hB : B.length = 64) (hi : i < xs.length) :
    RsX w box (xs.set i (A ++ B)) left stop g gs cap (w5.setCell ⟨gs, i, none⟩ (.slice (some ⟨g5, 0, none⟩) 128 c5)) := by
  have h5 := h.grow hb
  have hge := (hown.lt g5 rfl).1
  obtain ⟨vs, h1, h2, h3, h4, hr, ht, h7, h8, h9⟩ := h
  have e1 := ht.lt
  have e2 := hr.lt
  have e3 := h8.lt
  rw [← cellsOf_append] at hown
  exact h5.put hi (rests_of_owns (n := 128) hown (by rw [List.length_append, hA, hB]) ⟨by omega, by omega, by omega⟩)
end Go.Proofs.Ytlaaolbdadempaa

/- The reference's Sync, case a. -/
namespace Go.Proofs.Ytlaaolbdadempaa
open Go.RowKit

set_option maxHeartbeats 8000000 in
set_option maxRecDepth 100000 in
theorem refsync_a (d : Dsk) (v : Value) (w : World) (h : DRest w.heap.size w d v) (hr : Runs d) (hl : d.left = -1) :
    Calls Try.prog 31 #[v] w (NewD w (synced d) 0) := by
  obtain ⟨s, p, rfl, hs, hp⟩ := h
  have HRUN := Lib.hid hr
  have HS := Lib.hid hs
  have HP := Lib.hid hp
  have HV : Hid (∀ W, Below w.heap.size w W → Calls Try.prog 23 #[dskOf s p d] W fun e w' => e = .returned (.int .i64 0) ∧ Below W.heap.size W w') := Lib.hid (fun W hW => by have := refcheck_call d _ W ⟨s, p, rfl, hs.keep hW, hp.keep hW⟩; rwa [hr.valid, if_pos rfl] at this)
  obtain ⟨a, cap, rfl, hc1, hc2⟩ := hs.shape
  obtain ⟨a2, cap2, rfl, hc3, hc4⟩ := hp.shape
  have hst := hr.stop
  unfold dskOf dskCells at *
  rw [hst] at HV ⊢
  clear hr hs hp hst
  have HRB := Lib.hid ((row_new w 25 [.slice a d.secs.length cap, .slice a2 d.pend.length cap2, .int .i64 d.left, .bool false]).keep (Joins.below_alloc1 _ (.cells #[.slice none 0 0, .slice none 0 0, .int .i64 0, .bool false] 25)))
  have HRR := Lib.hid (row_new (w.alloc (.cells #[.slice a d.secs.length cap, .slice a2 d.pend.length cap2, .int .i64 d.left, .bool false] 25)) 25 [.slice none 0 0, .slice none 0 0, .int .i64 0, .bool false])
  have HB0 := Lib.hid (below_two w (.cells #[.slice a d.secs.length cap, .slice a2 d.pend.length cap2, .int .i64 d.left, .bool false] 25) (.cells #[.slice none 0 0, .slice none 0 0, .int .i64 0, .bool false] 25))
  rw [World.size_alloc] at HRR
  have hpos := HRUN.out.pos
  have hmost := HRUN.out.most
  have hfew := HRUN.out.few
  obtain ⟨m, hm⟩ : ∃ m, m = d.pend.length := ⟨_, rfl⟩
  obtain ⟨n, hn⟩ : ∃ n, n = d.secs.length := ⟨_, rfl⟩
  have HM := Lib.hid hm
  have HN := Lib.hid hn
  rw [← hm] at HV HP HRB HRR HB0 hc4 hfew ⊢
  rw [← hn] at HV HS HRB HRR HB0 hc2 hpos hmost ⊢
  clear hm hn
  rw [hl] at HV HRB HRR HB0 ⊢
  have HL := Lib.hid hl
  clear hl
  go_enter Try.func31, Try.ntmps31
  go_wp2_with fail
  refine (HV.out _ HB0.out).mono ?_
  rintro e w1 ⟨rfl, hb⟩
  have HB1 := Lib.hid (below_next HB0.out hb)
  have HRB1 := Lib.hid (HRB.out.keep hb)
  have HRR1 := Lib.hid (HRR.out.keep hb)
  have c0 := HRB1.out.cell (i := 0) rfl
  have c1 := HRB1.out.cell (i := 1) rfl
  have c2 := HRB1.out.cell (i := 2) rfl
  have c3 := HRB1.out.cell (i := 3) rfl
  have hw1 := HRR1.out.lt
  clear hb HRB HRR HB0
  go_upto_region 7 with (fail)
  obtain ⟨vb, voff, vs, rfl, hvb, hvlt, hvl, hvc, hvel⟩ := (NRestS.of HS.out).vals (by have := HN.out; omega)
  have HVL := Lib.hid hvl
  have HVEL : Hid (∀ (i : Nat) x, d.secs[i]? = some x → ∃ u, vs[i]? = some u ∧ Rest w.heap.size w x u) := Lib.hid (fun i x hi => by
    obtain ⟨u, e1, e2⟩ := hvel i x hi
    exact ⟨u, e1, e2.rest⟩)
  have HONE : Hid (∀ u ∈ vs, u.oneCell' = true) := Lib.hid (fun u hu => by obtain ⟨j, hj⟩ := List.getElem?_of_mem hu; exact (hvc j u hj).2)
  have HOLD : Hid (∀ W, Below w1.heap.size w1 W → ∀ (j : Nat) u, vs[j]? = some u → W.cell? ((⟨vb, voff, none⟩ : Addr).add j) = some u) := Lib.hid (fun W hW j u hj => by
    rw [Addr.add_lit]; exact ((below_next HB1.out hW).cell (p := ⟨vb, voff + j, none⟩) hvb).trans (hvc j u hj).1)
  obtain ⟨i0, hi, hz0, hz1, hz2⟩ := info_parts Try.info35
  have HI := Lib.hid hi
  have HZ0 := Lib.hid hz0
  have HZ1 := Lib.hid hz1
  have HZ2 := Lib.hid hz2
  have OA : Hid (((w1.alloc (.cells #[] 35)).drew).ownsRow (w.heap.size + 2) 35 1 (.slice (some ⟨w1.heap.size, 0, none⟩) 0 0) 0 []) := Lib.hid (World.ownsRow_made w1 #[] 0 (by omega) (by unfold maxLen; omega) rfl)
  have OB : Hid ((((w1.alloc (.cells #[] 35)).alloc (.cells #[.slice none 0 0, .slice none 0 0, .int .i64 0, .bool false] 25)).drew).ownsRow (w.heap.size + 2) 35 1 (.slice (some ⟨w1.heap.size, 0, none⟩) 0 0) 0 []) := Lib.hid (World.ownsRow.alloc OA.out _)
  have OC : Hid ((((w1.alloc (.cells #[.slice none 0 0, .slice none 0 0, .int .i64 0, .bool false] 25)).alloc (.cells #[] 35)).drew).ownsRow (w.heap.size + 2) 35 1 (.slice (some ⟨w1.heap.size + 1, 0, none⟩) 0 0) 0 []) := Lib.hid (by
    have := World.ownsRow_made (base := w.heap.size + 2) (e := 35) (size := 1) (w1.alloc (.cells #[.slice none 0 0, .slice none 0 0, .int .i64 0, .bool false] 25)) #[] 0 (by rw [World.size_alloc]; omega) (by unfold maxLen; omega) rfl
    rw [World.size_alloc] at this
    exact this)
  have SA : Hid (∀ w4 : World, ((w1.alloc (.cells #[] 35)).drew).grownBy w4 (Value.slice (some ⟨w1.heap.size, 0, none⟩) 0 0).ownBlock → Below w1.heap.size w1 w4) := Lib.hid (fun w4 h => (Joins.below_alloc1 w1 _).trans (below_grew (w := w1.alloc (.cells #[] 35)) h (by simp) (fun g' e => by cases e; exact Nat.le_refl _)))
  have SB : Hid (∀ w4 : World, (((w1.alloc (.cells #[] 35)).alloc (.cells #[.slice none 0 0, .slice none 0 0, .int .i64 0, .bool false] 25)).drew).grownBy w4 (Value.slice (some ⟨w1.heap.size, 0, none⟩) 0 0).ownBlock → Below w1.heap.size w1 w4 ∧ Row w4 (w1.heap.size + 1) 25 [.slice none 0 0, .slice none 0 0, .int .i64 0, .bool false]) := Lib.hid (fun w4 h => ⟨(below_two w1 _ _).trans (below_grew (w := (w1.alloc (.cells #[] 35)).alloc (.cells #[.slice none 0 0, .slice none 0 0, .int .i64 0, .bool false] 25)) h (by simp; omega) (fun g' e => by cases e; first | exact Nat.le_refl _ | exact Nat.le_succ _)), by
    have hr := row_new (w1.alloc (.cells #[] 35)) 25 [.slice none 0 0, .slice none 0 0, .int .i64 0, .bool false]
    rw [World.size_alloc] at hr
    exact row_grown hr h (by simp [Value.ownBlock])⟩)
  have SC : Hid (∀ w4 : World, (((w1.alloc (.cells #[.slice none 0 0, .slice none 0 0, .int .i64 0, .bool false] 25)).alloc (.cells #[] 35)).drew).grownBy w4 (Value.slice (some ⟨w1.heap.size + 1, 0, none⟩) 0 0).ownBlock → Below w1.heap.size w1 w4 ∧ Row w4 w1.heap.size 25 [.slice none 0 0, .slice none 0 0, .int .i64 0, .bool false]) := Lib.hid (fun w4 h => ⟨(below_two w1 _ _).trans (below_grew (w := (w1.alloc (.cells #[.slice none 0 0, .slice none 0 0, .int .i64 0, .bool false] 25)).alloc (.cells #[] 35)) h (by simp; omega) (fun g' e => by cases e; first | exact Nat.le_refl _ | exact Nat.le_succ _)), row_grown ((row_new w1 25 [.slice none 0 0, .slice none 0 0, .int .i64 0, .bool false]).keep (Joins.below_alloc1 _ _)) h (by simp [Value.ownBlock])⟩)
  clear hvb hvlt hvl hvc hvel hi hz0 hz1 hz2 c0 c1 c2 c3
  go_cut [6] (fun s6 wx => RsCut w [.slice (some ⟨vb, voff, none⟩) n cap, .slice a2 m cap2, .int .i64 (-1), .bool false] d.secs (-1) s6 wx)
  case first =>
    have c0 : ∀ W, Below w1.heap.size w1 W → W.cell? ⟨w.heap.size, 0, none⟩ = some (.slice (some ⟨vb, voff, none⟩) n cap) := fun W hW => HRB1.out.later hW (i := 0) rfl
    have c2 : ∀ W, Below w1.heap.size w1 W → W.cell? ⟨w.heap.size, 2, none⟩ = some (.int .i64 (-1)) := fun W hW => HRB1.out.later hW (i := 2) rfl
    go_region_held3 (fun W => Below w1.heap.size w1 W) (first | assumption | exact below_drew (Below.refl _ _) | exact below_next (by assumption) (Joins.below_alloc1 _ _) | exact below4 (by assumption) _ _ _ _ _ (by omega)) (first
      | ((have hchk : Below w1.heap.size w1 ((w1.alloc (.cells #[] 35)).drew) := by with_reducible assumption); refine step_append_lies _ rfl (.tmp 32) (.tmp 34) 22 rfl (w.heap.size + 2) 35 i0 _ 1 24 Try.underlying22 HI.out HZ0.out HZ1.out HZ2.out rfl (by decide) (.slice (some ⟨w1.heap.size, 0, none⟩) 0 0) 0 [] rfl OA.out ⟨vb, voff, none⟩ n cap vs rfl (by rw [HVL.out, ← HN.out, Nat.mul_one]) (HOLD.out _ (by assumption)) HONE.out (by omega) (by unfold maxLen; omega) (by omega) (by simp; omega) _ rfl ?_; intro g4 c4 w4 hown hgrow hat hlt4; rw [Nat.zero_add, List.nil_append] at hown; have hS4 := SA.out w4 hgrow)
      | ((have hchk : Below w1.heap.size w1 (((w1.alloc (.cells #[] 35)).alloc (.cells #[.slice none 0 0, .slice none 0 0, .int .i64 0, .bool false] 25)).drew) := by with_reducible assumption); refine step_append_lies _ rfl (.tmp 32) (.tmp 34) 22 rfl (w.heap.size + 2) 35 i0 _ 1 24 Try.underlying22 HI.out HZ0.out HZ1.out HZ2.out rfl (by decide) (.slice (some ⟨w1.heap.size, 0, none⟩) 0 0) 0 [] rfl OB.out ⟨vb, voff, none⟩ n cap vs rfl (by rw [HVL.out, ← HN.out, Nat.mul_one]) (HOLD.out _ (by assumption)) HONE.out (by omega) (by unfold maxLen; omega) (by omega) (by simp; omega) _ rfl ?_; intro g4 c4 w4 hown hgrow hat hlt4; rw [Nat.zero_add, List.nil_append] at hown; obtain ⟨hS4, hbx⟩ := SB.out w4 hgrow; have q0 := hbx.cell (i := 0) rfl; have k0 := hbx.free 0; have q1 := hbx.cell (i := 1) rfl; have k1 := hbx.free 1; have q2 := hbx.cell (i := 2) rfl; have k2 := hbx.free 2; have q3 := hbx.cell (i := 3) rfl; have k3 := hbx.free 3)
      | ((have hchk : Below w1.heap.size w1 (((w1.alloc (.cells #[.slice none 0 0, .slice none 0 0, .int .i64 0, .bool false] 25)).alloc (.cells #[] 35)).drew) := by with_reducible assumption); refine step_append_lies _ rfl (.tmp 32) (.tmp 34) 22 rfl (w.heap.size + 2) 35 i0 _ 1 24 Try.underlying22 HI.out HZ0.out HZ1.out HZ2.out rfl (by decide) (.slice (some ⟨w1.heap.size + 1, 0, none⟩) 0 0) 0 [] rfl OC.out ⟨vb, voff, none⟩ n cap vs rfl (by rw [HVL.out, ← HN.out, Nat.mul_one]) (HOLD.out _ (by assumption)) HONE.out (by omega) (by unfold maxLen; omega) (by omega) (by simp; omega) _ rfl ?_; intro g4 c4 w4 hown hgrow hat hlt4; rw [Nat.zero_add, List.nil_append] at hown; obtain ⟨hS4, hbx⟩ := SC.out w4 hgrow; have q0 := hbx.cell (i := 0) rfl; have k0 := hbx.free 0; have q1 := hbx.cell (i := 1) rfl; have k1 := hbx.free 1; have q2 := hbx.cell (i := 2) rfl; have k2 := hbx.free 2; have q3 := hbx.cell (i := 3) rfl; have k3 := hbx.free 3))
    all_goals
      go_wp2_with fail
      go_meet
      case rel =>
        first
          | with_reducible exact rs_new hown HN.out (HVL.out) HVEL.out (below_next HB1.out hS4) (HRB1.out.keep hS4) (HRR1.out.keep hS4)
          | with_reducible exact rs_old hown HN.out (HVL.out) HVEL.out (below_next HB1.out hS4) (HRB1.out.keep hS4) (HRR1.out.keep hS4) hbx (by omega) (own_apart hown hbx (by decide))
  case rest =>
    obtain ⟨g, gs, cp, rfl, hx⟩ := hcut
    have HX7 := Lib.hid hx
    clear hx
    go_wp2_with fail
    go_loopw [7] (fun s7 wr => RsLoop w [.slice (some ⟨vb, voff, none⟩) n cap, .slice a2 m cap2, .int .i64 (-1), .bool false] d (-1) m g gs cp s7 wr) (fun s7 _ => m - (intOf s7).toNat)
    case atStart => exact ⟨0, Nat.zero_le _, rfl, HX7.out⟩
    case round =>
      obtain ⟨j, hj, rfl, hx⟩ := hrel
      have HX := Lib.hid hx
      obtain ⟨us, h1, h2, h3, h4, hrx, htab, hrb, hrr, hbl⟩ := hx
      have HBL := Lib.hid hbl
      have HTAB := Lib.hid htab
      have HRX := Lib.hid hrx
      have HRR := Lib.hid hrr
      have hlen : (performL d.secs (d.pend.take j)).length = n := by rw [performL_len]; exact HN.out.symm
      rw [hlen] at hrx
      have c1 := hrb.cell (i := 1) rfl
      have x0 := hrx.cell (i := 0) rfl
      have x2 := hrx.cell (i := 2) rfl
      have y2 := hrx.free 2
      have y3 := hrx.free 3
      have x3 := hrx.cell (i := 3) rfl
      clear hrx htab hrb hrr hbl
      rcases Nat.lt_or_ge j m with hlt | hge
      · obtain ⟨p, hp⟩ : ∃ p, d.pend[j]? = some p := ⟨_, List.getElem?_eq_getElem (by have := HM.out; omega)⟩
        have hpm := HRUN.out.pend p (List.mem_of_getElem? hp)
        obtain ⟨b, off, u, rfl, hbb, hru, hcell⟩ := HP.out.at hp
        obtain ⟨ua, uc, rfl, -, -⟩ := hru.shape
        obtain ⟨c5, c6⟩ := hcell wr HBL.out
        have HU := Lib.hid (HX.out.low hru)
        have HPT : Hid (performL d.secs (d.pend.take (j + 1)) = (performL d.secs (d.pend.take j)).set p.1.toNat p.2) := Lib.hid (by
          rw [performL_step hp, put1_set (performL_secs HRUN.out.secs) (by rw [performL_len]; exact hpm.1) hpm.2])
        have hpi : 0 ≤ p.1 ∧ p.1 < (n : Int) := by have h := hpm.1; rw [← HN.out] at h; unfold hasB at h; simpa using h
        obtain ⟨at', data⟩ := p
        obtain ⟨i, rfl⟩ : ∃ i : Nat, at' = i := ⟨at'.toNat, by have := hpi.1; simp only at this; omega⟩
        simp only [Int.toNat_natCast] at c5 c6 HU HPT hpi
        have hin : i < n := by omega
        obtain ⟨x, hxi⟩ : ∃ x, (performL d.secs (d.pend.take j))[i]? = some x := ⟨_, List.getElem?_eq_getElem (by rw [hlen]; exact hin)⟩
        obtain ⟨u0, hu0, _⟩ := HTAB.out.el i x hxi
        have t0 := HTAB.out.cell hu0
        have t1 := HTAB.out.free i
        have hjm : (j : Int) < (m : Int) := by omega
        have hjm2 : (j : Int) < (m : Int) := by omega
        have hj0 : (0 : Int) ≤ (j : Int) := by omega
        have hin2 : (i : Int) < (n : Int) := by omega
        have HHL := Lib.hid hlen
        clear hp hpm hru hcell hxi hu0 hlen hpi x2 y2 x3 y3
        go_wp2_with fail
        go_still_tail 15, (by kernel_rfl)
        go_wp2_with fail
        exact ⟨⟨j + 1, hlt, by go_num, by rw [HPT.out]; exact HX.out.drew1.put (by rw [HHL.out]; exact hin) HU.out.drew1⟩, by simp [intOf]; omega⟩

      · obtain rfl : j = m := by omega
        rw [hlen] at HRX
        have HTL : Hid (performL d.secs (d.pend.take j) = performL d.secs d.pend) := Lib.hid (by rw [HM.out, List.take_length])
        have HHL := Lib.hid hlen
        clear c1 x0 x3 y3
        clear y2
        go_wp2_with (first
          | (refine wpList_load_dsk rfl _ rfl _ _ (by rfl) rfl HRX.out ?_)
          | (refine wpList_store_ags rfl _ _ _ rfl (w.heap.size + 1) [.slice (some ⟨gs, 0, none⟩) n cp, .slice none 0 0, .int .i64 (-1), .bool false] _ size25 (by rfl) rfl rfl HRR.out (by rfl) HBL.out (by omega) ?_; intro w9 hr hb hf))
        have hd := HX.out.done HHL.out.symm hb hf
        rw [HTL.out] at hd
        exact bodyPost_ret (results_dsk Try.results31 _ w9 (w.heap.size + 1) _ rfl rfl _ rfl hr) rfl ⟨_, _, _, _, rfl, by unfold synced; rw [if_pos HL.out]; exact hd, hb⟩
end Go.Proofs.Ytlaaolbdadempaa

/- The reference's Sync, case b. -/
namespace Go.Proofs.Ytlaaolbdadempaa
open Go.RowKit

set_option maxHeartbeats 8000000 in
set_option maxRecDepth 100000 in
theorem refsync_b (d : Dsk) (v : Value) (w : World) (h : DRest w.heap.size w d v) (hr : Runs d) (hl : (d.pend.length : Int) ≤ d.left) :
    Calls Try.prog 31 #[v] w (NewD w (synced d) 0) := by
  obtain ⟨s, p, rfl, hs, hp⟩ := h
  have HRUN := Lib.hid hr
  have HS := Lib.hid hs
  have HP := Lib.hid hp
  have HV : Hid (∀ W, Below w.heap.size w W → Calls Try.prog 23 #[dskOf s p d] W fun e w' => e = .returned (.int .i64 0) ∧ Below W.heap.size W w') := Lib.hid (fun W hW => by have := refcheck_call d _ W ⟨s, p, rfl, hs.keep hW, hp.keep hW⟩; rwa [hr.valid, if_pos rfl] at this)
  obtain ⟨a, cap, rfl, hc1, hc2⟩ := hs.shape
  obtain ⟨a2, cap2, rfl, hc3, hc4⟩ := hp.shape
  have hst := hr.stop
  unfold dskOf dskCells at *
  rw [hst] at HV ⊢
  clear hr hs hp hst
  have HRB := Lib.hid ((row_new w 25 [.slice a d.secs.length cap, .slice a2 d.pend.length cap2, .int .i64 d.left, .bool false]).keep (Joins.below_alloc1 _ (.cells #[.slice none 0 0, .slice none 0 0, .int .i64 0, .bool false] 25)))
  have HRR := Lib.hid (row_new (w.alloc (.cells #[.slice a d.secs.length cap, .slice a2 d.pend.length cap2, .int .i64 d.left, .bool false] 25)) 25 [.slice none 0 0, .slice none 0 0, .int .i64 0, .bool false])
  have HB0 := Lib.hid (below_two w (.cells #[.slice a d.secs.length cap, .slice a2 d.pend.length cap2, .int .i64 d.left, .bool false] 25) (.cells #[.slice none 0 0, .slice none 0 0, .int .i64 0, .bool false] 25))
  rw [World.size_alloc] at HRR
  have hpos := HRUN.out.pos
  have hmost := HRUN.out.most
  have hfew := HRUN.out.few
  obtain ⟨m, hm⟩ : ∃ m, m = d.pend.length := ⟨_, rfl⟩
  obtain ⟨n, hn⟩ : ∃ n, n = d.secs.length := ⟨_, rfl⟩
  have HM := Lib.hid hm
  have HN := Lib.hid hn
  rw [← hm] at HV HP HRB HRR HB0 hc4 hfew ⊢
  rw [← hm] at hl
  rw [← hn] at HV HS HRB HRR HB0 hc2 hpos hmost ⊢
  clear hm hn
  generalize hle : d.left = left at HV HRB HRR HB0 hl ⊢
  have HL := Lib.hid hle
  clear hle
  have hl0 : 0 ≤ left := by omega
  have hl1 : ¬ left < (m : Int) := by omega
  have hl1d : decide (left < (m : Int)) = false := by simpa using hl1
  have hl7 : left ≤ 65536 := by rw [← HL.out]; exact HRUN.out.left.2
  go_enter Try.func31, Try.ntmps31
  go_wp2_with fail
  refine (HV.out _ HB0.out).mono ?_
  rintro e w1 ⟨rfl, hb⟩
  have HB1 := Lib.hid (below_next HB0.out hb)
  have HRB1 := Lib.hid (HRB.out.keep hb)
  have HRR1 := Lib.hid (HRR.out.keep hb)
  have c0 := HRB1.out.cell (i := 0) rfl
  have c1 := HRB1.out.cell (i := 1) rfl
  have c2 := HRB1.out.cell (i := 2) rfl
  have c3 := HRB1.out.cell (i := 3) rfl
  have hw1 := HRR1.out.lt
  clear hb HRB HRR HB0
  go_upto_region 7 with (fail)
  obtain ⟨vb, voff, vs, rfl, hvb, hvlt, hvl, hvc, hvel⟩ := (NRestS.of HS.out).vals (by have := HN.out; omega)
  have HVL := Lib.hid hvl
  have HVEL : Hid (∀ (i : Nat) x, d.secs[i]? = some x → ∃ u, vs[i]? = some u ∧ Rest w.heap.size w x u) := Lib.hid (fun i x hi => by
    obtain ⟨u, e1, e2⟩ := hvel i x hi
    exact ⟨u, e1, e2.rest⟩)
  have HONE : Hid (∀ u ∈ vs, u.oneCell' = true) := Lib.hid (fun u hu => by obtain ⟨j, hj⟩ := List.getElem?_of_mem hu; exact (hvc j u hj).2)
  have HOLD : Hid (∀ W, Below w1.heap.size w1 W → ∀ (j : Nat) u, vs[j]? = some u → W.cell? ((⟨vb, voff, none⟩ : Addr).add j) = some u) := Lib.hid (fun W hW j u hj => by
    rw [Addr.add_lit]; exact ((below_next HB1.out hW).cell (p := ⟨vb, voff + j, none⟩) hvb).trans (hvc j u hj).1)
  obtain ⟨i0, hi, hz0, hz1, hz2⟩ := info_parts Try.info35
  have HI := Lib.hid hi
  have HZ0 := Lib.hid hz0
  have HZ1 := Lib.hid hz1
  have HZ2 := Lib.hid hz2
  have OA : Hid (((w1.alloc (.cells #[] 35)).drew).ownsRow (w.heap.size + 2) 35 1 (.slice (some ⟨w1.heap.size, 0, none⟩) 0 0) 0 []) := Lib.hid (World.ownsRow_made w1 #[] 0 (by omega) (by unfold maxLen; omega) rfl)
  have OB : Hid ((((w1.alloc (.cells #[] 35)).alloc (.cells #[.slice none 0 0, .slice none 0 0, .int .i64 0, .bool false] 25)).drew).ownsRow (w.heap.size + 2) 35 1 (.slice (some ⟨w1.heap.size, 0, none⟩) 0 0) 0 []) := Lib.hid (World.ownsRow.alloc OA.out _)
  have OC : Hid ((((w1.alloc (.cells #[.slice none 0 0, .slice none 0 0, .int .i64 0, .bool false] 25)).alloc (.cells #[] 35)).drew).ownsRow (w.heap.size + 2) 35 1 (.slice (some ⟨w1.heap.size + 1, 0, none⟩) 0 0) 0 []) := Lib.hid (by
    have := World.ownsRow_made (base := w.heap.size + 2) (e := 35) (size := 1) (w1.alloc (.cells #[.slice none 0 0, .slice none 0 0, .int .i64 0, .bool false] 25)) #[] 0 (by rw [World.size_alloc]; omega) (by unfold maxLen; omega) rfl
    rw [World.size_alloc] at this
    exact this)
  have SA : Hid (∀ w4 : World, ((w1.alloc (.cells #[] 35)).drew).grownBy w4 (Value.slice (some ⟨w1.heap.size, 0, none⟩) 0 0).ownBlock → Below w1.heap.size w1 w4) := Lib.hid (fun w4 h => (Joins.below_alloc1 w1 _).trans (below_grew (w := w1.alloc (.cells #[] 35)) h (by simp) (fun g' e => by cases e; exact Nat.le_refl _)))
  have SB : Hid (∀ w4 : World, (((w1.alloc (.cells #[] 35)).alloc (.cells #[.slice none 0 0, .slice none 0 0, .int .i64 0, .bool false] 25)).drew).grownBy w4 (Value.slice (some ⟨w1.heap.size, 0, none⟩) 0 0).ownBlock → Below w1.heap.size w1 w4 ∧ Row w4 (w1.heap.size + 1) 25 [.slice none 0 0, .slice none 0 0, .int .i64 0, .bool false]) := Lib.hid (fun w4 h => ⟨(below_two w1 _ _).trans (below_grew (w := (w1.alloc (.cells #[] 35)).alloc (.cells #[.slice none 0 0, .slice none 0 0, .int .i64 0, .bool false] 25)) h (by simp; omega) (fun g' e => by cases e; first | exact Nat.le_refl _ | exact Nat.le_succ _)), by
    have hr := row_new (w1.alloc (.cells #[] 35)) 25 [.slice none 0 0, .slice none 0 0, .int .i64 0, .bool false]
    rw [World.size_alloc] at hr
    exact row_grown hr h (by simp [Value.ownBlock])⟩)
  have SC : Hid (∀ w4 : World, (((w1.alloc (.cells #[.slice none 0 0, .slice none 0 0, .int .i64 0, .bool false] 25)).alloc (.cells #[] 35)).drew).grownBy w4 (Value.slice (some ⟨w1.heap.size + 1, 0, none⟩) 0 0).ownBlock → Below w1.heap.size w1 w4 ∧ Row w4 w1.heap.size 25 [.slice none 0 0, .slice none 0 0, .int .i64 0, .bool false]) := Lib.hid (fun w4 h => ⟨(below_two w1 _ _).trans (below_grew (w := (w1.alloc (.cells #[.slice none 0 0, .slice none 0 0, .int .i64 0, .bool false] 25)).alloc (.cells #[] 35)) h (by simp; omega) (fun g' e => by cases e; first | exact Nat.le_refl _ | exact Nat.le_succ _)), row_grown ((row_new w1 25 [.slice none 0 0, .slice none 0 0, .int .i64 0, .bool false]).keep (Joins.below_alloc1 _ _)) h (by simp [Value.ownBlock])⟩)
  clear hvb hvlt hvl hvc hvel hi hz0 hz1 hz2 c0 c1 c2 c3
  go_cut [6] (fun s6 wx => RsCut w [.slice (some ⟨vb, voff, none⟩) n cap, .slice a2 m cap2, .int .i64 left, .bool false] d.secs left s6 wx)
  case first =>
    have c0 : ∀ W, Below w1.heap.size w1 W → W.cell? ⟨w.heap.size, 0, none⟩ = some (.slice (some ⟨vb, voff, none⟩) n cap) := fun W hW => HRB1.out.later hW (i := 0) rfl
    have c2 : ∀ W, Below w1.heap.size w1 W → W.cell? ⟨w.heap.size, 2, none⟩ = some (.int .i64 left) := fun W hW => HRB1.out.later hW (i := 2) rfl
    go_region_held3 (fun W => Below w1.heap.size w1 W) (first | assumption | exact below_drew (Below.refl _ _) | exact below_next (by assumption) (Joins.below_alloc1 _ _) | exact below4 (by assumption) _ _ _ _ _ (by omega)) (first
      | ((have hchk : Below w1.heap.size w1 ((w1.alloc (.cells #[] 35)).drew) := by with_reducible assumption); refine step_append_lies _ rfl (.tmp 32) (.tmp 34) 22 rfl (w.heap.size + 2) 35 i0 _ 1 24 Try.underlying22 HI.out HZ0.out HZ1.out HZ2.out rfl (by decide) (.slice (some ⟨w1.heap.size, 0, none⟩) 0 0) 0 [] rfl OA.out ⟨vb, voff, none⟩ n cap vs rfl (by rw [HVL.out, ← HN.out, Nat.mul_one]) (HOLD.out _ (by assumption)) HONE.out (by omega) (by unfold maxLen; omega) (by omega) (by simp; omega) _ rfl ?_; intro g4 c4 w4 hown hgrow hat hlt4; rw [Nat.zero_add, List.nil_append] at hown; have hS4 := SA.out w4 hgrow)
      | ((have hchk : Below w1.heap.size w1 (((w1.alloc (.cells #[] 35)).alloc (.cells #[.slice none 0 0, .slice none 0 0, .int .i64 0, .bool false] 25)).drew) := by with_reducible assumption); refine step_append_lies _ rfl (.tmp 32) (.tmp 34) 22 rfl (w.heap.size + 2) 35 i0 _ 1 24 Try.underlying22 HI.out HZ0.out HZ1.out HZ2.out rfl (by decide) (.slice (some ⟨w1.heap.size, 0, none⟩) 0 0) 0 [] rfl OB.out ⟨vb, voff, none⟩ n cap vs rfl (by rw [HVL.out, ← HN.out, Nat.mul_one]) (HOLD.out _ (by assumption)) HONE.out (by omega) (by unfold maxLen; omega) (by omega) (by simp; omega) _ rfl ?_; intro g4 c4 w4 hown hgrow hat hlt4; rw [Nat.zero_add, List.nil_append] at hown; obtain ⟨hS4, hbx⟩ := SB.out w4 hgrow; have q0 := hbx.cell (i := 0) rfl; have k0 := hbx.free 0; have q1 := hbx.cell (i := 1) rfl; have k1 := hbx.free 1; have q2 := hbx.cell (i := 2) rfl; have k2 := hbx.free 2; have q3 := hbx.cell (i := 3) rfl; have k3 := hbx.free 3)
      | ((have hchk : Below w1.heap.size w1 (((w1.alloc (.cells #[.slice none 0 0, .slice none 0 0, .int .i64 0, .bool false] 25)).alloc (.cells #[] 35)).drew) := by with_reducible assumption); refine step_append_lies _ rfl (.tmp 32) (.tmp 34) 22 rfl (w.heap.size + 2) 35 i0 _ 1 24 Try.underlying22 HI.out HZ0.out HZ1.out HZ2.out rfl (by decide) (.slice (some ⟨w1.heap.size + 1, 0, none⟩) 0 0) 0 [] rfl OC.out ⟨vb, voff, none⟩ n cap vs rfl (by rw [HVL.out, ← HN.out, Nat.mul_one]) (HOLD.out _ (by assumption)) HONE.out (by omega) (by unfold maxLen; omega) (by omega) (by simp; omega) _ rfl ?_; intro g4 c4 w4 hown hgrow hat hlt4; rw [Nat.zero_add, List.nil_append] at hown; obtain ⟨hS4, hbx⟩ := SC.out w4 hgrow; have q0 := hbx.cell (i := 0) rfl; have k0 := hbx.free 0; have q1 := hbx.cell (i := 1) rfl; have k1 := hbx.free 1; have q2 := hbx.cell (i := 2) rfl; have k2 := hbx.free 2; have q3 := hbx.cell (i := 3) rfl; have k3 := hbx.free 3))
    all_goals
      go_wp2_with fail
      go_meet
      case rel =>
        first
          | with_reducible exact rs_new hown HN.out (HVL.out) HVEL.out (below_next HB1.out hS4) (HRB1.out.keep hS4) (HRR1.out.keep hS4)
          | with_reducible exact rs_old hown HN.out (HVL.out) HVEL.out (below_next HB1.out hS4) (HRB1.out.keep hS4) (HRR1.out.keep hS4) hbx (by omega) (own_apart hown hbx (by decide))
  case rest =>
    obtain ⟨g, gs, cp, rfl, hx⟩ := hcut
    have HX7 := Lib.hid hx
    clear hx
    go_wp2_with fail
    go_loopw [7] (fun s7 wr => RsLoop w [.slice (some ⟨vb, voff, none⟩) n cap, .slice a2 m cap2, .int .i64 left, .bool false] d left m g gs cp s7 wr) (fun s7 _ => m - (intOf s7).toNat)
    case atStart => exact ⟨0, Nat.zero_le _, rfl, HX7.out⟩
    case round =>
      obtain ⟨j, hj, rfl, hx⟩ := hrel
      have HX := Lib.hid hx
      obtain ⟨us, h1, h2, h3, h4, hrx, htab, hrb, hrr, hbl⟩ := hx
      have HBL := Lib.hid hbl
      have HTAB := Lib.hid htab
      have HRX := Lib.hid hrx
      have HRR := Lib.hid hrr
      have hlen : (performL d.secs (d.pend.take j)).length = n := by rw [performL_len]; exact HN.out.symm
      rw [hlen] at hrx
      have c1 := hrb.cell (i := 1) rfl
      have x0 := hrx.cell (i := 0) rfl
      have x2 := hrx.cell (i := 2) rfl
      have y2 := hrx.free 2
      have y3 := hrx.free 3
      have x3 := hrx.cell (i := 3) rfl
      clear hrx htab hrb hrr hbl
      rcases Nat.lt_or_ge j m with hlt | hge
      · obtain ⟨p, hp⟩ : ∃ p, d.pend[j]? = some p := ⟨_, List.getElem?_eq_getElem (by have := HM.out; omega)⟩
        have hpm := HRUN.out.pend p (List.mem_of_getElem? hp)
        obtain ⟨b, off, u, rfl, hbb, hru, hcell⟩ := HP.out.at hp
        obtain ⟨ua, uc, rfl, -, -⟩ := hru.shape
        obtain ⟨c5, c6⟩ := hcell wr HBL.out
        have HU := Lib.hid (HX.out.low hru)
        have HPT : Hid (performL d.secs (d.pend.take (j + 1)) = (performL d.secs (d.pend.take j)).set p.1.toNat p.2) := Lib.hid (by
          rw [performL_step hp, put1_set (performL_secs HRUN.out.secs) (by rw [performL_len]; exact hpm.1) hpm.2])
        have hpi : 0 ≤ p.1 ∧ p.1 < (n : Int) := by have h := hpm.1; rw [← HN.out] at h; unfold hasB at h; simpa using h
        obtain ⟨at', data⟩ := p
        obtain ⟨i, rfl⟩ : ∃ i : Nat, at' = i := ⟨at'.toNat, by have := hpi.1; simp only at this; omega⟩
        simp only [Int.toNat_natCast] at c5 c6 HU HPT hpi
        have hin : i < n := by omega
        obtain ⟨x, hxi⟩ : ∃ x, (performL d.secs (d.pend.take j))[i]? = some x := ⟨_, List.getElem?_eq_getElem (by rw [hlen]; exact hin)⟩
        obtain ⟨u0, hu0, _⟩ := HTAB.out.el i x hxi
        have t0 := HTAB.out.cell hu0
        have t1 := HTAB.out.free i
        have hjm : (j : Int) < (m : Int) := by omega
        have hjm2 : (j : Int) < (m : Int) := by omega
        have hj0 : (0 : Int) ≤ (j : Int) := by omega
        have hin2 : (i : Int) < (n : Int) := by omega
        have HHL := Lib.hid hlen
        clear hp hpm hru hcell hxi hu0 hlen hpi x2 y2 x3 y3
        go_wp2_with fail
        go_still_tail 15, (by kernel_rfl)
        go_wp2_with fail
        exact ⟨⟨j + 1, hlt, by go_num, by rw [HPT.out]; exact HX.out.drew1.put (by rw [HHL.out]; exact hin) HU.out.drew1⟩, by simp [intOf]; omega⟩

      · obtain rfl : j = m := by omega
        rw [hlen] at HRX
        have HTL : Hid (performL d.secs (d.pend.take j) = performL d.secs d.pend) := Lib.hid (by rw [HM.out, List.take_length])
        have HHL := Lib.hid hlen
        clear c1 x0 x3 y3
        have HX2 := Lib.hid (HX.out.left' (left - (j : Int)))
        obtain ⟨us2, _, _, _, _, hrx2, _, _, hrr2, hbl2⟩ := HX2.out
        rw [hlen] at hrx2
        have HRX2 := Lib.hid hrx2
        have HRR2 := Lib.hid hrr2
        have HBL2 := Lib.hid hbl2
        have hl6 : 0 ≤ left - (j : Int) := by omega
        clear hrx2 hrr2 hbl2
        go_wp2_with (first
          | (refine wpList_load_dsk rfl _ rfl _ _ (by rfl) rfl HRX2.out ?_)
          | (refine wpList_store_ags rfl _ _ _ rfl (w.heap.size + 1) [.slice (some ⟨gs, 0, none⟩) n cp, .slice none 0 0, .int .i64 (left - (j : Int)), .bool false] _ size25 (by rfl) rfl rfl HRR2.out (by rfl) HBL2.out (by omega) ?_; intro w9 hr hb hf))
        have hd := HX2.out.done HHL.out.symm hb hf
        rw [HTL.out] at hd
        exact bodyPost_ret (results_dsk Try.results31 _ w9 (w.heap.size + 1) _ rfl rfl _ rfl hr) rfl ⟨_, _, _, _, rfl, by unfold synced; rw [if_neg (by rw [HL.out]; omega), HL.out, ← HM.out]; exact hd, hb⟩
end Go.Proofs.Ytlaaolbdadempaa

/- The reference's Sync, case c. -/
namespace Go.Proofs.Ytlaaolbdadempaa
open Go.RowKit

set_option maxHeartbeats 8000000 in
set_option maxRecDepth 100000 in
theorem refsync_c (d : Dsk) (v : Value) (w : World) (h : DRest w.heap.size w d v) (hr : Runs d) (k : Nat) (q : Int × List UInt8) (hl : d.left = (k : Int)) (hkm : k < d.pend.length) (hq : d.pend[k]? = some q) :
    Calls Try.prog 31 #[v] w (NewD w (haltD d k q) 40) := by
  obtain ⟨s, p, rfl, hs, hp⟩ := h
  have HRUN := Lib.hid hr
  have HS := Lib.hid hs
  have HP := Lib.hid hp
  have HV : Hid (∀ W, Below w.heap.size w W → Calls Try.prog 23 #[dskOf s p d] W fun e w' => e = .returned (.int .i64 0) ∧ Below W.heap.size W w') := Lib.hid (fun W hW => by have := refcheck_call d _ W ⟨s, p, rfl, hs.keep hW, hp.keep hW⟩; rwa [hr.valid, if_pos rfl] at this)
  obtain ⟨a, cap, rfl, hc1, hc2⟩ := hs.shape
  obtain ⟨a2, cap2, rfl, hc3, hc4⟩ := hp.shape
  have hst := hr.stop
  unfold dskOf dskCells at *
  rw [hst] at HV ⊢
  clear hr hs hp hst
  have HRB := Lib.hid ((row_new w 25 [.slice a d.secs.length cap, .slice a2 d.pend.length cap2, .int .i64 d.left, .bool false]).keep (Joins.below_alloc1 _ (.cells #[.slice none 0 0, .slice none 0 0, .int .i64 0, .bool false] 25)))
  have HRR := Lib.hid (row_new (w.alloc (.cells #[.slice a d.secs.length cap, .slice a2 d.pend.length cap2, .int .i64 d.left, .bool false] 25)) 25 [.slice none 0 0, .slice none 0 0, .int .i64 0, .bool false])
  have HB0 := Lib.hid (below_two w (.cells #[.slice a d.secs.length cap, .slice a2 d.pend.length cap2, .int .i64 d.left, .bool false] 25) (.cells #[.slice none 0 0, .slice none 0 0, .int .i64 0, .bool false] 25))
  rw [World.size_alloc] at HRR
  have hpos := HRUN.out.pos
  have hmost := HRUN.out.most
  have hfew := HRUN.out.few
  obtain ⟨m, hm⟩ : ∃ m, m = d.pend.length := ⟨_, rfl⟩
  obtain ⟨n, hn⟩ : ∃ n, n = d.secs.length := ⟨_, rfl⟩
  have HM := Lib.hid hm
  have HN := Lib.hid hn
  rw [← hm] at HV HP HRB HRR HB0 hc4 hfew ⊢
  rw [← hm] at hkm
  rw [← hn] at HV HS HRB HRR HB0 hc2 hpos hmost ⊢
  clear hm hn
  rw [hl] at HV HRB HRR HB0 ⊢
  have HL := Lib.hid hl
  have HQ := Lib.hid hq
  clear hl hq
  have hl1 : (k : Int) < (m : Int) := by omega
  have hl0 : (0 : Int) ≤ (k : Int) := by omega
  have hl1d : decide ((k : Int) < (m : Int)) = true := by simpa using hl1
  go_enter Try.func31, Try.ntmps31
  go_wp2_with fail
  refine (HV.out _ HB0.out).mono ?_
  rintro e w1 ⟨rfl, hb⟩
  have HB1 := Lib.hid (below_next HB0.out hb)
  have HRB1 := Lib.hid (HRB.out.keep hb)
  have HRR1 := Lib.hid (HRR.out.keep hb)
  have c0 := HRB1.out.cell (i := 0) rfl
  have c1 := HRB1.out.cell (i := 1) rfl
  have c2 := HRB1.out.cell (i := 2) rfl
  have c3 := HRB1.out.cell (i := 3) rfl
  have hw1 := HRR1.out.lt
  clear hb HRB HRR HB0
  go_upto_region 7 with (fail)
  obtain ⟨vb, voff, vs, rfl, hvb, hvlt, hvl, hvc, hvel⟩ := (NRestS.of HS.out).vals (by have := HN.out; omega)
  have HVL := Lib.hid hvl
  have HVEL : Hid (∀ (i : Nat) x, d.secs[i]? = some x → ∃ u, vs[i]? = some u ∧ Rest w.heap.size w x u) := Lib.hid (fun i x hi => by
    obtain ⟨u, e1, e2⟩ := hvel i x hi
    exact ⟨u, e1, e2.rest⟩)
  have HONE : Hid (∀ u ∈ vs, u.oneCell' = true) := Lib.hid (fun u hu => by obtain ⟨j, hj⟩ := List.getElem?_of_mem hu; exact (hvc j u hj).2)
  have HOLD : Hid (∀ W, Below w1.heap.size w1 W → ∀ (j : Nat) u, vs[j]? = some u → W.cell? ((⟨vb, voff, none⟩ : Addr).add j) = some u) := Lib.hid (fun W hW j u hj => by
    rw [Addr.add_lit]; exact ((below_next HB1.out hW).cell (p := ⟨vb, voff + j, none⟩) hvb).trans (hvc j u hj).1)
  obtain ⟨i0, hi, hz0, hz1, hz2⟩ := info_parts Try.info35
  have HI := Lib.hid hi
  have HZ0 := Lib.hid hz0
  have HZ1 := Lib.hid hz1
  have HZ2 := Lib.hid hz2
  have OA : Hid (((w1.alloc (.cells #[] 35)).drew).ownsRow (w.heap.size + 2) 35 1 (.slice (some ⟨w1.heap.size, 0, none⟩) 0 0) 0 []) := Lib.hid (World.ownsRow_made w1 #[] 0 (by omega) (by unfold maxLen; omega) rfl)
  have OB : Hid ((((w1.alloc (.cells #[] 35)).alloc (.cells #[.slice none 0 0, .slice none 0 0, .int .i64 0, .bool false] 25)).drew).ownsRow (w.heap.size + 2) 35 1 (.slice (some ⟨w1.heap.size, 0, none⟩) 0 0) 0 []) := Lib.hid (World.ownsRow.alloc OA.out _)
  have OC : Hid ((((w1.alloc (.cells #[.slice none 0 0, .slice none 0 0, .int .i64 0, .bool false] 25)).alloc (.cells #[] 35)).drew).ownsRow (w.heap.size + 2) 35 1 (.slice (some ⟨w1.heap.size + 1, 0, none⟩) 0 0) 0 []) := Lib.hid (by
    have := World.ownsRow_made (base := w.heap.size + 2) (e := 35) (size := 1) (w1.alloc (.cells #[.slice none 0 0, .slice none 0 0, .int .i64 0, .bool false] 25)) #[] 0 (by rw [World.size_alloc]; omega) (by unfold maxLen; omega) rfl
    rw [World.size_alloc] at this
    exact this)
  have SA : Hid (∀ w4 : World, ((w1.alloc (.cells #[] 35)).drew).grownBy w4 (Value.slice (some ⟨w1.heap.size, 0, none⟩) 0 0).ownBlock → Below w1.heap.size w1 w4) := Lib.hid (fun w4 h => (Joins.below_alloc1 w1 _).trans (below_grew (w := w1.alloc (.cells #[] 35)) h (by simp) (fun g' e => by cases e; exact Nat.le_refl _)))
  have SB : Hid (∀ w4 : World, (((w1.alloc (.cells #[] 35)).alloc (.cells #[.slice none 0 0, .slice none 0 0, .int .i64 0, .bool false] 25)).drew).grownBy w4 (Value.slice (some ⟨w1.heap.size, 0, none⟩) 0 0).ownBlock → Below w1.heap.size w1 w4 ∧ Row w4 (w1.heap.size + 1) 25 [.slice none 0 0, .slice none 0 0, .int .i64 0, .bool false]) := Lib.hid (fun w4 h => ⟨(below_two w1 _ _).trans (below_grew (w := (w1.alloc (.cells #[] 35)).alloc (.cells #[.slice none 0 0, .slice none 0 0, .int .i64 0, .bool false] 25)) h (by simp; omega) (fun g' e => by cases e; first | exact Nat.le_refl _ | exact Nat.le_succ _)), by
    have hr := row_new (w1.alloc (.cells #[] 35)) 25 [.slice none 0 0, .slice none 0 0, .int .i64 0, .bool false]
    rw [World.size_alloc] at hr
    exact row_grown hr h (by simp [Value.ownBlock])⟩)
  have SC : Hid (∀ w4 : World, (((w1.alloc (.cells #[.slice none 0 0, .slice none 0 0, .int .i64 0, .bool false] 25)).alloc (.cells #[] 35)).drew).grownBy w4 (Value.slice (some ⟨w1.heap.size + 1, 0, none⟩) 0 0).ownBlock → Below w1.heap.size w1 w4 ∧ Row w4 w1.heap.size 25 [.slice none 0 0, .slice none 0 0, .int .i64 0, .bool false]) := Lib.hid (fun w4 h => ⟨(below_two w1 _ _).trans (below_grew (w := (w1.alloc (.cells #[.slice none 0 0, .slice none 0 0, .int .i64 0, .bool false] 25)).alloc (.cells #[] 35)) h (by simp; omega) (fun g' e => by cases e; first | exact Nat.le_refl _ | exact Nat.le_succ _)), row_grown ((row_new w1 25 [.slice none 0 0, .slice none 0 0, .int .i64 0, .bool false]).keep (Joins.below_alloc1 _ _)) h (by simp [Value.ownBlock])⟩)
  clear hvb hvlt hvl hvc hvel hi hz0 hz1 hz2 c0 c1 c2 c3
  go_cut [6] (fun s6 wx => RsCut w [.slice (some ⟨vb, voff, none⟩) n cap, .slice a2 m cap2, .int .i64 (k : Int), .bool false] d.secs (k : Int) s6 wx)
  case first =>
    have c0 : ∀ W, Below w1.heap.size w1 W → W.cell? ⟨w.heap.size, 0, none⟩ = some (.slice (some ⟨vb, voff, none⟩) n cap) := fun W hW => HRB1.out.later hW (i := 0) rfl
    have c2 : ∀ W, Below w1.heap.size w1 W → W.cell? ⟨w.heap.size, 2, none⟩ = some (.int .i64 (k : Int)) := fun W hW => HRB1.out.later hW (i := 2) rfl
    go_region_held3 (fun W => Below w1.heap.size w1 W) (first | assumption | exact below_drew (Below.refl _ _) | exact below_next (by assumption) (Joins.below_alloc1 _ _) | exact below4 (by assumption) _ _ _ _ _ (by omega)) (first
      | ((have hchk : Below w1.heap.size w1 ((w1.alloc (.cells #[] 35)).drew) := by with_reducible assumption); refine step_append_lies _ rfl (.tmp 32) (.tmp 34) 22 rfl (w.heap.size + 2) 35 i0 _ 1 24 Try.underlying22 HI.out HZ0.out HZ1.out HZ2.out rfl (by decide) (.slice (some ⟨w1.heap.size, 0, none⟩) 0 0) 0 [] rfl OA.out ⟨vb, voff, none⟩ n cap vs rfl (by rw [HVL.out, ← HN.out, Nat.mul_one]) (HOLD.out _ (by assumption)) HONE.out (by omega) (by unfold maxLen; omega) (by omega) (by simp; omega) _ rfl ?_; intro g4 c4 w4 hown hgrow hat hlt4; rw [Nat.zero_add, List.nil_append] at hown; have hS4 := SA.out w4 hgrow)
      | ((have hchk : Below w1.heap.size w1 (((w1.alloc (.cells #[] 35)).alloc (.cells #[.slice none 0 0, .slice none 0 0, .int .i64 0, .bool false] 25)).drew) := by with_reducible assumption); refine step_append_lies _ rfl (.tmp 32) (.tmp 34) 22 rfl (w.heap.size + 2) 35 i0 _ 1 24 Try.underlying22 HI.out HZ0.out HZ1.out HZ2.out rfl (by decide) (.slice (some ⟨w1.heap.size, 0, none⟩) 0 0) 0 [] rfl OB.out ⟨vb, voff, none⟩ n cap vs rfl (by rw [HVL.out, ← HN.out, Nat.mul_one]) (HOLD.out _ (by assumption)) HONE.out (by omega) (by unfold maxLen; omega) (by omega) (by simp; omega) _ rfl ?_; intro g4 c4 w4 hown hgrow hat hlt4; rw [Nat.zero_add, List.nil_append] at hown; obtain ⟨hS4, hbx⟩ := SB.out w4 hgrow; have q0 := hbx.cell (i := 0) rfl; have k0 := hbx.free 0; have q1 := hbx.cell (i := 1) rfl; have k1 := hbx.free 1; have q2 := hbx.cell (i := 2) rfl; have k2 := hbx.free 2; have q3 := hbx.cell (i := 3) rfl; have k3 := hbx.free 3)
      | ((have hchk : Below w1.heap.size w1 (((w1.alloc (.cells #[.slice none 0 0, .slice none 0 0, .int .i64 0, .bool false] 25)).alloc (.cells #[] 35)).drew) := by with_reducible assumption); refine step_append_lies _ rfl (.tmp 32) (.tmp 34) 22 rfl (w.heap.size + 2) 35 i0 _ 1 24 Try.underlying22 HI.out HZ0.out HZ1.out HZ2.out rfl (by decide) (.slice (some ⟨w1.heap.size + 1, 0, none⟩) 0 0) 0 [] rfl OC.out ⟨vb, voff, none⟩ n cap vs rfl (by rw [HVL.out, ← HN.out, Nat.mul_one]) (HOLD.out _ (by assumption)) HONE.out (by omega) (by unfold maxLen; omega) (by omega) (by simp; omega) _ rfl ?_; intro g4 c4 w4 hown hgrow hat hlt4; rw [Nat.zero_add, List.nil_append] at hown; obtain ⟨hS4, hbx⟩ := SC.out w4 hgrow; have q0 := hbx.cell (i := 0) rfl; have k0 := hbx.free 0; have q1 := hbx.cell (i := 1) rfl; have k1 := hbx.free 1; have q2 := hbx.cell (i := 2) rfl; have k2 := hbx.free 2; have q3 := hbx.cell (i := 3) rfl; have k3 := hbx.free 3))
    all_goals
      go_wp2_with fail
      go_meet
      case rel =>
        first
          | with_reducible exact rs_new hown HN.out (HVL.out) HVEL.out (below_next HB1.out hS4) (HRB1.out.keep hS4) (HRR1.out.keep hS4)
          | with_reducible exact rs_old hown HN.out (HVL.out) HVEL.out (below_next HB1.out hS4) (HRB1.out.keep hS4) (HRR1.out.keep hS4) hbx (by omega) (own_apart hown hbx (by decide))
  case rest =>
    obtain ⟨g, gs, cp, rfl, hx⟩ := hcut
    have HX7 := Lib.hid hx
    clear hx
    go_wp2_with fail
    go_loopw [7] (fun s7 wr => RsLoop w [.slice (some ⟨vb, voff, none⟩) n cap, .slice a2 m cap2, .int .i64 (k : Int), .bool false] d (k : Int) k g gs cp s7 wr) (fun s7 _ => k - (intOf s7).toNat)
    case atStart => exact ⟨0, Nat.zero_le _, rfl, HX7.out⟩
    case round =>
      obtain ⟨j, hj, rfl, hx⟩ := hrel
      have HX := Lib.hid hx
      obtain ⟨us, h1, h2, h3, h4, hrx, htab, hrb, hrr, hbl⟩ := hx
      have HBL := Lib.hid hbl
      have HTAB := Lib.hid htab
      have HRX := Lib.hid hrx
      have HRR := Lib.hid hrr
      have hlen : (performL d.secs (d.pend.take j)).length = n := by rw [performL_len]; exact HN.out.symm
      rw [hlen] at hrx
      have c1 := hrb.cell (i := 1) rfl
      have x0 := hrx.cell (i := 0) rfl
      have x2 := hrx.cell (i := 2) rfl
      have y2 := hrx.free 2
      have y3 := hrx.free 3
      have x3 := hrx.cell (i := 3) rfl
      clear hrx htab hrb hrr hbl
      rcases Nat.lt_or_ge j k with hlt | hge
      · obtain ⟨p, hp⟩ : ∃ p, d.pend[j]? = some p := ⟨_, List.getElem?_eq_getElem (by have := HM.out; omega)⟩
        have hpm := HRUN.out.pend p (List.mem_of_getElem? hp)
        obtain ⟨b, off, u, rfl, hbb, hru, hcell⟩ := HP.out.at hp
        obtain ⟨ua, uc, rfl, -, -⟩ := hru.shape
        obtain ⟨c5, c6⟩ := hcell wr HBL.out
        have HU := Lib.hid (HX.out.low hru)
        have HPT : Hid (performL d.secs (d.pend.take (j + 1)) = (performL d.secs (d.pend.take j)).set p.1.toNat p.2) := Lib.hid (by
          rw [performL_step hp, put1_set (performL_secs HRUN.out.secs) (by rw [performL_len]; exact hpm.1) hpm.2])
        have hpi : 0 ≤ p.1 ∧ p.1 < (n : Int) := by have h := hpm.1; rw [← HN.out] at h; unfold hasB at h; simpa using h
        obtain ⟨at', data⟩ := p
        obtain ⟨i, rfl⟩ : ∃ i : Nat, at' = i := ⟨at'.toNat, by have := hpi.1; simp only at this; omega⟩
        simp only [Int.toNat_natCast] at c5 c6 HU HPT hpi
        have hin : i < n := by omega
        obtain ⟨x, hxi⟩ : ∃ x, (performL d.secs (d.pend.take j))[i]? = some x := ⟨_, List.getElem?_eq_getElem (by rw [hlen]; exact hin)⟩
        obtain ⟨u0, hu0, _⟩ := HTAB.out.el i x hxi
        have t0 := HTAB.out.cell hu0
        have t1 := HTAB.out.free i
        have hjm : (j : Int) < (k : Int) := by omega
        have hjm2 : (j : Int) < (m : Int) := by omega
        have hj0 : (0 : Int) ≤ (j : Int) := by omega
        have hin2 : (i : Int) < (n : Int) := by omega
        have HHL := Lib.hid hlen
        clear hp hpm hru hcell hxi hu0 hlen hpi x2 y2 x3 y3
        go_wp2_with fail
        go_still_tail 15, (by kernel_rfl)
        go_wp2_with fail
        exact ⟨⟨j + 1, hlt, by go_num, by rw [HPT.out]; exact HX.out.drew1.put (by rw [HHL.out]; exact hin) HU.out.drew1⟩, by simp [intOf]; omega⟩

      · obtain rfl : j = k := by omega
        rw [hlen] at HRX
        have HHL := Lib.hid hlen
        clear x2 y2 y3 x3
        have hqm := HRUN.out.pend q (List.mem_of_getElem? HQ.out)
        obtain ⟨b, off, u, rfl, hbb, hru, hcell⟩ := HP.out.at HQ.out
        obtain ⟨ua, uc, rfl, huc1, huc2⟩ := hru.shape
        have HC := Lib.hid (hcell wr HBL.out)
        have hpi : 0 ≤ q.1 ∧ q.1 < (n : Int) := by have h := hqm.1; rw [← HN.out] at h; unfold hasB at h; simpa using h
        have hdl : q.2.length = 128 := hqm.2
        have HHALT := Lib.hid (halt_secs HRUN.out HQ.out)
        obtain ⟨at', data⟩ := q
        obtain ⟨i, rfl⟩ : ∃ i : Nat, at' = i := ⟨at'.toNat, by have := hpi.1; simp only at this; omega⟩
        simp only [Int.toNat_natCast] at HC hpi hdl hru huc1 huc2 HHALT
        have hin : i < n := by omega
        obtain ⟨x, hxi⟩ : ∃ x, (performL d.secs (d.pend.take j))[i]? = some x := ⟨_, List.getElem?_eq_getElem (by rw [hlen]; exact hin)⟩
        have hxl : x.length = 128 := performL_secs HRUN.out.secs x (List.mem_of_getElem? hxi)
        have HXD : Hid ((performL d.secs (d.pend.take j)).getD i [] = x) := Lib.hid (by simp [List.getD, hxi])
        obtain ⟨u0, hu0, hur⟩ := HTAB.out.el i x hxi
        obtain ⟨xa, xc, rfl, hxc1, hxc2⟩ := hur.rest.shape
        have t0 := HTAB.out.cell hu0
        have t1 := HTAB.out.free i
        rw [hdl] at hru huc2 HC
        rw [hxl] at hxc2 t0 hu0 hur
        obtain ⟨ub, uo, rfl, hub, hucell⟩ : ∃ ub uo, ua = some ⟨ub, uo, none⟩ ∧ ub < w.heap.size ∧ ∀ (z : Nat) y, (cellsOf (data.take 64))[z]? = some y → wr.cell? ⟨ub, uo + z, none⟩ = some y := by
          obtain ⟨a3, c3, he, _, _, _, h5⟩ := hru.stays HBL.out
          injection he with he1 he2 he3
          subst he1
          rcases h5 with h5 | ⟨b3, o3, rfl, h6, h7⟩
          · omega
          · refine ⟨b3, o3, rfl, h6, fun z y hz => ?_⟩
            simp only [cellsOf, List.getElem?_map, Option.map_eq_some_iff] at hz
            obtain ⟨c, hz, rfl⟩ := hz
            obtain ⟨h8, rfl⟩ := List.getElem?_eq_some_iff.1 (take_get hz)
            exact h7 z h8
        obtain ⟨xb, xo, rfl, hxb, hxcell⟩ : ∃ xb xo, xa = some ⟨xb, xo, none⟩ ∧ (Free3 gs g (w.heap.size + 1) xb ∧ xb < wr.heap.size) ∧ ∀ (z : Nat) y, (cellsOf (x.drop 64))[z]? = some y → wr.cell? ⟨xb, xo + 64 + z, none⟩ = some y := by
          obtain ⟨a3, c3, he, _, _, _, h5⟩ := hur
          injection he with he1 he2 he3
          subst he1
          rcases h5 with h5 | ⟨b3, o3, rfl, h6, h7⟩
          · omega
          · refine ⟨b3, o3, rfl, ⟨h6, lt_of_cell (h7 0 (by omega))⟩, fun z y hz => ?_⟩
            simp only [cellsOf, List.getElem?_map, Option.map_eq_some_iff, List.getElem?_drop] at hz
            obtain ⟨c, hz, rfl⟩ := hz
            obtain ⟨h8, rfl⟩ := List.getElem?_eq_some_iff.1 hz
            rw [Nat.add_assoc]
            exact h7 (64 + z) h8
        have hgslt := HTAB.out.lt
        have hggs : g ≠ gs := h3
        have hglt := HRX.out.lt
        have hwlt := HBL.out.size
        have HUC := Lib.hid hucell
        have HXC := Lib.hid hxcell
        have HDL := Lib.hid hdl
        have HXL := Lib.hid hxl
        have hj0 : (0 : Int) ≤ (j : Int) := by omega
        have hu0' := hu0
        clear hru hur hxi hcell hucell hxcell hdl hxl hqm hpi
        go_wp2_with (refine wpList_load_wr rfl (.tmp 63) rfl b (off + j * 2) (i : Int) (.slice (some ⟨ub, uo, none⟩) 128 uc) rfl HC.out ?_; unfold wrOf)
        obtain ⟨W8, hW8⟩ : ∃ W8, W8 = wr.alloc (.cells #[.int .i64 (i : Int), .slice (some ⟨ub, uo, none⟩) 128 uc] 76) := ⟨_, rfl⟩
        have hb8 : Below wr.heap.size wr W8 := by rw [hW8]; exact Joins.below_alloc1 wr _
        have hr8 : Row W8 wr.heap.size 76 [.int .i64 (i : Int), .slice (some ⟨ub, uo, none⟩) 128 uc] := by rw [hW8]; exact row_new wr 76 _
        have hs8 : wr.heap.size < W8.heap.size := by rw [hW8, World.size_alloc]; omega
        rw [← hW8]
        have HB8 := Lib.hid hb8
        have HR8 := Lib.hid hr8
        have HX8 := Lib.hid (HX.out.grow hb8)
        have HRX8 := Lib.hid (HRX.out.keep hb8)
        have g0 := (HTAB.out.keep hb8).cell hu0'
        have g1 := (HTAB.out.keep hb8).free i
        have HG0 := Lib.hid g0
        have HG1 := Lib.hid g1
        clear hW8 hb8 hr8 c1 x0 t0 t1
        have hsz0 : SS W8 gs W8.drew := fun _ _ _ => rfl
        have e0 : ∀ W, SS W8 gs W → W.cell? ⟨g, 0, none⟩ = some (.slice (some ⟨gs, 0, none⟩) n cp) := fun W hW => (hW.cell (by omega) hggs).trans (HRX8.out.cell (i := 0) rfl)
        have e1 : ∀ W, SS W8 gs W → W.cell? ⟨wr.heap.size, 0, none⟩ = some (.int .i64 (i : Int)) := fun W hW => (hW.cell (by omega) (by omega)).trans (HR8.out.cell (i := 0) rfl)
        have e2 : ∀ W, SS W8 gs W → W.cell? ⟨wr.heap.size, 1, none⟩ = some (.slice (some ⟨ub, uo, none⟩) 128 uc) := fun W hW => (hW.cell (by omega) (by omega)).trans (HR8.out.cell (i := 1) rfl)
        have HUA : Hid (∀ W, SS W8 gs W → ∀ (z : Nat) y, (cellsOf (data.take 64))[z]? = some y → W.cell? ((⟨ub, uo, none⟩ : Addr).add z) = some y) := Lib.hid (fun W hW z y hz => by
          rw [Addr.add_lit]
          exact (hW.cell (by omega) (by omega)).trans ((HB8.out.cell (p := ⟨ub, uo + z, none⟩) (by show ub < wr.heap.size; omega)).trans (HUC.out z y hz)))
        have hxgs : xb ≠ gs := hxb.1.1
        have hxlt : xb < wr.heap.size := hxb.2
        have HXA : Hid (∀ W, SS W8 gs W → ∀ (z : Nat) y, (cellsOf (x.drop 64))[z]? = some y → W.cell? ((⟨xb, xo + 64, none⟩ : Addr).add z) = some y) := Lib.hid (fun W hW z y hz => by
          rw [Addr.add_lit]
          exact (hW.cell (by omega) hxgs).trans ((HB8.out.cell (p := ⟨xb, xo + 64 + z, none⟩) hxlt).trans (HXC.out z y hz)))
        obtain ⟨i5, hi5, hz50, hz51, hz52⟩ := info_parts Try.info5
        have HI5 := Lib.hid hi5
        have HZ50 := Lib.hid hz50
        have HZ51 := Lib.hid hz51
        have HZ52 := Lib.hid hz52
        have OA : Hid (((W8.alloc (.cells #[] 5)).drew).ownsRow W8.heap.size 5 1 (.slice (some ⟨W8.heap.size, 0, none⟩) 0 0) 0 []) := Lib.hid (World.ownsRow_made W8 #[] 0 (Nat.le_refl _) (by unfold maxLen; omega) rfl)
        have HLD : Hid ((cellsOf (data.take 64)).length = 64 * 1) := Lib.hid (by rw [cellsOf_len, List.length_take, HDL.out]; rfl)
        have HLX : Hid ((cellsOf (x.drop 64)).length = 64 * 1) := Lib.hid (by rw [cellsOf_len, List.length_drop, HXL.out])
        have HLA : Hid ((data.take 64).length = 64) := Lib.hid (by rw [List.length_take, HDL.out]; rfl)
        have HLB : Hid ((x.drop 64).length = 64) := Lib.hid (by rw [List.length_drop, HXL.out])
        have hgs8 : gs < W8.heap.size := by omega
        have hu64 : (64 : Int) ≤ (uc : Int) := by omega
        have hx64 : (64 : Int) ≤ (xc : Int) := by omega
        have hx128 : (128 : Int) ≤ (xc : Int) := by omega
        have hxne : ¬ xc = 64 := by omega
        have hin2 : (i : Int) < (n : Int) := by omega
        have hii0 : (0 : Int) ≤ (i : Int) := by omega
        have hxa : (xc : Int) ≤ 9223372036854775807 := by omega
        clear hi5 hz50 hz51 hz52 hsz0
        go_cut [] (fun wx => RsX w [.slice (some ⟨vb, voff, none⟩) n cap, .slice (some ⟨b, off, none⟩) m cap2, .int .i64 (j : Int), .bool false] ((performL d.secs (d.pend.take j)).set i (data.take 64 ++ x.drop 64)) (j : Int) false g gs cp wx)
        case first =>
          (refine wp_region_held_drew (S := fun W => SS W8 gs W) (by kernel_rfl) (fun _ _ _ => rfl) (fun hHeld => ?_); have HB0 := Lib.hid hHeld; clear hHeld)
          refine wpAnyH_take (i := 0) (oi := { dst := some 65, op := Op.fieldAddr 25 (Operand.tmp 6) 0, type := 0, pos := "ref.go:87", after := #[], guard := none }) (v := ?_) rfl (by kernel_rfl) (by kernel_rfl) (by kernel_rfl) (fun _ _ _ h => h) (Or.inl ⟨by rfl, ?_⟩) HB0.out ?_
          rotate_left
          · (intro w hSw; (try dsimp only at hSw); go_simp; with_reducible rfl)
          try simp only [Act.put, List.setIfInBounds_toArray, List.set_cons_zero, List.set_cons_succ]
          refine wpAnyH_take (i := 1) (oi := { dst := some 66, op := Op.load 22 (Operand.tmp 65), type := 22, pos := "ref.go:87", after := #[{ on := 0, ground := Ground.data }], guard := none }) (v := ?_) rfl (by kernel_rfl) (by kernel_rfl) (by kernel_rfl) (fun _ _ _ h => h) (Or.inl ⟨by rfl, ?_⟩) HB0.out ?_
          rotate_left
          · (intro w hSw; (try dsimp only at hSw); go_simp; with_reducible rfl)
          try simp only [Act.put, List.setIfInBounds_toArray, List.set_cons_zero, List.set_cons_succ]
          refine wpAnyH_take (i := 2) (oi := { dst := some 67, op := Op.fieldAddr 76 (Operand.tmp 8) 0, type := 0, pos := "ref.go:87", after := #[], guard := none }) (v := ?_) rfl (by kernel_rfl) (by kernel_rfl) (by kernel_rfl) (fun _ _ _ h => h) (Or.inl ⟨by rfl, ?_⟩) HB0.out ?_
          rotate_left
          · (intro w hSw; (try dsimp only at hSw); go_simp; with_reducible rfl)
          try simp only [Act.put, List.setIfInBounds_toArray, List.set_cons_zero, List.set_cons_succ]
          refine wpAnyH_take (i := 3) (oi := { dst := some 68, op := Op.load 3 (Operand.tmp 67), type := 3, pos := "ref.go:87", after := #[{ on := 2, ground := Ground.data }], guard := none }) (v := ?_) rfl (by kernel_rfl) (by kernel_rfl) (by kernel_rfl) (fun _ _ _ h => h) (Or.inl ⟨by rfl, ?_⟩) HB0.out ?_
          rotate_left
          · (intro w hSw; (try dsimp only at hSw); go_simp; with_reducible rfl)
          try simp only [Act.put, List.setIfInBounds_toArray, List.set_cons_zero, List.set_cons_succ]
          refine wpAnyH_take (i := 5) (oi := { dst := some 70, op := Op.fieldAddr 76 (Operand.tmp 8) 1, type := 0, pos := "ref.go:87", after := #[], guard := none }) (v := ?_) rfl (by kernel_rfl) (by kernel_rfl) (by kernel_rfl) (fun _ _ _ h => h) (Or.inl ⟨by rfl, ?_⟩) HB0.out ?_
          rotate_left
          · (intro w hSw; (try dsimp only at hSw); go_simp; with_reducible rfl)
          try simp only [Act.put, List.setIfInBounds_toArray, List.set_cons_zero, List.set_cons_succ]
          refine wpAnyH_take (i := 6) (oi := { dst := some 71, op := Op.load 35 (Operand.tmp 70), type := 35, pos := "ref.go:87", after := #[{ on := 5, ground := Ground.data }], guard := none }) (v := ?_) rfl (by kernel_rfl) (by kernel_rfl) (by kernel_rfl) (fun _ _ _ h => h) (Or.inl ⟨by rfl, ?_⟩) HB0.out ?_
          rotate_left
          · (intro w hSw; (try dsimp only at hSw); go_simp; with_reducible rfl)
          try simp only [Act.put, List.setIfInBounds_toArray, List.set_cons_zero, List.set_cons_succ]
          refine wpAnyH_take (i := 7) (oi := { dst := some 72, op := Op.slice 35 (Operand.tmp 71) none (some (Operand.const (Value.int IntKind.i64 64))) none, type := 35, pos := "ref.go:87", after := #[{ on := 6, ground := Ground.data }], guard := none }) (v := ?_) rfl (by kernel_rfl) (by kernel_rfl) (by kernel_rfl) (fun _ _ _ h => h) (Or.inl ⟨by rfl, ?_⟩) HB0.out ?_
          rotate_left
          · (intro w hSw; (try dsimp only at hSw); go_simp; with_reducible rfl)
          try simp only [Act.put, List.setIfInBounds_toArray, List.set_cons_zero, List.set_cons_succ]
          refine wpAnyH_take (i := 9) (oi := { dst := some 74, op := Op.fieldAddr 25 (Operand.tmp 6) 0, type := 0, pos := "ref.go:87", after := #[], guard := none }) (v := ?_) rfl (by kernel_rfl) (by kernel_rfl) (by kernel_rfl) (fun _ _ _ h => h) (Or.inl ⟨by rfl, ?_⟩) HB0.out ?_
          rotate_left
          · (intro w hSw; (try dsimp only at hSw); go_simp; with_reducible rfl)
          try simp only [Act.put, List.setIfInBounds_toArray, List.set_cons_zero, List.set_cons_succ]
          refine wpAnyH_take (i := 10) (oi := { dst := some 75, op := Op.load 22 (Operand.tmp 74), type := 22, pos := "ref.go:87", after := #[{ on := 9, ground := Ground.data }], guard := none }) (v := ?_) rfl (by kernel_rfl) (by kernel_rfl) (by kernel_rfl) (fun _ _ _ h => h) (Or.inl ⟨by rfl, ?_⟩) HB0.out ?_
          rotate_left
          · (intro w hSw; (try dsimp only at hSw); go_simp; with_reducible rfl)
          try simp only [Act.put, List.setIfInBounds_toArray, List.set_cons_zero, List.set_cons_succ]
          refine wpAnyH_take (i := 11) (oi := { dst := some 76, op := Op.fieldAddr 76 (Operand.tmp 8) 0, type := 0, pos := "ref.go:87", after := #[], guard := none }) (v := ?_) rfl (by kernel_rfl) (by kernel_rfl) (by kernel_rfl) (fun _ _ _ h => h) (Or.inl ⟨by rfl, ?_⟩) HB0.out ?_
          rotate_left
          · (intro w hSw; (try dsimp only at hSw); go_simp; with_reducible rfl)
          try simp only [Act.put, List.setIfInBounds_toArray, List.set_cons_zero, List.set_cons_succ]
          refine wpAnyH_take (i := 12) (oi := { dst := some 77, op := Op.load 3 (Operand.tmp 76), type := 3, pos := "ref.go:87", after := #[{ on := 11, ground := Ground.data }], guard := none }) (v := ?_) rfl (by kernel_rfl) (by kernel_rfl) (by kernel_rfl) (fun _ _ _ h => h) (Or.inl ⟨by rfl, ?_⟩) HB0.out ?_
          rotate_left
          · (intro w hSw; (try dsimp only at hSw); go_simp; with_reducible rfl)
          try simp only [Act.put, List.setIfInBounds_toArray, List.set_cons_zero, List.set_cons_succ]
          refine wpAnyH_take (i := 13) (oi := { dst := some 78, op := Op.indexAddr 22 (Operand.tmp 75) (Operand.tmp 77), type := 0, pos := "ref.go:87", after := #[{ on := 10, ground := Ground.data }, { on := 12, ground := Ground.data }], guard := none }) (v := ?_) rfl (by kernel_rfl) (by kernel_rfl) (by kernel_rfl) (fun _ _ _ h => h) (Or.inl ⟨by rfl, ?_⟩) HB0.out ?_
          rotate_left
          · (intro w hSw; (try dsimp only at hSw); go_simp; with_reducible rfl)
          try simp only [Act.put, List.setIfInBounds_toArray, List.set_cons_zero, List.set_cons_succ]
          refine wpAnyH_ready (rs := [4, 14]) (by kernel_rfl) (by simp) ?_
          refine AllReadyH.cons (o := { dst := some 69, op := Op.buildSlice 35 0 #[], type := 35, pos := "ref.go:87", after := #[], guard := none }) rfl (fun K hK => ?_) ?_
          · rw [if_pos (by rfl)]
            go_simp
            refine hK.out _ _ ?_ (fun hHeld => ?_)
            · (try dsimp only); ((first | with_reducible exact HB0.out | with_reducible exact SS.put (SS.below hB5) | with_reducible exact SS.below hB5 | with_reducible exact SS.below hB4 | with_reducible exact SS.below (below_drew (Joins.below_alloc1 _ _))))
            clear hK K
            have HB0 := Lib.hid hHeld
            clear hHeld
            try simp only [Act.put, List.setIfInBounds_toArray, List.set_cons_zero, List.set_cons_succ]
            refine wpAnyH_ready (rs := [8, 14]) (by kernel_rfl) (by simp) ?_
            refine AllReadyH.cons (o := { dst := some 73, op := Op.call { callee := Callee.builtin Builtin.append, args := #[Operand.tmp 69, Operand.tmp 72], argTypes := #[35, 35] }, type := 35, pos := "ref.go:87", after := #[{ on := 4, ground := Ground.data }, { on := 7, ground := Ground.data }], guard := none }) rfl (fun K hK => ?_) ?_
            · rw [if_pos (by rfl)]
              ((refine wp_append_lies _ (.tmp 69) (.tmp 72) 35 rfl W8.heap.size 5 i5 _ 1 1 Try.underlying35 HI5.out HZ50.out HZ51.out HZ52.out rfl (by decide) (.slice (some ⟨W8.heap.size, 0, none⟩) 0 0) 0 [] rfl OA.out ⟨ub, uo, none⟩ 64 uc (cellsOf (data.take 64)) rfl HLD.out (HUA.out _ HB0.out) (cells_one _) (by omega) (by unfold maxLen; omega) (by omega) (by simp) _ rfl ?_; intro g4 c4 w4 hown4 hgrow4 hat4 hlt4; rw [Nat.zero_add, List.nil_append] at hown4; have hB4 : Below W8.heap.size W8 w4 := (Joins.below_alloc1 W8 _).trans (below_grew (w := W8.alloc (.cells #[] 5)) hgrow4 (by simp) (fun g' e => by cases e; exact Nat.le_refl _)); have g0 := (hB4.cell (p := ⟨gs, i, none⟩) hgs8).trans g0; have g1 := (hB4.frozen (p := ⟨gs, i, none⟩) hgs8).trans g1))
              refine hK.out _ _ ?_ (fun hHeld => ?_)
              · (try dsimp only); ((first | with_reducible exact HB0.out | with_reducible exact SS.put (SS.below hB5) | with_reducible exact SS.below hB5 | with_reducible exact SS.below hB4 | with_reducible exact SS.below (below_drew (Joins.below_alloc1 _ _))))
              clear hK K
              have HB0 := Lib.hid hHeld
              clear hHeld
              try simp only [Act.put, List.setIfInBounds_toArray, List.set_cons_zero, List.set_cons_succ]
              refine wpAnyH_ready (rs := [14]) (by kernel_rfl) (by simp) ?_
              refine AllReadyH.cons (o := { dst := some 79, op := Op.load 35 (Operand.tmp 78), type := 35, pos := "ref.go:87", after := #[{ on := 13, ground := Ground.data }], guard := none }) rfl (fun K hK => ?_) ?_
              · rw [if_pos (by rfl)]
                go_simp
                refine hK.out _ _ ?_ (fun hHeld => ?_)
                · (try dsimp only); ((first | with_reducible exact HB0.out | with_reducible exact SS.put (SS.below hB5) | with_reducible exact SS.below hB5 | with_reducible exact SS.below hB4 | with_reducible exact SS.below (below_drew (Joins.below_alloc1 _ _))))
                clear hK K
                have HB0 := Lib.hid hHeld
                clear hHeld
                try simp only [Act.put, List.setIfInBounds_toArray, List.set_cons_zero, List.set_cons_succ]
                refine wpAnyH_take (i := 15) (oi := { dst := some 80, op := Op.slice 35 (Operand.tmp 79) (some (Operand.const (Value.int IntKind.i64 64))) none none, type := 35, pos := "ref.go:87", after := #[{ on := 14, ground := Ground.data }], guard := none }) (v := ?_) rfl (by kernel_rfl) (by kernel_rfl) (by kernel_rfl) (fun _ _ _ h => h) (Or.inl ⟨by rfl, ?_⟩) HB0.out ?_
                rotate_left
                · (intro w hSw; (try dsimp only at hSw); go_simp; with_reducible rfl)
                try simp only [Act.put, List.setIfInBounds_toArray, List.set_cons_zero, List.set_cons_succ]
                refine wpAnyH_ready (rs := [16]) (by kernel_rfl) (by simp) ?_
                refine AllReadyH.cons (o := { dst := some 81, op := Op.call { callee := Callee.builtin Builtin.append, args := #[Operand.tmp 73, Operand.tmp 80], argTypes := #[35, 35] }, type := 35, pos := "ref.go:87", after := #[{ on := 8, ground := Ground.data }, { on := 15, ground := Ground.data }, { on := 8, ground := Ground.chain }], guard := none }) rfl (fun K hK => ?_) ?_
                · rw [if_pos (by rfl)]
                  ((refine wp_append_lies _ (.tmp 73) (.tmp 80) 35 rfl W8.heap.size 5 i5 _ 1 1 Try.underlying35 HI5.out HZ50.out HZ51.out HZ52.out rfl (by decide) (.slice (some ⟨g4, 0, none⟩) 64 c4) 64 (cellsOf (data.take 64)) rfl hown4 ⟨xb, xo + 64, none⟩ 64 _ (cellsOf (x.drop 64)) rfl HLX.out (HXA.out _ HB0.out) (cells_one _) (by omega) (by unfold maxLen; omega) (by omega) hB4.size _ rfl ?_; intro g5 c5 w5 hown5 hgrow5 hat5 hlt5; have hB5 : Below W8.heap.size W8 w5 := hB4.trans (below_grewn hown4 hgrow5 hB4.size (Nat.le_refl _)); have g0 := (hB5.cell (p := ⟨gs, i, none⟩) hgs8).trans HG0.out; have g1 := (hB5.frozen (p := ⟨gs, i, none⟩) hgs8).trans HG1.out))
                  refine hK.out _ _ ?_ (fun hHeld => ?_)
                  · (try dsimp only); ((first | with_reducible exact HB0.out | with_reducible exact SS.put (SS.below hB5) | with_reducible exact SS.below hB5 | with_reducible exact SS.below hB4 | with_reducible exact SS.below (below_drew (Joins.below_alloc1 _ _))))
                  clear hK K
                  have HB0 := Lib.hid hHeld
                  clear hHeld
                  try simp only [Act.put, List.setIfInBounds_toArray, List.set_cons_zero, List.set_cons_succ]
                  refine wpAnyH_take (i := 17) (oi := { dst := some 82, op := Op.indexAddr 22 (Operand.tmp 66) (Operand.tmp 68), type := 0, pos := "ref.go:87", after := #[{ on := 1, ground := Ground.data }, { on := 3, ground := Ground.data }, { on := 0, ground := Ground.phase }, { on := 1, ground := Ground.phase }, { on := 2, ground := Ground.phase }, { on := 3, ground := Ground.phase }, { on := 4, ground := Ground.phase }, { on := 5, ground := Ground.phase }, { on := 6, ground := Ground.phase }, { on := 7, ground := Ground.phase }, { on := 8, ground := Ground.phase }, { on := 9, ground := Ground.phase }, { on := 10, ground := Ground.phase }, { on := 11, ground := Ground.phase }, { on := 12, ground := Ground.phase }, { on := 13, ground := Ground.phase }, { on := 14, ground := Ground.phase }, { on := 15, ground := Ground.phase }, { on := 16, ground := Ground.phase }], guard := none }) (v := ?_) rfl (by kernel_rfl) (by kernel_rfl) (by kernel_rfl) (fun _ _ _ h => h) (Or.inl ⟨by rfl, ?_⟩) HB0.out ?_
                  rotate_left
                  · (intro w hSw; (try dsimp only at hSw); go_simp; with_reducible rfl)
                  try simp only [Act.put, List.setIfInBounds_toArray, List.set_cons_zero, List.set_cons_succ]
                  refine wpAnyH_ready (rs := [18]) (by kernel_rfl) (by simp) ?_
                  refine AllReadyH.cons (o := { dst := none, op := Op.store 35 (Operand.tmp 82) (Operand.tmp 81), type := 0, pos := "ref.go:87", after := #[{ on := 17, ground := Ground.data }, { on := 16, ground := Ground.data }, { on := 16, ground := Ground.chain }, { on := 0, ground := Ground.phase }, { on := 1, ground := Ground.phase }, { on := 2, ground := Ground.phase }, { on := 3, ground := Ground.phase }, { on := 4, ground := Ground.phase }, { on := 5, ground := Ground.phase }, { on := 6, ground := Ground.phase }, { on := 7, ground := Ground.phase }, { on := 8, ground := Ground.phase }, { on := 9, ground := Ground.phase }, { on := 10, ground := Ground.phase }, { on := 11, ground := Ground.phase }, { on := 12, ground := Ground.phase }, { on := 13, ground := Ground.phase }, { on := 14, ground := Ground.phase }, { on := 15, ground := Ground.phase }, { on := 16, ground := Ground.phase }], guard := none }) rfl (fun K hK => ?_) ?_
                  · rw [if_pos (by rfl)]
                    go_simp
                    refine hK.out _ _ ?_ (fun hHeld => ?_)
                    · (try dsimp only); ((first | with_reducible exact HB0.out | with_reducible exact SS.put (SS.below hB5) | with_reducible exact SS.below hB5 | with_reducible exact SS.below hB4 | with_reducible exact SS.below (below_drew (Joins.below_alloc1 _ _))))
                    clear hK K
                    have HB0 := Lib.hid hHeld
                    clear hHeld
                    try simp only [Act.put, List.setIfInBounds_toArray, List.set_cons_zero, List.set_cons_succ]
                    refine wpAnyH_done (by kernel_rfl) ?_ _
                    (go_wp2_with fail; go_meet; case rel => exact rs_torn HX8.out hB5 hown5 HLA.out HLB.out (by rw [HHL.out]; exact hin))
                  exact AllReadyH.nil
                exact AllReadyH.nil
              exact AllReadyH.nil
            refine AllReadyH.cons (o := { dst := some 79, op := Op.load 35 (Operand.tmp 78), type := 35, pos := "ref.go:87", after := #[{ on := 13, ground := Ground.data }], guard := none }) rfl (fun K hK => ?_) ?_
            · rw [if_pos (by rfl)]
              go_simp
              refine hK.out _ _ ?_ (fun hHeld => ?_)
              · (try dsimp only); ((first | with_reducible exact HB0.out | with_reducible exact SS.put (SS.below hB5) | with_reducible exact SS.below hB5 | with_reducible exact SS.below hB4 | with_reducible exact SS.below (below_drew (Joins.below_alloc1 _ _))))
              clear hK K
              have HB0 := Lib.hid hHeld
              clear hHeld
              try simp only [Act.put, List.setIfInBounds_toArray, List.set_cons_zero, List.set_cons_succ]
              refine wpAnyH_take (i := 15) (oi := { dst := some 80, op := Op.slice 35 (Operand.tmp 79) (some (Operand.const (Value.int IntKind.i64 64))) none none, type := 35, pos := "ref.go:87", after := #[{ on := 14, ground := Ground.data }], guard := none }) (v := ?_) rfl (by kernel_rfl) (by kernel_rfl) (by kernel_rfl) (fun _ _ _ h => h) (Or.inl ⟨by rfl, ?_⟩) HB0.out ?_
              rotate_left
              · (intro w hSw; (try dsimp only at hSw); go_simp; with_reducible rfl)
              try simp only [Act.put, List.setIfInBounds_toArray, List.set_cons_zero, List.set_cons_succ]
              refine wpAnyH_ready (rs := [8]) (by kernel_rfl) (by simp) ?_
              refine AllReadyH.cons (o := { dst := some 73, op := Op.call { callee := Callee.builtin Builtin.append, args := #[Operand.tmp 69, Operand.tmp 72], argTypes := #[35, 35] }, type := 35, pos := "ref.go:87", after := #[{ on := 4, ground := Ground.data }, { on := 7, ground := Ground.data }], guard := none }) rfl (fun K hK => ?_) ?_
              · rw [if_pos (by rfl)]
                ((refine wp_append_lies _ (.tmp 69) (.tmp 72) 35 rfl W8.heap.size 5 i5 _ 1 1 Try.underlying35 HI5.out HZ50.out HZ51.out HZ52.out rfl (by decide) (.slice (some ⟨W8.heap.size, 0, none⟩) 0 0) 0 [] rfl OA.out ⟨ub, uo, none⟩ 64 uc (cellsOf (data.take 64)) rfl HLD.out (HUA.out _ HB0.out) (cells_one _) (by omega) (by unfold maxLen; omega) (by omega) (by simp) _ rfl ?_; intro g4 c4 w4 hown4 hgrow4 hat4 hlt4; rw [Nat.zero_add, List.nil_append] at hown4; have hB4 : Below W8.heap.size W8 w4 := (Joins.below_alloc1 W8 _).trans (below_grew (w := W8.alloc (.cells #[] 5)) hgrow4 (by simp) (fun g' e => by cases e; exact Nat.le_refl _)); have g0 := (hB4.cell (p := ⟨gs, i, none⟩) hgs8).trans g0; have g1 := (hB4.frozen (p := ⟨gs, i, none⟩) hgs8).trans g1))
                refine hK.out _ _ ?_ (fun hHeld => ?_)
                · (try dsimp only); ((first | with_reducible exact HB0.out | with_reducible exact SS.put (SS.below hB5) | with_reducible exact SS.below hB5 | with_reducible exact SS.below hB4 | with_reducible exact SS.below (below_drew (Joins.below_alloc1 _ _))))
                clear hK K
                have HB0 := Lib.hid hHeld
                clear hHeld
                try simp only [Act.put, List.setIfInBounds_toArray, List.set_cons_zero, List.set_cons_succ]
                refine wpAnyH_ready (rs := [16]) (by kernel_rfl) (by simp) ?_
                refine AllReadyH.cons (o := { dst := some 81, op := Op.call { callee := Callee.builtin Builtin.append, args := #[Operand.tmp 73, Operand.tmp 80], argTypes := #[35, 35] }, type := 35, pos := "ref.go:87", after := #[{ on := 8, ground := Ground.data }, { on := 15, ground := Ground.data }, { on := 8, ground := Ground.chain }], guard := none }) rfl (fun K hK => ?_) ?_
                · rw [if_pos (by rfl)]
                  ((refine wp_append_lies _ (.tmp 73) (.tmp 80) 35 rfl W8.heap.size 5 i5 _ 1 1 Try.underlying35 HI5.out HZ50.out HZ51.out HZ52.out rfl (by decide) (.slice (some ⟨g4, 0, none⟩) 64 c4) 64 (cellsOf (data.take 64)) rfl hown4 ⟨xb, xo + 64, none⟩ 64 _ (cellsOf (x.drop 64)) rfl HLX.out (HXA.out _ HB0.out) (cells_one _) (by omega) (by unfold maxLen; omega) (by omega) hB4.size _ rfl ?_; intro g5 c5 w5 hown5 hgrow5 hat5 hlt5; have hB5 : Below W8.heap.size W8 w5 := hB4.trans (below_grewn hown4 hgrow5 hB4.size (Nat.le_refl _)); have g0 := (hB5.cell (p := ⟨gs, i, none⟩) hgs8).trans HG0.out; have g1 := (hB5.frozen (p := ⟨gs, i, none⟩) hgs8).trans HG1.out))
                  refine hK.out _ _ ?_ (fun hHeld => ?_)
                  · (try dsimp only); ((first | with_reducible exact HB0.out | with_reducible exact SS.put (SS.below hB5) | with_reducible exact SS.below hB5 | with_reducible exact SS.below hB4 | with_reducible exact SS.below (below_drew (Joins.below_alloc1 _ _))))
                  clear hK K
                  have HB0 := Lib.hid hHeld
                  clear hHeld
                  try simp only [Act.put, List.setIfInBounds_toArray, List.set_cons_zero, List.set_cons_succ]
                  refine wpAnyH_take (i := 17) (oi := { dst := some 82, op := Op.indexAddr 22 (Operand.tmp 66) (Operand.tmp 68), type := 0, pos := "ref.go:87", after := #[{ on := 1, ground := Ground.data }, { on := 3, ground := Ground.data }, { on := 0, ground := Ground.phase }, { on := 1, ground := Ground.phase }, { on := 2, ground := Ground.phase }, { on := 3, ground := Ground.phase }, { on := 4, ground := Ground.phase }, { on := 5, ground := Ground.phase }, { on := 6, ground := Ground.phase }, { on := 7, ground := Ground.phase }, { on := 8, ground := Ground.phase }, { on := 9, ground := Ground.phase }, { on := 10, ground := Ground.phase }, { on := 11, ground := Ground.phase }, { on := 12, ground := Ground.phase }, { on := 13, ground := Ground.phase }, { on := 14, ground := Ground.phase }, { on := 15, ground := Ground.phase }, { on := 16, ground := Ground.phase }], guard := none }) (v := ?_) rfl (by kernel_rfl) (by kernel_rfl) (by kernel_rfl) (fun _ _ _ h => h) (Or.inl ⟨by rfl, ?_⟩) HB0.out ?_
                  rotate_left
                  · (intro w hSw; (try dsimp only at hSw); go_simp; with_reducible rfl)
                  try simp only [Act.put, List.setIfInBounds_toArray, List.set_cons_zero, List.set_cons_succ]
                  refine wpAnyH_ready (rs := [18]) (by kernel_rfl) (by simp) ?_
                  refine AllReadyH.cons (o := { dst := none, op := Op.store 35 (Operand.tmp 82) (Operand.tmp 81), type := 0, pos := "ref.go:87", after := #[{ on := 17, ground := Ground.data }, { on := 16, ground := Ground.data }, { on := 16, ground := Ground.chain }, { on := 0, ground := Ground.phase }, { on := 1, ground := Ground.phase }, { on := 2, ground := Ground.phase }, { on := 3, ground := Ground.phase }, { on := 4, ground := Ground.phase }, { on := 5, ground := Ground.phase }, { on := 6, ground := Ground.phase }, { on := 7, ground := Ground.phase }, { on := 8, ground := Ground.phase }, { on := 9, ground := Ground.phase }, { on := 10, ground := Ground.phase }, { on := 11, ground := Ground.phase }, { on := 12, ground := Ground.phase }, { on := 13, ground := Ground.phase }, { on := 14, ground := Ground.phase }, { on := 15, ground := Ground.phase }, { on := 16, ground := Ground.phase }], guard := none }) rfl (fun K hK => ?_) ?_
                  · rw [if_pos (by rfl)]
                    go_simp
                    refine hK.out _ _ ?_ (fun hHeld => ?_)
                    · (try dsimp only); ((first | with_reducible exact HB0.out | with_reducible exact SS.put (SS.below hB5) | with_reducible exact SS.below hB5 | with_reducible exact SS.below hB4 | with_reducible exact SS.below (below_drew (Joins.below_alloc1 _ _))))
                    clear hK K
                    have HB0 := Lib.hid hHeld
                    clear hHeld
                    try simp only [Act.put, List.setIfInBounds_toArray, List.set_cons_zero, List.set_cons_succ]
                    refine wpAnyH_done (by kernel_rfl) ?_ _
                    (go_wp2_with fail; go_meet; case rel => exact rs_torn HX8.out hB5 hown5 HLA.out HLB.out (by rw [HHL.out]; exact hin))
                  exact AllReadyH.nil
                exact AllReadyH.nil
              exact AllReadyH.nil
            exact AllReadyH.nil
          refine AllReadyH.cons (o := { dst := some 79, op := Op.load 35 (Operand.tmp 78), type := 35, pos := "ref.go:87", after := #[{ on := 13, ground := Ground.data }], guard := none }) rfl (fun K hK => ?_) ?_
          · rw [if_pos (by rfl)]
            go_simp
            refine hK.out _ _ ?_ (fun hHeld => ?_)
            · (try dsimp only); ((first | with_reducible exact HB0.out | with_reducible exact SS.put (SS.below hB5) | with_reducible exact SS.below hB5 | with_reducible exact SS.below hB4 | with_reducible exact SS.below (below_drew (Joins.below_alloc1 _ _))))
            clear hK K
            have HB0 := Lib.hid hHeld
            clear hHeld
            try simp only [Act.put, List.setIfInBounds_toArray, List.set_cons_zero, List.set_cons_succ]
            refine wpAnyH_take (i := 15) (oi := { dst := some 80, op := Op.slice 35 (Operand.tmp 79) (some (Operand.const (Value.int IntKind.i64 64))) none none, type := 35, pos := "ref.go:87", after := #[{ on := 14, ground := Ground.data }], guard := none }) (v := ?_) rfl (by kernel_rfl) (by kernel_rfl) (by kernel_rfl) (fun _ _ _ h => h) (Or.inl ⟨by rfl, ?_⟩) HB0.out ?_
            rotate_left
            · (intro w hSw; (try dsimp only at hSw); go_simp; with_reducible rfl)
            try simp only [Act.put, List.setIfInBounds_toArray, List.set_cons_zero, List.set_cons_succ]
            refine wpAnyH_ready (rs := [4]) (by kernel_rfl) (by simp) ?_
            refine AllReadyH.cons (o := { dst := some 69, op := Op.buildSlice 35 0 #[], type := 35, pos := "ref.go:87", after := #[], guard := none }) rfl (fun K hK => ?_) ?_
            · rw [if_pos (by rfl)]
              go_simp
              refine hK.out _ _ ?_ (fun hHeld => ?_)
              · (try dsimp only); ((first | with_reducible exact HB0.out | with_reducible exact SS.put (SS.below hB5) | with_reducible exact SS.below hB5 | with_reducible exact SS.below hB4 | with_reducible exact SS.below (below_drew (Joins.below_alloc1 _ _))))
              clear hK K
              have HB0 := Lib.hid hHeld
              clear hHeld
              try simp only [Act.put, List.setIfInBounds_toArray, List.set_cons_zero, List.set_cons_succ]
              refine wpAnyH_ready (rs := [8]) (by kernel_rfl) (by simp) ?_
              refine AllReadyH.cons (o := { dst := some 73, op := Op.call { callee := Callee.builtin Builtin.append, args := #[Operand.tmp 69, Operand.tmp 72], argTypes := #[35, 35] }, type := 35, pos := "ref.go:87", after := #[{ on := 4, ground := Ground.data }, { on := 7, ground := Ground.data }], guard := none }) rfl (fun K hK => ?_) ?_
              · rw [if_pos (by rfl)]
                ((refine wp_append_lies _ (.tmp 69) (.tmp 72) 35 rfl W8.heap.size 5 i5 _ 1 1 Try.underlying35 HI5.out HZ50.out HZ51.out HZ52.out rfl (by decide) (.slice (some ⟨W8.heap.size, 0, none⟩) 0 0) 0 [] rfl OA.out ⟨ub, uo, none⟩ 64 uc (cellsOf (data.take 64)) rfl HLD.out (HUA.out _ HB0.out) (cells_one _) (by omega) (by unfold maxLen; omega) (by omega) (by simp) _ rfl ?_; intro g4 c4 w4 hown4 hgrow4 hat4 hlt4; rw [Nat.zero_add, List.nil_append] at hown4; have hB4 : Below W8.heap.size W8 w4 := (Joins.below_alloc1 W8 _).trans (below_grew (w := W8.alloc (.cells #[] 5)) hgrow4 (by simp) (fun g' e => by cases e; exact Nat.le_refl _)); have g0 := (hB4.cell (p := ⟨gs, i, none⟩) hgs8).trans g0; have g1 := (hB4.frozen (p := ⟨gs, i, none⟩) hgs8).trans g1))
                refine hK.out _ _ ?_ (fun hHeld => ?_)
                · (try dsimp only); ((first | with_reducible exact HB0.out | with_reducible exact SS.put (SS.below hB5) | with_reducible exact SS.below hB5 | with_reducible exact SS.below hB4 | with_reducible exact SS.below (below_drew (Joins.below_alloc1 _ _))))
                clear hK K
                have HB0 := Lib.hid hHeld
                clear hHeld
                try simp only [Act.put, List.setIfInBounds_toArray, List.set_cons_zero, List.set_cons_succ]
                refine wpAnyH_ready (rs := [16]) (by kernel_rfl) (by simp) ?_
                refine AllReadyH.cons (o := { dst := some 81, op := Op.call { callee := Callee.builtin Builtin.append, args := #[Operand.tmp 73, Operand.tmp 80], argTypes := #[35, 35] }, type := 35, pos := "ref.go:87", after := #[{ on := 8, ground := Ground.data }, { on := 15, ground := Ground.data }, { on := 8, ground := Ground.chain }], guard := none }) rfl (fun K hK => ?_) ?_
                · rw [if_pos (by rfl)]
                  ((refine wp_append_lies _ (.tmp 73) (.tmp 80) 35 rfl W8.heap.size 5 i5 _ 1 1 Try.underlying35 HI5.out HZ50.out HZ51.out HZ52.out rfl (by decide) (.slice (some ⟨g4, 0, none⟩) 64 c4) 64 (cellsOf (data.take 64)) rfl hown4 ⟨xb, xo + 64, none⟩ 64 _ (cellsOf (x.drop 64)) rfl HLX.out (HXA.out _ HB0.out) (cells_one _) (by omega) (by unfold maxLen; omega) (by omega) hB4.size _ rfl ?_; intro g5 c5 w5 hown5 hgrow5 hat5 hlt5; have hB5 : Below W8.heap.size W8 w5 := hB4.trans (below_grewn hown4 hgrow5 hB4.size (Nat.le_refl _)); have g0 := (hB5.cell (p := ⟨gs, i, none⟩) hgs8).trans HG0.out; have g1 := (hB5.frozen (p := ⟨gs, i, none⟩) hgs8).trans HG1.out))
                  refine hK.out _ _ ?_ (fun hHeld => ?_)
                  · (try dsimp only); ((first | with_reducible exact HB0.out | with_reducible exact SS.put (SS.below hB5) | with_reducible exact SS.below hB5 | with_reducible exact SS.below hB4 | with_reducible exact SS.below (below_drew (Joins.below_alloc1 _ _))))
                  clear hK K
                  have HB0 := Lib.hid hHeld
                  clear hHeld
                  try simp only [Act.put, List.setIfInBounds_toArray, List.set_cons_zero, List.set_cons_succ]
                  refine wpAnyH_take (i := 17) (oi := { dst := some 82, op := Op.indexAddr 22 (Operand.tmp 66) (Operand.tmp 68), type := 0, pos := "ref.go:87", after := #[{ on := 1, ground := Ground.data }, { on := 3, ground := Ground.data }, { on := 0, ground := Ground.phase }, { on := 1, ground := Ground.phase }, { on := 2, ground := Ground.phase }, { on := 3, ground := Ground.phase }, { on := 4, ground := Ground.phase }, { on := 5, ground := Ground.phase }, { on := 6, ground := Ground.phase }, { on := 7, ground := Ground.phase }, { on := 8, ground := Ground.phase }, { on := 9, ground := Ground.phase }, { on := 10, ground := Ground.phase }, { on := 11, ground := Ground.phase }, { on := 12, ground := Ground.phase }, { on := 13, ground := Ground.phase }, { on := 14, ground := Ground.phase }, { on := 15, ground := Ground.phase }, { on := 16, ground := Ground.phase }], guard := none }) (v := ?_) rfl (by kernel_rfl) (by kernel_rfl) (by kernel_rfl) (fun _ _ _ h => h) (Or.inl ⟨by rfl, ?_⟩) HB0.out ?_
                  rotate_left
                  · (intro w hSw; (try dsimp only at hSw); go_simp; with_reducible rfl)
                  try simp only [Act.put, List.setIfInBounds_toArray, List.set_cons_zero, List.set_cons_succ]
                  refine wpAnyH_ready (rs := [18]) (by kernel_rfl) (by simp) ?_
                  refine AllReadyH.cons (o := { dst := none, op := Op.store 35 (Operand.tmp 82) (Operand.tmp 81), type := 0, pos := "ref.go:87", after := #[{ on := 17, ground := Ground.data }, { on := 16, ground := Ground.data }, { on := 16, ground := Ground.chain }, { on := 0, ground := Ground.phase }, { on := 1, ground := Ground.phase }, { on := 2, ground := Ground.phase }, { on := 3, ground := Ground.phase }, { on := 4, ground := Ground.phase }, { on := 5, ground := Ground.phase }, { on := 6, ground := Ground.phase }, { on := 7, ground := Ground.phase }, { on := 8, ground := Ground.phase }, { on := 9, ground := Ground.phase }, { on := 10, ground := Ground.phase }, { on := 11, ground := Ground.phase }, { on := 12, ground := Ground.phase }, { on := 13, ground := Ground.phase }, { on := 14, ground := Ground.phase }, { on := 15, ground := Ground.phase }, { on := 16, ground := Ground.phase }], guard := none }) rfl (fun K hK => ?_) ?_
                  · rw [if_pos (by rfl)]
                    go_simp
                    refine hK.out _ _ ?_ (fun hHeld => ?_)
                    · (try dsimp only); ((first | with_reducible exact HB0.out | with_reducible exact SS.put (SS.below hB5) | with_reducible exact SS.below hB5 | with_reducible exact SS.below hB4 | with_reducible exact SS.below (below_drew (Joins.below_alloc1 _ _))))
                    clear hK K
                    have HB0 := Lib.hid hHeld
                    clear hHeld
                    try simp only [Act.put, List.setIfInBounds_toArray, List.set_cons_zero, List.set_cons_succ]
                    refine wpAnyH_done (by kernel_rfl) ?_ _
                    (go_wp2_with fail; go_meet; case rel => exact rs_torn HX8.out hB5 hown5 HLA.out HLB.out (by rw [HHL.out]; exact hin))
                  exact AllReadyH.nil
                exact AllReadyH.nil
              exact AllReadyH.nil
            exact AllReadyH.nil
          exact AllReadyH.nil
        case rest =>
          have HX9 := Lib.hid ((hcut.left' 0).stop' true)
          obtain ⟨us9, _, _, _, _, hrx9, _, _, hrr9, hbl9⟩ := hcut
          rw [List.length_set, HHL.out] at hrx9
          obtain ⟨us8, _, _, _, _, hrx8, _, _, hrr8, hbl8⟩ := HX9.out
          rw [List.length_set, HHL.out] at hrx8
          have HRX9 := Lib.hid hrx8
          have HRR9 := Lib.hid hrr8
          have HBL9 := Lib.hid hbl8
          have y2 := hrx9.cell (i := 2) rfl
          have y3 := hrx9.cell (i := 3) rfl
          have y4 := hrx9.free 2
          have y5 := hrx9.free 3
          clear hrx9 hrr9 hbl9 hrx8 hrr8 hbl8 g0 g1 e0 e1 e2
          go_wp2_with (first
            | (refine wpList_load_dsk rfl _ rfl _ _ (by rfl) rfl HRX9.out ?_)
            | (refine wpList_store_ags rfl _ _ _ rfl (w.heap.size + 1) [.slice (some ⟨gs, 0, none⟩) n cp, .slice none 0 0, .int .i64 0, .bool true] _ size25 (by rfl) rfl rfl HRR9.out (by rfl) HBL9.out (by omega) ?_; intro w9 hr hb hf))
          have hd := HX9.out.done (n := n) (by rw [List.length_set]; exact HHL.out.symm) hb hf
          have he : (⟨(performL d.secs (d.pend.take j)).set i (data.take 64 ++ x.drop 64), [], 0, true⟩ : Dsk) = haltD d j ((i : Int), data) := by
            have h1 := HHALT.out
            rw [HXD.out] at h1
            show _ = (⟨(haltD d j ((i : Int), data)).secs, [], 0, true⟩ : Dsk)
            rw [h1]
          rw [he] at hd
          exact bodyPost_ret (results_dsk Try.results31 _ w9 (w.heap.size + 1) _ rfl rfl _ rfl hr) rfl ⟨_, _, _, _, rfl, hd, hb⟩
end Go.Proofs.Ytlaaolbdadempaa

/- The reference's Sync, for every disk. -/
namespace Go.Proofs.Ytlaaolbdadempaa
open Go.RowKit

set_option maxHeartbeats 4000000 in
set_option maxRecDepth 100000 in
theorem refsync_refuse (d : Dsk) (v : Value) (w : World) (h : DRest w.heap.size w d v) (hr : runsB d = false) : Calls Try.prog 31 #[v] w (NewD w zeroD 40) := by
  obtain ⟨s, p, rfl, hs, hp⟩ := h
  have HV : Hid (∀ W, Below w.heap.size w W → Calls Try.prog 23 #[dskOf s p d] W fun e w' => e = .returned (.int .i64 (if validB d then 0 else 40)) ∧ Below W.heap.size W w') := Lib.hid (fun W hW => refcheck_call d _ W ⟨s, p, rfl, hs.keep hW, hp.keep hW⟩)
  obtain ⟨a, cap, rfl, hc1, hc2⟩ := hs.shape
  obtain ⟨a2, cap2, rfl, hc3, hc4⟩ := hp.shape
  have hst : validB d = true → d.stop = true := fun hv => by unfold runsB at hr; rw [hv] at hr; simpa using hr
  clear hs hp hr
  unfold dskOf dskCells at *
  have HRB := Lib.hid ((row_new w 25 [.slice a d.secs.length cap, .slice a2 d.pend.length cap2, .int .i64 d.left, .bool d.stop]).keep (Joins.below_alloc1 _ (.cells #[.slice none 0 0, .slice none 0 0, .int .i64 0, .bool false] 25)))
  have HRR := Lib.hid (row_new (w.alloc (.cells #[.slice a d.secs.length cap, .slice a2 d.pend.length cap2, .int .i64 d.left, .bool d.stop] 25)) 25 [.slice none 0 0, .slice none 0 0, .int .i64 0, .bool false])
  have HB0 := Lib.hid (below_two w (.cells #[.slice a d.secs.length cap, .slice a2 d.pend.length cap2, .int .i64 d.left, .bool d.stop] 25) (.cells #[.slice none 0 0, .slice none 0 0, .int .i64 0, .bool false] 25))
  rw [World.size_alloc] at HRR
  cases hv : validB d
  · rw [hv, if_neg (by decide)] at HV
    clear hv hst
    go_enter Try.func31, Try.ntmps31
    go_wp2_with fail
    refine (HV.out _ HB0.out).mono ?_
    rintro e w2 ⟨rfl, hb⟩
    have HB2 := Lib.hid (below_next HB0.out hb)
    have HRR2 := Lib.hid (HRR.out.keep hb)
    clear hb HRR HB0
    go_wp2_with (refine wpList_store_ags rfl 25 (.tmp 2) (.tmp 16) rfl (w.heap.size + 1) [.slice none 0 0, .slice none 0 0, .int .i64 0, .bool false] _ size25 (by rfl) rfl rfl HRR2.out (by rfl) HB2.out (by omega) ?_; intro w9 hr hb hf)
    exact bodyPost_ret (results_dsk Try.results31 _ w9 (w.heap.size + 1) _ rfl rfl _ rfl hr) rfl ⟨_, _, _, _, rfl, drest_zero _ _, hb⟩
  · have h1 := hst hv
    rw [hv, if_pos rfl] at HV
    rw [h1] at HV HRB HRR HB0 ⊢
    clear hv hst h1
    go_enter Try.func31, Try.ntmps31
    go_wp2_with fail
    refine (HV.out _ HB0.out).mono ?_
    rintro e w2 ⟨rfl, hb⟩
    have HB2 := Lib.hid (below_next HB0.out hb)
    have HRR2 := Lib.hid (HRR.out.keep hb)
    have HRB2 := Lib.hid (HRB.out.keep hb)
    have c3 := HRB2.out.cell (i := 3) rfl
    clear hb HRR HB0 HRB
    go_wp2_with (refine wpList_store_ags rfl 25 (.tmp 2) (.tmp 16) rfl (w.heap.size + 1) [.slice none 0 0, .slice none 0 0, .int .i64 0, .bool false] _ size25 (by rfl) rfl rfl HRR2.out (by rfl) HB2.out (by omega) ?_; intro w9 hr hb hf)
    exact bodyPost_ret (results_dsk Try.results31 _ w9 (w.heap.size + 1) _ rfl rfl _ rfl hr) rfl ⟨_, _, _, _, rfl, drest_zero _ _, hb⟩
theorem refsync_law {W : World} {d d' : Dsk} {s p : Value} {l k : Int} {b : Bool} (h : DRest W.heap.size W d (dv s p l b)) (hr : syncD d = (d', k)) : Calls Try.prog 31 #[dv s p l b] W (NewD W d' k) := by
  cases hv : runsB d
  · have h1 : syncD d = (zeroD, 40) := by unfold syncD; rw [hv]; rfl
    rw [h1] at hr
    injection hr with h2 h3
    subst h2 h3
    exact refsync_refuse d _ W h hv
  · have hR := Runs.of hv
    rcases sync_cases hR with ⟨h1, h2, h3⟩ | ⟨h1, h3, _⟩
    · rw [h3] at hr
      injection hr with h4 h5
      subst h4 h5
      have hl0 := hR.left.1
      obtain ⟨j, hj⟩ : ∃ j : Nat, d.left = j := ⟨d.left.toNat, by omega⟩
      rw [hj, Int.toNat_natCast]
      have hjl : j < d.pend.length := by omega
      have hq : d.pend[j]? = some d.pend[j] := List.getElem?_eq_getElem hjl
      rw [show d.pend.getD j (0, []) = d.pend[j] by simp [List.getD, hjl]]
      exact refsync_c d _ W h hR j d.pend[j] hj hjl hq
    · rw [h3] at hr
      injection hr with h4 h5
      subst h4 h5
      by_cases hl : d.left = -1
      · exact refsync_a d _ W h hR hl
      · exact refsync_b d _ W h hR (by omega)
end Go.Proofs.Ytlaaolbdadempaa

/- The reference's Sync, where it reads the disk: the records differ, the generations are used up, or nothing waits. -/
namespace Go.Proofs.Ytlaaolbdadempaa
open Go.RowKit

set_option maxHeartbeats 16000000 in
set_option maxRecDepth 100000 in
theorem refsy_differ (S : Nat → Prop) (j : Jnl) (v : Value) (d : Dsk) (s p : Value) (w : World) (sn : Nat) (h : NRestS S w j.recs v) (hd : DRestS S w d (dv s p d.left d.stop)) (hj : Mild j) (hjo : jokB j = true) (hrun : Runs d) (hpe : d.pend = []) (hjm : j.many = (d.secs.length : Int)) (hsy : j.synced = (sn : Int)) (hsl : sn ≤ j.recs.length) (hr : recsL d.secs ≠ j.recs.take sn) :
    Calls Try.prog 48 #[jv v j.many j.synced, dv s p d.left d.stop] w (SyAns S w (syncJ j d)) := by
  have HC1 : Hid (∀ W, Below w.heap.size w W → Calls Try.prog 44 #[jv v j.many j.synced] W fun e w' => e = .returned (.int .i64 0) ∧ Below W.heap.size W w') := Lib.hid (fun W hW => by
    have := jrefcheck_call j v W (h.rest.keep hW) hj; rwa [hjo, if_pos rfl] at this)
  have HC2 : Hid (∀ W, Below w.heap.size w W → Calls Try.prog 23 #[dv s p d.left d.stop] W fun e w' => e = .returned (.int .i64 0) ∧ Below W.heap.size W w') := Lib.hid (fun W hW => by
    have := refcheck_call d _ W (hd.rest.keep hW); rwa [hrun.valid, if_pos rfl] at this)
  have HH := Lib.hid h
  have HD := Lib.hid hd
  have hlgt := lastGen_lt d.secs
  have hmost := hrun.most
  have hst := hrun.stop
  obtain ⟨_, _, ⟨a, c, rfl⟩, ⟨a2, c2, rfl⟩⟩ := drest_left hd.rest
  have hsec : NRest w.heap.size w d.secs (.slice a d.secs.length c) := by
    obtain ⟨s', p', he, h1, h2⟩ := hd.rest
    unfold dv dskOf dskCells at he
    simp at he
    rw [he.1]; exact h1
  have HGN : Hid (∀ W, Below w.heap.size w W → Calls Try.prog 72 #[.slice a d.secs.length c] W fun e w' => e = .returned (.int .u64 ((lastGen d.secs + 1 : Nat) : Int)) ∧ Below W.heap.size W w') := Lib.hid (fun W hW => refgeneration_call d.secs _ W (hsec.keep hW) hrun.secs)
  have HRC : Hid (∀ W, Below w.heap.size w W → Calls Try.prog 61 #[.slice a d.secs.length c] W fun e w' => ∃ u, e = .returned u ∧ NRestS (fun b => W.heap.size ≤ b) w' (recsL d.secs) u ∧ Below W.heap.size W w') := Lib.hid (fun W hW => refrecords_call d.secs _ W (hsec.keep hW) hrun.secs hmost)
  obtain ⟨ja, jc, rfl, hjc, hjc2⟩ := h.rest.shape
  have HSR : Hid (∀ W u, Below w.heap.size w W → NRest W.heap.size W (recsL d.secs) u → Calls Try.prog 49 #[u, .slice ja sn jc] W fun e w' => e = .returned (.bool (decide (recsL d.secs = j.recs.take sn))) ∧ Below W.heap.size W w') := Lib.hid (fun W u hW hu =>
    samerec_call _ _ u _ W hu ((nrest_take h.rest sn hsl).keep hW))
  rw [decide_eq_false hr] at HSR
  have HRES : Hid (syncJ j d = (zeroJ, zeroD, 50)) := Lib.hid (by
    have hcd : chkD d = 0 := by unfold chkD; simp [hrun.valid, hrun.stop, hpe]
    have hck : chkB j d = 50 := by unfold chkB; rw [if_pos hjo, if_neg (by simp [hcd]), if_neg (by simp [hjm]), if_neg (by rw [hsy, Int.toNat_natCast]; exact hr)]
    unfold syncJ; rw [if_pos (by rw [hck]; decide), hck])
  unfold jv dv at *
  obtain ⟨jn, hjn⟩ : ∃ jn, jn = j.recs.length := ⟨_, rfl⟩
  have HJN := Lib.hid hjn
  rw [← hjn] at HC1 HH hsl hjc2 ⊢
  obtain ⟨n, hn⟩ : ∃ n, n = d.secs.length := ⟨_, rfl⟩
  have HN := Lib.hid hn
  rw [← hn] at HC2 HD HGN HRC hjm hmost ⊢
  have hm0 : d.pend.length = 0 := by rw [hpe]; rfl
  rw [hm0] at HC2 HD ⊢
  rw [hst] at HC2 HD ⊢
  rw [hsy, hjm] at HC1 ⊢
  obtain ⟨lf, hlf⟩ : ∃ lf, lf = d.left := ⟨_, rfl⟩
  have HLF := Lib.hid hlf
  rw [← hlf] at HC2 HD ⊢
  obtain ⟨lg, hlg⟩ : ∃ lg, lg = lastGen d.secs := ⟨_, rfl⟩
  have HLG := Lib.hid hlg
  rw [← hlg] at HGN hlgt
  obtain ⟨g, hg⟩ : ∃ g, g = lg + 1 := ⟨_, rfl⟩
  rw [← hg] at HGN
  have HG := Lib.hid hg
  have HS := Lib.hid (sy4_new w [.slice ja jn jc, .int .i64 (n : Int), .int .i64 (sn : Int)] [.slice a n c, .slice a2 0 c2, .int .i64 lf, .bool false])
  unfold zJc zDc at HS
  have hsi : (sn : Int) ≤ (jc : Int) := by omega
  have hsj : (sn : Int) ≤ (jn : Int) := by omega
  clear h hd hj hjo hrun hpe hst hsec hr hjn hn hm0 hlf hlg hg
  go_enter Try.func48, Try.ntmps48
  go_upto_region 12 with ((first
    | (go_at_call 44; refine (HC1.out _ HS.out.bel).mono ?_; rintro e w2 ⟨rfl, hb⟩; replace HS := Lib.hid (HS.out.keep hb); have x0 := HS.out.r3.cell (i := 0) rfl; have x1 := HS.out.r3.cell (i := 1) rfl; have x2 := HS.out.r3.cell (i := 2) rfl; have x3 := HS.out.r3.cell (i := 3) rfl; clear hb)
    | (go_at_call 23; refine (HC2.out _ HS.out.bel).mono ?_; rintro e w3 ⟨rfl, hb⟩; replace HS := Lib.hid (HS.out.keep hb); clear x0 x1 x2 x3; have x0 := HS.out.r3.cell (i := 0) rfl; have x1 := HS.out.r3.cell (i := 1) rfl; have x3 := HS.out.r3.cell (i := 3) rfl; have j1 := HS.out.r2.cell (i := 1) rfl; clear hb)
    | (go_at_call 72; refine (HGN.out _ HS.out.bel).mono ?_; rintro e w4 ⟨rfl, hb⟩; replace HS := Lib.hid (HS.out.keep hb); clear hb x0 x1 x3 j1)))
  have f0 := HS.out.r3.cell (i := 0) rfl
  have g0 := HS.out.r2.cell (i := 0) rfl
  have g2 := HS.out.r2.cell (i := 2) rfl
  refine' cut3v (F := fun (_ : Option Addr) (_ : Nat) W => Below w4.heap.size w4 W) _ ?rr ?kk
  case rr =>
    intro K
    first | go_region_law (first
      | (go_simp; go_at_call 61; refine (HRC.out _ (below_drew HS.out.bel)).mono ?_; rintro e wB ⟨u, rfl, hu, hbB⟩; obtain ⟨ua, uc, rfl, _, _⟩ := hu.rest.shape; have hBB : Below w4.heap.size w4 wB := below_undrew hbB; have e0 := HS.out.r2.later hBB (i := 0) rfl; have e2 := HS.out.r2.later hBB (i := 2) rfl)
      | (go_simp; go_at_call 49; refine (HSR.out wB _ (below_next HS.out.bel hBB) hu.rest).mono ?_; rintro e wC ⟨rfl, hbC⟩; have hBC : Below w4.heap.size w4 wC := below_next hBB hbC)) | fail
    all_goals exact K ua uc _ hBC
  case kk =>
    intro ua uc W hW
    replace HS := Lib.hid (HS.out.keep hW)
    clear f0 g0 g2 hW HC1 HC2 HGN HRC HSR
    go_wp2_with (first
      | (refine wpList_store_ags rfl 55 (.tmp 4) _ rfl (w.heap.size + 2) zJc _ size55 (by rfl) rfl rfl HS.out.r4 (by rfl) HS.out.bel (by omega) ?_; intro w8 hr hb hf; have HR4 := Lib.hid hr; have HR5 := Lib.hid (HS.out.r5.same (hf _ (by omega))); have HB := Lib.hid hb; clear hr hb hf)
      | (refine wpList_store_ags rfl 25 (.tmp 5) _ rfl (w.heap.size + 3) zDc _ size25 (by rfl) rfl rfl HR5.out (by rfl) HB.out (by omega) ?_; intro w9 hr hb hf; replace HR4 := Lib.hid (HR4.out.same (hf _ (by omega))); replace HR5 := Lib.hid hr; replace HB := Lib.hid hb; clear hr hb hf))
    refine bodyPost_ret (results_sy Try.results48 _ w9 (w.heap.size + 2) (w.heap.size + 3) _ _ rfl rfl rfl rfl _ rfl HR4.out HR5.out) rfl ?_
    rw [HRES.out]
    unfold SyAns
    exact ⟨_, _, _, _, _, rfl, nrests_nil _ _, drests_zero _ _, HB.out⟩
set_option maxHeartbeats 16000000 in
set_option maxRecDepth 100000 in
theorem refsy_last (S : Nat → Prop) (j : Jnl) (v : Value) (d : Dsk) (s p : Value) (w : World) (sn : Nat) (h : NRestS S w j.recs v) (hd : DRestS S w d (dv s p d.left d.stop)) (hj : Mild j) (hjo : jokB j = true) (hrun : Runs d) (hpe : d.pend = []) (hjm : j.many = (d.secs.length : Int)) (hsy : j.synced = (sn : Int)) (hsl : sn ≤ j.recs.length) (hr : recsL d.secs = j.recs.take sn) (hl : lastGen d.secs = 4294967295) :
    Calls Try.prog 48 #[jv v j.many j.synced, dv s p d.left d.stop] w (SyAns S w (syncJ j d)) := by
  have HC1 : Hid (∀ W, Below w.heap.size w W → Calls Try.prog 44 #[jv v j.many j.synced] W fun e w' => e = .returned (.int .i64 0) ∧ Below W.heap.size W w') := Lib.hid (fun W hW => by
    have := jrefcheck_call j v W (h.rest.keep hW) hj; rwa [hjo, if_pos rfl] at this)
  have HC2 : Hid (∀ W, Below w.heap.size w W → Calls Try.prog 23 #[dv s p d.left d.stop] W fun e w' => e = .returned (.int .i64 0) ∧ Below W.heap.size W w') := Lib.hid (fun W hW => by
    have := refcheck_call d _ W (hd.rest.keep hW); rwa [hrun.valid, if_pos rfl] at this)
  have HH := Lib.hid h
  have HD := Lib.hid hd
  have hlgt := lastGen_lt d.secs
  have hmost := hrun.most
  have hst := hrun.stop
  obtain ⟨_, _, ⟨a, c, rfl⟩, ⟨a2, c2, rfl⟩⟩ := drest_left hd.rest
  have hsec : NRest w.heap.size w d.secs (.slice a d.secs.length c) := by
    obtain ⟨s', p', he, h1, h2⟩ := hd.rest
    unfold dv dskOf dskCells at he
    simp at he
    rw [he.1]; exact h1
  have HGN : Hid (∀ W, Below w.heap.size w W → Calls Try.prog 72 #[.slice a d.secs.length c] W fun e w' => e = .returned (.int .u64 ((lastGen d.secs + 1 : Nat) : Int)) ∧ Below W.heap.size W w') := Lib.hid (fun W hW => refgeneration_call d.secs _ W (hsec.keep hW) hrun.secs)
  have HRC : Hid (∀ W, Below w.heap.size w W → Calls Try.prog 61 #[.slice a d.secs.length c] W fun e w' => ∃ u, e = .returned u ∧ NRestS (fun b => W.heap.size ≤ b) w' (recsL d.secs) u ∧ Below W.heap.size W w') := Lib.hid (fun W hW => refrecords_call d.secs _ W (hsec.keep hW) hrun.secs hmost)
  obtain ⟨ja, jc, rfl, hjc, hjc2⟩ := h.rest.shape
  have HSR : Hid (∀ W u, Below w.heap.size w W → NRest W.heap.size W (recsL d.secs) u → Calls Try.prog 49 #[u, .slice ja sn jc] W fun e w' => e = .returned (.bool (decide (recsL d.secs = j.recs.take sn))) ∧ Below W.heap.size W w') := Lib.hid (fun W u hW hu =>
    samerec_call _ _ u _ W hu ((nrest_take h.rest sn hsl).keep hW))
  rw [decide_eq_true hr] at HSR
  have hok : JOk j d sn := ⟨hrun, hpe, hjm, hsy, hsl, by unfold jokB at hjo; simp at hjo; omega, hr⟩
  have HRES : Hid (syncJ j d = (zeroJ, zeroD, 50)) := Lib.hid (by rw [syncJ_eq hok, if_pos hl])
  unfold jv dv at *
  obtain ⟨jn, hjn⟩ : ∃ jn, jn = j.recs.length := ⟨_, rfl⟩
  have HJN := Lib.hid hjn
  rw [← hjn] at HC1 HH hsl hjc2 ⊢
  obtain ⟨n, hn⟩ : ∃ n, n = d.secs.length := ⟨_, rfl⟩
  have HN := Lib.hid hn
  rw [← hn] at HC2 HD HGN HRC hjm hmost ⊢
  have hm0 : d.pend.length = 0 := by rw [hpe]; rfl
  rw [hm0] at HC2 HD ⊢
  rw [hst] at HC2 HD ⊢
  rw [hsy, hjm] at HC1 ⊢
  obtain ⟨lf, hlf⟩ : ∃ lf, lf = d.left := ⟨_, rfl⟩
  have HLF := Lib.hid hlf
  rw [← hlf] at HC2 HD ⊢
  obtain ⟨lg, hlg⟩ : ∃ lg, lg = lastGen d.secs := ⟨_, rfl⟩
  have HLG := Lib.hid hlg
  rw [← hlg] at HGN hlgt hl
  obtain ⟨g, hg⟩ : ∃ g, g = lg + 1 := ⟨_, rfl⟩
  rw [← hg] at HGN
  have HG := Lib.hid hg
  have HS := Lib.hid (sy4_new w [.slice ja jn jc, .int .i64 (n : Int), .int .i64 (sn : Int)] [.slice a n c, .slice a2 0 c2, .int .i64 lf, .bool false])
  unfold zJc zDc at HS
  have hsi : (sn : Int) ≤ (jc : Int) := by omega
  have hsj : (sn : Int) ≤ (jn : Int) := by omega
  have hgi : (4294967295 : Int) < (g : Int) := by omega
  clear h hd hj hjo hrun hpe hst hsec hr hjn hn hm0 hlf hlg hg hl hok
  go_enter Try.func48, Try.ntmps48
  go_upto_region 12 with ((first
    | (go_at_call 44; refine (HC1.out _ HS.out.bel).mono ?_; rintro e w2 ⟨rfl, hb⟩; replace HS := Lib.hid (HS.out.keep hb); have x0 := HS.out.r3.cell (i := 0) rfl; have x1 := HS.out.r3.cell (i := 1) rfl; have x2 := HS.out.r3.cell (i := 2) rfl; have x3 := HS.out.r3.cell (i := 3) rfl; clear hb)
    | (go_at_call 23; refine (HC2.out _ HS.out.bel).mono ?_; rintro e w3 ⟨rfl, hb⟩; replace HS := Lib.hid (HS.out.keep hb); clear x0 x1 x2 x3; have x0 := HS.out.r3.cell (i := 0) rfl; have x1 := HS.out.r3.cell (i := 1) rfl; have x3 := HS.out.r3.cell (i := 3) rfl; have j1 := HS.out.r2.cell (i := 1) rfl; clear hb)
    | (go_at_call 72; refine (HGN.out _ HS.out.bel).mono ?_; rintro e w4 ⟨rfl, hb⟩; replace HS := Lib.hid (HS.out.keep hb); clear hb x0 x1 x3 j1)))
  have f0 : ∀ W, Below w4.heap.size w4 W → W.cell? ⟨w.heap.size + 1, 0, none⟩ = some (.slice a n c) := fun W hW => HS.out.r3.later hW (i := 0) rfl
  have g0 : ∀ W, Below w4.heap.size w4 W → W.cell? ⟨w.heap.size, 0, none⟩ = some (.slice ja jn jc) := fun W hW => HS.out.r2.later hW (i := 0) rfl
  have g2 : ∀ W, Below w4.heap.size w4 W → W.cell? ⟨w.heap.size, 2, none⟩ = some (.int .i64 (sn : Int)) := fun W hW => HS.out.r2.later hW (i := 2) rfl
  refine' cut3v (F := fun (_ : Option Addr) (_ : Nat) W => Below w4.heap.size w4 W) _ ?rr ?kk
  case rr =>
    intro K
    go_region_held3 (fun W => Below w4.heap.size w4 W) (first | assumption | exact below_drew (Below.refl _ _) | exact below_next (by assumption) (by assumption)) (first
      | (go_at_call 61; refine (HRC.out _ (by first | exact below_drew HS.out.bel | exact HS.out.bel)).mono ?_; rintro e wB ⟨u, rfl, hu, hbB⟩; obtain ⟨ua, uc, rfl, _, _⟩ := hu.rest.shape; have hBB : Below w4.heap.size w4 wB := below_next (by first | exact below_drew (Below.refl _ _) | exact Below.refl _ _) hbB)
      | (go_at_call 49; refine (HSR.out _ _ (below_next HS.out.bel hBB) hu.rest).mono ?_; rintro e wC ⟨rfl, hbC⟩; have hBC : Below w4.heap.size w4 wC := below_next hBB hbC))
    all_goals exact K ua uc _ hBC
  case kk =>
    intro ua uc W hW
    replace HS := Lib.hid (HS.out.keep hW)
    clear f0 g0 g2 hW HC1 HC2 HGN HRC HSR
    go_wp2_with (first
      | (refine wpList_store_ags rfl 55 (.tmp 4) _ rfl (w.heap.size + 2) zJc _ size55 (by rfl) rfl rfl HS.out.r4 (by rfl) HS.out.bel (by omega) ?_; intro w8 hr hb hf; have HR4 := Lib.hid hr; have HR5 := Lib.hid (HS.out.r5.same (hf _ (by omega))); have HB := Lib.hid hb; clear hr hb hf)
      | (refine wpList_store_ags rfl 25 (.tmp 5) _ rfl (w.heap.size + 3) zDc _ size25 (by rfl) rfl rfl HR5.out (by rfl) HB.out (by omega) ?_; intro w9 hr hb hf; replace HR4 := Lib.hid (HR4.out.same (hf _ (by omega))); replace HR5 := Lib.hid hr; replace HB := Lib.hid hb; clear hr hb hf))
    refine bodyPost_ret (results_sy Try.results48 _ w9 (w.heap.size + 2) (w.heap.size + 3) _ _ rfl rfl rfl rfl _ rfl HR4.out HR5.out) rfl ?_
    rw [HRES.out]
    unfold SyAns
    exact ⟨_, _, _, _, _, rfl, nrests_nil _ _, drests_zero _ _, HB.out⟩
end Go.Proofs.Ytlaaolbdadempaa

/- The reference's Sync, where nothing waits. -/
namespace Go.Proofs.Ytlaaolbdadempaa
open Go.RowKit

set_option maxHeartbeats 16000000 in
set_option maxRecDepth 100000 in
theorem refsy_none (S : Nat → Prop) (j : Jnl) (v : Value) (d : Dsk) (s p : Value) (w : World) (sn : Nat) (h : NRestS S w j.recs v) (hd : DRestS S w d (dv s p d.left d.stop)) (hj : Mild j) (hjo : jokB j = true) (hrun : Runs d) (hpe : d.pend = []) (hjm : j.many = (d.secs.length : Int)) (hsy : j.synced = (sn : Int)) (hsl : sn ≤ j.recs.length) (hr : recsL d.secs = j.recs.take sn) (hl : lastGen d.secs ≠ 4294967295) (hno : sn = j.recs.length) :
    Calls Try.prog 48 #[jv v j.many j.synced, dv s p d.left d.stop] w (SyAns S w (syncJ j d)) := by
  have HC1 : Hid (∀ W, Below w.heap.size w W → Calls Try.prog 44 #[jv v j.many j.synced] W fun e w' => e = .returned (.int .i64 0) ∧ Below W.heap.size W w') := Lib.hid (fun W hW => by
    have := jrefcheck_call j v W (h.rest.keep hW) hj; rwa [hjo, if_pos rfl] at this)
  have HC2 : Hid (∀ W, Below w.heap.size w W → Calls Try.prog 23 #[dv s p d.left d.stop] W fun e w' => e = .returned (.int .i64 0) ∧ Below W.heap.size W w') := Lib.hid (fun W hW => by
    have := refcheck_call d _ W (hd.rest.keep hW); rwa [hrun.valid, if_pos rfl] at this)
  have HH := Lib.hid h
  have HD := Lib.hid hd
  have hlgt := lastGen_lt d.secs
  have hmost := hrun.most
  have hst := hrun.stop
  obtain ⟨_, _, ⟨a, c, rfl⟩, ⟨a2, c2, rfl⟩⟩ := drest_left hd.rest
  have hsec : NRest w.heap.size w d.secs (.slice a d.secs.length c) := by
    obtain ⟨s', p', he, h1, h2⟩ := hd.rest
    unfold dv dskOf dskCells at he
    simp at he
    rw [he.1]; exact h1
  have HGN : Hid (∀ W, Below w.heap.size w W → Calls Try.prog 72 #[.slice a d.secs.length c] W fun e w' => e = .returned (.int .u64 ((lastGen d.secs + 1 : Nat) : Int)) ∧ Below W.heap.size W w') := Lib.hid (fun W hW => refgeneration_call d.secs _ W (hsec.keep hW) hrun.secs)
  have HRC : Hid (∀ W, Below w.heap.size w W → Calls Try.prog 61 #[.slice a d.secs.length c] W fun e w' => ∃ u, e = .returned u ∧ NRestS (fun b => W.heap.size ≤ b) w' (recsL d.secs) u ∧ Below W.heap.size W w') := Lib.hid (fun W hW => refrecords_call d.secs _ W (hsec.keep hW) hrun.secs hmost)
  obtain ⟨ja, jc, rfl, hjc, hjc2⟩ := h.rest.shape
  have HSR : Hid (∀ W u, Below w.heap.size w W → NRest W.heap.size W (recsL d.secs) u → Calls Try.prog 49 #[u, .slice ja sn jc] W fun e w' => e = .returned (.bool (decide (recsL d.secs = j.recs.take sn))) ∧ Below W.heap.size W w') := Lib.hid (fun W u hW hu =>
    samerec_call _ _ u _ W hu ((nrest_take h.rest sn hsl).keep hW))
  rw [decide_eq_true hr] at HSR
  have hok : JOk j d sn := ⟨hrun, hpe, hjm, hsy, hsl, by unfold jokB at hjo; simp at hjo; omega, hr⟩
  have HRES : Hid (syncJ j d = (j, d, 0)) := Lib.hid (by rw [syncJ_eq hok, if_neg hl, if_pos (by rw [hno]; simp)])
  unfold jv dv at *
  obtain ⟨jn, hjn⟩ : ∃ jn, jn = j.recs.length := ⟨_, rfl⟩
  have HJN := Lib.hid hjn
  rw [← hjn] at HC1 HH hsl hjc2 ⊢
  obtain ⟨n, hn⟩ : ∃ n, n = d.secs.length := ⟨_, rfl⟩
  have HN := Lib.hid hn
  rw [← hn] at HC2 HD HGN HRC hjm hmost ⊢
  have hm0 : d.pend.length = 0 := by rw [hpe]; rfl
  rw [hm0] at HC2 HD ⊢
  rw [hst] at HC2 HD ⊢
  rw [hsy, hjm] at HC1 ⊢
  obtain ⟨lf, hlf⟩ : ∃ lf, lf = d.left := ⟨_, rfl⟩
  have HLF := Lib.hid hlf
  rw [← hlf] at HC2 HD ⊢
  obtain ⟨lg, hlg⟩ : ∃ lg, lg = lastGen d.secs := ⟨_, rfl⟩
  have HLG := Lib.hid hlg
  rw [← hlg] at HGN hlgt hl
  obtain ⟨g, hg⟩ : ∃ g, g = lg + 1 := ⟨_, rfl⟩
  rw [← hg] at HGN
  have HG := Lib.hid hg
  have HS := Lib.hid (sy4_new w [.slice ja jn jc, .int .i64 (n : Int), .int .i64 (sn : Int)] [.slice a n c, .slice a2 0 c2, .int .i64 lf, .bool false])
  unfold zJc zDc at HS
  have hsi : (sn : Int) ≤ (jc : Int) := by omega
  have hsj : (sn : Int) ≤ (jn : Int) := by omega
  have hgi : ¬ (4294967295 : Int) < (g : Int) := by omega
  rw [← hjn] at hno
  subst hno
  have HJM := Lib.hid hjm
  have HSY := Lib.hid hsy
  clear h hd hj hjo hrun hpe hst hsec hr hjn hn hm0 hlf hlg hg hl hok hjm hsy
  go_enter Try.func48, Try.ntmps48
  go_upto_region 12 with ((first
    | (go_at_call 44; refine (HC1.out _ HS.out.bel).mono ?_; rintro e w2 ⟨rfl, hb⟩; replace HS := Lib.hid (HS.out.keep hb); have x0 := HS.out.r3.cell (i := 0) rfl; have x1 := HS.out.r3.cell (i := 1) rfl; have x2 := HS.out.r3.cell (i := 2) rfl; have x3 := HS.out.r3.cell (i := 3) rfl; clear hb)
    | (go_at_call 23; refine (HC2.out _ HS.out.bel).mono ?_; rintro e w3 ⟨rfl, hb⟩; replace HS := Lib.hid (HS.out.keep hb); clear x0 x1 x2 x3; have x0 := HS.out.r3.cell (i := 0) rfl; have x1 := HS.out.r3.cell (i := 1) rfl; have x3 := HS.out.r3.cell (i := 3) rfl; have j1 := HS.out.r2.cell (i := 1) rfl; clear hb)
    | (go_at_call 72; refine (HGN.out _ HS.out.bel).mono ?_; rintro e w4 ⟨rfl, hb⟩; replace HS := Lib.hid (HS.out.keep hb); clear hb x0 x1 x3 j1)))
  have f0 : ∀ W, Below w4.heap.size w4 W → W.cell? ⟨w.heap.size + 1, 0, none⟩ = some (.slice a n c) := fun W hW => HS.out.r3.later hW (i := 0) rfl
  have g0 : ∀ W, Below w4.heap.size w4 W → W.cell? ⟨w.heap.size, 0, none⟩ = some (.slice ja sn jc) := fun W hW => HS.out.r2.later hW (i := 0) rfl
  have g2 : ∀ W, Below w4.heap.size w4 W → W.cell? ⟨w.heap.size, 2, none⟩ = some (.int .i64 (sn : Int)) := fun W hW => HS.out.r2.later hW (i := 2) rfl
  refine' cut3v (F := fun (_ : Option Addr) (_ : Nat) W => Below w4.heap.size w4 W) _ ?rr ?kk
  case rr =>
    intro K
    go_region_held3 (fun W => Below w4.heap.size w4 W) (first | assumption | exact below_drew (Below.refl _ _) | exact below_next (by assumption) (by assumption)) (first
      | (go_at_call 61; refine (HRC.out _ (by first | exact below_drew HS.out.bel | exact HS.out.bel)).mono ?_; rintro e wB ⟨u, rfl, hu, hbB⟩; obtain ⟨ua, uc, rfl, _, _⟩ := hu.rest.shape; have hBB : Below w4.heap.size w4 wB := below_next (by first | exact below_drew (Below.refl _ _) | exact Below.refl _ _) hbB)
      | (go_at_call 49; refine (HSR.out _ _ (below_next HS.out.bel hBB) hu.rest).mono ?_; rintro e wC ⟨rfl, hbC⟩; have hBC : Below w4.heap.size w4 wC := below_next hBB hbC))
    all_goals exact K ua uc _ hBC
  case kk =>
    intro ua uc W hW
    replace HS := Lib.hid (HS.out.keep hW)
    clear f0 g0 g2 hW HC1 HC2 HGN HRC HSR
    have a0 := HS.out.r2.cell (i := 0) rfl
    have a1 := HS.out.r2.cell (i := 1) rfl
    have a2' := HS.out.r2.cell (i := 2) rfl
    go_upto_region 15 with (fail)
    have b0 := HS.out.r3.cell (i := 0) rfl
    have b1 := HS.out.r3.cell (i := 1) rfl
    have b2 := HS.out.r3.cell (i := 2) rfl
    have b3 := HS.out.r3.cell (i := 3) rfl
    have q0 := HS.out.r4.cell (i := 0) rfl
    have q1 := HS.out.r4.cell (i := 1) rfl
    have q2 := HS.out.r4.cell (i := 2) rfl
    have k0 := HS.out.r4.free 0
    have k1 := HS.out.r4.free 1
    have k2 := HS.out.r4.free 2
    have u0 := HS.out.r5.cell (i := 0) rfl
    have u1 := HS.out.r5.cell (i := 1) rfl
    have u2 := HS.out.r5.cell (i := 2) rfl
    have u3 := HS.out.r5.cell (i := 3) rfl
    have v0 := HS.out.r5.free 0
    have v1 := HS.out.r5.free 1
    have v2 := HS.out.r5.free 2
    have v3 := HS.out.r5.free 3
    refine' cut1 (F := fun W => ∃ x y0 y1 y2, x = .slice y0 y1 y2 ∧ NRestS S w j.recs x ∧ Sy4 w [x, .int .i64 (n : Int), .int .i64 (sn : Int)] [.slice a n c, .slice a2 0 c2, .int .i64 lf, .bool false] [x, .int .i64 (n : Int), .int .i64 (sn : Int)] [.slice a n c, .slice a2 0 c2, .int .i64 lf, .bool false] W) _ ?r9 ?k9
    case r9 =>
      intro K
      go_region_law (fail)
      all_goals
        obtain ⟨WZ, hWZ⟩ : ∃ WZ, WZ = (box4 (box3 W (w.heap.size + 1 + 1) (.slice ja sn jc) (.int .i64 (n : Int)) (.int .i64 (sn : Int))) (w.heap.size + 1 + 1 + 1) (.slice a n c) (.slice a2 0 c2) lf false).drew := ⟨_, rfl⟩
        have hF : Sy4 w [.slice ja sn jc, .int .i64 (n : Int), .int .i64 (sn : Int)] [.slice a n c, .slice a2 0 c2, .int .i64 lf, .bool false] [.slice ja sn jc, .int .i64 (n : Int), .int .i64 (sn : Int)] [.slice a n c, .slice a2 0 c2, .int .i64 lf, .bool false] WZ := by rw [hWZ]; exact ((HS.out.over4 _ _ _).over5 _ _ _ _).drew
        unfold box4 box3 at hWZ
        rw [← hWZ]
        exact K WZ ⟨_, _, _, _, rfl, HH.out, hF⟩
    case k9 =>
      rintro W9 ⟨_, y0, y1, y2, rfl, hx, hW⟩
      clear HS a0 a1 a2' b0 b1 b2 b3 q0 q1 q2 k0 k1 k2 u0 u1 u2 u3 v0 v1 v2 v3
      go_wp2_with fail
      refine bodyPost_ret (results_sy Try.results48 _ W9 (w.heap.size + 2) (w.heap.size + 3) _ _ rfl rfl rfl rfl (.int .i64 0) rfl hW.r4 hW.r5) rfl ?_
      rw [HRES.out]
      unfold SyAns
      refine ⟨_, _, _, _, _, ?_, hx.exts hW.bel, HD.out.exts hW.bel, hW.bel⟩
      rw [HJM.out, HSY.out]; rfl
end Go.Proofs.Ytlaaolbdadempaa
