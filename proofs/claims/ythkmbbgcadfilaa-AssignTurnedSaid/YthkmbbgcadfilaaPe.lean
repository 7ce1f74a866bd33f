/- columnSets: memory of lists of sets, and its walk. -/
import Derived.Test.YthkmbbgcadfilaaPd
import Derived.Laws.ShiftsVarLaws
namespace Go.Proofs.Ythkmbbgcadfilaa
open Go.RowKit Go.Shelf

/-- the columns of a row below m, as bits -/
def rowU (r : Nat → Int) : Nat → Nat
  | 0 => 0
  | j + 1 => if r j = -1 then rowU r j else rowU r j ||| 2 ^ j
theorem rowU_lt (r : Nat → Int) : ∀ m, rowU r m < 2 ^ m
  | 0 => by simp [rowU]
  | j + 1 => by
    have ih := rowU_lt r j
    have h2 : 2 ^ j < 2 ^ (j + 1) := by rw [Nat.pow_succ]; have := Nat.two_pow_pos j; omega
    unfold rowU
    split
    · omega
    · exact Nat.or_lt_two_pow (by omega) h2
theorem rowU_bit (r : Nat → Int) : ∀ m j, (rowU r m).testBit j = decide (j < m ∧ r j ≠ -1)
  | 0, j => by simp [rowU]
  | m + 1, j => by
    have ih := rowU_bit r m j
    unfold rowU
    by_cases h : r m = -1
    · rw [if_pos h, ih]
      by_cases e : j = m
      · subst e; simp [h]
      · have : (j < m + 1) ↔ (j < m) := by omega
        simp [this]
    · rw [if_neg h, Nat.testBit_or, ih, Nat.testBit_two_pow]
      by_cases e : j = m
      · subst e; simp [h]
      · have e2 : ¬ m = j := fun h => e h.symm
        have : (j < m + 1) ↔ (j < m) := by omega
        simp [this, e2]
theorem Try.infoU : (Try.prog.info? 60).map (fun i => (i.zero, i.size, i.bytes)) = some (some (.int .u64 0), 1, 8) := by kernel_rfl
abbrev unums (L : List Nat) : List Value := L.map (fun x : Nat => Value.int .u64 (x : Int))
/-- a list of sets of the call's own -/
def UBuf (w : World) (v : Value) (zs : List Nat) : Prop := w.ownsRow 0 60 1 v zs.length (unums zs)
theorem ubuf_nil (w : World) : UBuf w (.slice none 0 0) [] := World.ownsRow_nil _ _ _ _
theorem UBuf.keep {w w' : World} {v : Value} {zs : List Nat} (h : UBuf w v zs) (hb : Below w.heap.size w w') : UBuf w' v zs := owns_below h hb
theorem unums_one (ys : List Nat) : ∀ u ∈ unums ys, u.oneCell' = true := fun u hu => by
  obtain ⟨y, _, rfl⟩ := List.mem_map.1 hu; rfl
theorem wpList_uints {w : World} {ops : Array Oper} {rest : List Oper} {o : Oper} {a : Act} {Q : Exit → Act → World → Prop} (hgd : o.guard = none) (s x : Operand)
    (ho : o.op = .call { callee := .builtin .append, args := #[s, x], argTypes := #[55, 55] })
    (v : Value) (zs : List Nat) (hs : a.eval s = v) (hb : UBuf w v zs) (g : Nat) (y : Nat) (hx : a.eval x = .slice (some ⟨g, 0, none⟩) 1 1) (hr : Row w g 60 [.int .u64 (y : Int)]) (hlen : zs.length + 1 ≤ 1000000)
    (h : ∀ v' w', UBuf w' v' (zs ++ [y]) → Wrote w w' v v' → wpList Try.prog ops Q rest (a.put o.dst v') w') : wpList Try.prog ops Q (o :: rest) a w := by
  obtain ⟨i0, hi, hz⟩ := info_parts Try.infoU
  simp only [Prod.mk.injEq] at hz
  obtain ⟨hz0, hz1, hz2⟩ := hz
  refine wpList_append_mine w hgd s x 55 ho 60 i0 _ 1 8 Try.underlying55 hi hz0 hz1 hz2 rfl (by decide) v zs.length _ hs hb ⟨g, 0, none⟩ 1 1 [.int .u64 (y : Int)] hx (by simp) (fun j u hj => ?_) (fun u hu => by simp at hu; rw [hu]; rfl) (by unfold maxLen; omega) (by omega) fun v' w' h1 h2 => h v' w' ?_ h2
  · rw [Addr.add_lit, Nat.zero_add]; exact hr.cell hj
  · unfold UBuf; simpa using h1
theorem UBuf.shape {w : World} {v : Value} {zs : List Nat} (h : UBuf w v zs) : ∃ a cap, v = .slice a zs.length cap ∧ zs.length ≤ maxLen ∧ (∀ k, v.ownBlock = some k → k < w.heap.size) ∧ ∀ k, k < zs.length → ∃ g, a = some ⟨g, 0, none⟩ ∧ w.cell? ⟨g, k, none⟩ = some (.int .u64 ((zs.getD k 0 : Nat) : Int)) := by
  rcases h.2 with ⟨rfl, h0⟩ | ⟨g, cap, cur, rfl, _, hg, h1, h2, _, _⟩
  · exact ⟨none, 0, by rw [h0], by unfold maxLen; omega, fun k hk => (by cases hk), fun k hk => by omega⟩
  · refine ⟨_, cap, rfl, by omega, fun k hk => (World.ownsRow.lt h k hk).2, fun k hk => ⟨g, rfl, ?_⟩⟩
    have := World.ownsRow.cells h (g := g) rfl k (.int .u64 ((zs.getD k 0 : Nat) : Int)) (by simp [unums, hk])
    rw [Addr.add_lit, Nat.zero_add] at this
    exact this
def setsN (C : List (List Int)) (m k : Nat) : List Nat := (List.range k).map (fun i => rowU (cst C i) m)
theorem setsN_len (C : List (List Int)) (m k : Nat) : (setsN C m k).length = k := by simp [setsN]
theorem setsN_succ (C : List (List Int)) (m k : Nat) : setsN C m (k + 1) = setsN C m k ++ [rowU (cst C k) m] := by
  unfold setsN; rw [List.range_succ, List.map_append]; rfl
theorem setsN_get {C : List (List Int)} {m k i : Nat} (h : i < k) : (setsN C m k).getD i 0 = rowU (cst C i) m := by
  unfold setsN
  rw [List.getD_eq_getElem?_getD, List.getElem?_map, List.getElem?_range h]; rfl
theorem pow16 {j : Nat} (h : j < 16) : 2 ^ j ≤ 32768 := by
  have := Nat.pow_le_pow_right (n := 2) (by decide) (show j ≤ 15 by omega)
  exact this
theorem or_pow {z j : Nat} (hz : z < 65536) (hj : j < 16) : bits BinOp.or IntKind.u64 (z : Int) (IntKind.u64.wrap (2 ^ j)) = ((z ||| 2 ^ j : Nat) : Int) := by
  have h1 := pow16 hj
  have e : (2 : Int) ^ j = ((2 ^ j : Nat) : Int) := by rw [Int.natCast_pow]; rfl
  rw [e, u64_nat (by omega)]
  exact bits_or_u64_nat z (2 ^ j) (by omega) (by omega)
set_option maxRecDepth 100000 in
set_option maxHeartbeats 8000000 in
theorem sets_call {n m : Nat} (C : List (List Int)) (vc : Value) (w : World) (hM : Mat C n m) (hC : NRest w.heap.size w C vc) :
    Calls Try.prog 40 #[vc] w fun e w' => Below w.heap.size w w' ∧ ∃ v, e = .returned v ∧ UBuf w' v (setsN C m n) := by
  obtain ⟨a, c, rfl⟩ := nrest_shape hC
  have HM := Lib.hid hM
  have HC := Lib.hid hC
  have hn := hM.len
  have hn16 := hM.n16
  have hm16 := hM.m16
  obtain ⟨-, hac, ham, hat⟩ := rows_at hC
  have HAT := Lib.hid hat
  have HN := Lib.hid hn
  rw [hn] at hac ⊢
  clear hM hC hat hn
  go_enter Try.func40, Try.ntmps40
  go_upto_region 2 with (fail)
  go_loopw [2, 10] (fun s2 s10 wr => ∃ (k : Nat), k ≤ n ∧ UBuf wr s2 (setsN C m k) ∧ (∀ q, s2.ownBlock = some q → w.heap.size ≤ q) ∧ s10 = .int .i64 (k : Int) ∧ Below w.heap.size w wr) (fun _ s10 _ => n - (intOf s10).toNat)
  case atStart => exact ⟨0, by omega, ubuf_nil _, fun q h => (by cases h), rfl, Below.refl _ _⟩
  case round =>
    obtain ⟨k, hk, hbuf, how, rfl, hb⟩ := hrel
    obtain ⟨v, hv⟩ : ∃ v, v = u2 := ⟨_, rfl⟩
    subst hv
    have HBU := Lib.hid hbuf
    have HOW := Lib.hid how
    have HB := Lib.hid hb
    have HK := Lib.hid hk
    clear hk hbuf hb how
    by_cases hlt : k < n
    · have hki : (k : Int) < (n : Int) := by omega
      have HLT := Lib.hid hlt
      have HWK := Lib.hid (wrap_succ hlt (show n ≤ maxLen by unfold maxLen; omega))
      obtain ⟨b, off, ra, rc, q1, hbl, f1, hrow⟩ := HAT.out k (by have := HN.out; omega)
      subst q1
      have hrl := HM.out.row k hlt
      obtain ⟨-, hrc, hrm, hrt⟩ := ints_at hrow
      rw [hrl] at f1 hrc hrt
      have HRT := Lib.hid hrt
      have d1 := (HB.out.cell (p := ⟨b, off + k, none⟩) hbl).trans f1
      clear hrow hrt hlt hbl f1 hrl
      go_upto_region 6 with (fail)
      clear d1
      go_loopw [5, 16] (fun s5 s16 wr2 => ∃ (j : Nat), j ≤ m ∧ s5 = .int .u64 ((rowU (cst C k) j : Nat) : Int) ∧ s16 = .int .i64 (j : Int) ∧ wr = wr2) (fun _ s16 _ => m - (intOf s16).toNat)
      case atStart => exact ⟨0, by omega, rfl, rfl, rfl⟩
      case round =>
        obtain ⟨j, hj, rfl, rfl, rfl⟩ := hrel
        have HJ := Lib.hid hj
        clear hj
        by_cases hjl : j < m
        · have hji : (j : Int) < (m : Int) := by omega
          have HJL := Lib.hid hjl
          have HWJ := Lib.hid (wrap_succ hjl (show m ≤ maxLen by unfold maxLen; omega))
          obtain ⟨-, b2, off2, q2, hb2, f2⟩ := HRT.out j (by have := HM.out.row k HLT.out; omega)
          subst q2
          rw [getDD HM.out HLT.out hjl] at f2
          obtain ⟨x, hx⟩ : ∃ x, x = cst C k j := ⟨_, rfl⟩
          rw [← hx] at f2
          have d2 := (HB.out.cell (p := ⟨b2, off2 + j, none⟩) hb2).trans f2
          obtain ⟨z, hz⟩ : ∃ z, z = rowU (cst C k) j := ⟨_, rfl⟩
          have HZB : Hid (z < 2 ^ 15) := Lib.hid (by rw [hz]; exact Nat.lt_of_lt_of_le (rowU_lt _ j) (pow16 (show j < 16 by omega)))
          rw [← hz]
          by_cases x1 : x = -1
          · have g1 : (x != -1) = false := by simp [x1]
            have HZ : Hid (rowU (cst C k) (j + 1) = z) := Lib.hid (by show (if cst C k j = -1 then _ else _) = _; rw [← hx, if_pos x1, hz])
            clear x1 hx hz hb2 f2 hjl
            go_wp2_with fail
            exact ⟨⟨j + 1, by have := HJL.out; omega, by rw [HZ.out], by first | rw [HWJ.out, Int.natCast_succ] | go_num, by first | rfl | trivial⟩, by have := HJL.out; first | exact back_less this HWJ.out | (simp [intOf]; omega)⟩
          · have g1 : (x != -1) = true := by simp [x1]
            have HZ : Hid (rowU (cst C k) (j + 1) = (z ||| 2 ^ j)) := Lib.hid (by show (if cst C k j = -1 then _ else _) = _; rw [← hx, if_neg x1, hz])
            have hj0 : (0 : Int) ≤ (j : Int) := by omega
            clear x1 hx hz hb2 f2 hjl
            go_wp2_with fail
            have HOR : Hid (bits BinOp.or IntKind.u64 (z : Int) (IntKind.u64.wrap (2 ^ j)) = ((rowU (cst C k) (j + 1) : Nat) : Int)) := Lib.hid (by rw [HZ.out]; exact or_pow (by have := HZB.out; omega) (by have := HJL.out; omega))
            exact ⟨⟨j + 1, by have := HJL.out; omega, by rw [HOR.out], by first | rw [HWJ.out, Int.natCast_succ] | go_num, by first | rfl | trivial⟩, by have := HJL.out; first | exact back_less this HWJ.out | (simp [intOf]; omega)⟩
        · obtain rfl : j = m := by have := HJ.out; omega
          go_wp2_with (at_builtin; refine wpList_uints rfl (.tmp 28) (.tmp 30) rfl v (setsN C j k) rfl (HBU.out.keep (Joins.below_alloc1 _ _)) _ (rowU (cst C k) j) rfl (row_new _ 60 [.int .u64 ((rowU (cst C k) j : Nat) : Int)]) (by rw [setsN_len]; omega) ?_; intro v' w' hp hw; have HAP := Lib.hid (And.intro hp hw); clear hp hw)
          refine ⟨⟨k + 1, by have := HLT.out; omega, by rw [setsN_succ]; exact HAP.out.1, fun q hq => (by
            rcases HAP.out.2.own with h9 | h9
            · exact HOW.out q (by rw [← h9]; exact hq)
            · have h8 := h9 q hq; have := HB.out.size; simp at h8; omega), by first | rw [HWK.out, Int.natCast_succ] | go_num, ?_⟩, by have := HLT.out; first | exact back_less this HWK.out | (simp [intOf]; omega)⟩
          exact (HB.out.trans ((Joins.below_alloc1 _ _).mono HB.out.size)).trans (HAP.out.2.toBelow (by have := HB.out.size; simp; omega) (fun q hq => HOW.out q hq))
    · obtain rfl : k = n := by have := HK.out; omega
      go_wp2_with fail
      go_ret
      exact ⟨HB.out, v, rfl, HBU.out⟩
end Go.Proofs.Ythkmbbgcadfilaa
