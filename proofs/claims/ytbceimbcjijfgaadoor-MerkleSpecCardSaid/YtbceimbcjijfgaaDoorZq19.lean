/- The places of a leaf's way: the iterator of the program, and the length of a path. -/
import Derived.Deep.DeepCutAuto
import Derived.Sort.QuietIn
import Derived.Deep.MidRow
import Derived.Deep.RegionHeld3
import Derived.Deep.RegionLaw
import Derived.Deep.RegionHeld
import Derived.BigRegion
import Derived.Test.YtbceimbcjijfgaaDoorZq17
import Derived.Test.YtbceimbcjijfgaaDoorZq18
import Derived.Test.YtbceimbcjijfgaaDoorZq6
import Derived.Test.YtbceimbcjijfgaaDoorZq11
import Derived.Test.YtbceimbcjijfgaaDoorZq7
import Derived.Test.YtbceimbcjijfgaaDoorZq9
import Derived.Test.YtbceimbcjijfgaaDoorZq8
import Derived.Test.YtbceimbcjijfgaaDoorZq16
namespace Go.Proofs.YtbceimbcjijfgaaDoor.Dig
open Go.RowKit Go.Shelf
attribute [local go_sem] Oper.semAt_some

theorem xor1 (i : Nat) : i ^^^ 1 = bs i := by
  unfold bs
  have h1 : (i ^^^ 1) / 2 = i / 2 := by rw [Nat.xor_div_two]; simp
  have h2 : (i ^^^ 1) % 2 = (i + 1) % 2 := by
    have h0 := @Nat.xor_mod_two_eq_one i 1
    rcases Nat.mod_two_eq_zero_or_one i with h | h
    · have : (i ^^^ 1) % 2 = 1 := by rw [h0]; simp [h]
      omega
    · have h3 : ¬ (i ^^^ 1) % 2 = 1 := by rw [h0]; simp [h]
      omega
  split <;> omega
theorem xor1_bits (i : Nat) (hi : i < 4611686018427387904) : bits .xor .i64 (i : Int) 1 = ((bs i : Nat) : Int) := by
  have h1 : (BitVec.ofInt 64 (i : Int)).toNat = i := by
    rw [BitVec.ofInt_natCast, BitVec.toNat_ofNat]; exact Nat.mod_eq_of_lt (by omega)
  have h2 : (BitVec.ofInt 64 (1 : Int)).toNat = 1 := by decide
  have hb : bs i ≤ i + 1 := by unfold bs; split <;> omega
  show IntKind.i64.wrap ((BitVec.ofInt 64 (i : Int) ^^^ BitVec.ofInt 64 (1 : Int)).toNat : Int) = _
  rw [BitVec.toNat_xor, h1, h2, xor1, IntKind.wrap_i64]
  omega
set_option maxHeartbeats 400000 in
set_option maxRecDepth 100000 in
theorem beside_in (q : Nat) (i : Nat) (w : World) (hi : i < 4611686018427387904) :
    CallsIn Fence.wide q Tryd.prog 26 #[.int .i64 (i : Int)] w fun e w' => e = .returned (.int .i64 ((bs i : Nat) : Int)) ∧ w' = w := by
  have h := xor1_bits i hi
  refine callsIn_of_wp Tryd.func26 rfl trivial ?_ rfl
  simp only [Tryd.ntmps26, List.size_toArray, List.length_cons, List.length_nil, Nat.reduceAdd, Nat.reduceSub, Array.replicate_succ, Array.replicate_zero, List.push_toArray, List.append_toArray, List.nil_append, List.cons_append]
  gi_wp2
  go_ret
  exact ⟨rfl, rfl⟩
theorem beside_call (i : Nat) (w : World) (hi : i < 4611686018427387904) :
    Calls Tryd.prog 26 #[.int .i64 (i : Int)] w fun e w' => e = .returned (.int .i64 ((bs i : Nat) : Int)) ∧ w' = w :=
  (callsIn_wide (n := 6)).1 (beside_in 6 i w hi)
/-- whether a number is the index of one of n leaves, which are not too many -/
def isL (n i : Int) : Bool := decide (n ≤ 65536) && (decide (0 ≤ i) && decide (i < n))
set_option maxHeartbeats 400000 in
set_option maxRecDepth 100000 in
theorem isLeaf_call (n i : Int) (w : World) :
    Calls Tryd.prog 23 #[.int .i64 n, .int .i64 i] w fun e w' => e = .returned (.bool (isL n i)) ∧ w' = w := by
  by_cases h1 : n ≤ 65536
  · by_cases h2 : 0 ≤ i
    · by_cases h3 : i < n
      · have HE : Hid (isL n i = true) := Lib.hid (by unfold isL; rw [decide_eq_true h1, decide_eq_true h2, decide_eq_true h3]; rfl)
        go_enter Tryd.func23, Tryd.ntmps23
        go_wp2_with fail
        go_ret
        exact ⟨by rw [HE.out]; rfl, rfl⟩
      · have HE : Hid (isL n i = false) := Lib.hid (by unfold isL; rw [decide_eq_true h1, decide_eq_true h2, decide_eq_false h3]; rfl)
        go_enter Tryd.func23, Tryd.ntmps23
        go_wp2_with fail
        go_ret
        exact ⟨by rw [HE.out]; rfl, rfl⟩
    · have HE : Hid (isL n i = false) := Lib.hid (by unfold isL; rw [decide_eq_true h1, decide_eq_false h2]; rfl)
      go_enter Tryd.func23, Tryd.ntmps23
      go_wp2_with fail
      go_ret
      exact ⟨by rw [HE.out]; rfl, rfl⟩
  · have HE : Hid (isL n i = false) := Lib.hid (by unfold isL; rw [decide_eq_false h1]; rfl)
    go_enter Tryd.func23, Tryd.ntmps23
    go_wp2_with fail
    go_ret
    exact ⟨by rw [HE.out]; rfl, rfl⟩

theorem drewN_below (w : World) (n : Nat) : Below w.heap.size w (w.drewN n) := ⟨rfl, (Below.refl 0 w).tape, (Below.refl 0 w).output, Nat.le_refl _, fun _ _ => rfl⟩
/-- the widths of the rows but the last one, and the place of the way in each -/
def stL : Nat → Nat → Nat → List (Nat × Nat)
  | 0, _, _ => []
  | f + 1, n, i => if n ≤ 1 then [] else (n, i) :: stL f ((n + 1) / 2) (i / 2)
def encW (x : Nat × Nat) : Array Value := #[.int .i64 (x.2 : Int), .bool (decide (x.1 ≤ bs x.2))]
/-- how the list goes on -/
def Goes (L : List (Nat × Nat)) (pre : List (Nat × Nat)) (x : Nat × Nat) : Prop := ∃ r, L = pre ++ x :: r
set_option maxRecDepth 100000 in
set_option maxHeartbeats 4000000 in
theorem steps_tells (q : Nat) (hq : 1 ≤ q) (Bn Bi : Nat) (B : Nat → Prop) (f n i : Nat) (hn : n ≤ 2 ^ f) (hn2 : n ≤ 65536) (hi : i ≤ 65536) (w : World) (hBn : B Bn) (hBi : B Bi) (hBl : ∀ b, B b → b < w.heap.size) (hc : w.cell? ⟨Bn, 0, none⟩ = some (.int .i64 (n : Int))) (hci : w.cell? ⟨Bi, 0, none⟩ = some (.int .i64 (i : Int))) :
    Tells Fence.wide q Tryd.prog 42 #[.pointer (some ⟨Bn, 0, none⟩), .pointer (some ⟨Bi, 0, none⟩)] encW (fun _ _ => True) B (fun ys => ys = stL f n i) (Goes (stL f n i)) w := by
  intro l J W hW hJ hY h0
  have hBn' := (hW.cell (p := ⟨Bn, 0, none⟩) (hBl Bn hBn)).trans hc
  have hBi' := (hW.cell (p := ⟨Bi, 0, none⟩) (hBl Bi hBi)).trans hci
  have HN := Lib.hid hn
  have HN2 := Lib.hid hn2
  have HI := Lib.hid hi
  clear hW hc hci hBl hn hn2 hi
  refine callsIn_of_wp Tryd.func42 rfl trivial ?_ rfl
  simp only [Tryd.ntmps42, List.size_toArray, List.length_cons, List.length_nil, Nat.reduceAdd, Nat.reduceSub, Array.replicate_succ, Array.replicate_zero, List.push_toArray, List.append_toArray, List.nil_append, List.cons_append]
  gi_wp2
  gi_quiet (fail)
  have hbq := drewN_below W nq
  have h0q : J [] (W.drewN nq) := hJ [] W _ none h0 ⟨hbq.os, hbq.tape, hbq.output, hbq.size, fun i hi _ => hbq.block i hi⟩ (fun r e => by cases e)
  have hkq : KpS B W (W.drewN nq) := .below hbq
  clear hbq h0
  generalize W.drewN nq = Wq at h0q hkq ⊢
  gi_wp2
  gi_loopw [4, 5] (fun sn si wr => ∃ (f' n' i' : Nat) (pre : List (Nat × Nat)), Hid (stL f n i = pre ++ stL f' n' i' ∧ n' ≤ 2 ^ f' ∧ n' ≤ 65536 ∧ i' ≤ 65536) ∧ sn = .int .i64 (n' : Int) ∧ si = .int .i64 (i' : Int) ∧ J pre wr ∧ KpS B W wr)
    (fun sn _ _ => (intOf sn).toNat)
  case atStart => exact ⟨f, n, i, [], Lib.hid ⟨rfl, HN.out, HN2.out, HI.out⟩, rfl, rfl, h0q, hkq⟩
  case round =>
    obtain ⟨f', n', i', pre, HL, rfl, rfl, hJs, hnx⟩ := hrel
    by_cases hlt : (1 : Int) < (n' : Int)
    · obtain ⟨g, hg⟩ : ∃ g, f' = g + 1 := by
        have := HL.out.2.1
        match f', this with
        | 0, h => simp at h; omega
        | g + 1, _ => exact ⟨g, rfl⟩
      subst hg
      have HST : Hid (stL (g + 1) n' i' = (n', i') :: stL g ((n' + 1) / 2) (i' / 2)) := Lib.hid (by rw [stL, if_neg (by omega)])
      have HL2 : Hid (stL f n i = (pre ++ [(n', i')]) ++ stL g ((n' + 1) / 2) (i' / 2) ∧ (n' + 1) / 2 ≤ 2 ^ g ∧ (n' + 1) / 2 ≤ 65536 ∧ i' / 2 ≤ 65536) := Lib.hid (by
        obtain ⟨h1, h2, h3, h4⟩ := HL.out
        rw [Nat.pow_succ] at h2
        refine ⟨by rw [h1, HST.out]; simp, by omega, by omega, by omega⟩)
      obtain ⟨fn, tmps, assign, body, hy, hR⟩ := hY _ (n', i') wr hJs trivial ⟨_, by rw [HL.out.1, HST.out]⟩
      replace hy : (Instr.yield l #[.int .i64 (i' : Int), .bool (decide (n' ≤ bs i'))]).run Tryd.prog wr = .ok (.round l fn tmps assign body) wr := hy
      have HNX := Lib.hid hnx
      have hn3 : (n' : Int) ≤ 65536 := by have := HL.out.2.2.1; omega
      have hi3 : (i' : Int) ≤ 65536 := by have := HL.out.2.2.2; omega
      have hib : i' < 4611686018427387904 := by omega
      obtain ⟨b, hb⟩ : ∃ b, b = bs i' := ⟨_, rfl⟩
      have HBE : Hid (CallsIn Fence.wide (q - 1) Tryd.prog 26 #[.int .i64 (i' : Int)] wr fun e w' => e = .returned (.int .i64 (b : Int)) ∧ w' = wr) := Lib.hid (by rw [hb]; exact beside_in _ i' wr hib)
      rw [← hb] at hy
      clear hnx HST hb hib
      gi_wp2
      refine ⟨trivial, ?_⟩
      refine HBE.out.mono ?_
      rintro e w2 ⟨rfl, rfl⟩
      gi_wp2
      refine hR.mono ?_
      rintro e W3 ⟨rfl, hJ3, hk3⟩
      gi_wp2
      exact ⟨⟨g, (n' + 1) / 2, i' / 2, pre ++ [(n', i')], HL2, by go_num, by go_num, hJ3, HNX.out.trans hk3⟩, by simp [intOf]; omega⟩
    · have HE : Hid (stL f n i = pre) := Lib.hid (by
        rw [HL.out.1]
        match f' with
        | 0 => simp [stL]
        | g + 1 => rw [stL, if_pos (by omega), List.append_nil])
      gi_wp2
      go_end0
      exact ⟨⟨_, rfl⟩, by rw [HE.out]; exact hJs⟩
set_option maxHeartbeats 1000000 in
theorem steps_in (q : Nat) (n i : Int) (w : World) :
    CallsIn Fence.wide q Tryd.prog 25 #[.int .i64 n, .int .i64 i] w fun e w' => e = .returned (.func (.func 42) #[] #[.pointer (some ⟨w.heap.size, 0, none⟩), .pointer (some ⟨w.heap.size + 1, 0, none⟩)]) ∧ w' = (w.alloc (.cells #[.int .i64 n] 3)).alloc (.cells #[.int .i64 i] 3) := by
  refine callsIn_of_wp Tryd.func25 rfl trivial ?_ rfl
  simp only [Tryd.ntmps25, List.size_toArray, List.length_cons, List.length_nil, Nat.reduceAdd, Nat.reduceSub, Array.replicate_succ, Array.replicate_zero, List.push_toArray, List.append_toArray, List.nil_append, List.cons_append]
  gi_wp2
  go_ret
  exact ⟨rfl, rfl⟩
end Go.Proofs.YtbceimbcjijfgaaDoor.Dig

/- The reference's word: four bytes as a number. -/
namespace Go.Proofs.YtbceimbcjijfgaaDoor.Dig
open Go.RowKit

theorem word_or (x0 x1 x2 x3 : UInt8) : bits .or .u32 (bits .or .u32 (bits .or .u32 ((x0.toNat : Int) % 4294967296 * 16777216 % 4294967296) ((x1.toNat : Int) % 4294967296 * 65536 % 4294967296)) ((x2.toNat : Int) % 4294967296 * 256 % 4294967296)) ((x3.toNat : Int) % 4294967296)
    = (((x0.toNat * 256 + x1.toNat) * 256 + x2.toNat) * 256 + x3.toNat : Nat) := by
  have h0 := x0.toNat_lt
  have h1 := x1.toNat_lt
  have h2 := x2.toNat_lt
  have h3 := x3.toNat_lt
  rw [show (x0.toNat : Int) % 4294967296 * 16777216 % 4294967296 = ((x0.toNat * 16777216 : Nat) : Int) by omega, show (x1.toNat : Int) % 4294967296 * 65536 % 4294967296 = ((x1.toNat * 65536 : Nat) : Int) by omega,
    show (x2.toNat : Int) % 4294967296 * 256 % 4294967296 = ((x2.toNat * 256 : Nat) : Int) by omega, show (x3.toNat : Int) % 4294967296 = ((x3.toNat : Nat) : Int) by omega]
  have e1 : x0.toNat * 16777216 ||| x1.toNat * 65536 = (x0.toNat * 256 + x1.toNat) * 65536 := by
    exact (nat_join 24 (x0.toNat * 16777216) (x1.toNat * 65536) (by omega) (by omega)).trans (by rw [Nat.add_mul, Nat.mul_assoc])
  have e2 : (x0.toNat * 256 + x1.toNat) * 65536 ||| x2.toNat * 256 = ((x0.toNat * 256 + x1.toNat) * 256 + x2.toNat) * 256 := by
    exact (nat_join 16 ((x0.toNat * 256 + x1.toNat) * 65536) (x2.toNat * 256) (by omega) (by omega)).trans (by rw [Nat.add_mul (_ * 256) x2.toNat 256, Nat.mul_assoc])
  have e3 : ((x0.toNat * 256 + x1.toNat) * 256 + x2.toNat) * 256 ||| x3.toNat = ((x0.toNat * 256 + x1.toNat) * 256 + x2.toNat) * 256 + x3.toNat := by
    exact (nat_join 8 (((x0.toNat * 256 + x1.toNat) * 256 + x2.toNat) * 256) x3.toNat (by omega) (by omega)).trans rfl
  rw [u32_or_nat _ _ (by omega) (by omega), e1, u32_or_nat _ _ (by omega) (by omega), e2, u32_or_nat _ _ (by omega) (by omega), e3]

set_option maxHeartbeats 1000000 in
theorem refword_call (l : List UInt8) (i : Nat) (b off cap : Nat) (hcap : 4 ≤ cap) (w : World) (hc : ∀ j, j < 4 → w.cell? ⟨b, off + j, none⟩ = some (.int .u8 ((l.getD (4 * i + j) 0).toNat : Int))) :
    Calls Tryd.prog 57 #[.slice (some ⟨b, off, none⟩) 4 cap] w fun e w' => e = .returned (.int .u32 (pw l i 4 : Int)) ∧ ∃ k, w' = w.drewN k := by
  have c0 := hc 0 (by omega)
  have c1 := hc 1 (by omega)
  have c2 := hc 2 (by omega)
  have c3 := hc 3 (by omega)
  rw [Nat.add_zero, Nat.add_zero] at c0
  obtain ⟨x0, h0⟩ : ∃ x, x = (l.getD (4 * i) 0) := ⟨_, rfl⟩
  obtain ⟨x1, h1⟩ : ∃ x, x = (l.getD (4 * i + 1) 0) := ⟨_, rfl⟩
  obtain ⟨x2, h2⟩ : ∃ x, x = (l.getD (4 * i + 2) 0) := ⟨_, rfl⟩
  obtain ⟨x3, h3⟩ : ∃ x, x = (l.getD (4 * i + 3) 0) := ⟨_, rfl⟩
  rw [← h0] at c0
  rw [← h1] at c1
  rw [← h2] at c2
  rw [← h3] at c3
  have HP : Hid (pw l i 4 = ((x0.toNat * 256 + x1.toNat) * 256 + x2.toNat) * 256 + x3.toNat) := by rw [h0, h1, h2, h3]; exact Lib.hid (by simp [pw])
  clear hc h0 h1 h2 h3
  go_enter Tryd.func57, Tryd.ntmps57
  go_wp2
  go_quiet (fail)
  go_wp2
  go_ret
  exact ⟨ret_u32 (by rw [word_or, HP.out]), _, rfl⟩
end Go.Proofs.YtbceimbcjijfgaaDoor.Dig

/- The reference's numbers: the function's contract. -/
namespace Go.Proofs.YtbceimbcjijfgaaDoor.Dig
open Go.RowKit

theorem wpList_value {ops : Array Oper} {rest : List Oper} {o : Oper} {a : Act} {w : World} {Q : Exit → Act → World → Prop} (t : TypeId) (ho : ∃ parts, o.op = .build t parts) (hgd : o.guard = none) (v : Value) (hr : (execOp a.eval o).run Tryd.prog w = .ok (.value v) w)
    (h : wpList Tryd.prog ops Q rest (a.put o.dst v) w) : wpList Tryd.prog ops Q (o :: rest) a w :=
  wpList_plain hgd fun _ hK => by
    unfold Oper.wp
    rw [hr]
    exact hK _ _ h
theorem u32s_64 : (u32s kTab).toArray.size = 64 := by kernel_rfl

def z64 : List Value := u32s (List.replicate 64 0)
set_option maxHeartbeats 4000000 in
set_option maxRecDepth 100000 in
theorem numbers_call (w : World) : Calls Tryd.prog 59 #[] w fun e w' => e = .returned (.agg (u32s kTab).toArray) ∧ Below w.heap.size w w' := by
  have HRow : Hid (Row (w.alloc (.cells z64.toArray 76)) w.heap.size 76 z64) := row_new w 76 _
  go_enter Tryd.func59, Tryd.ntmps59
  go_wp2_with (first
    | (refine wpList_value 76 ⟨_, rfl⟩ rfl (.agg (u32s kTab).toArray) (by kernel_rfl) ?_)
    | (refine wpList_store_row rfl 76 (.tmp 0) (.tmp 1) rfl w.heap.size (u32s kTab).toArray rfl rfl 76 z64.toArray HRow.out (by rw [u32s_64]; kernel_rfl) (by kernel_rfl) (u32s_one _) ?_))
  exact bodyPost_ret (results_cell_row rfl _ _ w.heap.size 76 (u32s kTab).toArray (0, 0) _ rfl (HRow.out.setRow _) Tryd.underlying76 rfl (by kernel_rfl)) rfl ⟨rfl, below_setRow (Joins.below_alloc1 w _) _ _ (Nat.le_refl _)⟩
end Go.Proofs.YtbceimbcjijfgaaDoor.Dig

/- Steps on rows of numbers: each names what it leaves. -/
namespace Go.Proofs.YtbceimbcjijfgaaDoor.Dig
open Go.RowKit

theorem row_far' {w : World} {g g' T : Nat} {cs : List Value} (h : Row w g T cs) (cs' : Array Value) (hne : g ≠ g') : Row (w.setRow g' cs') g T cs := (setRow_other w g' g cs' (by omega)).trans h
theorem wpList_store_u {ops : Array Oper} {rest : List Oper} {o : Oper} {a : Act} {w : World} {Q : Exit → Act → World → Prop} {T : TypeId} (hgd : o.guard = none) (x y : Operand) (ho : o.op = .store T x y)
    (g : Nat) (cs old : List Value) (hx : a.eval x = .pointer (some ⟨g, 0, none⟩)) (hy : a.eval y = .agg cs.toArray) (hg : Row w g T old)
    (hi : (Tryd.prog.info? T).map (·.size) = some cs.toArray.size) (hsz : cs.toArray.size = old.toArray.size) (h1 : cs.toArray.all (·.oneCell') = true) {B : Nat} {w0 : World} (hb : Below B w0 w) (hB : B ≤ g)
    (h : ∀ w', Row w' g T cs → Below B w0 w' → (∀ g' T' cs', g' ≠ g → Row w g' T' cs' → Row w' g' T' cs') → wpList Tryd.prog ops Q rest (a.put o.dst undef) w') : wpList Tryd.prog ops Q (o :: rest) a w :=
  wpList_store_row hgd T x y ho g cs.toArray hx hy T old.toArray hg hi hsz.symm h1 (h _ (hg.setRow _) (below_setRow hb _ _ hB) fun g' T' cs' hne hr => row_far' hr _ hne)
theorem wpList_alloc_u {ops : Array Oper} {rest : List Oper} {o : Oper} {a : Act} {w : World} {Q : Exit → Act → World → Prop} {T : TypeId} (hgd : o.guard = none) (t : Nat) (hd : o.dst = some t) (ho : o.op = .alloc T) (cs : List Value)
    (hz : (Tryd.prog.info? T).map (·.zero) = some (some (.agg cs.toArray)))
    (h : ∀ g w', g = w.heap.size → Row w' g T cs → Below w.heap.size w w' → wpList Tryd.prog ops Q rest (a.put (some t) (.pointer (some ⟨g, 0, none⟩))) w') : wpList Tryd.prog ops Q (o :: rest) a w :=
  wpList_plain hgd fun K hK => by
    have h1 := hK _ _ (h w.heap.size (w.alloc (.cells cs.toArray T)) rfl (row_new w T cs) (Joins.below_alloc1 w _))
    rw [← hd] at h1
    cases hi : Tryd.prog.info? T with
    | none => rw [hi] at hz; cases hz
    | some i0 =>
      rw [hi] at hz
      have hz0 : i0.zero = some (.agg cs.toArray) := by simpa using hz
      unfold Oper.wp
      simp [execOp, ho, Instr.alloc, newObj, newVar, zeroValue, typeInfo, hi, hz0, Sem.run_bind, Value.cells]
      exact h1
theorem wpList_box_u {ops : Array Oper} {rest : List Oper} {o : Oper} {a : Act} {w : World} {Q : Exit → Act → World → Prop} {T : TypeId} (hgd : o.guard = none) (t : Nat) (hd : o.dst = some t) (x : Operand) (ho : o.op = .box T x) (cs : List Value)
    (hx : a.eval x = .agg cs.toArray)
    (h : ∀ g w', g = w.heap.size → Row w' g T cs → Below w.heap.size w w' → wpList Tryd.prog ops Q rest (a.put (some t) (.pointer (some ⟨g, 0, none⟩))) w') : wpList Tryd.prog ops Q (o :: rest) a w :=
  wpList_plain hgd fun K hK => by
    have h1 := hK _ _ (h w.heap.size (w.alloc (.cells cs.toArray T)) rfl (row_new w T cs) (Joins.below_alloc1 w _))
    rw [← hd] at h1
    unfold Oper.wp
    simp [execOp, ho, hx, Instr.box, newObj, Sem.run_bind, Value.cells]
    exact h1
end Go.Proofs.YtbceimbcjijfgaaDoor.Dig

/- A number loaded ahead of all else in a region; a number stored. -/
namespace Go.Proofs.YtbceimbcjijfgaaDoor.Dig
open Go.RowKit

def CellAt (S : World → Prop) (g i : Nat) (n : Nat) : Prop := ∀ w, S w → w.cell? ⟨g, i, none⟩ = some (.int .u32 (n : Int))
theorem run_load_u (w : World) (g i n : Nat) (hc : w.cell? ⟨g, i, none⟩ = some (.int .u32 (n : Int))) : (Instr.loadAt 72 (.pointer (some ⟨g, i, none⟩))).run Tryd.prog w = .ok (.int .u32 (n : Int)) w := by
  have h57 : Tryd.prog.underlying 72 = some (.int .u32) := by kernel_rfl
  have hl : (loadVar 72 ⟨g, i, none⟩).run Tryd.prog w = .ok (.int .u32 (n : Int)) w := by
    unfold loadVar
    simp [Sem.run_bind, run_underlying h57 w, hc]
  simp [Instr.loadAt, Instr.sureAddr, Sem.run_bind, hl]
theorem yields_u {ops : Array Oper} {S : World → Prop} {op : Oper} {a : Act} {x : Operand} {g i n : Nat} (hS : CellAt S g i n) (ho : op.op = .load 72 x)
    (hx : a.eval x = .pointer (some ⟨g, i, none⟩)) (hw : Region.wanted op (yielded ops a.tmps) = true) : YieldsIf Tryd.prog ops S op (.int .u32 (n : Int)) a :=
  .inl ⟨hw, fun w hw' => by
    unfold execOp
    simp only [ho, hx, Sem.run_bind, Sem.run_pure, run_load_u w g i n (hS w hw'), Result.andThen_ok]⟩
theorem take_u {md : Region.Mode} {ops : Array Oper} {Q : Exit → Act → World → Prop} {S : World → Prop} {i : Nat} {oi : Oper} {fuel : Nat} {listed : Array Bool} {a : Act} {w : World} {x : Operand} {g j n : Nat}
    (hd : CellAt S g j n) (hi : ops[i]? = some oi)
    (hs : Region.noSelect ops = true) (hf : Region.free md ops listed i = true) (hr : (Region.ready md ops listed).contains i = true)
    (hQ : ∀ c a w, Q (.panic c) (a.put oi.dst (.int .u32 (n : Int))) w → Q (.panic c) a w) (hSw : S w) (ho : oi.op = .load 72 x) (hx : a.eval x = .pointer (some ⟨g, j, none⟩)) (hw : Region.wanted oi (yielded ops a.tmps) = true)
    (h : wpAnyH Tryd.prog md ops Q S fuel (listed.setIfInBounds i true) (a.put oi.dst (.int .u32 (n : Int))) w) : wpAnyH Tryd.prog md ops Q S (fuel + 1) listed a w :=
  wpAnyH_take hi hs hf hr hQ (yields_u hd ho hx hw) hSw h
theorem wp_store_u {o : Oper} {a : Act} {w : World} {K : Act → World → Prop} {Q : Exit → Act → World → Prop} (x y : Operand) (ho : o.op = .store 72 x y) (g i : Nat) (v : Int)
    (hx : a.eval x = .pointer (some ⟨g, i, none⟩)) (hy : a.eval y = .int .u32 v) (hc : ∃ q, w.cell? ⟨g, i, none⟩ = some q) (hf : w.frozen? ⟨g, i, none⟩ = false)
    (h : ∀ w', w' = w.setCell ⟨g, i, none⟩ (.int .u32 v) → K (a.put o.dst undef) w') : o.wp Tryd.prog a w K Q := by
  have h57 : (Tryd.prog.info? 72).map (·.size) = some 1 := by kernel_rfl
  obtain ⟨q, hq⟩ := hc
  have h' := h _ rfl
  cases hi : Tryd.prog.info? 72 with
  | none => rw [hi] at h57; cases h57
  | some i0 =>
    rw [hi] at h57
    have hs : i0.size = 1 := by simpa using h57
    have hst : (storeCells ⟨g, i, none⟩ [Value.int .u32 v] 0).run Tryd.prog w = .ok () (w.setCell ⟨g, i, none⟩ (.int .u32 v)) := by
      have := run_storeCells_cells (P := Tryd.prog) g i [Value.int .u32 v] 0 w (fun j hj => by obtain rfl : j = 0 := (by simpa using hj); simp [hq]) (fun j hj => by obtain rfl : j = 0 := (by simpa using hj); simp [hf]) (fun u hu => by simp at hu; subst hu; rfl)
      simpa [World.setCells] using this
    unfold Oper.wp execOp
    simp [ho, hx, hy, hst, Instr.storeAt, Instr.sureAddr, storeVar, sizeOf, typeInfo, hi, hs, Sem.run_bind, Value.cells, hq, hf, Value.oneCell']
    exact h'
theorem like_draw {wr w w' : World} (h : Like wr w) (hk : ∃ k, w' = w.drewN k) : Like wr w' := by
  obtain ⟨k, rfl⟩ := hk
  exact h.drewN k
theorem cut1 {A : Type} {F : A → Prop} (G : A → Prop) {R : Prop} (rest : (∀ a, F a → G a) → R) (kk : ∀ a, F a → G a) : R := rest kk
end Go.Proofs.YtbceimbcjijfgaaDoor.Dig

/- What a block does to the state: the reference's function. -/
namespace Go.Proofs.YtbceimbcjijfgaaDoor.Dig
open Go.RowKit

theorem fw_set (l : List UInt8) (i : Nat) (h : i < 64) (x : Nat) (hx : x = pw l i 4) : (u32s (fw l i)).set i (.int .u32 (x : Int)) = u32s (fw l (i + 1)) := by
  subst hx
  have e : (fw l i).set i (pw l i 4) = fw l (i + 1) := by
    rw [← fp_4 l i h, ← fp_0 l i h]
    unfold fp
    rw [List.set_append_right _ _ (by rw [words_len]; omega), words_len]; simp
  rw [← e]
  simp [u32s]
theorem refror_any (v : Nat) (x : Int) (w : World) (h1 : v < 4294967296) (h2 : 0 < x) (h3 : x < 32) :
    Calls Tryd.prog 58 #[.int .u32 v, .int .i64 x] w fun e w' => e = .returned (.int .u32 (rr x.toNat v)) ∧ ∃ k, w' = w.drewN k := by
  have h := refror_call v x.toNat w h1 (by omega) (by omega)
  rwa [Int.toNat_of_nonneg (by omega)] at h
def BkHead (w : World) (l : List UInt8) (g gs gr : Nat) (st : St) (s : Value) (wr : World) : Prop := ∃ i : Nat, i ≤ 16 ∧ s = .int .i64 (i : Int) ∧ Row wr g 76 (u32s (fw l i)) ∧ Row wr gs 73 (u32s st.list) ∧ Row wr gr 73 (u32s (List.replicate 8 0)) ∧ Below w.heap.size w wr
def BkHi (w : World) (l : List UInt8) (g gs gr : Nat) (st : St) (s : Value) (wr : World) : Prop := ∃ k : Nat, k ≤ 48 ∧ s = .int .i64 ((16 + k : Nat) : Int) ∧ Row wr g 76 (u32s (gw l k)) ∧ Row wr gs 73 (u32s st.list) ∧ Row wr gr 73 (u32s (List.replicate 8 0)) ∧ Below w.heap.size w wr
theorem und58 : Tryd.prog.underlying 73 = some (.array 8 72) := by kernel_rfl
theorem info73 : (Tryd.prog.info? 73).map (·.size) = some 8 := by kernel_rfl

theorem Row.setOther' {w : World} {g g' T i : Nat} {cs : List Value} {v : Value} (h : Row w g T cs) (hne : g ≠ g') {n : Nat} : Row ((w.drewN n).setCell ⟨g', i, none⟩ v) g T cs := (Below.heap_setCell (w.drewN n) ⟨g', i, none⟩ v g hne).trans h
theorem Like.rowSet {W wr : World} {g g' T i : Nat} {cs : List Value} {v : Value} (h : Like W wr) (k : Row W g T cs) (hne : g ≠ g') : Row (wr.setCell ⟨g', i, none⟩ v) g T cs := (Below.heap_setCell wr ⟨g', i, none⟩ v g hne).trans (h.row k)
theorem Like.belowSet {w W wr : World} {g' i : Nat} {v : Value} (h : Like W wr) (hb : Below w.heap.size w W) (hg : w.heap.size ≤ g') : Below w.heap.size w (wr.setCell ⟨g', i, none⟩ v) := by
  obtain ⟨n, rfl⟩ := h
  exact (below_drewN hb n).setCell hg _
set_option maxHeartbeats 8000000 in
set_option maxRecDepth 100000 in
theorem refblock_call (s : St) (hs : s.ok) (l : List UInt8) (hl : l.length = 64) (v : Value) (w : World) (hr : Rest w.heap.size w l v) :
    Calls Tryd.prog 55 #[.agg (u32s s.list).toArray, v] w fun e w' => e = .returned (.agg (u32s (blockF s l).list).toArray) ∧ Below w.heap.size w w' := by
  obtain ⟨b, off, cap, rfl, hcap, hcap2, hbl, hcs⟩ := rest_cells hr (by omega)
  have HC := Lib.hid hcs
  rw [hl]
  have hcap : 64 ≤ cap := by omega
  have HB0 := Lib.hid (Below.refl w.heap.size w)
  clear hcs hr
  go_enter Tryd.func55, Tryd.ntmps55
  go_wp2_with (first
    | (refine wpList_box_u rfl 2 rfl (.tmp 0) rfl (u32s s.list) rfl ?_; intro gs w1 hg hrow hb; have HS := Lib.hid hrow; have HB0 := Lib.hid (below_next HB0.out hb); have hgs : w.heap.size ≤ gs := (by omega); clear hg hrow hb)
    | (refine wpList_alloc_u rfl 4 rfl rfl (u32s (List.replicate 8 0)) (by kernel_rfl) ?_; intro gr w2 hg hrow hb; have HRR := Lib.hid hrow; have HS := Lib.hid (HS.out.keep hb); have hgr : w.heap.size ≤ gr := (by have := HB0.out.size; omega); have HB0 := Lib.hid (below_next HB0.out hb); clear hg hrow hb)
    | (refine wpList_value 76 ⟨_, rfl⟩ rfl (.agg z64.toArray) (by kernel_rfl) ?_)
    | (refine wpList_alloc_u rfl 5 rfl rfl z64 (by kernel_rfl) ?_; intro g5 w3 hg hrow hb; have H5 := Lib.hid hrow; have hsg : gs ≠ g5 := (by have := HS.out.lt; omega); have hrg : gr ≠ g5 := (by have := HRR.out.lt; omega); have HS := Lib.hid (HS.out.keep hb); have HRR := Lib.hid (HRR.out.keep hb); have hg5 : w.heap.size ≤ g5 := (by have := HB0.out.size; omega); have HB0 := Lib.hid (below_next HB0.out hb); clear hg hrow hb)
    | (refine wpList_store_u rfl (.tmp 5) (.tmp 22) rfl g5 z64 z64 rfl rfl H5.out (by kernel_rfl) rfl (u32s_one _) HB0.out hg5 ?_; intro w4 hrow hb hoth; have H5 := Lib.hid hrow; have HS := Lib.hid (hoth _ _ _ hsg HS.out); have HRR := Lib.hid (hoth _ _ _ hrg HRR.out); have HB0 := Lib.hid hb; clear hrow hb hoth)
    | fail)
  go_loopw [6] (fun s6 wr => BkHead w l g5 gs gr s s6 wr) (fun s6 _ => 16 - (intOf s6).toNat)
  case atStart => exact ⟨0, by omega, by go_num, H5.out, HS.out, HRR.out, HB0.out⟩
  case round =>
    obtain ⟨i, hi, rfl, hrow, hrs, hrr, hbe⟩ := hrel
    have HR := Lib.hid hrow
    have HRs := Lib.hid hrs
    have HRr := Lib.hid hrr
    have HB := Lib.hid hbe
    clear hrow hrs hrr hbe
    rcases Nat.lt_or_ge i 16 with hlt | hge
    · have hne : ¬ cap = 4 * i := by omega
      have HW4 := Lib.hid (fun (j : Nat) (hj : j < 4) => show wr.cell? ⟨b, off + 4 * i + j, none⟩ = some (.int .u8 ((l.getD (4 * i + j) 0).toNat : Int)) by
        rw [Nat.add_assoc]; exact (HB.out.cell (p := ⟨b, off + (4 * i + j), none⟩) hbl).trans (HC.out _ (by omega)))
      have hcr : wr.cell? ⟨g5, i, none⟩ = some (.int .u32 ((fw l i).getD i 0 : Int)) := HR.out.cell (u32s_get (by rw [fw, List.length_append, words_len, List.length_replicate]; omega))
      have hfr : wr.frozen? ⟨g5, i, none⟩ = false := HR.out.free i
      have hcap4 : 4 ≤ cap - 4 * i := by omega
      go_wp2_with fail
      refine (refword_call l i b (off + 4 * i) (cap - 4 * i) hcap4 wr HW4.out).mono ?_
      rintro e w5 ⟨rfl, kq, rfl⟩
      obtain ⟨pv, hpv⟩ : ∃ pv, pv = pw l i 4 := ⟨_, rfl⟩
      rw [← hpv]
      have HPV := Lib.hid hpv
      clear hpv
      go_wp2_with fail
      go_roundw
      case rel => exact ⟨i + 1, by omega, by go_num, (show Row (wr.drewN kq) g5 76 (u32s (fw l i)) from HR.out).set i _ (fw_set l i (by omega) _ HPV.out), HRs.out.setOther' hsg, HRr.out.setOther' hrg, (below_drewN HB.out kq).setCell hg5 _⟩
      case measure => simp [intOf]; omega
    · obtain rfl : i = 16 := by omega
      rw [show ((16 : Nat) : Int) = 16 from rfl]
      obtain ⟨wo, rfl⟩ : ∃ wo : World, wo = wr := ⟨_, rfl⟩
      go_wp2_with fail
      go_loopw [7] (fun s7 wr => BkHi w l g5 gs gr s s7 wr) (fun s7 _ => 64 - (intOf s7).toNat)
      case atStart => exact ⟨0, by omega, rfl, by rw [show gw l 0 = fw l 16 from rfl]; exact HR.out, HRs.out, HRr.out, HB.out⟩
      case round =>
        obtain ⟨k, hk, rfl, hrow, hrs, hrr, hbe⟩ := hrel
        have HR2 := Lib.hid hrow
        have HRs2 := Lib.hid hrs
        have HRr2 := Lib.hid hrr
        have HB2 := Lib.hid hbe
        clear hrow hrs hrr hbe
        rcases Nat.lt_or_ge k 48 with hlt2 | hge2
        · obtain ⟨x, hx⟩ : ∃ x, x = (wl l k).getD (16 + k - 15) 0 := ⟨_, rfl⟩
          obtain ⟨y, hy⟩ : ∃ y, y = (wl l k).getD (16 + k - 2) 0 := ⟨_, rfl⟩
          obtain ⟨z, hz⟩ : ∃ z, z = (wl l k).getD (16 + k - 16) 0 := ⟨_, rfl⟩
          obtain ⟨u, hu⟩ : ∃ u, u = (wl l k).getD (16 + k - 7) 0 := ⟨_, rfl⟩
          have cx : wr.cell? ⟨g5, 16 + k - 15, none⟩ = some (.int .u32 (x : Int)) := by rw [hx]; exact HR2.out.cell (gw_get l k _ (by omega) hk)
          have cy : wr.cell? ⟨g5, 16 + k - 2, none⟩ = some (.int .u32 (y : Int)) := by rw [hy]; exact HR2.out.cell (gw_get l k _ (by omega) hk)
          have lx : x < 4294967296 := by rw [hx]; exact wl_at l k _
          have ly : y < 4294967296 := by rw [hy]; exact wl_at l k _
          have lz : z < 4294967296 := by rw [hz]; exact wl_at l k _
          have lu : u < 4294967296 := by rw [hu]; exact wl_at l k _
          obtain ⟨i7, hi7⟩ : ∃ i7, i7 = 16 + k - 7 := ⟨_, rfl⟩
          obtain ⟨i16, hi16⟩ : ∃ i16, i16 = 16 + k - 16 := ⟨_, rfl⟩
          obtain ⟨i0, hi0⟩ : ∃ i0, i0 = 16 + k := ⟨_, rfl⟩
          have HX := Lib.hid hx
          have HY := Lib.hid hy
          have HZ := Lib.hid hz
          have HU := Lib.hid hu
          have C7 : Hid (CellAt (fun w' => ∀ j, j ≠ i0 → w'.cell? ⟨g5, j, none⟩ = wr.cell? ⟨g5, j, none⟩) g5 i7 u) := fun W' h => (h i7 (by omega)).trans (by rw [hi7, hu]; exact HR2.out.cell (gw_get l k _ (by omega) hk))
          have C16 : Hid (CellAt (fun w' => ∀ j, j ≠ i0 → w'.cell? ⟨g5, j, none⟩ = wr.cell? ⟨g5, j, none⟩) g5 i16 z) := fun W' h => (h i16 (by omega)).trans (by rw [hi16, hz]; exact HR2.out.cell (gw_get l k _ (by omega) hk))
          have C0 : Hid (∀ W' : World, Like wr W' → (∃ q, W'.cell? ⟨g5, i0, none⟩ = some q) ∧ W'.frozen? ⟨g5, i0, none⟩ = false) := fun W' h =>
            ⟨⟨_, (h.row HR2.out).cell (v := .int .u32 ((gw l k).getD i0 0 : Int)) (u32s_get (by rw [gw_len l k hk]; omega))⟩, (h.row HR2.out).free i0⟩
          have HSL : Hid (∀ W' : World, Like wr W' → ∀ j, j ≠ i0 → W'.cell? ⟨g5, j, none⟩ = wr.cell? ⟨g5, j, none⟩) := fun W' h j _ => h.cell _
          have H7 := Lib.hid hi7
          have H16 := Lib.hid hi16
          have H0 := Lib.hid hi0
          clear hi7 hi16 hi0
          clear hx hy hz hu
          go_wp2_with fail
          have hi7 := H7.out
          have hi16 := H16.out
          have hi0 := H0.out
          have e7 : IntKind.i64.wrap ((i0 : Int) - 7) = (i7 : Int) := by rw [IntKind.wrap_i64]; omega
          have e16 : IntKind.i64.wrap ((i0 : Int) - 16) = (i16 : Int) := by rw [IntKind.wrap_i64]; omega
          have e0 : 16 + (k : Int) = (i0 : Int) := by omega
          have b7 : (i7 : Int) < 64 := by omega
          have b16 : (i16 : Int) < 64 := by omega
          have b0 : (i0 : Int) < 64 := by omega
          clear hi7 hi16 hi0 cx cy
          refine' cut1 (F := fun (w' : World) => ∃ wl, Like wr wl ∧ w' = wl.setCell ⟨g5, i0, none⟩ (.int .u32 (IntKind.u32.wrap (IntKind.u32.wrap (IntKind.u32.wrap ((z : Int) + bits BinOp.xor IntKind.u32 (bits BinOp.xor IntKind.u32 (rr 7 x : Int) (rr 18 x : Int)) ((x : Int) / 8)) + (u : Int)) + bits BinOp.xor IntKind.u32 (bits BinOp.xor IntKind.u32 (rr 17 y : Int) (rr 19 y : Int)) ((y : Int) / 1024))))) _ ?rest ?kk
          case rest =>
            intro K
            (refine wp_region_held_drew (S := fun w' => ∀ j, j ≠ i0 → w'.cell? ⟨g5, j, none⟩ = wr.cell? ⟨g5, j, none⟩) (by kernel_rfl) (fun j _ => rfl) (fun hHeld => ?_))
            (obtain ⟨w0, hw0⟩ : ∃ x, x = wr.drew := ⟨_, rfl⟩; rw [← hw0] at hHeld ⊢; have HB0 := Lib.hid hHeld; have HL : Hid (Like wr w0) := ⟨1, hw0⟩; clear hHeld hw0)
            refine wpAnyH_take (i := 0) (oi := { dst := some 49, op := Op.move (Operand.tmp 7), type := 3, pos := "ref.go:36", after := #[], guard := none }) (v := ?_) rfl (by kernel_rfl) (by kernel_rfl) (by kernel_rfl) (fun _ _ _ h => h) (Or.inl ⟨by rfl, ?_⟩) HB0.out ?_
            rotate_left
            · (intro w _; go_simp; with_reducible rfl)
            try simp only [Act.put, List.setIfInBounds_toArray, List.set_cons_zero, List.set_cons_succ]
            refine wpAnyH_take (i := 1) (oi := { dst := some 50, op := Op.move (Operand.tmp 7), type := 3, pos := "ref.go:36", after := #[], guard := none }) (v := ?_) rfl (by kernel_rfl) (by kernel_rfl) (by kernel_rfl) (fun _ _ _ h => h) (Or.inl ⟨by rfl, ?_⟩) HB0.out ?_
            rotate_left
            · (intro w _; go_simp; with_reducible rfl)
            try simp only [Act.put, List.setIfInBounds_toArray, List.set_cons_zero, List.set_cons_succ]
            refine wpAnyH_take (i := 2) (oi := { dst := some 51, op := Op.binOp BinOp.sub 3 (Operand.tmp 50) (Operand.const (Value.int IntKind.i64 16)) 3, type := 3, pos := "ref.go:36", after := #[{ on := 1, ground := Ground.data }], guard := none }) (v := ?_) rfl (by kernel_rfl) (by kernel_rfl) (by kernel_rfl) (fun _ _ _ h => h) (Or.inl ⟨by rfl, ?_⟩) HB0.out ?_
            rotate_left
            · (intro w _; go_simp; with_reducible rfl)
            try simp only [Act.put, List.setIfInBounds_toArray, List.set_cons_zero, List.set_cons_succ]
            refine wpAnyH_take (i := 3) (oi := { dst := some 52, op := Op.indexAddr 76 (Operand.tmp 5) (Operand.tmp 51), type := 0, pos := "ref.go:36", after := #[{ on := 2, ground := Ground.data }], guard := none }) (v := ?_) rfl (by kernel_rfl) (by kernel_rfl) (by kernel_rfl) (fun _ _ _ h => h) (Or.inl ⟨by rfl, ?_⟩) HB0.out ?_
            rotate_left
            · (intro w _; go_simp; with_reducible rfl)
            try simp only [Act.put, List.setIfInBounds_toArray, List.set_cons_zero, List.set_cons_succ]
            refine wpAnyH_take (i := 5) (oi := { dst := some 54, op := Op.move (Operand.tmp 8), type := 72, pos := "ref.go:36", after := #[], guard := none }) (v := ?_) rfl (by kernel_rfl) (by kernel_rfl) (by kernel_rfl) (fun _ _ _ h => h) (Or.inl ⟨by rfl, ?_⟩) HB0.out ?_
            rotate_left
            · (intro w _; go_simp; with_reducible rfl)
            try simp only [Act.put, List.setIfInBounds_toArray, List.set_cons_zero, List.set_cons_succ]
            refine wpAnyH_take (i := 7) (oi := { dst := some 56, op := Op.move (Operand.tmp 8), type := 72, pos := "ref.go:36", after := #[], guard := none }) (v := ?_) rfl (by kernel_rfl) (by kernel_rfl) (by kernel_rfl) (fun _ _ _ h => h) (Or.inl ⟨by rfl, ?_⟩) HB0.out ?_
            rotate_left
            · (intro w _; go_simp; with_reducible rfl)
            try simp only [Act.put, List.setIfInBounds_toArray, List.set_cons_zero, List.set_cons_succ]
            refine wpAnyH_take (i := 10) (oi := { dst := some 59, op := Op.move (Operand.tmp 8), type := 72, pos := "ref.go:36", after := #[], guard := none }) (v := ?_) rfl (by kernel_rfl) (by kernel_rfl) (by kernel_rfl) (fun _ _ _ h => h) (Or.inl ⟨by rfl, ?_⟩) HB0.out ?_
            rotate_left
            · (intro w _; go_simp; with_reducible rfl)
            try simp only [Act.put, List.setIfInBounds_toArray, List.set_cons_zero, List.set_cons_succ]
            refine wpAnyH_take (i := 11) (oi := { dst := some 60, op := Op.binOp BinOp.shr 72 (Operand.tmp 59) (Operand.const (Value.int IntKind.u64 3)) 83, type := 72, pos := "ref.go:36", after := #[{ on := 10, ground := Ground.data }], guard := none }) (v := ?_) rfl (by kernel_rfl) (by kernel_rfl) (by kernel_rfl) (fun _ _ _ h => h) (Or.inl ⟨by rfl, ?_⟩) HB0.out ?_
            rotate_left
            · (intro w _; go_simp; with_reducible rfl)
            try simp only [Act.put, List.setIfInBounds_toArray, List.set_cons_zero, List.set_cons_succ]
            refine wpAnyH_take (i := 14) (oi := { dst := some 63, op := Op.move (Operand.tmp 7), type := 3, pos := "ref.go:36", after := #[], guard := none }) (v := ?_) rfl (by kernel_rfl) (by kernel_rfl) (by kernel_rfl) (fun _ _ _ h => h) (Or.inl ⟨by rfl, ?_⟩) HB0.out ?_
            rotate_left
            · (intro w _; go_simp; with_reducible rfl)
            try simp only [Act.put, List.setIfInBounds_toArray, List.set_cons_zero, List.set_cons_succ]
            refine wpAnyH_take (i := 15) (oi := { dst := some 64, op := Op.binOp BinOp.sub 3 (Operand.tmp 63) (Operand.const (Value.int IntKind.i64 7)) 3, type := 3, pos := "ref.go:36", after := #[{ on := 14, ground := Ground.data }], guard := none }) (v := ?_) rfl (by kernel_rfl) (by kernel_rfl) (by kernel_rfl) (fun _ _ _ h => h) (Or.inl ⟨by rfl, ?_⟩) HB0.out ?_
            rotate_left
            · (intro w _; go_simp; with_reducible rfl)
            try simp only [Act.put, List.setIfInBounds_toArray, List.set_cons_zero, List.set_cons_succ]
            refine wpAnyH_take (i := 16) (oi := { dst := some 65, op := Op.indexAddr 76 (Operand.tmp 5) (Operand.tmp 64), type := 0, pos := "ref.go:36", after := #[{ on := 15, ground := Ground.data }], guard := none }) (v := ?_) rfl (by kernel_rfl) (by kernel_rfl) (by kernel_rfl) (fun _ _ _ h => h) (Or.inl ⟨by rfl, ?_⟩) HB0.out ?_
            rotate_left
            · (intro w _; go_simp; with_reducible rfl)
            try simp only [Act.put, List.setIfInBounds_toArray, List.set_cons_zero, List.set_cons_succ]
            refine wpAnyH_take (i := 19) (oi := { dst := some 68, op := Op.move (Operand.tmp 9), type := 72, pos := "ref.go:36", after := #[], guard := none }) (v := ?_) rfl (by kernel_rfl) (by kernel_rfl) (by kernel_rfl) (fun _ _ _ h => h) (Or.inl ⟨by rfl, ?_⟩) HB0.out ?_
            rotate_left
            · (intro w _; go_simp; with_reducible rfl)
            try simp only [Act.put, List.setIfInBounds_toArray, List.set_cons_zero, List.set_cons_succ]
            refine wpAnyH_take (i := 21) (oi := { dst := some 70, op := Op.move (Operand.tmp 9), type := 72, pos := "ref.go:36", after := #[], guard := none }) (v := ?_) rfl (by kernel_rfl) (by kernel_rfl) (by kernel_rfl) (fun _ _ _ h => h) (Or.inl ⟨by rfl, ?_⟩) HB0.out ?_
            rotate_left
            · (intro w _; go_simp; with_reducible rfl)
            try simp only [Act.put, List.setIfInBounds_toArray, List.set_cons_zero, List.set_cons_succ]
            refine wpAnyH_take (i := 24) (oi := { dst := some 73, op := Op.move (Operand.tmp 9), type := 72, pos := "ref.go:36", after := #[], guard := none }) (v := ?_) rfl (by kernel_rfl) (by kernel_rfl) (by kernel_rfl) (fun _ _ _ h => h) (Or.inl ⟨by rfl, ?_⟩) HB0.out ?_
            rotate_left
            · (intro w _; go_simp; with_reducible rfl)
            try simp only [Act.put, List.setIfInBounds_toArray, List.set_cons_zero, List.set_cons_succ]
            refine wpAnyH_take (i := 25) (oi := { dst := some 74, op := Op.binOp BinOp.shr 72 (Operand.tmp 73) (Operand.const (Value.int IntKind.u64 10)) 83, type := 72, pos := "ref.go:36", after := #[{ on := 24, ground := Ground.data }], guard := none }) (v := ?_) rfl (by kernel_rfl) (by kernel_rfl) (by kernel_rfl) (fun _ _ _ h => h) (Or.inl ⟨by rfl, ?_⟩) HB0.out ?_
            rotate_left
            · (intro w _; go_simp; with_reducible rfl)
            try simp only [Act.put, List.setIfInBounds_toArray, List.set_cons_zero, List.set_cons_succ]
            refine take_u (i := 4) (oi := { dst := some 53, op := Op.load 72 (Operand.tmp 52), type := 72, pos := "ref.go:36", after := #[{ on := 3, ground := Ground.data }], guard := none }) C16.out rfl (by kernel_rfl) (by kernel_rfl) (by kernel_rfl) (fun _ _ _ h => h) HB0.out rfl rfl (by rfl) ?_
            try simp only [Act.put, List.setIfInBounds_toArray, List.set_cons_zero, List.set_cons_succ]
            refine take_u (i := 17) (oi := { dst := some 66, op := Op.load 72 (Operand.tmp 65), type := 72, pos := "ref.go:36", after := #[{ on := 16, ground := Ground.data }], guard := none }) C7.out rfl (by kernel_rfl) (by kernel_rfl) (by kernel_rfl) (fun _ _ _ h => h) HB0.out rfl rfl (by rfl) ?_
            try simp only [Act.put, List.setIfInBounds_toArray, List.set_cons_zero, List.set_cons_succ]
            refine wpAnyH_ready (rs := [6]) (by kernel_rfl) (by simp) ?_
            refine AllReadyH.cons (o := { dst := some 55, op := Op.call { callee := Callee.value (Operand.func 58), args := #[Operand.tmp 54, Operand.const (Value.int IntKind.i64 7)], argTypes := #[72, 3] }, type := 72, pos := "ref.go:36", after := #[{ on := 5, ground := Ground.data }], guard := none }) rfl (fun K hK => ?_) ?_
            · rw [if_pos (by rfl)]
              go_simp
              go_wp2_with ((go_at_call 58; with_reducible refine (refror_any x _ _ lx (by omega) (by omega)).mono ?_; rintro e w5 ⟨rfl, hk⟩; have HL := Lib.hid (like_draw HL.out hk); have HB0 := Lib.hid (HSL.out _ HL.out); clear hk))
              refine hK.out _ _ HB0.out (fun _ => ?_)
              clear hK K
              try simp only [Act.put, List.setIfInBounds_toArray, List.set_cons_zero, List.set_cons_succ]
              refine wpAnyH_ready (rs := [8]) (by kernel_rfl) (by simp) ?_
              refine AllReadyH.cons (o := { dst := some 57, op := Op.call { callee := Callee.value (Operand.func 58), args := #[Operand.tmp 56, Operand.const (Value.int IntKind.i64 18)], argTypes := #[72, 3] }, type := 72, pos := "ref.go:36", after := #[{ on := 7, ground := Ground.data }, { on := 6, ground := Ground.chain }], guard := none }) rfl (fun K hK => ?_) ?_
              · rw [if_pos (by rfl)]
                go_simp
                go_wp2_with ((go_at_call 58; with_reducible refine (refror_any x _ _ lx (by omega) (by omega)).mono ?_; rintro e w5 ⟨rfl, hk⟩; have HL := Lib.hid (like_draw HL.out hk); have HB0 := Lib.hid (HSL.out _ HL.out); clear hk))
                refine hK.out _ _ HB0.out (fun _ => ?_)
                clear hK K
                try simp only [Act.put, List.setIfInBounds_toArray, List.set_cons_zero, List.set_cons_succ]
                refine wpAnyH_take (i := 9) (oi := { dst := some 58, op := Op.binOp BinOp.xor 72 (Operand.tmp 55) (Operand.tmp 57) 72, type := 72, pos := "ref.go:36", after := #[{ on := 6, ground := Ground.data }, { on := 8, ground := Ground.data }], guard := none }) (v := ?_) rfl (by kernel_rfl) (by kernel_rfl) (by kernel_rfl) (fun _ _ _ h => h) (Or.inl ⟨by rfl, ?_⟩) HB0.out ?_
                rotate_left
                · (intro w _; go_simp; with_reducible rfl)
                try simp only [Act.put, List.setIfInBounds_toArray, List.set_cons_zero, List.set_cons_succ]
                refine wpAnyH_take (i := 12) (oi := { dst := some 61, op := Op.binOp BinOp.xor 72 (Operand.tmp 58) (Operand.tmp 60) 72, type := 72, pos := "ref.go:36", after := #[{ on := 9, ground := Ground.data }, { on := 11, ground := Ground.data }], guard := none }) (v := ?_) rfl (by kernel_rfl) (by kernel_rfl) (by kernel_rfl) (fun _ _ _ h => h) (Or.inl ⟨by rfl, ?_⟩) HB0.out ?_
                rotate_left
                · (intro w _; go_simp; with_reducible rfl)
                try simp only [Act.put, List.setIfInBounds_toArray, List.set_cons_zero, List.set_cons_succ]
                refine wpAnyH_take (i := 13) (oi := { dst := some 62, op := Op.binOp BinOp.add 72 (Operand.tmp 53) (Operand.tmp 61) 72, type := 72, pos := "ref.go:36", after := #[{ on := 4, ground := Ground.data }, { on := 12, ground := Ground.data }], guard := none }) (v := ?_) rfl (by kernel_rfl) (by kernel_rfl) (by kernel_rfl) (fun _ _ _ h => h) (Or.inl ⟨by rfl, ?_⟩) HB0.out ?_
                rotate_left
                · (intro w _; go_simp; with_reducible rfl)
                try simp only [Act.put, List.setIfInBounds_toArray, List.set_cons_zero, List.set_cons_succ]
                refine wpAnyH_take (i := 18) (oi := { dst := some 67, op := Op.binOp BinOp.add 72 (Operand.tmp 62) (Operand.tmp 66) 72, type := 72, pos := "ref.go:36", after := #[{ on := 13, ground := Ground.data }, { on := 17, ground := Ground.data }], guard := none }) (v := ?_) rfl (by kernel_rfl) (by kernel_rfl) (by kernel_rfl) (fun _ _ _ h => h) (Or.inl ⟨by rfl, ?_⟩) HB0.out ?_
                rotate_left
                · (intro w _; go_simp; with_reducible rfl)
                try simp only [Act.put, List.setIfInBounds_toArray, List.set_cons_zero, List.set_cons_succ]
                refine wpAnyH_ready (rs := [20]) (by kernel_rfl) (by simp) ?_
                refine AllReadyH.cons (o := { dst := some 69, op := Op.call { callee := Callee.value (Operand.func 58), args := #[Operand.tmp 68, Operand.const (Value.int IntKind.i64 17)], argTypes := #[72, 3] }, type := 72, pos := "ref.go:36", after := #[{ on := 19, ground := Ground.data }, { on := 8, ground := Ground.chain }], guard := none }) rfl (fun K hK => ?_) ?_
                · rw [if_pos (by rfl)]
                  go_simp
                  go_wp2_with ((go_at_call 58; with_reducible refine (refror_any y _ _ ly (by omega) (by omega)).mono ?_; rintro e w5 ⟨rfl, hk⟩; have HL := Lib.hid (like_draw HL.out hk); have HB0 := Lib.hid (HSL.out _ HL.out); clear hk))
                  refine hK.out _ _ HB0.out (fun _ => ?_)
                  clear hK K
                  try simp only [Act.put, List.setIfInBounds_toArray, List.set_cons_zero, List.set_cons_succ]
                  refine wpAnyH_ready (rs := [22]) (by kernel_rfl) (by simp) ?_
                  refine AllReadyH.cons (o := { dst := some 71, op := Op.call { callee := Callee.value (Operand.func 58), args := #[Operand.tmp 70, Operand.const (Value.int IntKind.i64 19)], argTypes := #[72, 3] }, type := 72, pos := "ref.go:36", after := #[{ on := 21, ground := Ground.data }, { on := 20, ground := Ground.chain }], guard := none }) rfl (fun K hK => ?_) ?_
                  · rw [if_pos (by rfl)]
                    go_simp
                    go_wp2_with ((go_at_call 58; with_reducible refine (refror_any y _ _ ly (by omega) (by omega)).mono ?_; rintro e w5 ⟨rfl, hk⟩; have HL := Lib.hid (like_draw HL.out hk); have HB0 := Lib.hid (HSL.out _ HL.out); clear hk))
                    refine hK.out _ _ HB0.out (fun _ => ?_)
                    clear hK K
                    try simp only [Act.put, List.setIfInBounds_toArray, List.set_cons_zero, List.set_cons_succ]
                    refine wpAnyH_take (i := 23) (oi := { dst := some 72, op := Op.binOp BinOp.xor 72 (Operand.tmp 69) (Operand.tmp 71) 72, type := 72, pos := "ref.go:36", after := #[{ on := 20, ground := Ground.data }, { on := 22, ground := Ground.data }], guard := none }) (v := ?_) rfl (by kernel_rfl) (by kernel_rfl) (by kernel_rfl) (fun _ _ _ h => h) (Or.inl ⟨by rfl, ?_⟩) HB0.out ?_
                    rotate_left
                    · (intro w _; go_simp; with_reducible rfl)
                    try simp only [Act.put, List.setIfInBounds_toArray, List.set_cons_zero, List.set_cons_succ]
                    refine wpAnyH_take (i := 26) (oi := { dst := some 75, op := Op.binOp BinOp.xor 72 (Operand.tmp 72) (Operand.tmp 74) 72, type := 72, pos := "ref.go:36", after := #[{ on := 23, ground := Ground.data }, { on := 25, ground := Ground.data }], guard := none }) (v := ?_) rfl (by kernel_rfl) (by kernel_rfl) (by kernel_rfl) (fun _ _ _ h => h) (Or.inl ⟨by rfl, ?_⟩) HB0.out ?_
                    rotate_left
                    · (intro w _; go_simp; with_reducible rfl)
                    try simp only [Act.put, List.setIfInBounds_toArray, List.set_cons_zero, List.set_cons_succ]
                    refine wpAnyH_take (i := 27) (oi := { dst := some 76, op := Op.binOp BinOp.add 72 (Operand.tmp 67) (Operand.tmp 75) 72, type := 72, pos := "ref.go:36", after := #[{ on := 18, ground := Ground.data }, { on := 26, ground := Ground.data }], guard := none }) (v := ?_) rfl (by kernel_rfl) (by kernel_rfl) (by kernel_rfl) (fun _ _ _ h => h) (Or.inl ⟨by rfl, ?_⟩) HB0.out ?_
                    rotate_left
                    · (intro w _; go_simp; with_reducible rfl)
                    try simp only [Act.put, List.setIfInBounds_toArray, List.set_cons_zero, List.set_cons_succ]
                    refine wpAnyH_take (i := 28) (oi := { dst := some 77, op := Op.indexAddr 76 (Operand.tmp 5) (Operand.tmp 49), type := 0, pos := "ref.go:36", after := #[{ on := 0, ground := Ground.data }, { on := 0, ground := Ground.phase }, { on := 1, ground := Ground.phase }, { on := 2, ground := Ground.phase }, { on := 3, ground := Ground.phase }, { on := 4, ground := Ground.phase }, { on := 5, ground := Ground.phase }, { on := 6, ground := Ground.phase }, { on := 7, ground := Ground.phase }, { on := 8, ground := Ground.phase }, { on := 9, ground := Ground.phase }, { on := 10, ground := Ground.phase }, { on := 11, ground := Ground.phase }, { on := 12, ground := Ground.phase }, { on := 13, ground := Ground.phase }, { on := 14, ground := Ground.phase }, { on := 15, ground := Ground.phase }, { on := 16, ground := Ground.phase }, { on := 17, ground := Ground.phase }, { on := 18, ground := Ground.phase }, { on := 19, ground := Ground.phase }, { on := 20, ground := Ground.phase }, { on := 21, ground := Ground.phase }, { on := 22, ground := Ground.phase }, { on := 23, ground := Ground.phase }, { on := 24, ground := Ground.phase }, { on := 25, ground := Ground.phase }, { on := 26, ground := Ground.phase }, { on := 27, ground := Ground.phase }], guard := none }) (v := ?_) rfl (by kernel_rfl) (by kernel_rfl) (by kernel_rfl) (fun _ _ _ h => h) (Or.inl ⟨by rfl, ?_⟩) HB0.out ?_
                    rotate_left
                    · (intro w _; go_simp; with_reducible rfl)
                    try simp only [Act.put, List.setIfInBounds_toArray, List.set_cons_zero, List.set_cons_succ]
                    refine wpAnyH_ready (rs := [29]) (by kernel_rfl) (by simp) ?_
                    refine AllReadyH.cons (o := { dst := none, op := Op.store 72 (Operand.tmp 77) (Operand.tmp 76), type := 0, pos := "ref.go:36", after := #[{ on := 28, ground := Ground.data }, { on := 27, ground := Ground.data }, { on := 22, ground := Ground.chain }, { on := 0, ground := Ground.phase }, { on := 1, ground := Ground.phase }, { on := 2, ground := Ground.phase }, { on := 3, ground := Ground.phase }, { on := 4, ground := Ground.phase }, { on := 5, ground := Ground.phase }, { on := 6, ground := Ground.phase }, { on := 7, ground := Ground.phase }, { on := 8, ground := Ground.phase }, { on := 9, ground := Ground.phase }, { on := 10, ground := Ground.phase }, { on := 11, ground := Ground.phase }, { on := 12, ground := Ground.phase }, { on := 13, ground := Ground.phase }, { on := 14, ground := Ground.phase }, { on := 15, ground := Ground.phase }, { on := 16, ground := Ground.phase }, { on := 17, ground := Ground.phase }, { on := 18, ground := Ground.phase }, { on := 19, ground := Ground.phase }, { on := 20, ground := Ground.phase }, { on := 21, ground := Ground.phase }, { on := 22, ground := Ground.phase }, { on := 23, ground := Ground.phase }, { on := 24, ground := Ground.phase }, { on := 25, ground := Ground.phase }, { on := 26, ground := Ground.phase }, { on := 27, ground := Ground.phase }], guard := none }) rfl (fun K hK => ?_) ?_
                    · rw [if_pos (by rfl)]
                      ((refine wp_store_u _ _ rfl g5 i0 _ rfl rfl (C0.out _ HL.out).1 (C0.out _ HL.out).2 ?_; intro w6 hst; have HB0 : Hid (∀ j, j ≠ i0 → w6.cell? ⟨g5, j, none⟩ = wr.cell? ⟨g5, j, none⟩) := (fun j hj => by rw [hst, World.cell?_setCell_other _ _ _ _ (by first | (simp; omega) | simp)]; exact HL.out.cell _); have HST := Lib.hid hst; clear hst))
                      refine hK.out _ _ HB0.out (fun _ => ?_)
                      clear hK K
                      try simp only [Act.put, List.setIfInBounds_toArray, List.set_cons_zero, List.set_cons_succ]
                      refine wpAnyH_done (by kernel_rfl) ?_ _
                      ((exact K _ ⟨_, HL.out, HST.out⟩))
                    exact AllReadyH.nil
                  exact AllReadyH.nil
                exact AllReadyH.nil
              exact AllReadyH.nil
            exact AllReadyH.nil
          case kk =>
            rintro wS ⟨wl, hlk, hwS⟩
            rw [sg0_bits x lx, sg1_bits y ly] at hwS
            have hval : IntKind.u32.wrap (IntKind.u32.wrap (IntKind.u32.wrap ((z : Int) + (sg0 x : Int)) + (u : Int)) + (sg1 y : Int)) = (nxt (Go.Proofs.YtbceimbcjijfgaaDoor.Dig.wl l k) : Int) := by
              rw [IntKind.wrap_u32, IntKind.wrap_u32, IntKind.wrap_u32, ← nxt_at l k HX.out HY.out HZ.out HU.out]; omega
            rw [hval] at hwS
            have HWS := Lib.hid hwS
            have HLK := Lib.hid hlk
            have hi0 := H0.out
            clear hval hwS hlk
            clear hi0
            go_wp2_with fail
            have hi0 := H0.out
            rw [HWS.out, hi0]
            exact ⟨⟨k + 1, by omega, by go_num, (HLK.out.row HR2.out).set _ _ (gw_set l k hlt2 _ rfl), HLK.out.rowSet HRs2.out hsg, HLK.out.rowSet HRr2.out hrg, HLK.out.belowSet HB2.out hg5⟩, by simp [intOf]; omega⟩
        · obtain rfl : k = 48 := by omega
          rw [show (16 + 48 : Nat) = 64 from rfl]
          obtain ⟨ws, hws⟩ : ∃ ws, ws = Go.Proofs.YtbceimbcjijfgaaDoor.Dig.wl l 48 := ⟨_, rfl⟩
          have hrow5 : Row wr g5 76 (u32s ws) := by
            have := HR2.out
            rw [Go.Proofs.YtbceimbcjijfgaaDoor.Dig.gw, Nat.sub_self, List.replicate_zero, List.append_nil, ← hws] at this
            exact this
          have hwl : ws.length = 64 := by rw [hws, wl_len]
          have HWLT : Hid (∀ i, ws.getD i 0 < 4294967296) := by rw [hws]; exact fun i => wl_at l 48 i
          have HWS := Lib.hid hws
          obtain ⟨wp, hwp⟩ : ∃ wp : World, wp = wr := ⟨_, rfl⟩
          rw [← hwp] at hrow5
          have HR5 := Lib.hid hrow5
          have HRs3 : Hid (Row wp gs 73 (u32s s.list)) := by rw [hwp]; exact HRs2.out
          have HRr3 : Hid (Row wp gr 73 (u32s (List.replicate 8 0))) := by rw [hwp]; exact HRr2.out
          have HB3 : Hid (Below w.heap.size w wp) := by rw [hwp]; exact HB2.out
          rw [← hwp]
          have HN := Lib.hid (numbers_call wp)
          clear hrow5 hwp hws
          go_wp2_with fail
          refine HN.out.mono ?_
          rintro e w7 ⟨rfl, hb7⟩
          have HB7 := Lib.hid hb7
          clear hb7 HN
          go_wp2_with (first
            | (refine wpList_alloc_u rfl 10 rfl rfl z64 (by kernel_rfl) ?_; intro g10 w8 hg hrow hb; have HK := Lib.hid hrow; have hg10 : wp.heap.size ≤ g10 := (by have := HB7.out.size; omega); have HB8 := Lib.hid (below_next HB7.out hb); clear hg hrow hb)
            | (refine wpList_store_u rfl (.tmp 10) (.tmp 78) rfl g10 (u32s kTab) z64 rfl rfl HK.out (by kernel_rfl) (by kernel_rfl) (u32s_one _) HB8.out hg10 ?_; intro W hrow hb hoth; have HK := Lib.hid hrow; have HBW := Lib.hid hb; clear hrow hb hoth)
            | fail)
          have HR5W := Lib.hid (HR5.out.keep HBW.out)
          have HRsW := Lib.hid (HRs3.out.keep HBW.out)
          have HRrW := Lib.hid (HRr3.out.keep HBW.out)
          have HBWw := Lib.hid (below_next HB3.out HBW.out)
          have c0 : W.cell? ⟨gs, 0, none⟩ = some (.int .u32 (s.a : Int)) := HRsW.out.cell rfl
          have c1 : W.cell? ⟨gs, 1, none⟩ = some (.int .u32 (s.b : Int)) := HRsW.out.cell rfl
          have c2 : W.cell? ⟨gs, 2, none⟩ = some (.int .u32 (s.c : Int)) := HRsW.out.cell rfl
          have c3 : W.cell? ⟨gs, 3, none⟩ = some (.int .u32 (s.d : Int)) := HRsW.out.cell rfl
          have c4 : W.cell? ⟨gs, 4, none⟩ = some (.int .u32 (s.e : Int)) := HRsW.out.cell rfl
          have c5 : W.cell? ⟨gs, 5, none⟩ = some (.int .u32 (s.f : Int)) := HRsW.out.cell rfl
          have c6 : W.cell? ⟨gs, 6, none⟩ = some (.int .u32 (s.g : Int)) := HRsW.out.cell rfl
          have c7 : W.cell? ⟨gs, 7, none⟩ = some (.int .u32 (s.h : Int)) := HRsW.out.cell rfl
          go_quiet (fail)
          clear c0 c1 c2 c3 c4 c5 c6 c7
          go_wp2_with fail
          go_loopw [11, 12, 13, 14, 15, 16, 17, 18, 19] (fun s5 s6 s7 s8 s9 s10 s11 s12 s60 wr => RndHead ws s W s5 s6 s7 s8 s9 s10 s11 s12 s60 wr) (fun _ _ _ _ _ _ _ _ s60 _ => 64 - (intOf s60).toNat)
          case atStart => exact ⟨0, s, by omega, rfl, rfl, rfl, rfl, rfl, rfl, rfl, rfl, rfl, rfl, nq, rfl⟩
          case round =>
            obtain ⟨t, r, ht, rfl, hrr, rfl, rfl, rfl, rfl, rfl, rfl, rfl, rfl, hlk⟩ := hrel
            have HLK := Lib.hid hlk
            clear hlk
            have HRR' := Lib.hid hrr
            have hok : r.ok := by rw [hrr]; exact rnds_ok hs t
            clear hrr
            obtain ⟨a, b', c, d, e, f, g, hv⟩ := r
            obtain ⟨ha, hb, hc, hd, he, hf, hg, hh⟩ := hok
            simp only at ha hb hc hd he hf hg hh
            rcases Nat.lt_or_ge t 64 with hlt | hge
            · have ck : wr.cell? ⟨g10, t, none⟩ = some (.int .u32 (kTab.getD t 0 : Int)) := (HLK.out.cell _).trans (HK.out.cell (u32s_get (by rw [show kTab.length = 64 from rfl]; exact hlt)))
              have cw : wr.cell? ⟨g5, t, none⟩ = some (.int .u32 (ws.getD t 0 : Int)) := (HLK.out.cell _).trans (HR5W.out.cell (u32s_get (by omega)))
              obtain ⟨kk, hkk⟩ : ∃ kk, kk = kTab.getD t 0 := ⟨_, rfl⟩
              obtain ⟨wt, hwt⟩ : ∃ wt, wt = ws.getD t 0 := ⟨_, rfl⟩
              rw [← hkk] at ck
              rw [← hwt] at cw
              have lk : kk < 4294967296 := by rw [hkk]; exact kTab_lt t
              have lw : wt < 4294967296 := by rw [hwt]; exact HWLT.out t
              have HKK := Lib.hid hkk
              have HWT := Lib.hid hwt
              clear hkk hwt
              go_wp2_with fail
              go_quiet ((go_at_call 58; exact Calls.quiet_of (refror_any _ _ _ (by omega) (by omega) (by omega))))
              go_wp2_with (go_at_call 58; refine (refror_any _ _ _ (by omega) (by omega) (by omega)).mono ?_; rintro e' w' ⟨rfl, kq, rfl⟩)
              go_roundw
              case rel =>
                rw [bg1_bits e he, bg0_bits a ha, chs_bits e f g he hf hg, maj_bits a b' c ha hb hc, rnd_a kk wt a b' c d e f g hv, rnd_e kk wt a b' c d e f g hv]
                exact ⟨t + 1, rnd kk wt ⟨a, b', c, d, e, f, g, hv⟩, by omega, by go_num, by rw [rnds, ← HRR'.out, ← HKK.out, ← HWT.out], rfl, rfl, rfl, rfl, rfl, rfl, rfl, rfl, HLK.out.drewN _⟩
              case measure => simp [intOf]; omega
            · obtain rfl : t = 64 := by omega
              rw [show ((64 : Nat) : Int) = 64 from rfl]
              have c0 : wr.cell? ⟨gs, 0, none⟩ = some (.int .u32 (s.a : Int)) := (HLK.out.cell _).trans (HRsW.out.cell rfl)
              have c1 : wr.cell? ⟨gs, 1, none⟩ = some (.int .u32 (s.b : Int)) := (HLK.out.cell _).trans (HRsW.out.cell rfl)
              have c2 : wr.cell? ⟨gs, 2, none⟩ = some (.int .u32 (s.c : Int)) := (HLK.out.cell _).trans (HRsW.out.cell rfl)
              have c3 : wr.cell? ⟨gs, 3, none⟩ = some (.int .u32 (s.d : Int)) := (HLK.out.cell _).trans (HRsW.out.cell rfl)
              have c4 : wr.cell? ⟨gs, 4, none⟩ = some (.int .u32 (s.e : Int)) := (HLK.out.cell _).trans (HRsW.out.cell rfl)
              have c5 : wr.cell? ⟨gs, 5, none⟩ = some (.int .u32 (s.f : Int)) := (HLK.out.cell _).trans (HRsW.out.cell rfl)
              have c6 : wr.cell? ⟨gs, 6, none⟩ = some (.int .u32 (s.g : Int)) := (HLK.out.cell _).trans (HRsW.out.cell rfl)
              have c7 : wr.cell? ⟨gs, 7, none⟩ = some (.int .u32 (s.h : Int)) := (HLK.out.cell _).trans (HRsW.out.cell rfl)
              have HRrr : Hid (Row wr gr 73 (u32s (List.replicate 8 0))) := HLK.out.row HRrW.out
              obtain ⟨nd, hnd⟩ := HLK.out
              have HBr : Hid (Below w.heap.size w wr) := by rw [hnd]; exact below_drewN HBWw.out nd
              clear hnd
              go_wp2_with (first
                | (refine wpList_store_u rfl (.tmp 4) (.tmp 190) rfl gr [.int .u32 (((s.a : Int) + (a : Int)) % 4294967296), .int .u32 (((s.b : Int) + (b' : Int)) % 4294967296), .int .u32 (((s.c : Int) + (c : Int)) % 4294967296), .int .u32 (((s.d : Int) + (d : Int)) % 4294967296), .int .u32 (((s.e : Int) + (e : Int)) % 4294967296), .int .u32 (((s.f : Int) + (f : Int)) % 4294967296), .int .u32 (((s.g : Int) + (g : Int)) % 4294967296), .int .u32 (((s.h : Int) + (hv : Int)) % 4294967296)] (u32s (List.replicate 8 0)) rfl rfl HRrr.out (by exact info73) rfl (by simp [Value.oneCell']) HBr.out hgr ?_; intro wS hrow hb hoth; have HRS := Lib.hid hrow; have HBS := Lib.hid hb; clear hrow hb hoth)
                | fail)
              have e8 : ([.int .u32 (((s.a : Int) + (a : Int)) % 4294967296), .int .u32 (((s.b : Int) + (b' : Int)) % 4294967296), .int .u32 (((s.c : Int) + (c : Int)) % 4294967296), .int .u32 (((s.d : Int) + (d : Int)) % 4294967296), .int .u32 (((s.e : Int) + (e : Int)) % 4294967296), .int .u32 (((s.f : Int) + (f : Int)) % 4294967296), .int .u32 (((s.g : Int) + (g : Int)) % 4294967296), .int .u32 (((s.h : Int) + (hv : Int)) % 4294967296)] : List Value) = u32s (blockF s l).list := by
                rw [blockF, ← HWS.out, ← HRR'.out]
                simp [addS, u32s, St.list]
              have HRf : Hid (Row wS gr 73 (u32s (blockF s l).list)) := by rw [← e8]; exact HRS.out
              exact bodyPost_ret (results_cell_row rfl _ _ gr 73 (u32s (blockF s l).list).toArray (0, 0) _ rfl HRf.out und58 rfl (by exact info73)) rfl ⟨rfl, HBS.out⟩
end Go.Proofs.YtbceimbcjijfgaaDoor.Dig

/- The padded bytes: the reference's function. -/
namespace Go.Proofs.YtbceimbcjijfgaaDoor.Dig
open Go.RowKit

theorem wpList_none' {ops : Array Oper} {rest : List Oper} {o : Oper} {a : Act} {w w0 : World} {Q : Exit → Act → World → Prop} (hgd : o.guard = none) (ho : o.op = .buildSlice 34 0 #[]) (hb : Below w0.heap.size w0 w)
    (h : ∀ v' w', New w0 w' v' [] → wpList Tryd.prog ops Q rest (a.put o.dst v') w') : wpList Tryd.prog ops Q (o :: rest) a w :=
  wpList_plain hgd fun _ hK => wp_none' ho hb fun v' w' hn => hK _ _ (h v' w' hn)
theorem wpList_buf' {ops : Array Oper} {rest : List Oper} {w w0 : World} {o : Oper} {a : Act} {Q : Exit → Act → World → Prop} (hgd : o.guard = none) (s x : Operand)
    (ho : o.op = .call { callee := .builtin .append, args := #[s, x], argTypes := #[34, 34] })
    (v : Value) (xs : List UInt8) (hs : a.eval s = v) (hn : New w0 w v xs) (sv : Value) (B : Nat) (ys : List UInt8) (hx : a.eval x = sv) (hr : Rest B w ys sv) (hlen : xs.length + ys.length ≤ 70368744177664)
    (h : ∀ v' w', New w0 w' v' (xs ++ ys) → wpList Tryd.prog ops Q rest (a.put o.dst v') w') : wpList Tryd.prog ops Q (o :: rest) a w :=
  wpList_plain hgd fun _ hK => wp_buf' hgd s x ho v xs hs hn sv B ys hx hr hlen fun v' w' hn => hK _ _ (h v' w' hn)

def RpHead (w : World) (l : List UInt8) (s3 : Value) (wr : World) : Prop := ∃ z : Nat, z ≤ zeros l.length ∧ New w wr s3 (pz l z)
def RpHead2 (w : World) (l : List UInt8) (s3 s5 : Value) (wr : World) : Prop := ∃ i : Nat, i ≤ 8 ∧ s5 = .int .i64 (7 - (i : Int)) ∧ New w wr s3 (p8 l l.length i)

set_option maxHeartbeats 1000000 in
set_option maxRecDepth 100000 in
theorem refpadded_call (l : List UInt8) (hl : l.length ≤ 1099511627776) (v : Value) (w : World) (hr : Rest w.heap.size w l v) :
    Calls Tryd.prog 54 #[v] w fun e w' => ∃ v', e = .returned v' ∧ New w w' v' (pad l) := by
  obtain ⟨va, vc, rfl⟩ : ∃ a cap, v = .slice a l.length cap := by obtain ⟨a, cap, h, _⟩ := hr; exact ⟨a, cap, h⟩
  have HR := Lib.hid hr
  obtain ⟨n, hn⟩ : ∃ n, n = l.length := ⟨_, rfl⟩
  have hzz := zeros_eq l.length
  have hzl : zeros l.length < 64 := by unfold zeros; omega
  rw [← hn] at HR hl hzz hzl ⊢
  have HNN := Lib.hid hn
  clear hr hn
  go_enter Tryd.func54, Tryd.ntmps54
  go_wp2_with (first
    | (refine wpList_none' rfl rfl (Below.refl _ w) ?_; intro v1 w1 hn1; have HN1 := Lib.hid hn1; have HR1 := Lib.hid (rest_keep HR.out hn1.2.1); clear hn1)
    | (refine wpList_buf' rfl (.tmp 6) (.tmp 7) rfl v1 [] rfl HN1.out _ _ l rfl HR1.out (by rw [← HNN.out, List.length_nil]; omega) ?_; intro v2 w2 hn2; have HN2 : Hid (New w w2 v2 l) := hn2; clear hn2)
    | (refine wpList_buf' rfl (.tmp 8) (.tmp 9) rfl v2 l rfl (HN2.out.alloc _) _ (w2.heap.size + 1) [128] rfl (rest_one w2 128 _ rfl) (by rw [← HNN.out]; simp; omega) ?_; intro v3 w3 hn3; have HN3 := Lib.hid hn3; clear hn3)
    | fail)
  go_loopw [3] (fun s3 wr => RpHead w l s3 wr) (fun s3 _ => n + 200 - slen s3)
  case atStart => exact ⟨0, by omega, HN3.out⟩
  case round =>
    obtain ⟨z, hz, hnew⟩ := hrel
    obtain ⟨a, c, rfl⟩ := hnew.shape
    obtain ⟨m, hm⟩ : ∃ m, m = (pz l z).length := ⟨_, rfl⟩
    rw [← hm]
    have HN := Lib.hid hnew
    rw [← hm] at HN
    have hm2 : m = n + 1 + z := by rw [hm, pz_len, HNN.out]
    rw [← HNN.out] at hz
    clear hnew
    by_cases hzz2 : z = zeros n
    · have hd : (m : Int) % 64 = 56 := by omega
      have HM := Lib.hid hm
      have HZ := Lib.hid hzz2
      clear hm hm2 hzz2
      go_wp2_with fail
      obtain ⟨wo, rfl⟩ : ∃ wo : World, wo = wr := ⟨_, rfl⟩
      clear hd
      go_loopw [3, 5] (fun s3 s5 wr => RpHead2 w l s3 s5 wr) (fun _ s5 _ => (intOf s5 + 1).toNat)
      case atStart => exact ⟨0, by omega, by go_num, by unfold p8; rw [List.take_zero, List.append_nil, ← HNN.out, ← HZ.out]; exact HN.out⟩
      case round =>
        obtain ⟨i, hi8, rfl, hnew⟩ := hrel
        rw [← HNN.out] at hnew
        obtain ⟨a2, c2, rfl⟩ := hnew.shape
        obtain ⟨m2, hm2⟩ : ∃ m2, m2 = (p8 l n i).length := ⟨_, rfl⟩
        rw [← hm2]
        have HN2' := Lib.hid hnew
        rw [← hm2] at HN2'
        have hm3 : m2 ≤ n + 200 := by rw [hm2, p8_len _ _ _ hi8, ← HNN.out]; omega
        have HM2 := Lib.hid hm2
        clear hnew hm2
        rcases Nat.lt_or_ge i 8 with hlt | hge
        · have hge0 : (7 : Int) - (i : Int) ≥ 0 := by omega
          go_wp2_with (first
            | (refine wpList_buf' rfl (.tmp 26) (.tmp 32) rfl _ (p8 l n i) rfl (HN2'.out.alloc _) _ (wr.heap.size + 1) [UInt8.ofNat ((8 * n) / 2 ^ (56 - 8 * i))] rfl (rest_one wr _ _ (by rw [byte_of, show 56 - 8 * i = 8 * (7 - i) by omega, Nat.mul_comm 8 n]; simp)) (by rw [← HM2.out]; simp; omega) ?_; intro v4 w4 hn4; have HN4 := Lib.hid hn4; clear hn4)
            | fail)
          go_roundw
          case rel => exact ⟨i + 1, by omega, by go_num, by rw [← HNN.out, ← p8_succ l n i hlt]; exact HN4.out⟩
          case measure => simp [intOf]; omega
        · obtain rfl : i = 8 := by omega
          go_wp2_with fail
          go_ret
          exact ⟨_, rfl, by rw [pad, ← p8_8, ← HNN.out]; exact HN2'.out⟩
    · have hd : ¬ (m : Int) % 64 = 56 := by omega
      have HM := Lib.hid hm
      have hz5 : z < zeros n := by omega
      have hm5 : m ≤ n + 200 := by omega
      have HM2 := Lib.hid hm2
      clear hm hm2 hzz2
      go_wp2_with (refine wpList_buf' rfl (.tmp 15) (.tmp 16) rfl _ (pz l z) rfl (HN.out.alloc _) _ (wr.heap.size + 1) [0] rfl (rest_one wr 0 _ rfl) (by rw [← HM.out]; simp; omega) ?_; intro v4 w4 hn4; have HN4 := Lib.hid hn4; clear hn4)
      rw [pz_succ] at HN4
      obtain ⟨a4, c4, rfl⟩ := HN4.out.shape
      go_wp2_with fail
      go_roundw
      case rel => exact ⟨z + 1, by rw [← HNN.out]; omega, HN4.out⟩
      case measure => rw [pz_len]; simp [slen]; have := HM2.out; have := HNN.out; omega
end Go.Proofs.YtbceimbcjijfgaaDoor.Dig

/- Climb: the program's function. -/
namespace Go.Proofs.YtbceimbcjijfgaaDoor.Dig
open Go.RowKit

/-- 32 bytes that are 0 -/
def zd : List UInt8 := List.replicate 32 0
theorem zd_len : zd.length = 32 := by simp [zd]
theorem results_two {fn : Func} {p q : Tmp} (h : fn.results = #[.cell p 30, .tmp q]) (tmps : Array Value) (w : World) (g : Nat) (cs : List Value)
    (hp : tmps.getD p undef = .pointer (some ⟨g, 0, none⟩)) (x : Value) (hx : tmps.getD q undef = x) (hg : Row w g 30 cs) (hi : (Tryd.prog.info? 30).map (·.size) = some cs.toArray.size) :
    (results fn tmps).run Tryd.prog w = .ok (.tuple #[.agg cs.toArray, x]) w := by
  have hp' : tmps[p]?.getD undef = .pointer (some ⟨g, 0, none⟩) := by simpa using hp
  have hx' : tmps[q]?.getD undef = x := by simpa using hx
  have hl := run_loadVar_row (P := Tryd.prog) w g 30 30 cs.toArray (0, 0) _ hg Tryd.underlying30 rfl hi
  simp [results, h, hp', hx', asAddr, hl]

end Go.Proofs.YtbceimbcjijfgaaDoor.Dig

/- The hash of bytes: the reference's function. -/
namespace Go.Proofs.YtbceimbcjijfgaaDoor.Dig
open Go.RowKit

theorem only_setRow (rb : Nat) (w : World) (cs : Array Value) : Only rb w (w.setRow rb cs) :=
  ⟨rfl, rfl, rfl, by simp, fun i _ hne => setRow_other w rb i cs (fun e => hne (by rw [e]))⟩
theorem buf_only {w1 W0 W' : World} {v : Value} {xs : List UInt8} {g : Nat} (hn : New w1 W0 v xs) (hg : g < w1.heap.size) (ho : Only g W0 W') : Rest W'.heap.size W' xs v := by
  have hb : Buf W' v xs := by
    have hown : W0.ownsRow 0 5 1 v xs.length (cellsOf xs) := hn.1
    refine ⟨hown.1, ?_⟩
    rcases hown.2 with h0 | ⟨g', cap, cur, rfl, hbg, hh, h1, h2, h3, h4⟩
    · exact .inl h0
    · have hge := hn.2.2 g' rfl
      have hlt : g' < W0.heap.size := (Array.getElem?_eq_some_iff.1 hh).1
      exact .inr ⟨g', cap, cur, rfl, hbg, (ho.block g' hlt (fun e => by injection e with e; omega)).trans hh, h1, h2, h3, h4⟩
  exact buf_rest' hb
theorem row_only {w w' : World} {g g' T : Nat} {cs : List Value} (h : Row w g T cs) (ho : Only g' w w') (hne : g ≠ g') : Row w' g T cs :=
  (ho.block g h.lt (fun e => by injection e with e; exact hne e)).trans h
theorem wp_load_58 {o : Oper} {a : Act} {w : World} {K : Act → World → Prop} {Q : Exit → Act → World → Prop} (x : Operand) (ho : o.op = .load 73 x) (g : Nat) (s : St) (hx : a.eval x = .pointer (some ⟨g, 0, none⟩)) (hg : Row w g 73 (u32s s.list))
    (h : K (a.put o.dst (.agg (u32s s.list).toArray)) w) : o.wp Tryd.prog a w K Q :=
  wp_load_mid 73 x ho g 0 hx (u32s s.list) _ (range_row hg) und58 rfl info73 h
theorem wp_store_58 {o : Oper} {a : Act} {w W0 : World} {K : Act → World → Prop} {Q : Exit → Act → World → Prop} (x y : Operand) (ho : o.op = .store 73 x y) (g : Nat) (s t : St) (hx : a.eval x = .pointer (some ⟨g, 0, none⟩)) (hy : a.eval y = .agg (u32s t.list).toArray)
    (hg : Row w g 73 (u32s s.list)) (hO : Only g W0 w) (h : ∀ w', Row w' g 73 (u32s t.list) → Only g W0 w' → K (a.put o.dst undef) w') : o.wp Tryd.prog a w K Q :=
  wp_store_row 73 x y ho g (u32s t.list).toArray hx hy 73 (u32s s.list).toArray hg info73 rfl (u32s_one _) (h _ (hg.setRow _) (hO.trans (only_setRow g w _)))
theorem pad_mul (l : List UInt8) : 64 * ((pad l).length / 64) = (pad l).length := by have := pad_len l; omega
theorem pad_pos (l : List UInt8) : 0 < (pad l).length := by unfold pad; rw [List.length_append, ends_len]; omega
theorem pad_le (l : List UInt8) : (pad l).length ≤ l.length + 73 := by unfold pad; rw [List.length_append, ends_len]; unfold zeros; omega

def SuHead (W0 : World) (l : List UInt8) (g3 : Nat) (s5 : Value) (wr : World) : Prop := ∃ k : Nat, 64 * k ≤ (pad l).length ∧ s5 = .int .i64 ((64 * k : Nat) : Int) ∧ Row wr g3 73 (u32s (absN init (pad l) k).list) ∧ Only g3 W0 wr
def SoHead (s : St) (g6 : Nat) (W : World) (s7 : Value) (wr : World) : Prop := ∃ i : Nat, i ≤ 32 ∧ s7 = .int .i64 (i : Int) ∧ Row wr g6 30 (cellsOf (ob s i)) ∧ Only g6 W wr

set_option maxHeartbeats 4000000 in
set_option maxRecDepth 100000 in
theorem refsum_call (l : List UInt8) (hl : l.length ≤ 1099511627776) (v : Value) (w : World) (hr : Rest w.heap.size w l v) : Calls Tryd.prog 43 #[v] w (RetD w (sha l)) := by
  have HR := Lib.hid hr
  have HB0 := Lib.hid (Below.refl w.heap.size w)
  clear hr
  go_enter Tryd.func43, Tryd.ntmps43
  go_wp2_with (first
    | (refine wpList_alloc_dig rfl 2 rfl rfl ?_; intro g2 w1 hg hrow hb; have H2 := Lib.hid hrow; have hg2 : w.heap.size ≤ g2 := (by omega); have HB0 := Lib.hid (below_next HB0.out hb); clear hg hrow hb)
    | (refine wpList_value 73 ⟨_, rfl⟩ rfl (.agg (u32s init.list).toArray) (by kernel_rfl) ?_)
    | (refine wpList_alloc_u rfl 3 rfl rfl (u32s (List.replicate 8 0)) (by kernel_rfl) ?_; intro g3 w2 hg hrow hb; have H3 := Lib.hid hrow; have h23 : g2 ≠ g3 := (by have := H2.out.lt; omega); have H2 := Lib.hid (H2.out.keep hb); have hg3 : w.heap.size ≤ g3 := (by have := HB0.out.size; omega); have HB0 := Lib.hid (below_next HB0.out hb); clear hg hrow hb)
    | (refine wpList_store_u rfl (.tmp 3) (.tmp 8) rfl g3 (u32s init.list) (u32s (List.replicate 8 0)) rfl rfl H3.out info73 rfl (u32s_one _) HB0.out hg3 ?_; intro w3 hrow hb hoth; have H3 := Lib.hid hrow; have H2 := Lib.hid (hoth _ _ _ h23 H2.out); have HB0 := Lib.hid hb; clear hrow hb hoth)
    | fail)
  refine (refpadded_call l hl v w3 (rest_keep HR.out HB0.out)).mono ?_
  rintro e W0 ⟨pv, rfl, hnew⟩
  have HB := Lib.hid (below_next HB0.out hnew.2.1)
  have H3W := Lib.hid (H3.out.keep hnew.2.1)
  have H2W := Lib.hid (H2.out.keep hnew.2.1)
  obtain ⟨p, hp⟩ : ∃ p, p = pad l := ⟨_, rfl⟩
  rw [← hp] at hnew
  have hp0 : 0 < p.length := by rw [hp]; exact pad_pos l
  have hpl : p.length ≤ 1099511627849 := by have := pad_le l; rw [hp]; omega
  have hpm : 64 * (p.length / 64) = p.length := by rw [hp]; exact pad_mul l
  have HREST : Hid (∀ W', Only g3 W0 W' → Rest W'.heap.size W' p pv) := fun W' h => buf_only hnew H3.out.lt h
  obtain ⟨pb, poff, pcap, rfl, hpc, hpc2, _, _⟩ := rest_cells (buf_rest' hnew.1) hp0
  obtain ⟨m, hm⟩ : ∃ m, m = p.length := ⟨_, rfl⟩
  rw [← hm] at HREST hp0 hpl hpm hpc ⊢
  have HM := Lib.hid hm
  have HP := Lib.hid hp
  clear hnew hm hp
  go_wp2_with fail
  go_loopw [5] (fun s5 wr => SuHead W0 l g3 s5 wr) (fun s5 _ => m - (intOf s5).toNat)
  case atStart => exact ⟨0, by omega, by go_num, H3W.out, Only.refl _ _⟩
  case round =>
    obtain ⟨k, hk, rfl, hrow, hon⟩ := hrel
    rw [← HP.out, ← HM.out] at hk
    rw [← HP.out] at hrow
    have HO := Lib.hid hon
    obtain ⟨st, hst⟩ : ∃ st, st = absN init p k := ⟨_, rfl⟩
    have hok : st.ok := by rw [hst]; exact absN_ok init_ok p k
    rw [← hst] at hrow
    have HG := Lib.hid hrow
    have HST := Lib.hid hst
    clear hrow hon hst
    rcases Nat.lt_or_ge (64 * k) m with hlt | hge
    · have hfit : 64 * k + 64 ≤ m := by omega
      obtain ⟨lb, hlb⟩ : ∃ lb, lb = (p.drop (64 * k)).take 64 := ⟨_, rfl⟩
      have hlbl : lb.length = 64 := by rw [hlb, List.length_take, List.length_drop, ← HM.out]; omega
      have HBK : Hid (∀ W', Only g3 W0 W' → Calls Tryd.prog 55 #[.agg (u32s st.list).toArray, .slice (some ⟨pb, poff + 64 * k, none⟩) 64 (pcap - 64 * k)] W' fun e w' => e = .returned (.agg (u32s (blockF st lb).list).toArray) ∧ Below W'.heap.size W' w') := fun W' h => by
        have hr := HREST.out W' h
        rw [HM.out] at hr
        have hp := rest_part hr (64 * k) 64 (pcap - 64 * k) (by rw [← HM.out]; omega) (by omega) (by omega)
        rw [← hlb] at hp
        exact refblock_call st hok lb hlbl _ W' hp
      have HLB := Lib.hid hlb
      have hltI : (64 : Int) * (k : Int) < (m : Int) := by omega
      obtain ⟨j0, hj0⟩ : ∃ j0, j0 = 64 * k := ⟨_, rfl⟩
      obtain ⟨j1, hj1⟩ : ∃ j1, j1 = j0 + 64 := ⟨_, rfl⟩
      rw [← hj0] at HBK
      have HJ0 := Lib.hid hj0
      have HJ1 := Lib.hid hj1
      have e0 : (64 : Int) * (k : Int) = (j0 : Int) := by omega
      have e1 : IntKind.i64.wrap ((j0 : Int) + 64) = (j1 : Int) := by rw [IntKind.wrap_i64]; omega
      have l1 : j1 ≤ pcap := by omega
      have l2 : j0 ≤ j1 := by omega
      have l3 : j1 - j0 = 64 := by omega
      have l4 : ¬ pcap = j0 := by omega
      clear hlb hj0 hj1
      go_wp2_with fail
      refine wp_region_any (by kernel_rfl) ?_
      try (change wpAny _ _ _ _ _ _ _ (World.drew _))
      (obtain ⟨w0, hw0⟩ : ∃ x, x = wr.drew := ⟨_, rfl⟩; rw [← hw0]; have HO0 : Hid (Only g3 W0 w0) := (by rw [hw0]; exact HO.out.drewN 1); have HG0 : Hid (Row w0 g3 73 (u32s st.list)) := (by rw [hw0]; exact HG.out); clear hw0)
      refine wpAny_take (i := 1) (oi := { dst := some 18, op := Op.move (Operand.tmp 4), type := 34, pos := "ref.go:66", after := #[], guard := none }) (v := ?_) rfl (by kernel_rfl) (by kernel_rfl) (by kernel_rfl) (fun _ _ _ h => h) (Or.inl ⟨by rfl, ?_⟩) ?_
      rotate_left
      · (intro w; go_simp; with_reducible rfl)
      try simp only [Act.put, List.setIfInBounds_toArray, List.set_cons_zero, List.set_cons_succ]
      refine wpAny_take (i := 2) (oi := { dst := some 19, op := Op.move (Operand.tmp 5), type := 3, pos := "ref.go:66", after := #[], guard := none }) (v := ?_) rfl (by kernel_rfl) (by kernel_rfl) (by kernel_rfl) (fun _ _ _ h => h) (Or.inl ⟨by rfl, ?_⟩) ?_
      rotate_left
      · (intro w; go_simp; with_reducible rfl)
      try simp only [Act.put, List.setIfInBounds_toArray, List.set_cons_zero, List.set_cons_succ]
      refine wpAny_take (i := 3) (oi := { dst := some 20, op := Op.move (Operand.tmp 5), type := 3, pos := "ref.go:66", after := #[], guard := none }) (v := ?_) rfl (by kernel_rfl) (by kernel_rfl) (by kernel_rfl) (fun _ _ _ h => h) (Or.inl ⟨by rfl, ?_⟩) ?_
      rotate_left
      · (intro w; go_simp; with_reducible rfl)
      try simp only [Act.put, List.setIfInBounds_toArray, List.set_cons_zero, List.set_cons_succ]
      refine wpAny_take (i := 4) (oi := { dst := some 21, op := Op.binOp BinOp.add 3 (Operand.tmp 20) (Operand.const (Value.int IntKind.i64 64)) 3, type := 3, pos := "ref.go:66", after := #[{ on := 3, ground := Ground.data }], guard := none }) (v := ?_) rfl (by kernel_rfl) (by kernel_rfl) (by kernel_rfl) (fun _ _ _ h => h) (Or.inl ⟨by rfl, ?_⟩) ?_
      rotate_left
      · (intro w; go_simp; with_reducible rfl)
      try simp only [Act.put, List.setIfInBounds_toArray, List.set_cons_zero, List.set_cons_succ]
      refine wpAny_take (i := 5) (oi := { dst := some 22, op := Op.slice 34 (Operand.tmp 18) (some (Operand.tmp 19)) (some (Operand.tmp 21)) none, type := 34, pos := "ref.go:66", after := #[{ on := 1, ground := Ground.data }, { on := 2, ground := Ground.data }, { on := 4, ground := Ground.data }], guard := none }) (v := ?_) rfl (by kernel_rfl) (by kernel_rfl) (by kernel_rfl) (fun _ _ _ h => h) (Or.inl ⟨by rfl, ?_⟩) ?_
      rotate_left
      · (intro w; go_simp; with_reducible rfl)
      try simp only [Act.put, List.setIfInBounds_toArray, List.set_cons_zero, List.set_cons_succ]
      refine wpAny_ready (rs := [0]) (by kernel_rfl) (by simp) ?_
      refine Go.BigFrame.allReady_want (o := { dst := some 17, op := Op.load 73 (Operand.tmp 3), type := 73, pos := "ref.go:66", after := #[], guard := none }) rfl (by rfl) (fun K hK => ?_) ?_
      · skip
        ((refine wp_load_58 _ rfl g3 st rfl HG0.out ?_))
        refine hK _ _ ?_
        clear hK K
        try simp only [Act.put, List.setIfInBounds_toArray, List.set_cons_zero, List.set_cons_succ]
        refine wpAny_ready (rs := [6]) (by kernel_rfl) (by simp) ?_
        refine Go.BigFrame.allReady_want (o := { dst := some 23, op := Op.call { callee := Callee.value (Operand.func 55), args := #[Operand.tmp 17, Operand.tmp 22], argTypes := #[73, 34] }, type := 73, pos := "ref.go:66", after := #[{ on := 0, ground := Ground.data }, { on := 5, ground := Ground.data }], guard := none }) rfl (by rfl) (fun K hK => ?_) ?_
        · skip
          go_simp
          go_wp2_with ((go_at_call 55; (with_reducible refine (HBK.out _ HO0.out).mono ?_); rintro e w8 ⟨rfl, hb⟩; have HG0 := Lib.hid (HG0.out.keep hb); have HO0 := Lib.hid (HO0.out.trans (only_below hb)); clear hb))
          refine wpAny_ready (rs := [7]) (by kernel_rfl) (by simp) ?_
          refine Go.BigFrame.allReady_want (o := { dst := none, op := Op.store 73 (Operand.tmp 3) (Operand.tmp 23), type := 0, pos := "ref.go:66", after := #[{ on := 6, ground := Ground.data }, { on := 6, ground := Ground.chain }, { on := 0, ground := Ground.phase }, { on := 1, ground := Ground.phase }, { on := 2, ground := Ground.phase }, { on := 3, ground := Ground.phase }, { on := 4, ground := Ground.phase }, { on := 5, ground := Ground.phase }, { on := 6, ground := Ground.phase }], guard := none }) rfl (by rfl) (fun K hK => ?_) ?_
          · skip
            ((refine wp_store_58 _ _ rfl g3 st (blockF st lb) rfl rfl HG0.out HO0.out ?_; intro w9 hg ho; have HG0 := Lib.hid hg; have HO0 := Lib.hid ho; clear hg ho))
            refine hK _ _ ?_
            clear hK K
            try simp only [Act.put, List.setIfInBounds_toArray, List.set_cons_zero, List.set_cons_succ]
            refine wpAny_done (by kernel_rfl) ?_ _
            ((go_wp2_with fail; exact ⟨⟨k + 1, (by rw [← HP.out, ← HM.out]; omega), (by have := HJ0.out; have := HJ1.out; go_num), (by rw [← HP.out, absN, ← HST.out, ← HLB.out]; exact HG0.out), HO0.out⟩, (by simp [intOf]; omega)⟩))
          exact AllReady.nil
        exact AllReady.nil
      exact AllReady.nil
    · have hge2 : ¬ ((64 : Int) * (k : Int) < (m : Int)) := by omega
      have hke : k = m / 64 := by omega
      have HSH : Hid (sha l = out st) := by rw [HST.out, hke, HM.out, HP.out]; rfl
      have H2r : Hid (Row wr g2 30 zb) := row_only H2W.out HO.out h23
      have HBr : Hid (Below w.heap.size w wr) := by
        have := HO.out.below (B := w.heap.size) hg3 HB.out.size
        exact HB.out.trans this
      clear hke
      have H26z : Hid ((cellsOf zd).toArray = z32) := rfl
      go_wp2_with (first
        | (refine wpList_value 30 ⟨_, rfl⟩ rfl (dg zd) (by kernel_rfl) ?_)
        | (refine wpList_alloc_dig rfl 6 rfl rfl ?_; intro g6 w11 hg hrow hb; have H6 := Lib.hid hrow; have h26 : g2 ≠ g6 := (by have := H2r.out.lt; omega); have h36 : g3 ≠ g6 := (by have := HG.out.lt; omega); have hg6 : wr.heap.size ≤ g6 := (by omega); have HB11 := Lib.hid hb; clear hg hrow hb)
        | (refine wpList_store_dig rfl (.tmp 6) (.tmp 24) rfl g6 zd zd_len rfl rfl H6.out HB11.out hg6 ?_; intro W hrow hb hoth; have H6 := Lib.hid hrow; have HBW := Lib.hid hb; clear hrow hb hoth)
        | fail)
      have H2W' := Lib.hid (H2r.out.keep HBW.out)
      have H3W' := Lib.hid (HG.out.keep HBW.out)
      have HBWw := Lib.hid (below_next HBr.out HBW.out)
      have hg6w : w.heap.size ≤ g6 := by have := HBr.out.size; omega
      have hlt3 := H3W'.out.lt
      have HLO : Hid ((out st).length = 32) := out_len st
      obtain ⟨wo, rfl⟩ : ∃ wo : World, wo = wr := ⟨_, rfl⟩
      clear hge hge2
      go_loopw [7] (fun s7 wr => SoHead st g6 W s7 wr) (fun s7 _ => 32 - (intOf s7).toNat)
      case atStart => exact ⟨0, by omega, by go_num, H6.out, Only.refl _ _⟩
      case round =>
        obtain ⟨i, hi, rfl, hrow, hbe⟩ := hrel
        have HR6 := Lib.hid hrow
        have HB6 := Lib.hid hbe
        clear hrow hbe
        rcases Nat.lt_or_ge i 32 with hlt2 | hge
        · obtain ⟨x, hx⟩ : ∃ x, x = st.nth (i / 4) := ⟨_, rfl⟩
          obtain ⟨q, hq⟩ : ∃ q, q = i / 4 := ⟨_, rfl⟩
          have eq1 : (i : Int) / 4 = (q : Int) := by omega
          have eq2 : (i : Int).tdiv 4 = (q : Int) := by rw [Int.tdiv_eq_ediv_of_nonneg (by omega)]; omega
          have hc : wr.cell? ⟨g3, q, none⟩ = some (.int .u32 (x : Int)) := by rw [hx, hq]; exact (row_only H3W'.out HB6.out h36).cell (list_nth st _ (by omega))
          have lq : q < 8 := by omega
          have lx : x < 4294967296 := by rw [hx]; exact St.nth_lt hok _
          have hc0 : ∃ v0, wr.cell? ⟨g6, i, none⟩ = some v0 := ⟨_, HR6.out.cell (v := _) (cellsOf_get (by rw [ob_len st i hi]; exact hlt2))⟩
          obtain ⟨v0, hc0⟩ := hc0
          have hf0 : wr.frozen? ⟨g6, i, none⟩ = false := HR6.out.free i
          have HX := Lib.hid hx
          have HQ := Lib.hid hq
          clear hx hq
          go_wp2_with fail
          rw [show (x : Int) / 2 ^ (24 - 8 * (i % 4)) % 256 = ((x / 2 ^ (24 - i % 4 * 8) % 256 : Nat) : Int) by rw [Nat.mul_comm (i % 4) 8]; simp]
          exact ⟨⟨i + 1, by omega, by go_num, HR6.out.set i _ (ob_set st i hlt2 _ (by rw [HX.out])), HB6.out.trans (only_set _ _ _ _)⟩, by simp [intOf]; omega⟩
        · obtain rfl : i = 32 := by omega
          have e : ob st 32 = out st := by unfold ob; rw [List.take_of_length_le (by rw [out_len]; omega)]; simp
          have HRo : Hid (Row wr g6 30 (cellsOf (out st))) := by rw [← e]; exact HR6.out
          have H2z := Lib.hid (row_only H2W'.out HB6.out h26)
          have HBz := Lib.hid (HBWw.out.trans (HB6.out.below (B := w.heap.size) hg6w HBWw.out.size))
          clear e
          go_wp2_with (first
            | (refine wpList_row_dig rfl (.tmp 6) rfl g6 (out st) HLO.out rfl HRo.out ?_)
            | (refine wpList_store_dig rfl (.tmp 2) (.tmp 41) rfl g2 (out st) HLO.out rfl rfl H2z.out HBz.out hg2 ?_; intro wE hrow hb hoth; have HRE := Lib.hid hrow; have HBE := Lib.hid hb; clear hrow hb hoth)
            | fail)
          exact bodyPost_ret (results_cell_row rfl _ _ g2 30 (cellsOf (out st)).toArray (0, 0) _ rfl HRE.out Tryd.underlying30 rfl (size32' HLO.out)) rfl ⟨by rw [HSH.out]; rfl, HBE.out⟩
end Go.Proofs.YtbceimbcjijfgaaDoor.Dig

/- Hashes under a tag, and ends of chains: the reference's functions. -/
namespace Go.Proofs.YtbceimbcjijfgaaDoor.Dig
open Go.RowKit

theorem wpList_conv {ops : Array Oper} {rest : List Oper} {o : Oper} {a : Act} {w : World} {Q : Exit → Act → World → Prop} (hgd : o.guard = none) (x : Operand) (ho : o.op = .convert 9 34 x) (s : ByteArray) (hx : a.eval x = .string s) (hs : s.size ≤ maxLen)
    (h : ∀ v' w', Rest w'.heap.size w' s.data.toList v' → Below w.heap.size w w' → wpList Tryd.prog ops Q rest (a.put o.dst v') w') : wpList Tryd.prog ops Q (o :: rest) a w :=
  wpList_plain hgd fun _ hK => by
    obtain ⟨cap2, w2, hcv, hb2, hR2⟩ := conv_str w s hs
    have h1 := hK _ _ (h _ w2 hR2 hb2)
    unfold Oper.wp execOp
    simp [ho, hx, hcv, Sem.run_bind]
    exact h1

set_option maxHeartbeats 4000000 in
set_option maxRecDepth 100000 in
theorem reftagged_call (tag : ByteArray) (l : List UInt8) (v : Value) (w : World) (ht : tag.size ≤ 549755813888) (hl : l.length ≤ 549755813888) (hr : Rest w.heap.size w l v) :
    Calls Tryd.prog 30 #[.string tag, v] w (RetD w (tagged tag.data.toList l)) := by
  have HR := Lib.hid hr
  obtain ⟨va, vc, rfl⟩ : ∃ a cap, v = .slice a l.length cap := by obtain ⟨a, cap, h, _⟩ := hr; exact ⟨a, cap, h⟩
  have hts : tag.data.toList.length = tag.size := by rw [Array.length_toList]; rfl
  obtain ⟨d1, hd1⟩ : ∃ d1, d1 = sha tag.data.toList := ⟨_, rfl⟩
  have HLD : Hid (d1.length = 32) := by rw [hd1]; exact sha_len _
  obtain ⟨d2, hd2⟩ : ∃ d2, d2 = tagged tag.data.toList l := ⟨_, rfl⟩
  have HLT : Hid (d2.length = 32) := by rw [hd2]; exact tagged_len _ _
  have HS1 : Hid (∀ (W' : World) (u : Value), Rest W'.heap.size W' tag.data.toList u → Calls Tryd.prog 43 #[u] W' (RetD W' d1)) := fun W' u h => by rw [hd1]; exact refsum_call _ (by rw [hts]; omega) u W' h
  have HS2 : Hid (∀ (W' : World) (u : Value), Rest W'.heap.size W' (d1 ++ l) u → Calls Tryd.prog 43 #[u] W' (RetD W' d2)) := fun W' u h => by
    rw [hd2, tagged, ← hd1]
    exact refsum_call _ (by rw [List.length_append, HLD.out]; omega) u W' h
  rw [← hd2]
  have HMX : Hid (tag.size ≤ maxLen) := by show tag.size ≤ maxLen; unfold maxLen; omega
  have HL1 : Hid (([] : List UInt8).length + d1.length ≤ 70368744177664) := by show ([] : List UInt8).length + d1.length ≤ 70368744177664; rw [HLD.out]; simp
  have HL2 : Hid (d1.length + l.length ≤ 70368744177664) := by show d1.length + l.length ≤ 70368744177664; rw [HLD.out]; omega
  have HB0 := Lib.hid (Below.refl w.heap.size w)
  clear hr hts hd1 hd2
  go_enter Tryd.func30, Tryd.ntmps30
  go_wp2_with (first
    | (refine wpList_alloc_dig rfl 4 rfl rfl ?_; intro g4 w1 hg hrow hb; have H4 := Lib.hid hrow; have hg4 : w.heap.size ≤ g4 := (by omega); have HB0 := Lib.hid (below_next HB0.out hb); clear hg hrow hb)
    | (refine wpList_conv rfl (.tmp 6) rfl tag rfl HMX.out ?_; intro v7 w2 hr hb; have H7 := Lib.hid hr; have H4 := Lib.hid (H4.out.keep hb); have HB0 := Lib.hid (below_next HB0.out hb); clear hr hb)
    | fail)
  refine (HS1.out w2 v7 H7.out).mono ?_
  rintro e w3 ⟨rfl, hb⟩
  have HB0 := Lib.hid (below_next HB0.out hb)
  have H4 := Lib.hid (H4.out.keep hb)
  clear hb
  go_wp2_with (first
    | (refine wpList_alloc_dig rfl 5 rfl rfl ?_; intro g5 w4 hg hrow hb; have H5 := Lib.hid hrow; have h45 : g4 ≠ g5 := (by have := H4.out.lt; omega); have hg5 : w.heap.size ≤ g5 := (by have := HB0.out.size; omega); have H4 := Lib.hid (H4.out.keep hb); have HB0 := Lib.hid (below_next HB0.out hb); clear hg hrow hb)
    | (refine wpList_store_dig rfl (.tmp 5) (.tmp 8) rfl g5 d1 HLD.out rfl rfl H5.out HB0.out hg5 ?_; intro w5 hrow hb hoth; have H5 := Lib.hid hrow; have H4 := Lib.hid (hoth _ _ _ h45 H4.out); have HB0 := Lib.hid hb; have HBZ := Lib.hid (Below.refl w5.heap.size w5); clear hrow hb hoth)
    | (refine wpList_none' rfl rfl HBZ.out ?_; intro v9 w6 hn; have HN := Lib.hid hn; have HBZ := Lib.hid hn.2.1; clear hn)
    | (refine wpList_buf' rfl _ (.tmp 10) rfl v9 [] rfl HN.out _ _ d1 rfl (row_rest32 (H5.out.keep HBZ.out) HLD.out) HL1.out ?_; intro v11 w7 hn; have HN : Hid (New w5 w7 v11 d1) := hn; have HBZ := Lib.hid hn.2.1; clear hn)
    | (refine wpList_buf' rfl _ (.tmp 12) rfl v11 d1 rfl HN.out _ _ l rfl (rest_keep HR.out (below_next HB0.out HBZ.out)) HL2.out ?_; intro v13 w8 hn; have HN := Lib.hid hn; have HBZ := Lib.hid hn.2.1; clear hn)
    | fail)
  refine (HS2.out w8 v13 (buf_rest' HN.out.1)).mono ?_
  rintro e w9 ⟨rfl, hb⟩
  have HBZ9 := Lib.hid (below_next HBZ.out hb)
  have H49 := Lib.hid (H4.out.keep HBZ9.out)
  have HB9 := Lib.hid (below_next HB0.out HBZ9.out)
  clear hb
  go_wp2_with (first
    | (refine wpList_store_dig rfl (.tmp 4) (.tmp 14) rfl g4 d2 HLT.out rfl rfl H49.out HB9.out hg4 ?_; intro wE hrow hb hoth; have HRE := Lib.hid hrow; have HBE := Lib.hid hb; clear hrow hb hoth)
    | fail)
  exact bodyPost_ret (results_cell_row rfl _ _ g4 30 (cellsOf d2).toArray (0, 0) _ rfl HRE.out Tryd.underlying30 rfl (size32' HLT.out)) rfl ⟨rfl, HBE.out⟩
end Go.Proofs.YtbceimbcjijfgaaDoor.Dig
