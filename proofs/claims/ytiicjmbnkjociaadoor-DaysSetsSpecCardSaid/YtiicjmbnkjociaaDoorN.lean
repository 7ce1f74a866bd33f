/- Lists of spans and dates compared; Union, Meet, Without; Few, has, less. -/
import Derived.Test.YtiicjmbnkjociaaDoorK
import Derived.Deep.DeepCutAuto
import Derived.Laws.StructEq
namespace Go.Proofs.YtiicjmbnkjociaaDoor
open Go.RowKit

theorem span0 (x y : Int) (W : World) : (part 3 #[.int .i64 x, .int .i64 y] 0).run Tryd.prog W = .ok (.int .i64 x) W := by kernel_rfl
theorem span1 (x y : Int) (W : World) : (part 3 #[.int .i64 x, .int .i64 y] 1).run Tryd.prog W = .ok (.int .i64 y) W := by kernel_rfl
theorem eq_span (a b c d : Int) (W : World) : (Op.equalIn 10000 45 (.agg #[.int .i64 a, .int .i64 b]) (.agg #[.int .i64 c, .int .i64 d])).run Tryd.prog W = .ok ((a == c) && (b == d)) W := by
  rw [run_equalIn_struct W 9999 _ _ _ (by kernel_rfl) (by kernel_rfl)]
  simp only [Program.fieldsOf, Tryd.underlying45]
  cases h1 : a == c <;> cases h2 : b == d <;> simp [Op.eqFields, Sem.run_bind, span0, span1, run_equalIn_int _ 9998 3 .i64 .i64 _ _ Tryd.underlying3, h1, h2]
theorem guardSp : Tryd.prog.eqGuardType Tryd.prog.depth 45 = false := by kernel_rfl
theorem guard_span (op : BinOp) (x y : Operand) (a b c d : Int) (W : World) : (eqGuard op 45 x y (.agg #[.int .i64 a, .int .i64 b]) (.agg #[.int .i64 c, .int .i64 d])).run Tryd.prog W = .ok () W := run_eqGuard_agg W op _ x y _ _ guardSp
theorem neq_span (a b c d : Int) (W : World) : (binOp .neq 45 (.agg #[.int .i64 a, .int .i64 b]) (.agg #[.int .i64 c, .int .i64 d])).run Tryd.prog W = .ok (.bool (!((a == c) && (b == d)))) W := by
  rw [run_neq_struct, eq_span]; rfl
theorem date0 (x y z : Int) (W : World) : (part 3 #[.int .i64 x, .int .i64 y, .int .i64 z] 0).run Tryd.prog W = .ok (.int .i64 x) W := by kernel_rfl
theorem date1 (x y z : Int) (W : World) : (part 3 #[.int .i64 x, .int .i64 y, .int .i64 z] 1).run Tryd.prog W = .ok (.int .i64 y) W := by kernel_rfl
theorem date2 (x y z : Int) (W : World) : (part 3 #[.int .i64 x, .int .i64 y, .int .i64 z] 2).run Tryd.prog W = .ok (.int .i64 z) W := by kernel_rfl
theorem eq_date (a b c d e f : Int) (W : World) : (Op.equalIn 10000 23 (.agg #[.int .i64 a, .int .i64 b, .int .i64 c]) (.agg #[.int .i64 d, .int .i64 e, .int .i64 f])).run Tryd.prog W = .ok ((a == d) && ((b == e) && (c == f))) W := by
  rw [run_equalIn_struct W 9999 _ _ _ (by kernel_rfl) (by kernel_rfl)]
  simp only [Program.fieldsOf, Tryd.underlying23]
  cases h1 : a == d <;> cases h2 : b == e <;> cases h3 : c == f <;> simp [Op.eqFields, Sem.run_bind, date0, date1, date2, run_equalIn_int _ 9998 3 .i64 .i64 _ _ Tryd.underlying3, h1, h2, h3]
theorem guardDt : Tryd.prog.eqGuardType Tryd.prog.depth 23 = false := by kernel_rfl
theorem guard_date (op : BinOp) (x y : Operand) (a b c d e f : Int) (W : World) : (eqGuard op 23 x y (.agg #[.int .i64 a, .int .i64 b, .int .i64 c]) (.agg #[.int .i64 d, .int .i64 e, .int .i64 f])).run Tryd.prog W = .ok () W := run_eqGuard_agg W op _ x y _ _ guardDt
theorem neq_date (a b c d e f : Int) (W : World) : (binOp .neq 23 (.agg #[.int .i64 a, .int .i64 b, .int .i64 c]) (.agg #[.int .i64 d, .int .i64 e, .int .i64 f])).run Tryd.prog W = .ok (.bool (!((a == d) && ((b == e) && (c == f))))) W := by
  rw [run_neq_struct, eq_date]; rfl
theorem eql_date (a b c d e f : Int) (W : World) : (binOp .eql 23 (.agg #[.int .i64 a, .int .i64 b, .int .i64 c]) (.agg #[.int .i64 d, .int .i64 e, .int .i64 f])).run Tryd.prog W = .ok (.bool ((a == d) && ((b == e) && (c == f)))) W := by
  rw [run_eql_struct, eq_date]; rfl
/-- two lists, element by element -/
theorem same_all {l l' : List Sp} (hl : l.length = l'.length) (h : ∀ j, j < l.length → l.getD j (0, 0) = l'.getD j (0, 0)) : l = l' := by
  refine List.ext_getElem hl fun i h1 h2 => ?_
  have := h i h1
  simpa [h1, h2] using this
set_option maxHeartbeats 4000000 in
set_option maxRecDepth 100000 in
theorem Same_call (l l' : List Sp) (v v' : Value) (B : Nat) (w : World) (h : PRest B w l v) (h' : PRest B w l' v') (hB : B ≤ w.heap.size) :
    Calls Tryd.prog 29 #[v, v'] w fun e w' => e = .returned (.bool (decide (l = l'))) ∧ Below w.heap.size w w' := by
  obtain ⟨a, cap, rfl, -⟩ := id h
  obtain ⟨a', cap', rfl, -⟩ := id h'
  obtain ⟨-, hl, hm, hc⟩ := spans_at h
  obtain ⟨-, hl', hm', hc'⟩ := spans_at h'
  have HC := Lib.hid hc
  have HC' := Lib.hid hc'
  have HT : Hid (l.length = l'.length → (∀ j, j < l.length → l.getD j (0, 0) = l'.getD j (0, 0)) → decide (l = l') = true) := Lib.hid (fun h1 h2 => decide_eq_true (same_all h1 h2))
  have HF : Hid (∀ j, ¬ l.getD j (0, 0) = l'.getD j (0, 0) → decide (l = l') = false) := Lib.hid (fun j h1 => decide_eq_false (fun e => h1 (by rw [e])))
  have HG : Hid (¬ l.length = l'.length → decide (l = l') = false) := Lib.hid (fun h1 => decide_eq_false (fun e => h1 (by rw [e])))
  unfold maxLen at hm hm'
  obtain ⟨n, hn⟩ : ∃ n, n = l.length := ⟨_, rfl⟩
  obtain ⟨n', hn'⟩ : ∃ n, n = l'.length := ⟨_, rfl⟩
  rw [← hn] at hl HC HT HG ⊢
  rw [← hn'] at hl' HC' HT HG ⊢
  generalize decide (l = l') = r at *
  clear h h' hc hc' hn hn'
  by_cases hnn : n = n'
  · subst hnn
    have e0 : ((n : Int) != (n : Int)) = false := by simp
    go_enter Tryd.func29, Tryd.ntmps29
    go_wp2_with fail
    go_loopw [5] (fun s5 wr => ∃ k : Nat, (k ≤ n ∧ ∀ j, j < k → l.getD j (0, 0) = l'.getD j (0, 0)) ∧ s5 = .int .i64 (k : Int) ∧ Below w.heap.size w wr) (fun s5 _ => n - (intOf s5).toNat)
    case atStart => exact ⟨0, ⟨by omega, fun j hj => by omega⟩, rfl, Below.refl _ _⟩
    case round =>
      obtain ⟨k, hk, rfl, hb⟩ := hrel
      have HK := Lib.hid hk
      have HB := Lib.hid hb
      rcases Nat.lt_or_ge k n with hlt | hge
      · obtain ⟨-, b, off, rfl, hbB, hc1, hc2⟩ := HC.out k hlt
        obtain ⟨-, b', off', rfl, hbB', hc1', hc2'⟩ := HC'.out k hlt
        have hd1 := (hb.cell (p := ⟨b, off + k * 2, none⟩) (by show b < w.heap.size; omega)).trans hc1
        have hd2 := (hb.cell (p := ⟨b, off + k * 2 + 1, none⟩) (by show b < w.heap.size; omega)).trans hc2
        have hd3 := (hb.cell (p := ⟨b', off' + k * 2, none⟩) (by show b' < w.heap.size; omega)).trans hc1'
        have hd4 := (hb.cell (p := ⟨b', off' + k * 2 + 1, none⟩) (by show b' < w.heap.size; omega)).trans hc2'
        have HFK := Lib.hid (HF.out k)
        have hki : (k : Int) < (n : Int) := by omega
        have hwk : IntKind.i64.wrap ((k : Int) + 1) = ((k + 1 : Nat) : Int) := by rw [IntKind.wrap_i64]; omega
        have HX : Hid ((l.getD k (0, 0) = l'.getD k (0, 0)) ↔ ((l.getD k (0, 0)).1 == (l'.getD k (0, 0)).1 && (l.getD k (0, 0)).2 == (l'.getD k (0, 0)).2) = true) := Lib.hid (by simp [Prod.ext_iff])
        have hne := fun W => neq_span (l.getD k (0, 0)).1 (l.getD k (0, 0)).2 (l'.getD k (0, 0)).1 (l'.getD k (0, 0)).2 W
        have hgu := fun op x y W => guard_span op x y (l.getD k (0, 0)).1 (l.getD k (0, 0)).2 (l'.getD k (0, 0)).1 (l'.getD k (0, 0)).2 W
        have HLT := Lib.hid hlt
        generalize (l.getD k (0, 0)).1 = x1 at *
        generalize (l.getD k (0, 0)).2 = x2 at *
        generalize (l'.getD k (0, 0)).1 = y1 at *
        generalize (l'.getD k (0, 0)).2 = y2 at *
        clear hb hk hc1 hc2 hc1' hc2' hbB hbB' hlt
        cases hq : (x1 == y1 && x2 == y2) with
        | true =>
          simp only [hq, Bool.not_true] at hne HX
          have HNX : Hid (∀ j, j < k + 1 → l.getD j (0, 0) = l'.getD j (0, 0)) := Lib.hid (fun j hj => by
            rcases Nat.lt_or_ge j k with h1 | h1
            · exact HK.out.2 j h1
            · obtain rfl : j = k := by omega
              exact HX.out.2 trivial)
          clear hq
          go_wp2_with fail
          go_quiet (fail)
          go_wp2_with fail
          exact ⟨⟨k + 1, ⟨by have := HLT.out; omega, HNX.out⟩, by first | rfl | trivial, below_drewN HB.out _⟩, by have := HLT.out; simp [intOf]; omega⟩
        | false =>
          simp only [hq, Bool.not_false] at hne HX
          have HRF : Hid (r = false) := Lib.hid (HFK.out (fun h => by have := HX.out.1 h; cases this))
          clear hq
          go_wp2_with fail
          go_quiet (fail)
          go_wp2_with fail
          go_ret
          exact ⟨ret_bool HRF.out.symm, below_drewN HB.out _⟩
      · obtain rfl : k = n := by omega
        have HRT : Hid (r = true) := Lib.hid (HT.out trivial hk.2)
        clear hk hb
        go_wp2_with fail
        go_ret
        exact ⟨ret_bool HRT.out.symm, HB.out⟩
  · have e0 : ((n : Int) != (n' : Int)) = true := by simp; omega
    have HRF : Hid (r = false) := Lib.hid (HG.out hnn)
    clear hnn
    go_enter Tryd.func29, Tryd.ntmps29
    go_wp2_with fail
    go_ret
    exact ⟨ret_bool HRF.out.symm, Below.refl _ _⟩
set_option maxRecDepth 100000 in
theorem Few_call (a1 : Option Addr) (n1 c1 : Nat) (a2 : Option Addr) (n2 c2 : Nat) (w : World) (h1 : n1 ≤ maxLen) (h2 : n2 ≤ maxLen) :
    Calls Tryd.prog 16 #[.slice a1 n1 c1, .slice a2 n2 c2] w fun e w' => e = .returned (.bool (decide (n1 ≤ 260 ∧ n2 ≤ 260))) ∧ w' = w := by
  unfold maxLen at h1 h2
  by_cases h3 : n1 ≤ 260
  · by_cases h4 : n2 ≤ 260
    · have e1 : decide ((n1 : Int) ≤ 260) = true := by simp; omega
      have e2 : decide ((n2 : Int) ≤ 260) = true := by simp; omega
      rw [decide_eq_true (show n1 ≤ 260 ∧ n2 ≤ 260 from ⟨h3, h4⟩)]
      clear h3 h4
      go_enter Tryd.func16, Tryd.ntmps16
      go_wp2_with fail
      go_ret
      exact ⟨rfl, rfl⟩
    · have e1 : decide ((n1 : Int) ≤ 260) = true := by simp; omega
      have e2 : decide ((n2 : Int) ≤ 260) = false := by simp; omega
      rw [decide_eq_false (show ¬ (n1 ≤ 260 ∧ n2 ≤ 260) from fun h => h4 h.2)]
      clear h3 h4
      go_enter Tryd.func16, Tryd.ntmps16
      go_wp2_with fail
      go_ret
      exact ⟨rfl, rfl⟩
  · have e1 : decide ((n1 : Int) ≤ 260) = false := by simp; omega
    rw [decide_eq_false (show ¬ (n1 ≤ 260 ∧ n2 ≤ 260) from fun h => h3 h.1)]
    clear h3
    go_enter Tryd.func16, Tryd.ntmps16
    go_wp2_with fail
    go_ret
    exact ⟨rfl, rfl⟩
theorem hasB_f {l : List Sp} {d : Int} (h : ∀ j, j < l.length → ¬ ((l.getD j (0, 0)).1 ≤ d ∧ d ≤ (l.getD j (0, 0)).2)) : hasB l d = false := by
  rw [Bool.eq_false_iff]
  intro h1
  obtain ⟨x, hx, h2⟩ := (hasB_iff l d).1 h1
  obtain ⟨j, hj, rfl⟩ := List.mem_iff_getElem.1 hx
  exact h j hj (by simpa [hj] using h2)
theorem hasB_t {l : List Sp} {d : Int} {j : Nat} (hj : j < l.length) (h : (l.getD j (0, 0)).1 ≤ d ∧ d ≤ (l.getD j (0, 0)).2) : hasB l d = true :=
  (hasB_iff l d).2 ⟨l[j], List.getElem_mem hj, by simpa [hj] using h⟩
set_option maxHeartbeats 2000000 in
set_option maxRecDepth 100000 in
theorem has_call (l : List Sp) (v : Value) (d : Int) (B : Nat) (w : World) (h : PRest B w l v) (hB : B ≤ w.heap.size) :
    Calls Tryd.prog 31 #[v, .int .i64 d] w fun e w' => e = .returned (.bool (hasB l d)) ∧ Below w.heap.size w w' := by
  obtain ⟨a, cap, rfl, -⟩ := id h
  obtain ⟨-, hl, hm, hc⟩ := spans_at h
  have HC := Lib.hid hc
  have HT : Hid (∀ j, j < l.length → ((l.getD j (0, 0)).1 ≤ d ∧ d ≤ (l.getD j (0, 0)).2) → hasB l d = true) := Lib.hid (fun j hj hk => hasB_t hj hk)
  have HF : Hid ((∀ j, j < l.length → ¬ ((l.getD j (0, 0)).1 ≤ d ∧ d ≤ (l.getD j (0, 0)).2)) → hasB l d = false) := Lib.hid hasB_f
  unfold maxLen at hm
  obtain ⟨n, hn2⟩ : ∃ n, n = l.length := ⟨_, rfl⟩
  rw [← hn2] at hl HC HT HF ⊢
  generalize hasB l d = r at *
  clear h hc hn2
  go_enter Tryd.func31, Tryd.ntmps31
  go_wp2_with fail
  go_loopw [9] (fun s9 wr => ∃ k : Nat, (k ≤ n ∧ ∀ j, j < k → ¬ ((l.getD j (0, 0)).1 ≤ d ∧ d ≤ (l.getD j (0, 0)).2)) ∧ s9 = .int .i64 (k : Int) ∧ Below w.heap.size w wr) (fun s9 _ => n - (intOf s9).toNat)
  case atStart => exact ⟨0, ⟨by omega, fun j hj => by omega⟩, rfl, Below.refl _ _⟩
  case round =>
    obtain ⟨k, hk, rfl, hb⟩ := hrel
    have HK := Lib.hid hk
    have HB := Lib.hid hb
    rcases Nat.lt_or_ge k n with hlt | hge
    · obtain ⟨-, b, off, rfl, hbB, hc1, hc2⟩ := HC.out k hlt
      have hd1 := (hb.cell (p := ⟨b, off + k * 2, none⟩) (by show b < w.heap.size; omega)).trans hc1
      have hd2 := (hb.cell (p := ⟨b, off + k * 2 + 1, none⟩) (by show b < w.heap.size; omega)).trans hc2
      have HTK := Lib.hid (HT.out k hlt)
      have HNK : Hid (¬ ((l.getD k (0, 0)).1 ≤ d ∧ d ≤ (l.getD k (0, 0)).2) → ∀ j, j < k + 1 → ¬ ((l.getD j (0, 0)).1 ≤ d ∧ d ≤ (l.getD j (0, 0)).2)) := Lib.hid (fun h j hj => by
        rcases Nat.lt_or_ge j k with h1 | h1
        · exact HK.out.2 j h1
        · obtain rfl : j = k := by omega
          exact h)
      generalize (l.getD k (0, 0)).1 = x1 at *
      generalize (l.getD k (0, 0)).2 = x2 at *
      have hki : (k : Int) < (n : Int) := by omega
      have hwk : IntKind.i64.wrap ((k : Int) + 1) = ((k + 1 : Nat) : Int) := by rw [IntKind.wrap_i64]; omega
      have HA := Lib.hid (Joins.below_alloc1 wr (.cells #[.int .i64 x1, .int .i64 x2] 45))
      have HLT := Lib.hid hlt
      clear hb hk hc1 hc2 hbB hlt
      by_cases hg1 : x1 ≤ d
      · have e1 : decide (x1 ≤ d) = true := by simpa using hg1
        by_cases hg2 : d ≤ x2
        · have e2 : decide (d ≤ x2) = true := by simpa using hg2
          have HRT : Hid (r = true) := Lib.hid (HTK.out ⟨hg1, hg2⟩)
          clear hg1 hg2
          go_wp2_with fail
          go_ret
          exact ⟨ret_bool HRT.out.symm, below_next HB.out HA.out⟩
        · have e2 : decide (d ≤ x2) = false := by simpa using hg2
          have HNX := Lib.hid (HNK.out (fun h => hg2 h.2))
          clear hg1 hg2
          go_wp2_with fail
          exact ⟨⟨k + 1, ⟨by have := HLT.out; omega, HNX.out⟩, by first | rfl | trivial, below_next HB.out HA.out⟩, by have := HLT.out; simp [intOf]; omega⟩
      · have e1 : decide (x1 ≤ d) = false := by simpa using hg1
        have HNX := Lib.hid (HNK.out (fun h => hg1 h.1))
        clear hg1
        go_wp2_with fail
        exact ⟨⟨k + 1, ⟨by have := HLT.out; omega, HNX.out⟩, by first | rfl | trivial, below_next HB.out HA.out⟩, by have := HLT.out; simp [intOf]; omega⟩
    · obtain rfl : k = n := by omega
      have HRF : Hid (r = false) := Lib.hid (HF.out hk.2)
      clear hk hb
      go_wp2_with fail
      go_ret
      exact ⟨ret_bool HRF.out.symm, HB.out⟩
theorem below_alloc2 (w : World) (a b : Obj) : Below w.heap.size w ((w.alloc a).alloc b) := below_next (Joins.below_alloc1 w a) (Joins.below_alloc1 _ b)
set_option maxHeartbeats 2000000 in
set_option maxRecDepth 100000 in
theorem less_call (x y : Dt) (w : World) :
    Calls Tryd.prog 30 #[x.v, y.v] w fun e w' => e = .returned (.bool (x.less y)) ∧ Below w.heap.size w w' := by
  obtain ⟨y1, m1, d1⟩ := x
  obtain ⟨y2, m2, d2⟩ := y
  have HA := Lib.hid (below_alloc2 w (.cells #[.int .i64 y1, .int .i64 m1, .int .i64 d1] 23) (.cells #[.int .i64 y2, .int .i64 m2, .int .i64 d2] 23))
  unfold Dt.less Dt.v
  simp only
  by_cases h1 : y1 = y2
  · have e1 : (y1 != y2) = false := by simpa using h1
    rw [if_pos h1]
    by_cases h2 : m1 = m2
    · have e2 : (m1 != m2) = false := by simpa using h2
      rw [if_pos h2]
      clear h1 h2
      go_enter Tryd.func30, Tryd.ntmps30
      go_wp2_with fail
      go_ret
      exact ⟨rfl, HA.out⟩
    · have e2 : (m1 != m2) = true := by simpa using h2
      rw [if_neg h2]
      clear h1 h2
      go_enter Tryd.func30, Tryd.ntmps30
      go_wp2_with fail
      go_ret
      exact ⟨rfl, HA.out⟩
  · have e1 : (y1 != y2) = true := by simpa using h1
    rw [if_neg h1]
    clear h1
    go_enter Tryd.func30, Tryd.ntmps30
    go_wp2_with fail
    go_ret
    exact ⟨rfl, HA.out⟩
end Go.Proofs.YtiicjmbnkjociaaDoor
