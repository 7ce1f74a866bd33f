/- sane: the chapter's examples. -/
import Derived.Test.YtbmbddapbgnioaaHe
namespace Go.Proofs.Ytbmbddapbgnioaa
open Go.RowKit Go.Shelf

def arC : List Ar → List Value
  | [] => []
  | e :: l => .int .i64 e.1 :: .int .i64 e.2.1 :: .int .i64 e.2.2 :: arC l
theorem arC_at : ∀ {l : List Ar} {j : Nat} (h : j < l.length), (arC l)[j * 3]? = some (.int .i64 l[j].1) ∧ (arC l)[j * 3 + 1]? = some (.int .i64 l[j].2.1) ∧ (arC l)[j * 3 + 2]? = some (.int .i64 l[j].2.2)
  | x :: l, 0, _ => ⟨rfl, rfl, rfl⟩
  | x :: l, j + 1, h => by
    have := arC_at (l := l) (j := j) (by simpa using h)
    rw [show (j + 1) * 3 = j * 3 + 1 + 1 + 1 by omega]
    simpa [arC] using this
theorem arest_row {w : World} {b : Nat} {A : List Ar} (n : Nat) (hn : n = A.length) (hr : Row w b 43 (arC A)) (hI : ∀ p, p ∈ A → I64 p.1 ∧ I64 p.2.1 ∧ I64 p.2.2) (hm : n ≤ maxLen) : ARest w.heap.size w A (.slice (some ⟨b, 0, none⟩) n n) := by
  subst hn
  refine ⟨_, _, rfl, Nat.le_refl _, hm, hI, .inr ⟨b, 0, rfl, hr.lt, fun i hi => ?_⟩⟩
  obtain ⟨h1, h2, h3⟩ := arC_at hi
  rw [Nat.zero_add]
  exact ⟨hr.cell h1, hr.cell h2, hr.cell h3⟩
instance (n : Int) : Decidable (I64 n) := by unfold I64; exact inferInstance
def Ab : List Ar := [(1, 0, 2)]
theorem i64s {A : List Ar} (h : A.all (fun p => decide (I64 p.1 ∧ I64 p.2.1 ∧ I64 p.2.2) ) = true) : ∀ p, p ∈ A → I64 p.1 ∧ I64 p.2.1 ∧ I64 p.2.2 := fun p hp => of_decide_eq_true (List.all_eq_true.1 h p hp)
/-- what stands while sane goes on -/
structure Sn (w W : World) (b1 b2 b3 : Nat) (v1 v2 v3 : Value) : Prop where
  kd : Kd w W
  r1 : Row W b1 24 [.int .i64 4, .int .i64 0, .int .i64 3, v1]
  r2 : Row W b2 24 [.int .i64 3, .int .i64 0, .int .i64 2, v2]
  r3 : Row W b3 24 [.int .i64 2, .int .i64 0, .int .i64 1, v3]
  a1 : ARest W.heap.size W A4 v1
  a2 : ARest W.heap.size W A3 v2
  a3 : ARest W.heap.size W Ab v3
theorem Sn.keep {w W W' : World} {b1 b2 b3 : Nat} {v1 v2 v3 : Value} (h : Sn w W b1 b2 b3 v1 v2 v3) (k : Kd W W') : Sn w W' b1 b2 b3 v1 v2 v3 :=
  ⟨h.kd.trans k, k.row h.r1, k.row h.r2, k.row h.r3, k.arest h.a1, k.arest h.a2, k.arest h.a3⟩
theorem max4 (v : Value) (W : World) (hA : ARest W.heap.size W A4 v) : Calls Try.prog 18 #[.agg #[.int .i64 4, .int .i64 0, .int .i64 3, v]] W fun e w' => ∃ X vf vs, e = .returned (.tuple #[vf, vs, .int .i64 0]) ∧ Kd W w' ∧ IRest w'.heap.size w' X vf ∧ BRest w'.heap.size w' [true, false, false, false] vs ∧ valE 4 0 3 A4 X = 0 ∧ valV 4 0 3 A4 X = 5 :=
  (max_law 4 0 3 A4 v W hA netE4).mono fun e w' h => by
    obtain ⟨X, l, vf, vs, hm⟩ := h
    obtain ⟨h1, h2⟩ := ex4 hm.len hm.max
    have h3 := val_of (X := X) netE4 hm.max.flo
    exact ⟨X, vf, vs, hm.e, hm.kd, hm.fl, h2 ▸ hm.sd, h3.1, h3.2.trans h1⟩
theorem max3 (v : Value) (W : World) (hA : ARest W.heap.size W A3 v) : Calls Try.prog 18 #[.agg #[.int .i64 3, .int .i64 0, .int .i64 2, v]] W fun e w' => ∃ vf vs, e = .returned (.tuple #[vf, vs, .int .i64 0]) ∧ Kd W w' ∧ IRest w'.heap.size w' [4, 4] vf ∧ BRest w'.heap.size w' [true, true, false] vs :=
  (max_law 3 0 2 A3 v W hA netE3).mono fun e w' h => by
    obtain ⟨X, l, vf, vs, hm⟩ := h
    obtain ⟨h1, h2⟩ := ex3 hm.len hm.max
    exact ⟨vf, vs, hm.e, hm.kd, h1 ▸ hm.fl, h2 ▸ hm.sd⟩
theorem max2 (v : Value) (W : World) (hA : ARest W.heap.size W [] v) : Calls Try.prog 18 #[.agg #[.int .i64 2, .int .i64 0, .int .i64 1, v]] W fun e w' => ∃ vf vs, e = .returned (.tuple #[vf, vs, .int .i64 0]) ∧ Kd W w' ∧ IRest w'.heap.size w' [] vf ∧ BRest w'.heap.size w' [true, false] vs :=
  (max_law 2 0 1 [] v W hA netE2).mono fun e w' h => by
    obtain ⟨X, l, vf, vs, hm⟩ := h
    obtain ⟨h1, h2⟩ := ex2 hm.len hm.max
    exact ⟨vf, vs, hm.e, hm.kd, h1 ▸ hm.fl, h2 ▸ hm.sd⟩
theorem Sn.loads {w W : World} {b1 b2 b3 : Nat} {v1 v2 v3 : Value} (h : Sn w W b1 b2 b3 v1 v2 v3) :
    (W.cell? ⟨b1, 0, none⟩ = some (.int .i64 4) ∧ W.cell? ⟨b1, 1, none⟩ = some (.int .i64 0) ∧ W.cell? ⟨b1, 2, none⟩ = some (.int .i64 3) ∧ W.cell? ⟨b1, 3, none⟩ = some v1) ∧
    (W.cell? ⟨b2, 0, none⟩ = some (.int .i64 3) ∧ W.cell? ⟨b2, 1, none⟩ = some (.int .i64 0) ∧ W.cell? ⟨b2, 2, none⟩ = some (.int .i64 2) ∧ W.cell? ⟨b2, 3, none⟩ = some v2) ∧
    (W.cell? ⟨b3, 0, none⟩ = some (.int .i64 2) ∧ W.cell? ⟨b3, 1, none⟩ = some (.int .i64 0) ∧ W.cell? ⟨b3, 2, none⟩ = some (.int .i64 1) ∧ W.cell? ⟨b3, 3, none⟩ = some v3) :=
  ⟨⟨h.r1.cell (i := 0) rfl, h.r1.cell (i := 1) rfl, h.r1.cell (i := 2) rfl, h.r1.cell (i := 3) rfl⟩, ⟨h.r2.cell (i := 0) rfl, h.r2.cell (i := 1) rfl, h.r2.cell (i := 2) rfl, h.r2.cell (i := 3) rfl⟩, ⟨h.r3.cell (i := 0) rfl, h.r3.cell (i := 1) rfl, h.r3.cell (i := 2) rfl, h.r3.cell (i := 3) rfl⟩⟩
theorem irest_row {w : World} {b : Nat} {X : List Int} (n : Nat) (hn : n = X.length) (hr : Row w b 3 (nums X)) (hI : ∀ x, x ∈ X → I64 x) (hm : n ≤ maxLen) : IRest w.heap.size w X (.slice (some ⟨b, 0, none⟩) n n) := by
  subst hn
  refine ⟨_, _, rfl, Nat.le_refl _, hm, hI, .inr ⟨b, 0, rfl, hr.lt, fun i hi => ?_⟩⟩
  rw [Nat.zero_add, nrow_cell hr hi]; simp [hi]
theorem brest_row {w : World} {b : Nat} {l : List Bool} (n : Nat) (hn : n = l.length) (hr : Row w b 4 (l.map (Value.bool ·))) (hm : n ≤ maxLen) : BRest w.heap.size w l (.slice (some ⟨b, 0, none⟩) n n) := by
  subst hn
  refine ⟨_, _, rfl, Nat.le_refl _, hm, .inr ⟨b, 0, rfl, hr.lt, fun i hi => ?_⟩⟩
  rw [Nat.zero_add]
  exact hr.cell (by simp [hi])
theorem val_at (N s t : Int) (A : List Ar) (X : List Int) (v e : Int) (h : valE N s t A X = e ∧ valV N s t A X = v) (va vx : Value) (w : World) (hA : ARest w.heap.size w A va) (hX : IRest w.heap.size w X vx) :
    Calls Try.prog 11 #[.agg #[.int .i64 N, .int .i64 s, .int .i64 t, va], vx] w fun r w' => r = .returned (.tuple #[.int .i64 v, .int .i64 e]) ∧ Kd w w' :=
  (value_call N s t A X va vx w hA hX).mono fun r w' h9 => by rw [h.1, h.2] at h9; exact ⟨h9.1, Kd.of h9.2⟩
theorem cut_at (N s t : Int) (A : List Ar) (l : List Bool) (v e : Int) (h : cutE N s t A l = e ∧ cutV N s t A l = v) (va vx : Value) (w : World) (hA : ARest w.heap.size w A va) (hX : BRest w.heap.size w l vx) :
    Calls Try.prog 13 #[.agg #[.int .i64 N, .int .i64 s, .int .i64 t, va], vx] w fun r w' => r = .returned (.tuple #[.int .i64 v, .int .i64 e]) ∧ Kd w w' :=
  (cut_call N s t A l va vx w hA hX).mono fun r w' h9 => by rw [h.1, h.2] at h9; exact ⟨h9.1, Kd.of h9.2⟩
theorem val3b : valE 3 0 2 A3 [4, 3] = 130 ∧ valV 3 0 2 A3 [4, 3] = 0 := val_no netE3 (fun h => by
  have := h.bal 1 (by omega) (by omega) (by omega) (by omega)
  revert this; decide)
theorem cut3b : cutE 3 0 2 A3 [true, true, true] = 130 ∧ cutV 3 0 2 A3 [true, true, true] = 0 := by decide
theorem chk_at (N s t : Int) (A : List Ar) (e : Int) (h : netE N s t A = e) (va : Value) (w : World) (hA : ARest w.heap.size w A va) :
    Calls Try.prog 15 #[.agg #[.int .i64 N, .int .i64 s, .int .i64 t, va]] w fun r w' => r = .returned (.int .i64 e) ∧ Kd w w' :=
  (check_call N s t A va w hA).mono fun r w' h9 => by rw [h] at h9; exact ⟨h9.1, Kd.of h9.2⟩
theorem Try.infoA : (Try.prog.info? 43).map (fun i => (i.zero, i.size, i.bytes)) = some (some (.agg #[.int .i64 0, .int .i64 0, .int .i64 0]), 3, 24) := by kernel_rfl
theorem made3 (x : Value) (n : Nat) : (madeCells #[x, x, x] n).toList = List.replicate n x := by
  apply List.ext_getElem?
  intro j
  by_cases hj : j < n
  · have h3 : j % 3 = 0 ∨ j % 3 = 1 ∨ j % 3 = 2 := by omega
    rcases h3 with h | h | h <;> simp [madeCells, hj, h]
  · simp [madeCells, hj]
theorem arC_rep : ∀ k, arC (List.replicate k (0, 0, 0)) = List.replicate (k * 3) (Value.int .i64 0)
  | 0 => rfl
  | k + 1 => by
    rw [List.replicate_succ, arC, arC_rep k, show (k + 1) * 3 = k * 3 + 1 + 1 + 1 by omega, List.replicate_succ, List.replicate_succ, List.replicate_succ]
theorem made_arcs : madeCells (Value.agg #[.int .i64 0, .int .i64 0, .int .i64 0]).cells (513 * 3) = (arC (List.replicate 513 (0, 0, 0))).toArray := by
  apply Array.ext'
  rw [arC_rep, show (Value.agg #[.int .i64 0, .int .i64 0, .int .i64 0]).cells = #[.int .i64 0, .int .i64 0, .int .i64 0] from rfl, made3]
theorem mk513 : ∃ Z : Obj, (∀ W : World, (Instr.makeSlice 22 (.int .i64 513) (.int .i64 513)).run Try.prog W = .ok (.slice (some ⟨W.heap.size, 0, none⟩) 513 513) (W.alloc Z)) ∧ Z = .cells (arC (List.replicate 513 (0, 0, 0))).toArray 43 := by
  refine ⟨_, fun W => ?_, rfl⟩
  obtain ⟨i0, hi, hz⟩ := info_parts Try.infoA
  simp only [Prod.mk.injEq] at hz
  obtain ⟨hz0, hz1, hz2⟩ := hz
  have hr := run_makeSlice (P := Try.prog) W 22 43 i0 _ Try.underlying22 hi hz0 .i64 .i64 513 513 (by omega) (by omega) (by rw [hz1]; decide) (by rw [hz2]; decide) (by omega)
  rw [hz1, show (513 : Int).toNat = 513 from rfl, made_arcs] at hr
  exact hr
theorem nilA (B : Nat) (W : World) : ARest B W [] (.slice none 0 0) := ⟨none, 0, rfl, by simp, by simp [maxLen], by simp, .inl rfl⟩
theorem sm4 : smB [true, false, false, false] [true, false, false, false] = true := rfl
theorem same_at (l : List Bool) (v v' : Value) (w : World) (hA : BRest w.heap.size w l v) (hB : BRest w.heap.size w l v') :
    Calls Try.prog 21 #[v, v'] w fun e w' => e = .returned (.bool true) ∧ Kd w w' :=
  (same_call l l v v' w hA hB).mono fun e w' h => by rw [show smB l l = true from decide_eq_true rfl] at h; exact h
theorem zeroA (W W' : World) (hk : Kd (W.alloc (.cells #[.int .i64 0, .int .i64 0, .int .i64 0] 43)) W') : Kd W W' ∧ ARest W'.heap.size W' [(0, 0, 0)] (.slice (some ⟨W.heap.size, 0, none⟩) 1 1) :=
  ⟨(Kd.alloc W _).trans hk, hk.arest (arest_row 1 rfl (row_new W 43 (arC [(0, 0, 0)])) (i64s rfl) (by unfold maxLen; omega))⟩
theorem manyA (Z : Obj) (hZ : Z = .cells (arC (List.replicate 513 (0, 0, 0))).toArray 43) (W W' : World) (hk : Kd (W.alloc Z) W') : Kd W W' ∧ ARest W'.heap.size W' (List.replicate 513 (0, 0, 0)) (.slice (some ⟨W.heap.size, 0, none⟩) 513 513) := by
  subst hZ
  refine ⟨(Kd.alloc W _).trans hk, hk.arest (arest_row 513 (by rw [List.length_replicate]) (row_new W 43 (arC (List.replicate 513 (0, 0, 0)))) (fun p hp => ?_) (by unfold maxLen; omega))⟩
  obtain rfl := List.eq_of_mem_replicate hp
  exact ⟨by decide, by decide, by decide⟩
theorem bools_new (W : World) (l : List Bool) (n : Nat) (hn : n = l.length) (h64 : n ≤ 64) : Kd W (W.alloc (.cells (l.map (Value.bool ·)).toArray 4)) ∧ BRest (W.alloc (.cells (l.map (Value.bool ·)).toArray 4)).heap.size (W.alloc (.cells (l.map (Value.bool ·)).toArray 4)) l (.slice (some ⟨W.heap.size, 0, none⟩) n n) :=
  ⟨Kd.alloc W _, brest_row n hn (row_new W 4 _) (by unfold maxLen; omega)⟩
set_option maxRecDepth 100000 in
set_option maxHeartbeats 8000000 in
theorem sane_call (w : World) : Calls Try.prog 10 #[] w fun e w' => e = .returned (.bool true) ∧ Kd w w' := by
  have HNT : Hid (∀ (N k : Int), wrap64 (N - 1) = k → ∀ (a : Option Addr) (n c : Nat) (w : World), Calls Try.prog 23 #[.int .i64 N, .slice a n c] w fun e w' => e = .returned (netV N 0 k (.slice a n c)) ∧ Below w.heap.size w w') := Lib.hid net_call
  unfold netV at HNT
  have HN4 := Lib.hid (HNT.out 4 3 (by unfold wrap64; omega))
  have HN3 := Lib.hid (HNT.out 3 2 (by unfold wrap64; omega))
  have HN2 := Lib.hid (HNT.out 2 1 (by unfold wrap64; omega))
  have HN1 := Lib.hid (HNT.out 1 0 (by unfold wrap64; omega))
  clear HNT
  have q1 : Row (w.alloc (.cells #[.int .i64 0, .int .i64 1, .int .i64 3, .int .i64 0, .int .i64 2, .int .i64 2, .int .i64 1, .int .i64 2, .int .i64 5, .int .i64 1, .int .i64 3, .int .i64 2, .int .i64 2, .int .i64 3, .int .i64 3] 43)) w.heap.size 43 (arC A4) := row_new w 43 _
  have k1 : Kd w (w.alloc (.cells #[.int .i64 0, .int .i64 1, .int .i64 3, .int .i64 0, .int .i64 2, .int .i64 2, .int .i64 1, .int .i64 2, .int .i64 5, .int .i64 1, .int .i64 3, .int .i64 2, .int .i64 2, .int .i64 3, .int .i64 3] 43)) := Kd.alloc w _
  have HS1 := Lib.hid (And.intro k1 (arest_row 5 rfl q1 (i64s rfl) (by unfold maxLen; omega)))
  clear q1 k1
  go_enter Try.func10, Try.ntmps10
  go_upto_region 2 with (go_at_call 23; refine (HN4.out _ 5 5 _).mono ?_; rintro e w1 ⟨rfl, hb1⟩; have HT1 : Hid (Kd w w1 ∧ ARest w1.heap.size w1 A4 (.slice (some ⟨w.heap.size, 0, none⟩) 5 5)) := Lib.hid ⟨HS1.out.1.trans (Kd.of hb1), (Kd.of hb1).arest HS1.out.2⟩; clear hb1)
  clear HS1
  have HR1 : Hid (Kd w1 (w1.alloc (.cells #[.int .i64 4, .int .i64 0, .int .i64 3, .slice (some ⟨w.heap.size, 0, none⟩) 5 5] 24)) ∧ Row (w1.alloc (.cells #[.int .i64 4, .int .i64 0, .int .i64 3, .slice (some ⟨w.heap.size, 0, none⟩) 5 5] 24)) w1.heap.size 24 [.int .i64 4, .int .i64 0, .int .i64 3, .slice (some ⟨w.heap.size, 0, none⟩) 5 5]) := Lib.hid ⟨Kd.alloc w1 _, row_new w1 24 _⟩
  generalize w1.alloc (.cells #[.int .i64 4, .int .i64 0, .int .i64 3, .slice (some ⟨w.heap.size, 0, none⟩) 5 5] 24) = W1 at *
  generalize Value.slice (some ⟨w.heap.size, 0, none⟩) 5 5 = v1 at *
  have HK1 : Hid (Kd w W1) := Lib.hid (HT1.out.1.trans HR1.out.1)
  have HV1 : Hid (ARest W1.heap.size W1 A4 v1) := Lib.hid (HR1.out.1.arest HT1.out.2)
  have HB1 := Lib.hid HR1.out.2
  generalize w1.heap.size = b1 at *
  clear HT1 HR1
  have q1 : Row (W1.alloc (.cells #[.int .i64 0, .int .i64 1, .int .i64 9, .int .i64 1, .int .i64 2, .int .i64 4] 43)) W1.heap.size 43 (arC A3) := row_new W1 43 _
  have k1 : Kd W1 (W1.alloc (.cells #[.int .i64 0, .int .i64 1, .int .i64 9, .int .i64 1, .int .i64 2, .int .i64 4] 43)) := Kd.alloc W1 _
  have HS1 := Lib.hid (And.intro k1 (arest_row 2 rfl q1 (i64s rfl) (by unfold maxLen; omega)))
  clear q1 k1
  go_upto_region 3 with (go_at_call 23; refine (HN3.out _ 2 2 _).mono ?_; rintro e w2 ⟨rfl, hb1⟩; have HT2 : Hid (Kd W1 w2 ∧ ARest w2.heap.size w2 A3 (.slice (some ⟨W1.heap.size, 0, none⟩) 2 2)) := Lib.hid ⟨HS1.out.1.trans (Kd.of hb1), (Kd.of hb1).arest HS1.out.2⟩; clear hb1)
  clear HS1
  have HR2 : Hid (Kd w2 (w2.alloc (.cells #[.int .i64 3, .int .i64 0, .int .i64 2, .slice (some ⟨W1.heap.size, 0, none⟩) 2 2] 24)) ∧ Row (w2.alloc (.cells #[.int .i64 3, .int .i64 0, .int .i64 2, .slice (some ⟨W1.heap.size, 0, none⟩) 2 2] 24)) w2.heap.size 24 [.int .i64 3, .int .i64 0, .int .i64 2, .slice (some ⟨W1.heap.size, 0, none⟩) 2 2]) := Lib.hid ⟨Kd.alloc w2 _, row_new w2 24 _⟩
  generalize w2.alloc (.cells #[.int .i64 3, .int .i64 0, .int .i64 2, .slice (some ⟨W1.heap.size, 0, none⟩) 2 2] 24) = W2 at *
  generalize Value.slice (some ⟨W1.heap.size, 0, none⟩) 2 2 = v2 at *
  have HK2 : Hid (Kd W1 W2) := Lib.hid (HT2.out.1.trans HR2.out.1)
  have HV2 : Hid (ARest W2.heap.size W2 A3 v2) := Lib.hid (HR2.out.1.arest HT2.out.2)
  have HB2 := Lib.hid HR2.out.2
  generalize w2.heap.size = b2 at *
  clear HT2 HR2
  have q1 : Row (W2.alloc (.cells #[.int .i64 1, .int .i64 0, .int .i64 2] 43)) W2.heap.size 43 (arC Ab) := row_new W2 43 _
  have k1 : Kd W2 (W2.alloc (.cells #[.int .i64 1, .int .i64 0, .int .i64 2] 43)) := Kd.alloc W2 _
  have HS1 := Lib.hid (And.intro k1 (arest_row 1 rfl q1 (i64s rfl) (by unfold maxLen; omega)))
  clear q1 k1
  go_upto_region 4 with (go_at_call 23; refine (HN2.out _ 1 1 _).mono ?_; rintro e w3 ⟨rfl, hb1⟩; have HT3 : Hid (Kd W2 w3 ∧ ARest w3.heap.size w3 Ab (.slice (some ⟨W2.heap.size, 0, none⟩) 1 1)) := Lib.hid ⟨HS1.out.1.trans (Kd.of hb1), (Kd.of hb1).arest HS1.out.2⟩; clear hb1)
  clear HS1
  have HR3 : Hid (Kd w3 (w3.alloc (.cells #[.int .i64 2, .int .i64 0, .int .i64 1, .slice (some ⟨W2.heap.size, 0, none⟩) 1 1] 24)) ∧ Row (w3.alloc (.cells #[.int .i64 2, .int .i64 0, .int .i64 1, .slice (some ⟨W2.heap.size, 0, none⟩) 1 1] 24)) w3.heap.size 24 [.int .i64 2, .int .i64 0, .int .i64 1, .slice (some ⟨W2.heap.size, 0, none⟩) 1 1]) := Lib.hid ⟨Kd.alloc w3 _, row_new w3 24 _⟩
  generalize w3.alloc (.cells #[.int .i64 2, .int .i64 0, .int .i64 1, .slice (some ⟨W2.heap.size, 0, none⟩) 1 1] 24) = W3 at *
  generalize Value.slice (some ⟨W2.heap.size, 0, none⟩) 1 1 = v3 at *
  have HK3 : Hid (Kd W2 W3) := Lib.hid (HT3.out.1.trans HR3.out.1)
  have HV3 : Hid (ARest W3.heap.size W3 Ab v3) := Lib.hid (HR3.out.1.arest HT3.out.2)
  have HB3 := Lib.hid HR3.out.2
  generalize w3.heap.size = b3 at *
  clear HT3 HR3
  have HS3 : Hid (Sn w W3 b1 b2 b3 v1 v2 v3) := Lib.hid ⟨HK1.out.trans (HK2.out.trans HK3.out), HK3.out.row (HK2.out.row HB1.out), HK3.out.row HB2.out, HB3.out, HK3.out.arest (HK2.out.arest HV1.out), HK3.out.arest HV2.out, HV3.out⟩
  clear HK1 HK2 HK3 HB1 HB2 HB3 HV1 HV2 HV3
  obtain ⟨⟨c1, c2, c3, c4⟩, -, -⟩ := HS3.out.loads
  have HM4 := Lib.hid (max4 v1 W3 HS3.out.a1)
  go_upto_region 5 with (go_at_call 18; refine HM4.out.mono ?_; rintro e W4 ⟨X4, f4, s4, rfl, hm⟩; have HR4 := Lib.hid hm; clear hm)
  have HS4 := Lib.hid (HS3.out.keep HR4.out.1)
  clear HM4 HS3 c1 c2 c3 c4
  obtain ⟨-, ⟨c1, c2, c3, c4⟩, -⟩ := HS4.out.loads
  have HM3 := Lib.hid (max3 v2 W4 HS4.out.a2)
  go_upto_region 6 with (go_at_call 18; refine HM3.out.mono ?_; rintro e W5 ⟨f3, s3, rfl, hm⟩; have HR5 := Lib.hid hm; clear hm)
  have HS5 := Lib.hid (HS4.out.keep HR5.out.1)
  have HF4 : Hid (IRest W5.heap.size W5 X4 f4 ∧ BRest W5.heap.size W5 [true, false, false, false] s4) := Lib.hid ⟨HR5.out.1.irest HR4.out.2.1, HR5.out.1.brest HR4.out.2.2.1⟩
  clear HM3 HS4 c1 c2 c3 c4
  have HM2 : Hid (∀ W, Calls Try.prog 18 #[.agg #[.int .i64 2, .int .i64 0, .int .i64 1, .slice none 0 0]] W fun e w' => ∃ vf vs, e = .returned (.tuple #[vf, vs, .int .i64 0]) ∧ Kd W w' ∧ IRest w'.heap.size w' [] vf ∧ BRest w'.heap.size w' [true, false] vs) := Lib.hid (fun W => max2 _ W ⟨none, 0, rfl, by simp, by simp [maxLen], by simp, .inl rfl⟩)
  go_upto_region 7 with (first | (go_at_call 23; refine (HN2.out _ 0 0 _).mono ?_; rintro e W6 ⟨rfl, hb6⟩; have HB6 := Lib.hid (Kd.of hb6); clear hb6) | (go_at_call 18; refine (HM2.out _).mono ?_; rintro e W7 ⟨f2, s2, rfl, hm⟩; have HR7 := Lib.hid hm; clear hm))
  have k7 := HB6.out.trans HR7.out.1
  have HS7 := Lib.hid (HS5.out.keep k7)
  have HF7 : Hid (IRest W7.heap.size W7 X4 f4 ∧ BRest W7.heap.size W7 [true, false, false, false] s4 ∧ BRest W7.heap.size W7 [true, true, false] s3 ∧ BRest W7.heap.size W7 [true, false] s2) := Lib.hid ⟨k7.irest HF4.out.1, k7.brest HF4.out.2, k7.brest HR5.out.2.2, HR7.out.2.2⟩
  have HV4 : Hid (valE 4 0 3 A4 X4 = 0 ∧ valV 4 0 3 A4 X4 = 5) := Lib.hid HR4.out.2.2.2
  have h3 := k7.irest HR5.out.2.1
  have h2 := HR7.out.2.1
  clear HM2 HB6 HR7 HF4 HS5 HR5 HR4 k7
  obtain ⟨af3, cf3, rfl, -⟩ := id h3
  obtain ⟨af2, cf2, rfl, -⟩ := id h2
  obtain ⟨-, -, -, h4⟩ := ints_at h3
  obtain ⟨-, bf, of, rfl, hbf, g1⟩ := h4 0 (by simp)
  obtain ⟨-, bf', of', hq, -, g2⟩ := h4 1 (by simp)
  injection hq with hq
  injection hq with q1 q2
  subst q1 q2
  simp only [List.length_cons, List.length_nil, Nat.zero_add, Nat.add_zero, List.getD_cons_zero, List.getD_cons_succ] at g1 g2 ⊢
  clear h2 h3 h4 hbf
  go_upto_region 9 with (fail)
  clear g1 g2
  obtain ⟨⟨c1, c2, c3, c4⟩, -, -⟩ := HS7.out.loads
  have HA4 := Lib.hid (val_at 4 0 3 A4 X4 5 0 HV4.out v1 f4 W7 HS7.out.a1 HF7.out.1)
  go_upto_region 10 with (go_at_call 11; refine HA4.out.mono ?_; rintro e W8 ⟨rfl, hk⟩; have HK8 := Lib.hid hk; clear hk)
  have HS8 := Lib.hid (HS7.out.keep HK8.out)
  have HF8 : Hid (BRest W8.heap.size W8 [true, false, false, false] s4 ∧ BRest W8.heap.size W8 [true, true, false] s3 ∧ BRest W8.heap.size W8 [true, false] s2) := Lib.hid ⟨HK8.out.brest HF7.out.2.1, HK8.out.brest HF7.out.2.2.1, HK8.out.brest HF7.out.2.2.2⟩
  clear HA4 HK8 HS7 HF7 HV4 c1 c2 c3 c4
  obtain ⟨-, -, ⟨c1, c2, c3, c4⟩⟩ := HS8.out.loads
  have hq := row_new W8 3 (nums [2])
  have hk9 := Kd.alloc W8 (.cells (nums [2]).toArray 3)
  have HQ9 : Hid (Kd W8 (W8.alloc (.cells #[.int .i64 2] 3)) ∧ Calls Try.prog 11 #[.agg #[.int .i64 2, .int .i64 0, .int .i64 1, v3], .slice (some ⟨W8.heap.size, 0, none⟩) 1 1] (W8.alloc (.cells #[.int .i64 2] 3)) fun r w' => r = .returned (.tuple #[.int .i64 (-2), .int .i64 0]) ∧ Kd (W8.alloc (.cells #[.int .i64 2] 3)) w') := Lib.hid ⟨hk9, val_at 2 0 1 Ab [2] (-2) 0 valb v3 _ _ (hk9.arest HS8.out.a3) (irest_row 1 rfl hq (by decide) (by unfold maxLen; omega))⟩
  clear hq hk9
  go_upto_region 11 with (go_at_call 11; refine HQ9.out.2.mono ?_; rintro e W9 ⟨rfl, hk⟩; have HK9 := Lib.hid (HQ9.out.1.trans hk); clear hk)
  have HS9 := Lib.hid (HS8.out.keep HK9.out)
  have HF9 : Hid (BRest W9.heap.size W9 [true, false, false, false] s4 ∧ BRest W9.heap.size W9 [true, true, false] s3 ∧ BRest W9.heap.size W9 [true, false] s2) := Lib.hid ⟨HK9.out.brest HF8.out.1, HK9.out.brest HF8.out.2.1, HK9.out.brest HF8.out.2.2⟩
  clear HQ9 HK9 HS8 HF8 c1 c2 c3 c4
  obtain ⟨-, -, ⟨c1, c2, c3, c4⟩⟩ := HS9.out.loads
  have hq := row_new W9 4 (([true, false] : List Bool).map (Value.bool ·))
  have hk9 := Kd.alloc W9 (.cells (([true, false] : List Bool).map (Value.bool ·)).toArray 4)
  have HQ10 : Hid (Kd W9 (W9.alloc (.cells #[.bool true, .bool false] 4)) ∧ Calls Try.prog 13 #[.agg #[.int .i64 2, .int .i64 0, .int .i64 1, v3], .slice (some ⟨W9.heap.size, 0, none⟩) 2 2] (W9.alloc (.cells #[.bool true, .bool false] 4)) fun r w' => r = .returned (.tuple #[.int .i64 0, .int .i64 0]) ∧ Kd (W9.alloc (.cells #[.bool true, .bool false] 4)) w') := Lib.hid ⟨hk9, cut_at 2 0 1 Ab [true, false] 0 0 cutb v3 _ _ (hk9.arest HS9.out.a3) (brest_row 2 rfl hq (by unfold maxLen; omega))⟩
  clear hq hk9
  go_upto_region 12 with (go_at_call 13; refine HQ10.out.2.mono ?_; rintro e W10 ⟨rfl, hk⟩; have HK10 := Lib.hid (HQ10.out.1.trans hk); clear hk)
  have HS10 := Lib.hid (HS9.out.keep HK10.out)
  have HF10 : Hid (BRest W10.heap.size W10 [true, false, false, false] s4 ∧ BRest W10.heap.size W10 [true, true, false] s3 ∧ BRest W10.heap.size W10 [true, false] s2) := Lib.hid ⟨HK10.out.brest HF9.out.1, HK10.out.brest HF9.out.2.1, HK10.out.brest HF9.out.2.2⟩
  clear HQ10 HK10 HS9 HF9 c1 c2 c3 c4
  go_upto_region 14 with (fail)
  obtain ⟨-, ⟨c1, c2, c3, c4⟩, -⟩ := HS10.out.loads
  have hq := row_new W10 3 (nums [4, 3])
  have hk9 := Kd.alloc W10 (.cells (nums [4, 3]).toArray 3)
  have HQ11 : Hid (Kd W10 (W10.alloc (.cells #[.int .i64 4, .int .i64 3] 3)) ∧ Calls Try.prog 11 #[.agg #[.int .i64 3, .int .i64 0, .int .i64 2, v2], .slice (some ⟨W10.heap.size, 0, none⟩) 2 2] (W10.alloc (.cells #[.int .i64 4, .int .i64 3] 3)) fun r w' => r = .returned (.tuple #[.int .i64 0, .int .i64 130]) ∧ Kd (W10.alloc (.cells #[.int .i64 4, .int .i64 3] 3)) w') := Lib.hid ⟨hk9, val_at 3 0 2 A3 [4, 3] 0 130 val3b v2 _ _ (hk9.arest HS10.out.a2) (irest_row 2 rfl hq (by decide) (by unfold maxLen; omega))⟩
  clear hq hk9
  go_upto_region 15 with (go_at_call 11; refine HQ11.out.2.mono ?_; rintro e W11 ⟨rfl, hk⟩; have HK11 := Lib.hid (HQ11.out.1.trans hk); clear hk)
  have HS11 := Lib.hid (HS10.out.keep HK11.out)
  have HF11 : Hid (BRest W11.heap.size W11 [true, false, false, false] s4 ∧ BRest W11.heap.size W11 [true, true, false] s3 ∧ BRest W11.heap.size W11 [true, false] s2) := Lib.hid ⟨HK11.out.brest HF10.out.1, HK11.out.brest HF10.out.2.1, HK11.out.brest HF10.out.2.2⟩
  clear HQ11 HK11 HS10 HF10 c1 c2 c3 c4
  obtain ⟨-, ⟨c1, c2, c3, c4⟩, -⟩ := HS11.out.loads
  have hq := row_new W11 4 (([true, true, true] : List Bool).map (Value.bool ·))
  have hk9 := Kd.alloc W11 (.cells (([true, true, true] : List Bool).map (Value.bool ·)).toArray 4)
  have HQ12 : Hid (Kd W11 (W11.alloc (.cells #[.bool true, .bool true, .bool true] 4)) ∧ Calls Try.prog 13 #[.agg #[.int .i64 3, .int .i64 0, .int .i64 2, v2], .slice (some ⟨W11.heap.size, 0, none⟩) 3 3] (W11.alloc (.cells #[.bool true, .bool true, .bool true] 4)) fun r w' => r = .returned (.tuple #[.int .i64 0, .int .i64 130]) ∧ Kd (W11.alloc (.cells #[.bool true, .bool true, .bool true] 4)) w') := Lib.hid ⟨hk9, cut_at 3 0 2 A3 [true, true, true] 0 130 cut3b v2 _ _ (hk9.arest HS11.out.a2) (brest_row 3 rfl hq (by unfold maxLen; omega))⟩
  clear hq hk9
  go_upto_region 16 with (go_at_call 13; refine HQ12.out.2.mono ?_; rintro e W12 ⟨rfl, hk⟩; have HK12 := Lib.hid (HQ12.out.1.trans hk); clear hk)
  have HKD := Lib.hid (HS11.out.kd.trans HK12.out)
  have HF12 : Hid (BRest W12.heap.size W12 [true, false, false, false] s4 ∧ BRest W12.heap.size W12 [true, true, false] s3 ∧ BRest W12.heap.size W12 [true, false] s2) := Lib.hid ⟨HK12.out.brest HF11.out.1, HK12.out.brest HF11.out.2.1, HK12.out.brest HF11.out.2.2⟩
  clear HQ12 HK12 HS11 HF11 c1 c2 c3 c4
  obtain ⟨Z, hmk, hZ⟩ := mk513
  have HZ := Lib.hid hZ
  clear hZ HN4 HN3
  go_upto_region 18 with (first
    | (go_at_call 23; first
        | (have h9 := HP16.out; clear h9; refine (HN2.out _ 513 513 _).mono ?_; rintro e W17 ⟨rfl, hb⟩; have HP17 := Lib.hid (And.intro (HP16.out.trans (manyA Z HZ.out W16 W17 (Kd.of hb)).1) (manyA Z HZ.out W16 W17 (Kd.of hb)).2); clear hb)
        | (have h9 := HP14.out; clear h9; refine (HN2.out _ 1 1 _).mono ?_; rintro e W15 ⟨rfl, hb⟩; have HP15 := Lib.hid (And.intro (HP14.out.trans (zeroA W14 W15 (Kd.of hb)).1) (zeroA W14 W15 (Kd.of hb)).2); clear hb)
        | (refine (HN1.out none 0 0 _).mono ?_; rintro e W13 ⟨rfl, hb⟩; have HP13 := Lib.hid (Kd.of hb); clear hb))
    | (go_at_call 15; first
        | (refine (chk_at 2 0 1 (List.replicate 513 (0, 0, 0)) 2 netEm _ W17 HP17.out.2).mono ?_; rintro e W18 ⟨rfl, hk⟩; have HP18 := Lib.hid (HP17.out.1.trans hk); clear hk)
        | (refine (chk_at 2 0 1 [(0, 0, 0)] 130 netE0 _ W15 HP15.out.2).mono ?_; rintro e W16 ⟨rfl, hk⟩; have HP16 := Lib.hid (HP15.out.1.trans hk); clear hk)
        | (refine (chk_at 1 0 0 [] 1 netE1 _ W13 (nilA _ W13)).mono ?_; rintro e W14 ⟨rfl, hk⟩; have HP14 := Lib.hid (HP13.out.trans hk); clear hk)))
  clear hmk HN2 HN1
  have HB18 : Hid (BRest W18.heap.size W18 [true, false, false, false] s4 ∧ BRest W18.heap.size W18 [true, true, false] s3 ∧ BRest W18.heap.size W18 [true, false] s2) := Lib.hid ⟨HP18.out.brest HF12.out.1, HP18.out.brest HF12.out.2.1, HP18.out.brest HF12.out.2.2⟩
  have HC1 : Hid (Kd W18 (W18.alloc (.cells #[.bool true, .bool false, .bool false, .bool false] 4)) ∧ Calls Try.prog 21 #[s4, .slice (some ⟨W18.heap.size, 0, none⟩) 4 4] (W18.alloc (.cells #[.bool true, .bool false, .bool false, .bool false] 4)) fun e w' => e = .returned (.bool true) ∧ Kd (W18.alloc (.cells #[.bool true, .bool false, .bool false, .bool false] 4)) w') := Lib.hid ⟨(bools_new W18 [true, false, false, false] 4 rfl (by omega)).1, same_at [true, false, false, false] s4 _ _ ((bools_new W18 [true, false, false, false] 4 rfl (by omega)).1.brest HB18.out.1) (bools_new W18 [true, false, false, false] 4 rfl (by omega)).2⟩
  have HC2 : Hid (∀ W, Kd W18 W → Kd W (W.alloc (.cells #[.bool true, .bool true, .bool false] 4)) ∧ Calls Try.prog 21 #[s3, .slice (some ⟨W.heap.size, 0, none⟩) 3 3] (W.alloc (.cells #[.bool true, .bool true, .bool false] 4)) fun e w' => e = .returned (.bool true) ∧ Kd (W.alloc (.cells #[.bool true, .bool true, .bool false] 4)) w') := Lib.hid (fun W hW => ⟨(bools_new W [true, true, false] 3 rfl (by omega)).1, same_at [true, true, false] s3 _ _ ((bools_new W [true, true, false] 3 rfl (by omega)).1.brest (hW.brest HB18.out.2.1)) (bools_new W [true, true, false] 3 rfl (by omega)).2⟩)
  have HC3 : Hid (∀ W, Kd W18 W → Kd W (W.alloc (.cells #[.bool true, .bool false] 4)) ∧ Calls Try.prog 21 #[s2, .slice (some ⟨W.heap.size, 0, none⟩) 2 2] (W.alloc (.cells #[.bool true, .bool false] 4)) fun e w' => e = .returned (.bool true) ∧ Kd (W.alloc (.cells #[.bool true, .bool false] 4)) w') := Lib.hid (fun W hW => ⟨(bools_new W [true, false] 2 rfl (by omega)).1, same_at [true, false] s2 _ _ ((bools_new W [true, false] 2 rfl (by omega)).1.brest (hW.brest HB18.out.2.2)) (bools_new W [true, false] 2 rfl (by omega)).2⟩)
  go_wp2_with (go_at_call 21; first
    | (refine (HC3.out W20 HP20.out).2.mono ?_; rintro e W21 ⟨rfl, hk⟩; have HP21 := Lib.hid (HP20.out.trans ((HC3.out W20 HP20.out).1.trans hk)); clear hk)
    | (refine (HC2.out W19 HP19.out).2.mono ?_; rintro e W20 ⟨rfl, hk⟩; have HP20 := Lib.hid (HP19.out.trans ((HC2.out W19 HP19.out).1.trans hk)); clear hk)
    | (refine HC1.out.2.mono ?_; rintro e W19 ⟨rfl, hk⟩; have HP19 := Lib.hid (HC1.out.1.trans hk); clear hk))
  refine bodyPost_ret (results_tmp rfl _ _ _) rfl ?_
  exact ⟨rfl, HKD.out.trans (HP18.out.trans HP21.out)⟩
end Go.Proofs.Ytbmbddapbgnioaa
