/- Sum: the program's function returns the hash of the bytes. -/
import Derived.Test.YtbceimbcjijfgaaDoorZq5
import Derived.Test.YtbceimbcjijfgaaDoorZq7
import Derived.Test.YtbceimbcjijfgaaDoorZq8
namespace Go.Proofs.YtbceimbcjijfgaaDoor.Dig
open Go.RowKit Go.Shelf

attribute [local go_sem] Oper.semAt_some

def runs {m : Nat} (s : St) (l : List UInt8) (pre : List (Fin m)) : St := pre.foldl (fun s i => blockF s ((l.drop (64 * i.val)).take 64)) s
theorem runs_snoc {m : Nat} (s : St) (l : List UInt8) (pre : List (Fin m)) (x : Fin m) : runs s l (pre ++ [x]) = blockF (runs s l pre) ((l.drop (64 * x.val)).take 64) := by simp [runs]
theorem runs_ok {m : Nat} {s : St} (h : s.ok) (l : List UInt8) : ∀ pre : List (Fin m), (runs s l pre).ok := by
  intro pre
  unfold runs
  induction pre generalizing s with
  | nil => exact h
  | cons x pre ih => exact ih (blockF_ok _ _)
theorem row_at {w : World} (T : Nat) (cs : List Value) (g : Nat) (hg : g = w.heap.size) : Row (w.alloc (.cells cs.toArray T)) g T cs := by subst hg; exact row_new w T cs
theorem Row.push {w : World} {g T : Nat} {cs : List Value} (h : Row w g T cs) (o : Obj) : Row (w.alloc o) g T cs := h.keep (Joins.below_alloc1 w o)
theorem absN_fold (s : St) (l : List UInt8) : ∀ m, (List.range m).foldl (fun s i => blockF s ((l.drop (64 * i)).take 64)) s = absN s l m
  | 0 => rfl
  | m + 1 => by rw [List.range_succ, List.foldl_append, absN_fold s l m]; rfl
theorem runs_all {m : Nat} (s : St) (l : List UInt8) (pre : List (Fin m)) (h : pre.map (·.val) = List.range m) : runs s l pre = absN s l m := by
  rw [← absN_fold, ← h, List.foldl_map]; rfl

theorem absN_take (l : List UInt8) (m : Nat) (h : 64 * m ≤ l.length) : absN init (l.take (64 * m)) m = absN init l m := by
  have e := absN_left init (l.take (64 * m)) (l.drop (64 * m)) m (by rw [List.length_take]; omega)
  rw [List.take_append_drop] at e
  exact e.symm
theorem row_kept {W W' : World} {row : Option Nat} {g T : Nat} {cs : List Value} (h : Row W g T cs) (hg : W.grownBy W' row) (hrow : ∀ r, row = some r → ∃ o : Obj, W.heap[r]? = some o ∧ o.isCells = false) : Row W' g T cs := by
  refine (hg.block g h.lt fun e => ?_).trans h
  obtain ⟨o, ho, hc⟩ := hrow g e.symm
  rw [show W.heap[g]? = _ from h] at ho
  cases ho
  cases hc

def zb : List Value := cellsOf (List.replicate 32 0)
def absF (sb : Nat) : Value := .func (.func 36) #[.pointer (some ⟨sb, 0, none⟩)] #[]
/-- what holds between two rounds -/
def SumI (w : World) (R sb bx N : Nat) (s : St) (W : World) : Prop := ((Row W R 30 zb ∧ Row W sb 75 (u32s s.list) ∧ W.cell? ⟨bx, 0, none⟩ = some (absF sb)) ∧ Below w.heap.size w W) ∧ N ≤ W.heap.size
theorem sumI_own {m : Nat} (w : World) (R sb bx N B : Nat) (hB : w.heap.size ≤ B) (s : St) (l : List UInt8) : OwnFrom B (fun (pre : List (Fin m)) W => SumI w R sb bx N (runs s l pre) W) :=
  OwnFrom.and (OwnFrom.and (Own.from (fun s A B row hs hg hr => ⟨row_kept hs.1 hg hr, row_kept hs.2.1 hg hr, cell_kept hs.2.2 hg hr⟩) _) (ownFrom_below (Nat.le_refl _) hB)) (fun s A B row hs hg hr => Nat.le_trans hs hg.size)
/-- what holds between two rounds of the second loop: the first loop's block for deferred calls lies on -/
def SumJ (w : World) (R sb bx N D b5 : Nat) (o5 : Obj) (s : St) (W : World) : Prop := SumI w R sb bx N s W ∧ W.heap[D]? = some (.deferred (some [])) ∧ W.heap[b5]? = some o5
theorem sumJ_own {m : Nat} (w : World) (R sb bx N B D b5 : Nat) (o5 : Obj) (hB : w.heap.size ≤ B) (hD : D < B) (ho5 : o5.isCells = true) (s : St) (l : List UInt8) : OwnFrom B (fun (pre : List (Fin m)) W => SumJ w R sb bx N D b5 o5 (runs s l pre) W) :=
  OwnFrom.and (sumI_own w R sb bx N B hB s l) (fun s A B row hs hg hr => ⟨(hg.block D (Array.getElem?_eq_some_iff.1 hs.1).1 (fun e => by have := (hr D e.symm).1; omega)).trans hs.1,
    (hg.block b5 (Array.getElem?_eq_some_iff.1 hs.2).1 (fun e => by
      obtain ⟨_, o, ho, hc⟩ := hr b5 e.symm
      rw [hs.2] at ho; cases ho; rw [ho5] at hc; cases hc)).trans hs.2⟩)
theorem rest_same {B B' : Nat} {W W' : World} {l : List UInt8} {b off n c : Nat} (h : Rest B W l (.slice (some ⟨b, off, none⟩) n c)) (hs : W'.heap[b]? = W.heap[b]?) (hB : b < B') : Rest B' W' l (.slice (some ⟨b, off, none⟩) n c) := by
  obtain ⟨a, cap, he, h2, h3, h4, h5⟩ := h
  injection he with he1 he2 he3
  subst he1 he2 he3
  refine ⟨_, c, rfl, h2, h3, (fun h => by cases h), ?_⟩
  rcases h5 with h0 | ⟨b2, off2, he, hb, hc⟩
  · exact .inl h0
  · injection he with he
    injection he with he1 he2
    subst he1 he2
    exact .inr ⟨b, off, rfl, hB, fun i hi => (World.cell?_of_block (a := ⟨b, off + i, none⟩) hs).trans (hc i hi)⟩
theorem sumI_step {w W W1 : World} {R sb bx N : Nat} {s s1 : St} (h : SumI w R sb bx N s W) (hr : Row W1 sb 75 (u32s s1.list)) (ho : Only sb W W1) (h1 : R ≠ sb) (h2 : bx ≠ sb) (h3 : w.heap.size ≤ sb) : SumI w R sb bx N s1 W1 := by
  obtain ⟨⟨⟨i1, i2, i3⟩, i4⟩, i5⟩ := h
  refine ⟨⟨⟨(ho.block R i1.lt (fun e => by cases e; omega)).trans i1, hr, ho.cell i3 (fun e => h2 (by injection e))⟩, i4.trans (ho.below h3 i4.size)⟩, Nat.le_trans i5 ho.size⟩

theorem wpListIn_store_row {F : Fence} {n : Nat} {P : Program} {w : World} {ops : Array Oper} {rest : List Oper} {o : Oper} {a : Act} {Q : Exit → Act → World → Prop} (hgd : o.guard = none) (ty : TypeId) (x y : Operand) (ho : o.op = .store ty x y)
    (g : Nat) (cells : Array Value) (hx : a.eval x = .pointer (some ⟨g, 0, none⟩)) (hy : a.eval y = .agg cells)
    (t : TypeId) (old : Array Value) (hg : w.heap[g]? = some (.cells old t (0, 0))) (hi : (P.info? ty).map (·.size) = some cells.size)
    (hold : old.size = cells.size) (h1 : cells.all (·.oneCell') = true)
    (h : wpListIn F n P ops Q rest (a.put o.dst undef) (w.setRow g cells)) : wpListIn F n P ops Q (o :: rest) a w := by
  refine wpListIn_plain hgd fun K hK' => ?_
  unfold Oper.wpIn
  refine ⟨by simp [Oper.about, ho], ?_⟩
  rw [Oper.semAt_plain F _ _ (by rw [ho]; intro c hc'; cases hc')]
  simp only [execOp, ho, hx, hy, Instr.storeAt, Instr.sureAddr, Sem.run_bind, Sem.run_pure, Result.andThen_ok, run_storeVar_row w g t ty old cells hg hi hold h1]
  exact hK' _ _ h

/-- the bytes behind the whole blocks -/
theorem rest_tail {B : Nat} {w : World} {bs : List UInt8} {a : Option Addr} {cap : Nat} (h : Rest B w bs (.slice a bs.length cap)) (q : Nat) (hq : q ≤ bs.length) : Rest B w (bs.drop q) (.slice (a.map fun x => x.add q) (bs.length - q) (cap - q)) := by
  obtain ⟨a2, cap2, he, hl, hm, ha, hc⟩ := h
  injection he with he1 he2 he3
  subst he1 he3
  refine ⟨a.map fun x => x.add q, cap - q, by rw [List.length_drop], by rw [List.length_drop]; omega, by omega, fun hn => ?_, ?_⟩
  · cases a with
    | none => have := ha rfl; rw [List.length_drop]; omega
    | some x => cases hn
  · rcases hc with h0 | ⟨b, off, rfl, hb, hc⟩
    · exact .inl (by rw [List.length_drop]; omega)
    · refine .inr ⟨b, off + q, by simp [Addr.add], hb, fun i hi => ?_⟩
      rw [List.length_drop] at hi
      have h3 := hc (q + i) (by omega)
      rw [show off + q + i = off + (q + i) by omega, h3]
      simp
theorem rest_tail2 {B : Nat} {w : World} {bs : List UInt8} {a : Option Addr} {cap : Nat} (h : Rest B w bs (.slice a bs.length cap)) (q : Nat) (hq : q ≤ bs.length) (hc : cap = q) : Rest B w (bs.drop q) (.slice a (bs.length - q) (cap - q)) := by
  obtain ⟨a2, cap2, he, hl, hm, ha, _⟩ := h
  injection he with he1 he2 he3
  subst he1 he3
  exact ⟨a, cap - q, by rw [List.length_drop], by rw [List.length_drop]; omega, by omega, fun hn => by have := ha hn; rw [List.length_drop]; omega, .inl (by rw [List.length_drop]; omega)⟩

set_option maxRecDepth 100000 in
set_option maxHeartbeats 4000000 in
theorem sum_in (n : Nat) (hn : 4 ≤ n) (bs : List UInt8) (v : Value) (w : World) (hr : Rest w.heap.size w bs v) (ht : Tab w) (hlen : bs.length ≤ 1099511627776) :
    CallsIn Fence.wide n Tryd.prog 21 #[v] w fun e w' => e = .returned (dg (sha bs)) ∧ Below w.heap.size w w' := by
  have h1 : 1 ≤ n := by omega
  have HR := Lib.hid hr
  have HT := Lib.hid ht
  clear hr ht
  obtain ⟨a, cap, rfl, hcap, hcm, hnone, hcells⟩ := HR.out
  unfold maxLen at hcm
  have HC := Lib.hid hcells
  have HNN := Lib.hid hnone
  clear hcells hnone
  obtain ⟨m, hm⟩ : ∃ m, m = bs.length / 64 := ⟨_, rfl⟩
  have hdiv : (bs.length : Int) / 64 = (m : Int) := by omega
  have hdiv2 : (bs.length : Int).tdiv 64 = (m : Int) := by rw [Int.tdiv_eq_ediv_of_nonneg (by omega)]; omega
  have hm64 : 64 * m ≤ bs.length := by omega
  have hmlt : bs.length < 64 * m + 64 := by omega
  have HM := Lib.hid hm
  clear hm
  refine callsIn_of_wp_marks Tryd.func21 rfl trivial ?_ rfl
  simp only [Tryd.ntmps21, List.size_toArray, List.length_cons, List.length_nil, Nat.reduceAdd, Nat.reduceSub, Array.replicate_succ, Array.replicate_zero, List.push_toArray, List.append_toArray, List.nil_append, List.cons_append]
  gi_wp2_with (refine ⟨trivial, ?_⟩; gi_at_call 35; refine (callsIn_wide.2 (begin_call _)).mono ?_; rintro e w' ⟨rfl, rfl⟩)
  refine ⟨trivial, (callsIn_wide.2 (chunk_call _ ⟨_, _, _, rfl⟩ _)).mono ?_⟩
  rintro e W0 ⟨rfl, hW0⟩
  simp only [World.size_alloc] at hW0 ⊢
  obtain ⟨R, hR⟩ : ∃ R, R = w.heap.size := ⟨_, rfl⟩
  obtain ⟨sb, hsb⟩ : ∃ sb, sb = w.heap.size + 1 := ⟨_, rfl⟩
  obtain ⟨bx, hbx⟩ : ∃ bx, bx = w.heap.size + 1 + 1 := ⟨_, rfl⟩
  obtain ⟨Bs, hBs⟩ : ∃ Bs, Bs = w.heap.size + 1 + 1 + 1 := ⟨_, rfl⟩
  obtain ⟨Bn, hBn⟩ : ∃ Bn, Bn = w.heap.size + 1 + 1 + 1 + 1 := ⟨_, rfl⟩
  have r1 : Row W0 R 30 zb := by rw [hW0, hR]; exact ((((row_new w 30 zb).push _).push _).push _).push _
  have r2 : Row W0 sb 75 (u32s init.list) := by rw [hW0, hsb]; exact (((row_at 75 (u32s init.list) _ (by simp)).push _).push _).push _
  have r3 : Row W0 bx 57 [absF sb] := by rw [hW0, hbx, hsb]; exact ((row_at 57 [absF (w.heap.size + 1)] _ (by simp)).push _).push _
  have r4 : Row W0 Bs 34 [.slice a (m * 64) cap] := by rw [hW0, hBs]; exact (row_at 34 [.slice a (m * 64) cap] _ (by simp)).push _
  have r5 : Row W0 Bn 3 [.int .i64 64] := by rw [hW0, hBn]; exact row_at 3 [.int .i64 64] _ (by simp)
  have hB0 : Below w.heap.size w W0 := by rw [hW0]; exact (((((Below.refl _ w).alloc (Nat.le_refl _) _).alloc (by simp) _).alloc (by simp; omega) _).alloc (by simp; omega) _).alloc (by simp; omega) _
  have hsz : W0.heap.size = w.heap.size + 5 := by rw [hW0]; simp
  rw [← hBn, ← hBs, ← hbx, ← hsb, ← hR]
  clear hW0
  have HI0 : Hid (SumI w R sb bx W0.heap.size init W0) := ⟨⟨⟨r1, r2, r3.cell rfl⟩, hB0⟩, Nat.le_refl _⟩
  have hsrc : ∃ b off, Src (.slice a (m * 64) cap) b off m ∧ ∀ W, Below w.heap.size w W → ∀ x : Fin m, Rest W.heap.size W ((bs.drop (64 * x.val)).take 64) (.slice (some ⟨b, off + 64 * x.val, none⟩) 64 64) := by
    rcases Nat.eq_zero_or_pos m with h0 | h0
    · subst h0
      exact ⟨0, 0, .inl ⟨rfl, a, cap, by simp⟩, fun W _ x => x.elim0⟩
    · rcases HC.out with hx | ⟨b, off, rfl, hb, hc⟩
      · omega
      · refine ⟨b, off, .inr ⟨cap, by rw [Nat.mul_comm], by omega, by omega⟩, fun W hW x => ?_⟩
        have := x.isLt
        exact rest_part (rest_keep HR.out hW) (64 * x.val) 64 64 (by omega) (by omega) (by omega)
  obtain ⟨b, off, hsrc, hblk⟩ := hsrc
  have HBLK := Lib.hid hblk
  have HSRC := Lib.hid hsrc
  have HR4 := Lib.hid r4
  have HR5 := Lib.hid r5
  clear hblk hsrc r1 r2 r3 r4 r5 hB0
  have hsb2 : w.heap.size ≤ sb := by omega
  have hsb3 : sb < W0.heap.size := by omega
  have hne1 : Bs ≠ sb := by omega
  have hne2 : Bn ≠ sb := by omega
  have hne3 : R ≠ sb := by omega
  have hne4 : bx ≠ sb := by omega
  have hRR : w.heap.size ≤ R := by omega
  have hsb0 : 0 < sb := by omega
  have hBs2 : Bs < W0.heap.size := by omega
  have hBn2 : Bn < W0.heap.size := by omega
  have HP : Hid (sb = w.heap.size + 1 ∧ Bs = w.heap.size + 1 + 1 + 1 ∧ Bn = w.heap.size + 1 + 1 + 1 + 1 ∧ bx = w.heap.size + 1 + 1 ∧ R = w.heap.size) := ⟨hsb, hBs, hBn, hbx, hR⟩
  clear hR hsb hbx hBs hBn hsz
  gi_wp2
  refine wpIn_rangeFunc_ownF rfl h1 (gf := 52) (lb := #[.pointer (some ⟨Bs, 0, none⟩), .pointer (some ⟨Bn, 0, none⟩)]) rfl trivial (enters_of Tryd.func52 (by kernel_rfl) rfl)
    (chunk_stops (n - 1) (by omega) Bs Bn b off m _ W0 HSRC.out (HR4.out.cell rfl) (HR5.out.cell rfl) hBs2 hBn2) Kp2.trans (kp2_b hBs2 hBn2) (Below.refl _ _) (fun _ => rfl)
    (fun pre W => SumI w R sb bx W0.heap.size (runs init bs pre) W) (fun _ _ _ => False) (sumI_own w R sb bx _ _ HI0.out.1.2.size init bs) (fun _ _ _ _ _ hs _ _ => hs) HI0.out
    (fun x => { tmps := #[.slice a bs.length cap, undef, .pointer (some ⟨R, 0, none⟩), .pointer (some ⟨sb, 0, none⟩), .pointer (some ⟨bx, 0, none⟩), .int .i64 (m * 64), .slice (some ⟨b, off + 64 * x.val, none⟩) 64 64, undef, .pointer (some ⟨sb, 0, none⟩), .pointer (some ⟨sb, 0, none⟩), absF sb, .slice a bs.length cap, .int .i64 bs.length, .int .i64 m, .int .i64 (m * 64), .slice a bs.length cap, .int .i64 (m * 64), .slice a (m * 64) cap, .func (.func 52) #[] #[.pointer (some ⟨Bs, 0, none⟩), .pointer (some ⟨Bn, 0, none⟩)], .slice (some ⟨b, off + 64 * x.val, none⟩) 64 64, undef, undef, undef, undef, undef, undef, undef, undef, undef, undef, undef, undef, undef, undef, undef, undef], defers := [] }) ?assign ?body ?done ?stop
  case assign =>
    intro l x W K hK
    unfold absF at hK
    dsimp only [blk]
    gi_wp2
    exact hK
  case body =>
    rintro l pre x W hI _
    have hok := runs_ok init_ok bs pre
    obtain ⟨st, hst⟩ : ∃ st, st = runs init bs pre := ⟨_, rfl⟩
    rw [← hst] at hI hok
    have HST := Lib.hid hst
    have HI := Lib.hid hI
    have HB := Lib.hid hI.1.2
    have i3 := hI.1.1.2.2
    clear hst hI
    have hd : 1 ≤ n - 1 - 1 := by omega
    have hx := x.isLt
    unfold absF at i3
    gi_wp2
    refine ⟨trivial, (CallsIn.inRound l (callsIn_wide.2 (absorb_call st hok ((bs.drop (64 * x.val)).take 64) (by rw [List.length_take, List.length_drop]; omega) _ sb 75 W (HBLK.out W HB.out x) (HT.out.keep HB.out) HI.out.1.1.2.1 hsb0))).mono ?_⟩
    rintro e W1 ⟨rfl, hr1, ho1⟩
    gi_wp2
    have hso : W.heap[sb]? = some (.cells (u32s st.list).toArray 75 (0, 0)) := HI.out.1.1.2.1
    have hsz := HI.out.2
    refine ⟨KeepsOthers.of_grownBy ho1 (fun j o hj ho => by cases hj; rw [hso] at ho; cases ho; rfl), ⟨ho1.block Bs (by omega) (fun e => by cases e; omega), ho1.block Bn (by omega) (fun e => by cases e; omega)⟩, ?_⟩
    show SumI w R sb bx W0.heap.size (runs init bs (pre ++ [x])) W1
    rw [runs_snoc, ← HST.out]
    exact sumI_step HI.out hr1 ho1 hne3 hne4 hsb2
  case done =>
    rintro D ys W hD hys hI hK
    have hB := hI.1.2
    have hI2 : SumI w R sb bx W0.heap.size (absN init bs m) W := by have := hI; rw [runs_all init bs ys hys] at this; exact this
    have HI := Lib.hid hI2
    have HRT : Hid (Rest W.heap.size W (bs.drop (m * 64)) (.slice (a.map fun x => x.add (m * 64)) (bs.length - m * 64) (cap - m * 64))) := rest_tail (rest_keep HR.out hB) (m * 64) (by omega)
    have HRT2 : Hid (cap = m * 64 → Rest W.heap.size W (bs.drop (m * 64)) (.slice a (bs.length - m * 64) 0)) := fun hc => by have := rest_tail2 (rest_keep HR.out hB) (m * 64) (by omega) hc; rwa [show cap - m * 64 = 0 by omega] at this
    have HK := Lib.hid hK
    have HD := Lib.hid hD
    clear hI hI2 hK hD hB hys
    have hDlt : D < W.heap.size := (Array.getElem?_eq_some_iff.1 HK.out).1
    by_cases hcc : cap = m * 64
    all_goals
      gi_wp2
      first
        | (let tv : Value := Value.slice a (bs.length - m * 64) 0; have HTV : Hid (Rest W.heap.size W (bs.drop (m * 64)) tv) := HRT2.out hcc)
        | (generalize htv : Value.slice (Option.map (fun x => x.add (m * 64)) a) (bs.length - m * 64) (cap - m * 64) = tv; have HTV : Hid (Rest W.heap.size W (bs.drop (m * 64)) tv) := (by rw [← htv]; exact HRT.out); clear htv)
      refine ⟨trivial, (callsIn_wide.2 (padded_call (bs.drop (m * 64)) bs.length (by rw [List.length_drop]; omega) (by rw [List.length_drop]; omega) hlen _ W HTV.out)).mono ?_⟩
      rintro e W2 ⟨pv, rfl, hnew⟩
      clear hcc
      obtain ⟨pa, pc, rfl⟩ := hnew.shape
      obtain ⟨pl, hpl⟩ : ∃ pl, pl = bs.drop (m * 64) ++ ends bs.length := ⟨_, rfl⟩
      rw [← hpl] at hnew ⊢
      have hpl64 : pl.length % 64 = 0 := by rw [hpl, List.length_append, List.length_drop, ends_len]; have := zeros_eq bs.length; omega
      have hpl9 : 0 < pl.length := by rw [hpl, List.length_append, ends_len]; omega
      obtain ⟨m2, hm2⟩ : ∃ m2, m2 = pl.length / 64 := ⟨_, rfl⟩
      have hplm : pl.length = 64 * m2 := by omega
      rw [hplm] at hnew ⊢
      have HNEW := Lib.hid hnew
      have HPL := Lib.hid hpl
      have HPLM := Lib.hid hplm
      have hsz0 := HI.out.2
      have hbW2 := hnew.2.1
      have hRW2 := (buf_rest hnew.1)
      obtain ⟨a5, c5, he5, hrest5⟩ := hRW2
      rw [hplm] at he5 hrest5
      injection he5 with he6 he7 he8
      subst he6 he8
      obtain ⟨b5, off5, c6, he9, hc61, hc62, hb5, hcell5⟩ := rest_cells (hplm ▸ hrest5) hpl9
      obtain ⟨o5, ho5, hc5⟩ := cells_of_cell (hcell5 0 hpl9)
      clear hcell5
      have hb5W : W.heap.size ≤ b5 := by
        refine hnew.2.2 b5 ?_
        injection he9 with he10
        rw [he10]; rfl
      injection he9 with he10 he11 he12
      subst he10 he12
      have HRP := Lib.hid hrest5
      clear hnew hpl hm2 hplm he11 hrest5
      have HSRC2 : Hid (Src (.slice (some ⟨b5, off5, none⟩) (64 * m2) pc) b5 off5 m2) := .inr ⟨pc, rfl, by have := HPLM.out; omega, hc62⟩
      gi_wp2
      refine ⟨trivial, (callsIn_wide.2 (chunk_call _ ⟨_, _, _, rfl⟩ W2)).mono ?_⟩
      rintro e W3 ⟨rfl, hW3⟩
      have hb3 : Below W2.heap.size W2 W3 := by rw [hW3]; exact ((Below.refl _ W2).alloc (Nat.le_refl _) _).alloc (by simp) _
      have hw0 := HI.out.1.2.size
      have hw2 := hbW2.size
      have hw3 := hb3.size
      have hb23 : Below W.heap.size W W3 := below_next hbW2 hb3
      obtain ⟨Bs2, hBs22⟩ : ∃ Bs2, Bs2 = W2.heap.size := ⟨_, rfl⟩
      obtain ⟨Bn2, hBn22⟩ : ∃ Bn2, Bn2 = W2.heap.size + 1 := ⟨_, rfl⟩
      have hlt5 : Bn2 < W3.heap.size := by rw [hW3, hBn22]; simp
      have hlt4 : Bs2 < W3.heap.size := by omega
      have HR8 : Hid (Row W3 Bs2 34 [.slice (some ⟨b5, off5, none⟩) (64 * m2) pc]) := by rw [hW3, hBs22]; exact (row_at 34 [.slice (some ⟨b5, off5, none⟩) (64 * m2) pc] _ rfl).push _
      have HR9 : Hid (Row W3 Bn2 3 [.int .i64 64]) := by rw [hW3, hBn22]; exact row_at 3 [.int .i64 64] _ (by simp)
      rw [← hBn22, ← hBs22]
      have hb5W3 : W3.heap[b5]? = some o5 := (hb3.block b5 hb5).trans ho5
      have HJ0 : Hid (SumJ w R sb bx W3.heap.size D b5 o5 (absN init bs m) W3) :=
        ⟨⟨⟨⟨HI.out.1.1.1.keep hb23, HI.out.1.1.2.1.keep hb23, (hb23.cell (p := ⟨bx, 0, none⟩) (World.block_lt_of_cell? W _ HI.out.1.1.2.2)).trans HI.out.1.1.2.2⟩, below_next HI.out.1.2 hb23⟩, Nat.le_refl _⟩, (hb23.block D hDlt).trans HK.out, hb5W3⟩
      have hokm : (absN init bs m).ok := absN_ok init_ok bs m
      have HBLK2 : Hid (∀ W4 : World, W4.heap[b5]? = some o5 → ∀ x : Fin m2, Rest W4.heap.size W4 ((pl.drop (64 * x.val)).take 64) (.slice (some ⟨b5, off5 + 64 * x.val, none⟩) 64 64)) := fun W4 h4 x => by
        have := x.isLt
        have hpm := HPLM.out
        have h6 := rest_part (hpm ▸ HRP.out) (64 * x.val) 64 64 (by omega) (by omega) (by omega)
        exact rest_same h6 (h4.trans ho5.symm) (Array.getElem?_eq_some_iff.1 h4).1
      have hbne : b5 ≠ sb := by omega
      have hB2ne : Bs2 ≠ sb := by omega
      have hB2ne2 : Bn2 ≠ sb := by omega
      have hDne : D ≠ sb := by have := HD.out; omega
      have hDW3 : D < W3.heap.size := by omega
      have hww3 : w.heap.size ≤ W3.heap.size := by omega
      clear hW3 hBs22 hBn22 ho5 hb5W3
      gi_wp2
      refine wpIn_rangeFunc_ownF rfl h1 (gf := 52) (lb := #[.pointer (some ⟨Bs2, 0, none⟩), .pointer (some ⟨Bn2, 0, none⟩)]) rfl trivial (enters_of Tryd.func52 (by kernel_rfl) rfl)
        (chunk_stops (n - 1) (by omega) Bs2 Bn2 b5 off5 m2 _ W3 HSRC2.out (HR8.out.cell rfl) (HR9.out.cell rfl) hlt4 hlt5) Kp2.trans (kp2_b hlt4 hlt5) (Below.refl _ _) (fun _ => rfl)
        (fun pre W4 => SumJ w R sb bx W3.heap.size D b5 o5 (runs (absN init bs m) pl pre) W4) (fun _ _ _ => False) (sumJ_own w R sb bx _ _ D b5 o5 hww3 hDW3 hc5 (absN init bs m) pl) (fun _ _ _ _ _ hs _ _ => hs) HJ0.out
        (fun x => { tmps := #[.slice a bs.length cap, undef, .pointer (some ⟨R, 0, none⟩), .pointer (some ⟨sb, 0, none⟩), .pointer (some ⟨bx, 0, none⟩), .int .i64 (m * 64), undef, .slice (some ⟨b5, off5 + 64 * x.val, none⟩) 64 64, .pointer (some ⟨sb, 0, none⟩), .pointer (some ⟨sb, 0, none⟩), absF sb, .slice a bs.length cap, .int .i64 bs.length, .int .i64 m, .int .i64 (m * 64), .slice a bs.length cap, .int .i64 (m * 64), .slice a (m * 64) cap, .func (.func 52) #[] #[.pointer (some ⟨Bs, 0, none⟩), .pointer (some ⟨Bn, 0, none⟩)], undef, undef, undef, undef, .slice a bs.length cap, .int .i64 (m * 64), tv, .slice a bs.length cap, .int .i64 bs.length, .slice (some ⟨b5, off5, none⟩) (64 * m2) pc, .func (.func 52) #[] #[.pointer (some ⟨Bs2, 0, none⟩), .pointer (some ⟨Bn2, 0, none⟩)], .slice (some ⟨b5, off5 + 64 * x.val, none⟩) 64 64, undef, undef, undef, undef, undef], defers := [] }) ?_ ?_ ?_ ?_
      · intro l x W K hK
        unfold absF at hK
        dsimp only [blk]
        gi_wp2
        exact hK
      · rintro l pre x W4 hI4 _
        have hok := runs_ok hokm pl pre
        obtain ⟨st, hst⟩ : ∃ st, st = runs (absN init bs m) pl pre := ⟨_, rfl⟩
        rw [← hst] at hI4 hok
        have HST := Lib.hid hst
        have HI4 := Lib.hid hI4
        have HB4 := Lib.hid hI4.1.1.2
        have i3 := hI4.1.1.1.2.2
        clear hst hI4
        have hd : 1 ≤ n - 1 - 1 := by omega
        have hx := x.isLt
        unfold absF at i3
        gi_wp2
        refine ⟨trivial, (CallsIn.inRound l (callsIn_wide.2 (absorb_call st hok ((pl.drop (64 * x.val)).take 64) (by have := HPLM.out; rw [List.length_take, List.length_drop]; omega) _ sb 75 W4 (HBLK2.out W4 HI4.out.2.2 x) (HT.out.keep HB4.out) HI4.out.1.1.1.2.1 hsb0))).mono ?_⟩
        rintro e W5 ⟨rfl, hr1, ho1⟩
        gi_wp2
        have hso : W4.heap[sb]? = some (.cells (u32s st.list).toArray 75 (0, 0)) := HI4.out.1.1.1.2.1
        have hsz4 := HI4.out.1.2
        refine ⟨KeepsOthers.of_grownBy ho1 (fun j o hj ho => by cases hj; rw [hso] at ho; cases ho; rfl), ⟨ho1.block Bs2 (by omega) (fun e => by cases e; omega), ho1.block Bn2 (by omega) (fun e => by cases e; omega)⟩, ?_⟩
        show SumJ w R sb bx W3.heap.size D b5 o5 (runs (absN init bs m) pl (pre ++ [x])) W5
        rw [runs_snoc, ← HST.out]
        exact ⟨sumI_step HI4.out.1 hr1 ho1 hne3 hne4 hsb2, (ho1.block D (by omega) (fun e => by cases e; omega)).trans HI4.out.2.1, (ho1.block b5 (by omega) (fun e => by cases e; omega)).trans HI4.out.2.2⟩
      · rintro D2 zs W4 hD2 hzs hI4 hK2
        have hI5 : SumJ w R sb bx W3.heap.size D b5 o5 (absN (absN init bs m) pl m2) W4 := by have := hI4; rw [runs_all _ pl zs hzs] at this; exact this
        have HI5 := Lib.hid hI5
        have HK2 := Lib.hid hK2
        clear hI4 hI5 hK2 hzs
        gi_wp2
        refine ⟨trivial, (callsIn_wide.2 (digest_call (absN (absN init bs m) pl m2) (absN_ok hokm pl m2) sb 75 W4 HI5.out.1.1.1.2.1)).mono ?_⟩
        rintro e W5 ⟨rfl, hb5⟩
        have hrow : Row W5 R 30 zb := HI5.out.1.1.1.1.keep hb5
        have hDh : W5.heap[D]? = some (.deferred (some [])) := (hb5.block D (Array.getElem?_eq_some_iff.1 HI5.out.2.1).1).trans HI5.out.2.1
        have hD2h : W5.heap[D2]? = some (.deferred (some [])) := (hb5.block D2 (Array.getElem?_eq_some_iff.1 HK2.out).1).trans HK2.out
        have hbw5 : Below w.heap.size w W5 := below_next HI5.out.1.1.2 hb5
        obtain ⟨res, hres⟩ : ∃ res, res = out (absN (absN init bs m) pl m2) := ⟨_, rfl⟩
        rw [← hres]
        have hres2 : res = sha bs := by
          rw [hres, sha_cut bs m hm64]
          have hp := HPL.out
          have hpm := HPLM.out
          rw [Nat.mul_comm m 64] at hp
          rw [← hp, show (bs.length - 64 * m + (ends bs.length).length) / 64 = m2 by rw [hp, List.length_append, List.length_drop] at hpm; omega]
          rw [absN_take bs m hm64]
        have hszr : (cellsOf res).toArray.size = 32 := by rw [List.size_toArray, cellsOf_len, hres, out_len]
        have HRES := Lib.hid hres2
        have HSZR := Lib.hid hszr
        have HROW := Lib.hid hrow
        have HDH := Lib.hid hDh
        have HD2H := Lib.hid hD2h
        have HBW5 := Lib.hid hbw5
        clear hres hres2 hszr hrow hDh hD2h hbw5 hb5
        unfold dg
        gi_wp2_with (refine wpListIn_store_row rfl 30 (.tmp 2) (.tmp 35) rfl R (cellsOf res).toArray rfl rfl 30 zb.toArray HROW.out (by rw [HSZR.out]; kernel_rfl) (by rw [HSZR.out]; rfl) (cellsOf_one _) ?_)
        have hRlt := HROW.out.lt
        have hne6 : D2 ≠ R := fun e => by
          have h6 := HD2H.out
          rw [e, show W5.heap[R]? = _ from HROW.out] at h6; cases h6
        have hne7 : D ≠ R := fun e => by
          have h6 := HDH.out
          rw [e, show W5.heap[R]? = _ from HROW.out] at h6; cases h6
        have hk6 : (W5.setRow R (cellsOf res).toArray).heap[D2]? = some (.deferred (some [])) := (setRow_other W5 R D2 _ hne6).trans HD2H.out
        have hk7 : ((W5.setRow R (cellsOf res).toArray).putObj D2 (.deferred none)).heap[D]? = some (.deferred (some [])) :=
          (World.putObj_heap_other (by omega)).trans ((setRow_other W5 R D _ hne7).trans HDH.out)
        have hr8 : Row (((W5.setRow R (cellsOf res).toArray).putObj D2 (.deferred none)).putObj D (.deferred none)) R 30 (cellsOf res) :=
          (World.putObj_heap_other (Ne.symm hne7)).trans ((World.putObj_heap_other (Ne.symm hne6)).trans (HROW.out.setRow _))
        have hb6 : Below w.heap.size w (W5.setRow R (cellsOf res).toArray) := below_setRow HBW5.out R _ hRR
        have hD2w : w.heap.size ≤ D2 := by omega
        have hDw : w.heap.size ≤ D := by have := HD.out; omega
        have hb7 : Below w.heap.size w ((W5.setRow R (cellsOf res).toArray).putObj D2 (.deferred none)) := hb6.grown (grownBy_putObj' _ D2 _) hb6.size (fun k e => by cases e; exact hD2w)
        have hb8 : Below w.heap.size w (((W5.setRow R (cellsOf res).toArray).putObj D2 (.deferred none)).putObj D (.deferred none)) := hb7.grown (grownBy_putObj' _ D _) hb7.size (fun k e => by cases e; exact hDw)
        refine ⟨by simp, .inl ⟨_, _, rfl, run_takeDeferred hk6, ?_⟩⟩
        refine ⟨by simp, .inl ⟨_, _, rfl, run_takeDeferred hk7, ?_⟩⟩
        refine ⟨_, results_cell_row rfl _ _ R 30 (cellsOf res).toArray (0, 0) _ rfl hr8 Tryd.underlying30 rfl (by rw [HSZR.out]; kernel_rfl), ?_, hb8⟩
        rw [HRES.out]; rfl
      · rintro D c pre W _ _ h _
        exact h.elim
  case stop =>
    rintro D c pre W _ _ h _
    exact h.elim
/-- Sum: for all bytes the hash, and nothing that was there has turned. -/
theorem sum_call (bs : List UInt8) (v : Value) (w : World) (hr : Rest w.heap.size w bs v) (ht : Tab w) (hlen : bs.length ≤ 1099511627776) :
    Calls Tryd.prog 21 #[v] w fun e w' => e = .returned (dg (sha bs)) ∧ Below w.heap.size w w' :=
  (callsIn_wide (n := 4)).1 (sum_in 4 (by omega) bs v w hr ht hlen)
end Go.Proofs.YtbceimbcjijfgaaDoor.Dig
