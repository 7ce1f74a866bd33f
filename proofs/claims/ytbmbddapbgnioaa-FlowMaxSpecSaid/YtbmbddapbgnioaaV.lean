/- Levels found row by row: the walk. -/
import Derived.Test.YtbmbddapbgnioaaV2
import Derived.Sort.CutIn
namespace Go.Proofs.Ytbmbddapbgnioaa
open Go.RowKit Go.Shelf
attribute [local go_sem] Oper.semAt_some

/-- what levels promises -/
def LvPost (v : Gv) (w : World) (e : Ending) (w' : World) : Prop :=
  ∃ l L, e = .returned (.slice (some ⟨l, 0, none⟩) v.N v.N) ∧ Row w' l 3 (nums L) ∧ w.heap.size ≤ l ∧ Below w.heap.size w w' ∧ Lv v.N v.s v.t v.A v.X L
theorem act74 (a : Act) (h : a.tmps.size = 74) : ∃ xs : Nat → Value, (∀ k, a.tmps.getD k undef = xs k) ∧ a = { tmps := (xs 0 :: xs 1 :: xs 2 :: xs 3 :: xs 4 :: xs 5 :: xs 6 :: xs 7 :: xs 8 :: xs 9 :: xs 10 :: xs 11 :: xs 12 :: xs 13 :: xs 14 :: xs 15 :: xs 16 :: xs 17 :: xs 18 :: xs 19 :: xs 20 :: xs 21 :: xs 22 :: xs 23 :: xs 24 :: xs 25 :: xs 26 :: xs 27 :: xs 28 :: xs 29 :: xs 30 :: xs 31 :: xs 32 :: xs 33 :: xs 34 :: xs 35 :: xs 36 :: xs 37 :: xs 38 :: xs 39 :: xs 40 :: xs 41 :: xs 42 :: xs 43 :: xs 44 :: xs 45 :: xs 46 :: xs 47 :: xs 48 :: xs 49 :: xs 50 :: xs 51 :: xs 52 :: xs 53 :: xs 54 :: xs 55 :: xs 56 :: xs 57 :: xs 58 :: xs 59 :: xs 60 :: xs 61 :: xs 62 :: xs 63 :: xs 64 :: xs 65 :: xs 66 :: xs 67 :: xs 68 :: xs 69 :: xs 70 :: xs 71 :: xs 72 :: xs 73 :: []).toArray, defers := a.defers } := by
  obtain ⟨⟨l⟩, ds⟩ := a
  have hl : l.length = 74 := by simpa using h
  refine ⟨fun k => l.getD k undef, fun k => by simp, ?_⟩
  have e : l = (List.range 74).map (fun k => l.getD k undef) := by
    apply List.ext_getElem
    · simp [hl]
    · intro i h1 h2
      simp [List.getD_eq_getElem?_getD, h1]
  have e2 : (List.range 74).map (fun k => l.getD k undef) = l.getD 0 undef :: l.getD 1 undef :: l.getD 2 undef :: l.getD 3 undef :: l.getD 4 undef :: l.getD 5 undef :: l.getD 6 undef :: l.getD 7 undef :: l.getD 8 undef :: l.getD 9 undef :: l.getD 10 undef :: l.getD 11 undef :: l.getD 12 undef :: l.getD 13 undef :: l.getD 14 undef :: l.getD 15 undef :: l.getD 16 undef :: l.getD 17 undef :: l.getD 18 undef :: l.getD 19 undef :: l.getD 20 undef :: l.getD 21 undef :: l.getD 22 undef :: l.getD 23 undef :: l.getD 24 undef :: l.getD 25 undef :: l.getD 26 undef :: l.getD 27 undef :: l.getD 28 undef :: l.getD 29 undef :: l.getD 30 undef :: l.getD 31 undef :: l.getD 32 undef :: l.getD 33 undef :: l.getD 34 undef :: l.getD 35 undef :: l.getD 36 undef :: l.getD 37 undef :: l.getD 38 undef :: l.getD 39 undef :: l.getD 40 undef :: l.getD 41 undef :: l.getD 42 undef :: l.getD 43 undef :: l.getD 44 undef :: l.getD 45 undef :: l.getD 46 undef :: l.getD 47 undef :: l.getD 48 undef :: l.getD 49 undef :: l.getD 50 undef :: l.getD 51 undef :: l.getD 52 undef :: l.getD 53 undef :: l.getD 54 undef :: l.getD 55 undef :: l.getD 56 undef :: l.getD 57 undef :: l.getD 58 undef :: l.getD 59 undef :: l.getD 60 undef :: l.getD 61 undef :: l.getD 62 undef :: l.getD 63 undef :: l.getD 64 undef :: l.getD 65 undef :: l.getD 66 undef :: l.getD 67 undef :: l.getD 68 undef :: l.getD 69 undef :: l.getD 70 undef :: l.getD 71 undef :: l.getD 72 undef :: l.getD 73 undef :: [] := rfl
  simp only [Act.mk.injEq, and_true]
  exact congrArg List.toArray (e.trans e2)
/-- the slots that a loop knows -/
def SlA (a : Act) : List (Nat × Value) → Prop
  | [] => True
  | p :: l => a.tmps.getD p.1 undef = p.2 ∧ SlA a l
def Sl (a : Act) (l : List (Nat × Value)) : Prop := a.tmps.size = 74 ∧ SlA a l
set_option maxRecDepth 100000 in
set_option maxHeartbeats 40000000 in
theorem levels_call (v : Gv) (w : World) (hv : Net w v.g v.K v.N v.s v.t v.A v.va v.sb v.sc v.X) :
    Calls Try.prog 33 #[.pointer (some ⟨v.g, 0, none⟩)] w (LvPost v w) := by
  have HV := Lib.hid hv
  have c0 := hv.gm.n
  have c1 := hv.gm.s
  have l1 := hv.gm.lt
  have hN64 := hv.N64
  have hsN := hv.sN
  have hB1 : Below w.heap.size w (w.alloc (.cells #[.pointer (some ⟨v.g, 0, none⟩)] 56)) := Joins.below_alloc1 w _
  obtain ⟨W1, hW1⟩ : ∃ W1, W1 = w.alloc (.cells #[.pointer (some ⟨v.g, 0, none⟩)] 56) := ⟨_, rfl⟩
  rw [← hW1] at hB1
  have r0 : Row W1 w.heap.size 56 [.pointer (some ⟨v.g, 0, none⟩)] := by rw [hW1]; exact row_new w 56 _
  have hS1 : W1.heap.size = w.heap.size + 1 := by rw [hW1, World.size_alloc]
  have d0 := r0.cell (i := 0) rfl
  have d1 := (hB1.cell (p := ⟨v.g, 0, none⟩) l1).trans c0
  have HW1 := Lib.hid hW1
  have HB1 := Lib.hid hB1
  have HR0 := Lib.hid r0
  have HS1 := Lib.hid hS1
  have HC1 : Hid (v.g < w.heap.size ∧ w.cell? ⟨v.g, 1, none⟩ = some (.int .i64 (v.s : Int))) := Lib.hid ⟨l1, c1⟩
  obtain ⟨N, hN⟩ : ∃ N, N = v.N := ⟨_, rfl⟩
  rw [← hN] at d1 hN64 hsN
  have HN := Lib.hid hN
  have HN64 := Lib.hid (And.intro hN64 hsN)
  clear hv c0 c1 l1 hW1 hB1 r0 hS1 hN
  refine (callsIn_wide (n := 6)).1 ?_
  refine callsIn_of_wp_marks Try.func33 rfl trivial ?_ rfl
  simp only [Try.ntmps33, List.size_toArray, List.length_cons, List.length_nil, Nat.reduceAdd, Nat.reduceSub, Array.replicate_succ, Array.replicate_zero, List.push_toArray, List.append_toArray, List.nil_append, List.cons_append]
  refine wpIn_wide.2 ?_
  try go_wp2_with fail
  go_step3
  go_upto_region 1 with (fail)
  rw [← HW1.out]
  go_upto_region 2 with (first | (refine wpList_make rfl (.tmp 14) rfl N (by omega) rfl ?_; intro l W2 hf hrow hsz hb; have HF := Lib.hid (And.intro hf (And.intro hrow (And.intro hsz hb))); clear hf hrow hsz hb) | fail)
  obtain ⟨rfl, hrow, hsz, hb⟩ := HF.out
  rw [HS1.out] at hrow
  have hn2 : W2.heap.size = w.heap.size + 1 + 1 := by have := HS1.out; omega
  obtain ⟨W3, hW3⟩ : ∃ W3, W3 = W2.alloc (.cells #[.slice (some ⟨w.heap.size + 1, 0, none⟩) N N] 25) := ⟨_, rfl⟩
  have hb3 : Below W2.heap.size W2 W3 := by rw [hW3]; exact Joins.below_alloc1 W2 _
  have hs3 : W3.heap.size = w.heap.size + 3 := by rw [hW3, World.size_alloc, hn2]
  have q3 : Row W3 (w.heap.size + 1 + 1) 25 [.slice (some ⟨w.heap.size + 1, 0, none⟩) N N] := by rw [← hn2, hW3]; exact row_new W2 25 _
  have hb13 := below_next hb hb3
  have hb03 := below_next HB1.out hb13
  have hrow3 := hrow.keep hb3
  have hVM3 : VM v w (List.replicate N 0) [] W3 := by
    refine ⟨HV.out.keep hb03, HR0.out.keep hb13, hrow3, by rw [← HN.out]; exact q3, hb03, marks_nil _ _, HV.out.Kw⟩
  have HVM3 := Lib.hid hVM3
  have d2 := hVM3.bl.cell (i := 0) rfl
  rw [← HN.out] at d2
  have d3 := hVM3.br.cell (i := 0) rfl
  have d4 := hVM3.net.gm.s
  have d5 := nrow_cell hVM3.rl (u := v.s) (by simpa using HN64.out.2)
  have d6 := hVM3.rl.free v.s
  have hsNi : (v.s : Int) < (N : Int) := by have := HN64.out.2; omega
  rw [hn2, HS1.out, ← hW3]
  have HS3 := Lib.hid hs3
  clear hrow hsz hb hn2 hW3 hb3 hs3 q3 hb13 hb03 hrow3 hVM3 d0 d1 HF HR0 HW1 HB1 HS1
  go_still_tail 7, (by kernel_rfl)
  go_upto_region 3 with (fail)
  have HVM4 : Hid (VM v w ((List.replicate N 0).set v.s 1) [] (W3.setCell ⟨w.heap.size + 1, v.s, none⟩ (.int .i64 1)).drew) := Lib.hid ((HVM3.out.level v.s 1).keep (Below.refl _ _).drew)
  have HS4 : Hid ((W3.setCell ⟨w.heap.size + 1, v.s, none⟩ (.int .i64 1)).drew.heap.size = w.heap.size + 3) := Lib.hid (by have := HS3.out; simpa using this)
  clear d2 d3 d4 d5 d6 HVM3 HS3
  generalize (W3.setCell ⟨w.heap.size + 1, v.s, none⟩ (.int .i64 1)).drew = W4 at *
  have d3 := HVM4.out.br.cell (i := 0) rfl
  have d4 := HVM4.out.net.gm.s
  go_wp2_with fail
  go_step3
  go_wp2_with fail
  rename_i KK hKK
  have HT : Hid (∀ (a : Act) (L : List Int) (W : World), Sl a [(0, .pointer (some ⟨v.g, 0, none⟩)), (1, .pointer (some ⟨w.heap.size, 0, none⟩)), (3, .pointer (some ⟨w.heap.size + 1 + 1, 0, none⟩))] → VM v w L a.defers W → Lv v.N v.s v.t v.A v.X L → KK a W) := Lib.hid (by
    intro a L W hsl hVM hLv
    obtain ⟨xs, hxs, ha⟩ := act74 a hsl.1
    have s0 := (hxs 0).symm.trans hsl.2.1
    have s1 := (hxs 1).symm.trans hsl.2.2.1
    have s3 := (hxs 3).symm.trans hsl.2.2.2.1
    refine hKK _ _ ?_
    rw [ha]
    simp only [s0, s1, s3]
    generalize a.defers = ds at *
    clear s0 s1 s3 hxs hsl ha
    have e1 := hVM.bl.cell (i := 0) rfl
    have HVM := Lib.hid hVM
    clear d3 d4 HVM4 hVM
    go_wp2_with fail
    try rw [Exit.noGoto_ret]
    refine (HVM.out.mks.leave (v := .slice (some ⟨w.heap.size + 1, 0, none⟩) v.N v.N) (fun W' _ => by simp [results, Try.results33, go_sem]) (fun W' e1 e2 e3 hs hb => ?_))
    have hbw := HVM.out.bw
    exact ⟨w.heap.size + 1, L, rfl, row_same HVM.out.rl (hb _ (by omega)), by omega, ⟨e1.trans hbw.os, e2.trans hbw.tape, e3.trans hbw.output, by rw [hs]; exact hbw.size, fun b hb2 => (hb b (by omega)).trans (hbw.block b hb2)⟩, hLv⟩)
  clear hKK
  have hb5 : Below W4.heap.size W4 (W4.alloc (.cells #[.int .i64 (v.s : Int)] 3)) := Joins.below_alloc1 W4 _
  have q5 : Row (W4.alloc (.cells #[.int .i64 (v.s : Int)] 3)) W4.heap.size 3 [.int .i64 (v.s : Int)] := row_new W4 3 _
  have HVM5 := Lib.hid (HVM4.out.keep hb5)
  have HQ5 := Lib.hid q5
  have HZ5 : Hid ((W4.alloc (.cells #[.int .i64 (v.s : Int)] 3)).heap.size = W4.heap.size + 1) := Lib.hid (World.size_alloc ..)
  generalize W4.alloc (.cells #[.int .i64 (v.s : Int)] 3) = W5 at *
  generalize W4.heap.size = b4 at *
  clear d3 d4 HVM4 hb5 q5
  refine wp_loop_ghost_k (I := fun n a W => ∃ (vr : Value) (row : List Nat) (L : List Int), Sl a [(0, .pointer (some ⟨v.g, 0, none⟩)), (1, .pointer (some ⟨w.heap.size, 0, none⟩)), (3, .pointer (some ⟨w.heap.size + 1 + 1, 0, none⟩)), (4, vr)] ∧ VM v w L a.defers W ∧ RwS w W.heap.size row vr W ∧ BV v.N v.s v.A v.X L row ∧ n = 2 * (65 - cntL L) + (if row.length = 0 then 0 else 1)) (2 * (65 - cntL ((List.replicate N 0).set v.s 1)) + 1) ?start ?round
  case start =>
    refine ⟨_, [v.s], _, ⟨rfl, rfl, rfl, rfl, rfl, trivial⟩, HVM5.out, ⟨⟨some ⟨b4, 0, none⟩, 1, rfl⟩, by simp, fun j hj => ?_⟩, by have h9 := BV.start (N := N) (A := v.A) (X := v.X) HN64.out.2; rw [HN.out] at h9 ⊢; exact h9, rfl⟩
    · obtain rfl : j = 0 := by simpa using hj
      exact ⟨b4, 0, 1, rfl, by have := HS4.out; omega, by have := HZ5.out; omega, HQ5.out.cell (i := 0) rfl⟩
  case round =>
    rintro n a W ⟨vr, row, L, hsl, hVM, hRw, hBV, rfl⟩ J1 K1 hJ1 hK1
    have HJ1 := Lib.hid hJ1
    have HK1 := Lib.hid hK1
    clear hJ1 hK1
    obtain ⟨xs, hxs, ha⟩ := act74 a hsl.1
    have s0 := (hxs 0).symm.trans hsl.2.1
    have s1 := (hxs 1).symm.trans hsl.2.2.1
    have s3 := (hxs 3).symm.trans hsl.2.2.2.1
    have s4 := (hxs 4).symm.trans hsl.2.2.2.2.1
    rw [ha]
    simp only [s0, s1, s3, s4]
    generalize a.defers = ds at *
    clear s0 s1 s3 s4 hxs hsl ha
    obtain ⟨ra, rc, hvr⟩ := hRw.shape
    subst hvr
    have HVM := Lib.hid hVM
    have HRW := Lib.hid hRw
    have HBV := Lib.hid hBV
    clear hVM hRw hBV HVM5 HQ5 HZ5 HS4 HC1
    have hrl64 := HRW.out.len
    by_cases h0 : row.length = 0
    · have hrow : row = [] := List.eq_nil_of_length_eq_zero h0
      subst hrow
      simp only [List.length_nil]
      have HLV : Hid (Lv v.N v.s v.t v.A v.X L) := Lib.hid (HBV.out.lv (by have := HN64.out.1; have := HN.out; omega) (.inl rfl))
      clear h0 hrl64 hsNi
      go_wp2_with fail
      exact HT.out _ _ _ ⟨rfl, rfl, rfl, rfl, trivial⟩ HVM.out HLV.out
    · have hpos : (0 : Int) < (row.length : Int) := by omega
      obtain ⟨rl, hrl⟩ : ∃ rl, rl = row.length := ⟨_, rfl⟩
      rw [← hrl] at hpos hrl64 ⊢
      rw [← hrl] at h0
      have HRL := Lib.hid hrl
      have hb6 : Below W.heap.size W (W.alloc (.cells #[.slice none 0 0] 25)) := Joins.below_alloc1 W _
      have q6 : Row (W.alloc (.cells #[.slice none 0 0] 25)) W.heap.size 25 [.slice none 0 0] := row_new W 25 _
      have HVM6 := Lib.hid (HVM.out.keep hb6)
      have HRW6 : Hid (RwS w W.heap.size row (.slice ra rl rc) (W.alloc (.cells #[.slice none 0 0] 25))) := Lib.hid (by rw [hrl]; exact HRW.out.stay (fun b _ hb _ => hb6.block b hb))
      have HNX6 : Hid (NxS W.heap.size [] (.slice none 0 0) (W.alloc (.cells #[.slice none 0 0] 25))) := Lib.hid ⟨q6, ibuf_nil _, fun k hk => by cases hk⟩
      have HNB : Hid (w.heap.size + 3 ≤ W.heap.size) := Lib.hid (by have := HVM.out.bl.lt; omega)
      have HH0 := Lib.hid h0
      clear hb6 q6 hrl h0 HRW HVM hsNi
      go_wp2_with fail
      generalize W.alloc (.cells #[.slice none 0 0] 25) = W6 at *
      obtain ⟨nb, hnb⟩ : ∃ nb, nb = W.heap.size := ⟨_, rfl⟩
      rw [← hnb] at HRW6 HNX6 HNB ⊢
      clear hnb
      obtain ⟨vr, hvr⟩ : ∃ vr, vr = Value.slice ra rl rc := ⟨_, rfl⟩
      have HVR := Lib.hid hvr
      rw [← hvr] at HRW6 ⊢
      clear hvr
      refine wp_loop_ghost_k (I := fun n2 a W' => ∃ (j : Nat) (L2 : List Int) (next : List Nat) (vn : Value), Sl a [(0, .pointer (some ⟨v.g, 0, none⟩)), (1, .pointer (some ⟨w.heap.size, 0, none⟩)), (3, .pointer (some ⟨w.heap.size + 1 + 1, 0, none⟩)), (5, .pointer (some ⟨nb, 0, none⟩)), (32, vr), (33, .int .i64 ((row.length : Nat) : Int)), (34, .int .i64 ((j : Nat) : Int))] ∧ j ≤ row.length ∧ VM v w L2 a.defers W' ∧ RwS w nb row vr W' ∧ NxS nb next vn W' ∧ BV v.N v.s v.A v.X L2 (row.drop j ++ next) ∧ cntL L2 = cntL L + next.length ∧ n2 = row.length - j) row.length ?start2 ?round2
      case start2 =>
        rw [HRL.out]
        refine ⟨0, L, [], _, ⟨rfl, rfl, rfl, rfl, rfl, rfl, rfl, rfl, trivial⟩, by omega, HVM6.out, HRW6.out, HNX6.out, by simpa using HBV.out, by simp, by omega⟩
      case round2 =>
        rintro n2 a W7 ⟨j, L2, next, vn, hsl, hj, hVM, hRw, hNx, hBV, hcnt, rfl⟩ J2 K2 hJ2 hK2
        have HJ2 := Lib.hid hJ2
        have HK2 := Lib.hid hK2
        clear hJ2 hK2
        obtain ⟨xs, hxs, ha⟩ := act74 a hsl.1
        have s0 := (hxs 0).symm.trans hsl.2.1
        have s1 := (hxs 1).symm.trans hsl.2.2.1
        have s3 := (hxs 3).symm.trans hsl.2.2.2.1
        have s5 := (hxs 5).symm.trans hsl.2.2.2.2.1
        have s32 := (hxs 32).symm.trans hsl.2.2.2.2.2.1
        have s33 := (hxs 33).symm.trans hsl.2.2.2.2.2.2.1
        have s34 := (hxs 34).symm.trans hsl.2.2.2.2.2.2.2.1
        rw [ha]
        simp only [s0, s1, s3, s5, s32, s33, s34]
        generalize a.defers = ds2 at *
        clear s0 s1 s3 s5 s32 s33 s34 hxs hsl ha
        rw [← HRL.out] at hj ⊢
        have HVM := Lib.hid hVM
        have HRW := Lib.hid hRw
        have HNX := Lib.hid hNx
        have HBV2 := Lib.hid hBV
        have HCNT := Lib.hid hcnt
        have HJ := Lib.hid hj
        clear hVM hRw hNx hBV hcnt hj HVM6 HRW6 HNX6 hpos
        by_cases hlt : j < rl
        · have hji : (j : Int) < (rl : Int) := by omega
          obtain ⟨rb, off, rc2, hr1, hr2, hr3, hr4⟩ := HRW.out.at_ j (by have := HRL.out; omega)
          rw [← HRL.out] at hr1
          subst hr1
          obtain ⟨u, hu⟩ : ∃ u, u = row.getD j 0 := ⟨_, rfl⟩
          rw [← hu] at hr4
          have HU := Lib.hid hu
          clear hu
          obtain ⟨W8, hW8⟩ : ∃ W8, W8 = W7.alloc (.cells #[.int .i64 (u : Int)] 3) := ⟨_, rfl⟩
          have hb8 : Below W7.heap.size W7 W8 := by rw [hW8]; exact Joins.below_alloc1 W7 _
          have q8 : Row W8 W7.heap.size 3 [.int .i64 (u : Int)] := by rw [hW8]; exact row_new W7 3 _
          have HVM8 := Lib.hid (HVM.out.keep hb8)
          have HRW8 : Hid (RwS w nb row (.slice (some ⟨rb, off, none⟩) rl rc2) W8) := Lib.hid (HRW.out.stay (fun b _ _ hb => hb8.block b hb))
          have HNX8 := Lib.hid (HNX.out.keep hb8)
          have HQ8 := Lib.hid q8
          have HZ8 : Hid (W8.heap.size = W7.heap.size + 1) := Lib.hid (by rw [hW8, World.size_alloc])
          have HNB7 : Hid (nb < W7.heap.size) := Lib.hid HNX.out.nx.lt
          have HOW : Hid (∀ k, vn.ownBlock = some k → k < W7.heap.size) := Lib.hid (fun k hk => owns_lt HNX.out.ib k hk)
          have d1 := HVM8.out.br.cell (i := 0) rfl
          have d2 := q8.cell (i := 0) rfl
          have HW8 := Lib.hid hW8
          clear hb8 q8 hW8 HVM HRW HNX
          obtain ⟨W9, hW9, hb9, hs9, b0, b1, b2⟩ := open_boxes v.g (u : Int) (0 : Int) W8
          have HW9 := Lib.hid hW9
          have HB9 := Lib.hid hb9
          have HS9 := Lib.hid hs9
          have HBX := Lib.hid (And.intro b0 (And.intro b1 b2))
          clear hW9 hb9 hs9 b0 b1 b2
          go_upto_region 9 with (fail)
          rw [← HW8.out]
          go_wp2_with (go_at_call 40; refine (open_call v.g (u : Int) (0 : Int) _).mono ?_; rintro e w3 ⟨rfl, rfl⟩; rw [← HW9.out])
          have hs8 := HZ8.out
          have hs9 := HS9.out
          have HMB : Hid (MB W9.heap.size ds2) := Lib.hid (by
            obtain ⟨l, k1, k2⟩ := HVM8.out.mks.mb
            exact ⟨l, k1, fun D hD => by have := k2 D hD; omega⟩)
          have HRV9 : Hid (RV v w L ds2 nb row (.slice (some ⟨rb, off, none⟩) rl rc2) j u W7.heap.size W9.heap.size L2 next vn W9) := Lib.hid (by
            have hb9 := HB9.out
            refine ⟨HVM8.out.keep hb9, HRW8.out.stay (fun b _ _ hl => hb9.block b hl), HNX8.out.keep hb9, fun k hk => .inl ?_, HQ8.out.keep hb9, by have := HNB.out; have := HNB7.out; omega⟩
            exact HOW.out k hk)
          have HUN : Hid (u < v.N ∧ L2.getD u 0 ≠ 0) := Lib.hid (HBV2.out.inn u (by
            rw [HU.out, List.mem_append]; left
            have hlt' : j < row.length := by have := HRL.out; omega
            have e : row.getD j 0 = row[j] := by simp [hlt']
            rw [e, List.drop_eq_getElem_cons hlt']; exact List.mem_cons_self))
          clear HVM8 HRW8 HNX8 HQ8 d1 d2 HW8 HW9
          refine (wpIn_wide (n := 6)).1 ?_
          refine range_ix (F := Fence.wide) (n := 6) rfl (by omega) (gf := 42) (lb := #[.pointer (some ⟨W8.heap.size + 1 + 1, 0, none⟩), .pointer (some ⟨W8.heap.size, 0, none⟩), .pointer (some ⟨W8.heap.size + 1, 0, none⟩)]) rfl trivial (enters_of Try.func42 (by kernel_rfl) rfl)
            (enc := encS (stA v.A u)) (B := fun b => W7.heap.size < b ∧ b < W9.heap.size) (fun b hb => hb.2) (first := 0) (len := (stA v.A u).length) (op := OpS v.g (stA v.A u)) (rd := fun _ W => ∃ lf, GM W v.g v.N v.s v.t v.A v.va v.sb v.sc lf ∧ SM W v.K v.g v.A v.sb v.sc)
            (fun W hW => open_tells 5 (by omega) (W8.heap.size + 1 + 1) W8.heap.size (W8.heap.size + 1) _ v.K v.g v.N v.s v.t u 0 v.A v.va v.sb v.sc W ⟨by omega, by omega⟩ ⟨by omega, by omega⟩ ⟨by omega, by omega⟩ (fun b hb => by have := hW.size; omega)
              ((hW.cell (p := ⟨W8.heap.size + 1 + 1, 0, none⟩) (show W8.heap.size + 1 + 1 < W9.heap.size by omega)).trans HBX.out.2.2) ((hW.cell (p := ⟨W8.heap.size, 0, none⟩) (show W8.heap.size < W9.heap.size by omega)).trans HBX.out.1) ((hW.cell (p := ⟨W8.heap.size + 1, 0, none⟩) (show W8.heap.size + 1 < W9.heap.size by omega)).trans HBX.out.2.1)
              HUN.out.1 HV.out.N64 HV.out.inn HV.out.few (by omega)) (fun _ => rfl)
            (I := fun i W => ∃ L3 next3 vn3, RV v w L ds2 nb row (.slice (some ⟨rb, off, none⟩) rl rc2) j u W7.heap.size W9.heap.size L3 next3 vn3 W ∧ BV v.N v.s v.A v.X L3 (row.drop j ++ next3) ∧ DnB v.A v.X L3 u i ∧ cntL L3 = cntL L + next3.length ∧ L3.getD u 0 ≠ 0)
            (Ix := fun e W => e = .exit 0 ∧ ∃ L3, VM v w L3 ds2 W ∧ Lv v.N v.s v.t v.A v.X L3) ?own ?ownx ⟨L2, next, vn, HRV9.out, HBV2.out, DnB.zero _ _ _ _, HCNT.out, HUN.out.2⟩ ?rd ?skip
            (A := fun i a' W => ∃ bx, (W9.heap.size ≤ bx ∧ Row W bx 72 [.int .i64 (((stA v.A u).getD i (0, 0, 0)).1 : Int), .int .i64 (((stA v.A u).getD i (0, 0, 0)).2.1 : Int), .int .i64 (((stA v.A u).getD i (0, 0, 0)).2.2 : Int)]) ∧ (∃ L3 next3 vn3, RV v w L ds2 nb row (.slice (some ⟨rb, off, none⟩) rl rc2) j u W7.heap.size W9.heap.size L3 next3 vn3 W ∧ BV v.N v.s v.A v.X L3 (row.drop j ++ next3) ∧ DnB v.A v.X L3 u i ∧ cntL L3 = cntL L + next3.length ∧ L3.getD u 0 ≠ 0) ∧ 0 < lft v.A v.X ((stA v.A u).getD i (0, 0, 0)).1 ((stA v.A u).getD i (0, 0, 0)).2.1 ∧ a' = { tmps := (.pointer (some ⟨v.g, 0, none⟩) :: .pointer (some ⟨w.heap.size, 0, none⟩) :: xs 2 :: .pointer (some ⟨w.heap.size + 1 + 1, 0, none⟩) :: xs 4 :: .pointer (some ⟨nb, 0, none⟩) :: xs 6 :: .pointer (some ⟨W7.heap.size, 0, none⟩) :: xs 8 :: .pointer (some ⟨bx, 0, none⟩) :: xs 10 :: xs 11 :: xs 12 :: xs 13 :: xs 14 :: xs 15 :: xs 16 :: xs 17 :: xs 18 :: xs 19 :: xs 20 :: xs 21 :: xs 22 :: xs 23 :: xs 24 :: xs 25 :: xs 26 :: xs 27 :: xs 28 :: xs 29 :: xs 30 :: xs 31 :: .slice (some ⟨rb, off, none⟩) rl rc2 :: .int .i64 (rl : Int) :: .int .i64 ((j : Nat) : Int) :: .bool true :: .pointer (some ⟨rb, off + j, none⟩) :: .int .i64 (u : Int) :: .pointer (some ⟨v.g, 0, none⟩) :: .int .i64 (u : Int) :: .func (.func 42) #[] #[.pointer (some ⟨W8.heap.size + 1 + 1, 0, none⟩), .pointer (some ⟨W8.heap.size, 0, none⟩), .pointer (some ⟨W8.heap.size + 1, 0, none⟩)] :: .int .i64 (i : Int) :: .agg #[.int .i64 (((stA v.A u).getD i (0, 0, 0)).1 : Int), .int .i64 (((stA v.A u).getD i (0, 0, 0)).2.1 : Int), .int .i64 (((stA v.A u).getD i (0, 0, 0)).2.2 : Int)] :: xs 43 :: xs 44 :: xs 45 :: xs 46 :: xs 47 :: xs 48 :: xs 49 :: xs 50 :: xs 51 :: xs 52 :: xs 53 :: xs 54 :: xs 55 :: xs 56 :: xs 57 :: xs 58 :: xs 59 :: xs 60 :: xs 61 :: xs 62 :: xs 63 :: xs 64 :: xs 65 :: xs 66 :: xs 67 :: xs 68 :: xs 69 :: xs 70 :: xs 71 :: xs 72 :: xs 73 :: []).toArray, defers := [] }) ?owna ?assign ?body ?done ?stop
          case own =>
            rintro i A B r ⟨L3, next3, vn3, h1, h2⟩ hgr hr
            exact ⟨L3, next3, vn3, h1.grown HMB.out hgr hr, h2⟩
          case ownx =>
            rintro e A B r ⟨h0, L3, h1, h2⟩ hgr hr
            exact ⟨h0, L3, h1.low (C := W9.heap.size) (by have := HRV9.out.lay; omega) HMB.out hgr.os hgr.tape hgr.output hgr.size (grown_same hgr hr), h2⟩
          case rd =>
            rintro i W ⟨L3, next3, vn3, h1, _⟩
            exact ⟨_, h1.vm.net.gm, h1.vm.net.sm⟩
          case skip =>
            rintro i W ⟨L3, next3, vn3, h1, h2, h3, h4, h5⟩ hl hop
            have he : (stA v.A u)[i]? = some ((stA v.A u).getD i (0, 0, 0)) := by rw [List.getD_eq_getElem?_getD, List.getElem?_eq_getElem hl]; rfl
            have hs := st_ok HV.out.inn (List.mem_of_getElem? he)
            exact ⟨L3, next3, vn3, h1, h2, h3.next he (fun h0 => absurd ⟨_, h1.vm.net.gm.lf _ _ (by have := hs.arc; have := HV.out.few; omega) (by have := hs.way; omega), h0⟩ hop), h4, h5⟩
          case owna =>
            rintro a' i A B r ⟨bx, ⟨h1, h2⟩, ⟨L3, next3, vn3, h3, h4⟩, h5, rfl⟩ hgr hr
            exact ⟨bx, ⟨h1, row_kept h2 hgr (fun i e => (hr i e).2)⟩, ⟨L3, next3, vn3, h3.grown HMB.out hgr hr, h4⟩, h5, rfl⟩
          case assign =>
            rintro y i W K ⟨L3, next3, vn3, h1, h2⟩ hl hop hK
            have he : (stA v.A u)[i]? = some ((stA v.A u).getD i (0, 0, 0)) := by rw [List.getD_eq_getElem?_getD, List.getElem?_eq_getElem hl]; rfl
            have hs := st_ok HV.out.inn (List.mem_of_getElem? he)
            have hopn : 0 < lft v.A v.X ((stA v.A u).getD i (0, 0, 0)).1 ((stA v.A u).getD i (0, 0, 0)).2.1 := by
              obtain ⟨x, hx, hx0⟩ := hop
              rw [h1.vm.net.gm.lf _ _ (by have := hs.arc; have := HV.out.few; omega) (by have := hs.way; omega)] at hx
              injection hx with hx
              injection hx with _ hx
              omega
            have hcw := h1.lay.2.2.2
            unfold encS
            generalize (stA v.A u).getD i (0, 0, 0) = ei at *
            obtain ⟨ka, kw, kt⟩ := ei
            simp only at hopn ⊢
            clear hs8 hs9 he hs
            have hb := Joins.below_alloc1 W (.cells #[.int .i64 (ka : Int), .int .i64 (kw : Int), .int .i64 (kt : Int)] 72)
            gi_wp2
            exact hK _ _ ((others_below hb).from _) (Kp2.below hb) ⟨W.heap.size, ⟨hcw, row_new W 72 _⟩, ⟨L3, next3, vn3, h1.keep hb, h2⟩, hopn, rfl⟩
          case body =>
            rintro y i a' W0 ⟨bx, ⟨hbx, hrx⟩, ⟨L3, next3, vn3, h1, h2, h3, h4, h5⟩, hopn, rfl⟩ hl
            have he : (stA v.A u)[i]? = some ((stA v.A u).getD i (0, 0, 0)) := by rw [List.getD_eq_getElem?_getD, List.getElem?_eq_getElem hl]; rfl
            have hso := st_ok HV.out.inn (List.mem_of_getElem? he)
            generalize (stA v.A u).getD i (0, 0, 0) = ei at *
            obtain ⟨ka, kw, kt⟩ := ei
            simp only at hopn hrx ⊢
            have hto := hso.to
            simp only at hto
            have HRV := Lib.hid h1
            have HBV3 := Lib.hid h2
            have HDN := Lib.hid h3
            have HCN := Lib.hid h4
            have HLU := Lib.hid h5
            have HEI := Lib.hid he
            have HOP := Lib.hid hopn
            have HRX := Lib.hid hrx
            have hktN : (kt : Int) < (v.N : Int) := by omega
            have huN : (u : Int) < (v.N : Int) := by have := HUN.out.1; omega
            have g1 := h1.vm.bl.cell (i := 0) rfl
            have g2 := hrx.cell (i := 2) rfl
            have g3 := nrow_cell h1.vm.rl (u := kt) (by rw [h2.len]; exact hto)
            have g3f := h1.vm.rl.free kt
            have g4 := nrow_cell h1.vm.rl (u := u) (by rw [h2.len]; exact HUN.out.1)
            have g5 := h1.rv.cell (i := 0) rfl
            have HLR := Lib.hid (h2.rng u HUN.out.1)
            have HC64 : Hid (cntL L3 ≤ 64) := Lib.hid (by have := cntL_le L3; have := h2.len; have := HV.out.N64; omega)
            obtain ⟨lt, hlt⟩ : ∃ x, x = L3.getD kt 0 := ⟨_, rfl⟩
            obtain ⟨lu, hlu⟩ : ∃ x, x = L3.getD u 0 := ⟨_, rfl⟩
            rw [← hlt] at g3
            rw [← hlu] at g4 HLR
            have HLT := Lib.hid hlt
            have HLUE := Lib.hid hlu
            have HBXL : Hid (W9.heap.size ≤ bx) := Lib.hid hbx
            clear h1 h2 h3 h4 h5 he hso hopn hrx hlt hlu hs8 hs9 hl hbx
            by_cases hz : lt = 0
            · have hzb : (lt == 0) = true := by simpa using hz
              have HZ0 := Lib.hid hz
              have hwl : IntKind.i64.wrap (lu + 1) = lu + 1 := by have := HLR.out; have := HC64.out; rw [IntKind.wrap_i64]; omega
              clear hz
              have hadd := HBV3.out.add HV.out.inn HUN.out.1 HLU.out HEI.out (e := (ka, kw, kt)) HOP.out (by rw [← HLT.out]; exact HZ0.out) HDN.out
              simp only at hadd
              rw [← HLUE.out] at hadd
              have HADD := Lib.hid hadd
              clear hadd
              gi_wp2
              refine wpIn_still_tail 9 (by kernel_rfl) (by kernel_rfl) (fun ⟨_, _, h⟩ => h) (by kernel_rfl) ?_
              simp only [List.take_succ_cons, List.take_zero, List.drop_succ_cons, List.drop_zero]
              repeat still_step
              refine wpStill_nil ?_
              go_wp2_with fail
              have HRV4 : Hid (RV v w L ds2 nb row (.slice (some ⟨rb, off, none⟩) rl rc2) j u W7.heap.size W9.heap.size (L3.set kt (lu + 1)) next3 vn3 (W0.setCell ⟨w.heap.size + 1, kt, none⟩ (.int .i64 (lu + 1))).drew) := Lib.hid ((HRV.out.level kt (lu + 1)).keep (Below.refl _ _).drew)
              have HKO : Hid (KeepsOthers W0 (W0.setCell ⟨w.heap.size + 1, kt, none⟩ (.int .i64 (lu + 1))).drew) := Lib.hid ((KeepsOthers.setCell _ _ _).trans (KeepsOthers.drew _))
              have HKP : Hid (Kp2 (fun b => W7.heap.size < b ∧ b < W9.heap.size) W0 (W0.setCell ⟨w.heap.size + 1, kt, none⟩ (.int .i64 (lu + 1))).drew) := Lib.hid ((show Kp2 _ W0 (W0.setCell ⟨w.heap.size + 1, kt, none⟩ (.int .i64 (lu + 1))) from ⟨by simp, KeepS.setCell W0 _ _ _ (fun h => by have := HRV.out.lay; omega), rfl, rfl, rfl⟩).trans (Kp2.below (Below.refl _ _).drew))
              have HRX4 : Hid (Row (W0.setCell ⟨w.heap.size + 1, kt, none⟩ (.int .i64 (lu + 1))).drew bx 72 [.int .i64 (ka : Int), .int .i64 (kw : Int), .int .i64 (kt : Int)]) := Lib.hid ((HRX.out.setFar kt _ (by have := HRV.out.lay; have := HBXL.out; omega)).keep (Below.refl _ _).drew)
              clear g1 g2 g3 g3f g4 g5 HRX HRV
              generalize (W0.setCell ⟨w.heap.size + 1, kt, none⟩ (.int .i64 (lu + 1))).drew = Wa at *
              have g2 := HRX4.out.cell (i := 2) rfl
              have g6 := HRV4.out.vm.br.cell (i := 0) rfl
              have g7 := HRV4.out.vm.net.gm.t
              gi_wp2
              refine wpIn_region_quiet (by kernel_rfl) (by kernel_rfl) (fun ⟨_, _, h⟩ => h) (by kernel_rfl) ?_
              repeat (go_big_quiet_step (fail))
              refine wpQuiet_nil ?_
              rintro _ ⟨nq, rfl⟩
              have HDB := Lib.hid (drewN_below Wa nq)
              have HRV5 := Lib.hid (HRV4.out.keep HDB.out)
              have HRX5 := Lib.hid (HRX4.out.keep HDB.out)
              have HKO5 := Lib.hid (HKO.out.trans (others_below HDB.out))
              have HKP5 := Lib.hid (HKP.out.trans (Kp2.below HDB.out))
              clear g2 g6 g7 HRV4 HRX4 HKO HKP HDB
              generalize Wa.drewN nq = Wb at *
              by_cases hkt : kt = v.t
              · have hkb : (((kt : Nat) : Int) == (v.t : Int)) = true := by simp [hkt]
                have HKT := Lib.hid hkt
                clear hkt
                gi_wp2
                refine ⟨HKO5.out.from _, rfl, _, HRV5.out.vm, HADD.out.1.lv HV.out.N64 (.inr ?_)⟩
                rw [← HKT.out, getD_set_self _ _ _ _ (by rw [HBV3.out.len]; exact hto)]
                have := HLR.out
                omega
              · have hkb : (((kt : Nat) : Int) == (v.t : Int)) = false := by simp; omega
                have HKT := Lib.hid hkt
                clear hkt
                have g8 := HRV5.out.nx.nx.cell (i := 0) rfl
                have g8f := HRV5.out.nx.nx.free 0
                have g2 := HRX5.out.cell (i := 2) rfl
                have HRVC := Lib.hid (HRV5.out.keep (Joins.below_alloc1 Wb (.cells #[.int .i64 (kt : Int)] 3)))
                have HQC := Lib.hid (row_new Wb 3 [.int .i64 (kt : Int)])
                have HKOC := Lib.hid (HKO5.out.trans (others_below (Joins.below_alloc1 Wb (.cells #[.int .i64 (kt : Int)] 3))))
                have HKPC := Lib.hid (HKP5.out.trans (Kp2.below (Joins.below_alloc1 Wb (.cells #[.int .i64 (kt : Int)] 3))))
                have HNL : Hid ((List.map (fun u : Nat => (u : Int)) next3).length + 1 ≤ 1000000) := Lib.hid (by have := HCN.out; have := HC64.out; simp; omega)
                gi_upto_region 14 with (fail)
                refine wpIn_region_plain (fun ⟨_, _, h⟩ => h) (by kernel_rfl) ?_
                go_wp2_with (at_builtin; refine wpList_ints rfl (.tmp 66) (.tmp 69) rfl vn3 (List.map (fun u : Nat => (u : Int)) next3) rfl HRVC.out.nx.ib _ [(kt : Int)] rfl HQC.out HNL.out ?_; intro v' w' hp hw; have hrn := row_same HRVC.out.nx.nx (hw.grown.block nb HRVC.out.nx.nx.lt (fun e => by have := HRVC.out.nx.own nb e.symm; omega)); have hp2 : IBuf w' v' (List.map (fun u : Nat => (u : Int)) (next3 ++ [kt])) := (by rw [List.map_append]; exact hp); obtain ⟨a', cap', hv', -⟩ := hp2.shape; obtain ⟨nn, hnn⟩ : ∃ nn, nn = (List.map (fun u : Nat => (u : Int)) (next3 ++ [kt])).length := ⟨_, rfl⟩; rw [← hnn] at hv'; subst hv'; have HAP := Lib.hid (And.intro hp2 hw); have g9 := hrn.cell (i := 0) rfl; have g9f := hrn.free 0; clear hp hp2 hw hrn hnn)
                have hw := HAP.out.2
                have hst := Stay.wrote (C := 0) hw HRVC.out.nx.ib (fun k _ => Nat.zero_le k)
                have hko : KeepsOthers _ w' := ⟨hst.size, fun k o hk ho => hst.mark k o hk ho⟩
                have hkp : Kp2 (fun b => W7.heap.size < b ∧ b < W9.heap.size) _ w' := ⟨hst.size, fun b hb hlb => hw.grown.block b hlb (fun e => by have := HRVC.out.own b e.symm; omega), hw.grown.os, hw.grown.tape, hw.grown.output⟩
                have hnb7 := HNB7.out
                refine ⟨((HKOC.out.trans hko).trans (KeepsOthers.setCell _ _ _)).from _, (HKPC.out.trans hkp).trans ⟨by simp, KeepS.setCell _ _ _ _ (fun h => by omega), rfl, rfl, rfl⟩, L3.set kt (lu + 1), next3 ++ [kt], _, HRVC.out.app HAP.out.1 hw, ?_, HADD.out.2.1, ?_, ?_⟩
                · have h := HADD.out.1
                  rw [List.append_assoc] at h
                  exact h
                · rw [HADD.out.2.2, HCN.out]; simp; omega
                · have hne : kt ≠ u := fun e => HLU.out (by rw [← e, ← HLT.out]; exact HZ0.out)
                  rw [getD_set_ne _ _ _ _ _ hne]; exact HLU.out
            · have hzb : (lt == 0) = false := by simpa using hz
              have HZ0 := Lib.hid hz
              clear hz
              gi_wp2
              exact ⟨KeepsFrom.refl _ _, Kp2.refl _ _, L3, next3, vn3, HRV.out, HBV3.out, HDN.out.next HEI.out (fun _ => by show L3.getD kt 0 ≠ 0; rw [← HLT.out]; exact HZ0.out), HCN.out, HLU.out⟩
          case done =>
            rintro Dm i W0 hD hle ⟨L3, next3, vn3, h1, h2, h3, h4, h5⟩ hK
            have hjr : j < row.length := by have := HRL.out; omega
            have hdr : row.drop j = u :: row.drop (j + 1) := by
              have e : row.getD j 0 = row[j] := by simp [hjr]
              rw [HU.out, e]; exact List.drop_eq_getElem_cons hjr
            rw [hdr] at h2
            have h2' := h2.drop h3 hle
            have hmk : Marks (w.heap.size + 3) (markD Dm :: ds2) W0 := HRV9.out.vm.mks.more h1.vm.mks (by have := HRV9.out.lay; omega) hD hK
            have HF := Lib.hid (And.intro h1 (And.intro h2' (And.intro h4 hmk)))
            have hji2 : IntKind.i64.wrap ((j : Int) + 1) = ((j + 1 : Nat) : Int) := by rw [IntKind.wrap_i64]; omega
            have HJR := Lib.hid hjr
            clear h1 h2 h2' h3 h4 h5 hK hmk hdr hs8 hs9 hle hjr
            go_wp2_with fail
            refine HK2.out _ _ ⟨row.length - (j + 1), by have := HJR.out; omega, HJ2.out _ _ _ ⟨j + 1, L3, next3, vn3, ⟨rfl, rfl, rfl, rfl, rfl, rfl, by rw [HRL.out]; rfl, rfl, trivial⟩, by have := HJR.out; omega, { HF.out.1.vm with mks := HF.out.2.2.2 }, HF.out.1.rw, HF.out.1.nx, HF.out.2.1, HF.out.2.2.1, rfl⟩⟩
          case stop =>
            rintro Dm e W0 hD he ⟨rfl, L3, h1, h2⟩ hK
            have hmk : Marks (w.heap.size + 3) (markD Dm :: ds2) W0 := HRV9.out.vm.mks.more h1.mks (by have := HRV9.out.lay; omega) hD hK
            exact HT.out _ L3 W0 ⟨rfl, rfl, rfl, rfl, trivial⟩ { h1 with mks := hmk } h2
        · have hjr : ¬ (j : Int) < (rl : Int) := by omega
          have HJR : Hid (j = row.length) := Lib.hid (by have := HJ.out; have := HRL.out; omega)
          have d1 := HNX.out.nx.cell (i := 0) rfl
          have hsh := HNX.out.ib.shape
          have HSH := Lib.hid hsh
          clear hlt hsh
          go_wp2_with fail
          obtain ⟨na, nc, hv, hm, _, hc⟩ := HSH.out
          have hlen2 := cntL_le L2
          have hl2 := HBV2.out.len
          have h64 := HV.out.N64
          have hcn := HCNT.out
          refine HK1.out _ _ ⟨2 * (65 - cntL L2) + (if next.length = 0 then 0 else 1), ?_, HJ1.out _ _ _ ⟨vn, next, L2, ⟨rfl, rfl, rfl, rfl, rfl, trivial⟩, HVM.out, ⟨⟨na, nc, by rw [hv]; simp⟩, by omega, fun jj hjj => ?_⟩, by have h := HBV2.out; rw [HJR.out, List.drop_length, List.nil_append] at h; exact h, rfl⟩⟩
          · have := HRL.out
            have := HH0.out
            rw [if_neg (show ¬ row.length = 0 by omega)]
            split <;> omega
          · obtain ⟨gg, hga, hgc⟩ := hc jj (by simpa using hjj)
            subst hga
            refine ⟨gg, 0, nc, by rw [hv]; simp, ?_, lt_of_cell hgc, ?_⟩
            · have := HNX.out.own gg (by rw [hv]; rfl)
              have := HNB.out
              omega
            · rw [hgc]
              have e : (List.map (fun u : Nat => (u : Int)) next).getD jj 0 = ((next.getD jj 0 : Nat) : Int) := by simp [hjj]
              rw [e]
end Go.Proofs.Ytbmbddapbgnioaa
