/- A journal and a disk that belong together: the program's function. -/
import Derived.Deep.RegionHeld3
import Derived.Deep.DeepCutAuto
import Derived.BigQuiet
import Derived.Test.YtlaaolbdadempaaZe21
import Derived.Test.YtlaaolbdadempaaZe13
import Derived.Test.YtlaaolbdadempaaZe19
namespace Go.Proofs.Ytlaaolbdadempaa
open Go.RowKit

theorem nrest_take {B : Nat} {w : World} {xs : List (List UInt8)} {a : Option Addr} {n cap : Nat} (h : NRest B w xs (.slice a n cap)) (k : Nat) (hk : k ≤ n) : NRest B w (xs.take k) (.slice a k cap) := by
  obtain ⟨a2, cap2, he, h2, h3, h4, h5⟩ := h
  injection he with he1 he2 he3
  subst he1 he2 he3
  have hl : (xs.take k).length = k := by rw [List.length_take]; omega
  refine ⟨a, cap, by rw [hl], by omega, h3, fun h => ⟨by have := (h4 h).1; omega, (h4 h).2⟩, ?_⟩
  rcases h5 with h5 | ⟨b, off, ha, hb, hc⟩
  · exact .inl (by omega)
  · refine .inr ⟨b, off, ha, hb, fun i x hi => hc i x ?_⟩
    rw [List.getElem?_take] at hi
    split at hi
    · exact hi
    · cases hi
theorem records_call (a : Option Addr) (n c : Nat) (w : World) : Calls Try.prog 60 #[.slice a n c] w fun e w' => e = .returned (.func (.func 80) #[] #[.pointer (some ⟨w.heap.size, 0, none⟩)]) ∧ w' = w.alloc (.cells #[.slice a n c] 22) :=
  (callsIn_wide (n := 1)).1 (records_in 1 a n c w)
theorem chkB_eq (j : Jnl) (d : Dsk) : chkB j d = if jokB j then if chkD d ≠ 0 then chkD d else if j.many ≠ (d.secs.length : Int) then 1 else if recsL d.secs = j.recs.take j.synced.toNat then 0 else 50 else 1 := rfl
set_option maxHeartbeats 8000000 in
set_option maxRecDepth 100000 in
theorem checkBoth_call (j : Jnl) (v : Value) (d : Dsk) (s p : Value) (w : World) (h : NRest w.heap.size w j.recs v) (hj : Mild j) (hd : DRest w.heap.size w d (dv s p d.left d.stop)) :
    Calls Try.prog 68 #[jv v j.many j.synced, dv s p d.left d.stop] w fun e w' => e = .returned (.int .i64 (chkB j d)) ∧ Below w.heap.size w w' := by
  have HC1 : Hid (∀ W, Below w.heap.size w W → Calls Try.prog 43 #[jv v j.many j.synced] W fun e w' => e = .returned (.int .i64 (if jokB j then 0 else 1)) ∧ Below W.heap.size W w') := Lib.hid (fun W hW => jcheck_call j v W _ (h.stays hW) hW.size hj)
  have HC2 : Hid (∀ W, Below w.heap.size w W → Calls Try.prog 59 #[dv s p d.left d.stop] W fun e w' => e = .returned (.int .i64 (chkD d)) ∧ Below W.heap.size W w') := Lib.hid (fun W hW => checkDisk_call d s p W (hd.keep hW))
  have HVS : Hid (chkD d = 0 → _) := Lib.hid (valid_secs (d := d))
  obtain ⟨_, _, ⟨a, c, rfl⟩, ⟨a2, c2, rfl⟩⟩ := drest_left hd
  have HS : Hid (NRest w.heap.size w d.secs (.slice a d.secs.length c)) := Lib.hid (by
    obtain ⟨s', p', he, h1, h2⟩ := hd
    unfold dv dskOf dskCells at he
    simp at he
    rw [he.1]; exact h1)
  have HJ := Lib.hid h
  obtain ⟨ja, jc, rfl, hj1, hj2⟩ := h.shape
  have HJC : Hid (∀ k, k ≤ j.recs.length → NRest w.heap.size w (j.recs.take k) (.slice ja k jc)) := Lib.hid (fun k hk => nrest_take h k hk)
  have HV : Hid (jokB j = true → 0 ≤ j.synced ∧ j.synced ≤ (j.recs.length : Int)) := Lib.hid (fun h1 => by unfold jokB at h1; simp at h1; omega)
  have HX := Lib.hid (chkB_eq j d)
  clear h hd hj
  unfold jv dv at *
  obtain ⟨n, hn⟩ : ∃ n, n = d.secs.length := ⟨_, rfl⟩
  obtain ⟨jn, hjn⟩ : ∃ jn, jn = j.recs.length := ⟨_, rfl⟩
  rw [← hn] at HC2 HS HX ⊢
  rw [← hjn] at HC1 HJ HJC HV hj2 ⊢
  have HN := Lib.hid hn
  clear hn hjn
  generalize jokB j = jo at *
  generalize chkB j d = res at *
  obtain ⟨code, hcode⟩ : ∃ code, code = chkD d := ⟨_, rfl⟩
  rw [← hcode] at HC2 HVS HX
  clear hcode
  generalize d.pend.length = m at *
  generalize d.left = lf at *
  generalize d.stop = st at *
  have HR2 := Lib.hid ((row_new w 55 [.slice ja jn jc, .int .i64 j.many, .int .i64 j.synced]).keep (Joins.below_alloc1 _ (.cells #[.slice a n c, .slice a2 m c2, .int .i64 lf, .bool st] 25)))
  have HR3 := row_new (w.alloc (.cells #[.slice ja jn jc, .int .i64 j.many, .int .i64 j.synced] 55)) 25 [.slice a n c, .slice a2 m c2, .int .i64 lf, .bool st]
  rw [World.size_alloc] at HR3
  replace HR3 := Lib.hid HR3
  have HB := Lib.hid (below_two w (.cells #[.slice ja jn jc, .int .i64 j.many, .int .i64 j.synced] 55) (.cells #[.slice a n c, .slice a2 m c2, .int .i64 lf, .bool st] 25))
  cases jo
  · go_enter Try.func68, Try.ntmps68
    go_wp2_with (first
      | (go_at_call 43; refine (HC1.out _ HB.out).mono ?_; rintro e w2 ⟨rfl, hb⟩; replace HB := Lib.hid (below_next HB.out hb); clear hb))
    go_ret
    exact ⟨ret_int (by rw [HX.out]; simp), HB.out⟩
  · have hsy := HV.out rfl
    obtain ⟨sn, hsn⟩ : ∃ sn : Nat, j.synced = (sn : Int) := ⟨j.synced.toNat, by omega⟩
    rw [hsn] at HC1 HR2 HR3 HB HX hsy ⊢
    have hsl : sn ≤ jn := by omega
    clear hsy hsn HV
    by_cases hz : code = 0
    · have hvs := HVS.out hz
      have HVS2 := Lib.hid hvs
      subst hz
      clear hvs HVS
      by_cases hm : j.many = (n : Int)
      · have HX2 := Lib.hid (show res = if recsL d.secs = j.recs.take sn then 0 else 50 from by rw [HX.out]; simp [hm])
        rw [hm] at HC1 HR2 HR3 HB ⊢
        clear HX hm
        have hsi : (sn : Int) ≤ (jc : Int) := by omega
        go_enter Try.func68, Try.ntmps68
        go_wp2_with (first
          | (go_at_call 43; refine (HC1.out _ HB.out).mono ?_; rintro e w2 ⟨rfl, hb⟩; have d0 := HR3.out.later hb (i := 0) rfl; have d1 := HR3.out.later hb (i := 1) rfl; have d2 := HR3.out.later hb (i := 2) rfl; have d3 := HR3.out.later hb (i := 3) rfl; replace HR2 := Lib.hid (HR2.out.keep hb); replace HR3 := Lib.hid (HR3.out.keep hb); replace HB := Lib.hid (below_next HB.out hb); clear hb)
          | (go_at_call 59; refine (HC2.out _ HB.out).mono ?_; rintro e w4 ⟨rfl, hb⟩; (try clear d0 d1 d2 d3); have d0 := HR3.out.later hb (i := 0) rfl; have e1 := HR2.out.later hb (i := 1) rfl; replace HR2 := Lib.hid (HR2.out.keep hb); replace HR3 := Lib.hid (HR3.out.keep hb); replace HB := Lib.hid (below_next HB.out hb); clear hb))
        have f0 : ∀ W, Below w4.heap.size w4 W → W.cell? ⟨w.heap.size + 1, 0, none⟩ = some (.slice a n c) := fun W hW => HR3.out.later hW (i := 0) rfl
        have g0 : ∀ W, Below w4.heap.size w4 W → W.cell? ⟨w.heap.size, 0, none⟩ = some (.slice ja jn jc) := fun W hW => HR2.out.later hW (i := 0) rfl
        have g2 : ∀ W, Below w4.heap.size w4 W → W.cell? ⟨w.heap.size, 2, none⟩ = some (.int .i64 (sn : Int)) := fun W hW => HR2.out.later hW (i := 2) rfl
        have HCO : Hid (∀ V Bs, Below w4.heap.size w4 V → V.cell? ⟨Bs, 0, none⟩ = some (.slice a n c) → Calls Try.prog 85 #[.func (.func 80) #[] #[.pointer (some ⟨Bs, 0, none⟩)]] V fun e w' => ∃ v, e = .returned v ∧ NRestS (fun b => V.heap.size ≤ b) w' (recsL d.secs) v ∧ Below V.heap.size V w') := Lib.hid (fun V Bs hV hc =>
          collect_call Bs d.secs (.slice a n c) V hc ((HS.out.stays (below_next HB.out hV)).mono (by have h1 := HB.out.size; have h2 := hV.size; omega)) HVS2.out.1 HVS2.out.2.1)
        have HEQ : Hid (∀ W u, Below w4.heap.size w4 W → NRest W.heap.size W (recsL d.secs) u → Calls Try.prog 84 #[u, .slice ja sn jc, .func (.func 86) #[] #[]] W fun e w' => e = .returned (.bool (decide (recsL d.secs = j.recs.take sn))) ∧ w' = W) := Lib.hid (fun W u hW hu =>
          equalFunc_call _ _ u _ W hu (((HJC.out sn hsl).stays (below_next HB.out hW)).mono (by have h1 := HB.out.size; have h2 := hW.size; omega)))
        obtain ⟨r, hr⟩ : ∃ r, r = decide (recsL d.secs = j.recs.take sn) := ⟨_, rfl⟩
        have HX3 := Lib.hid (show res = if r = true then 0 else 50 from by rw [HX2.out, hr]; simp)
        rw [← hr] at HEQ
        clear HJC HS HC1 HC2 d0 e1 HX2 hr
        refine' cut3v (F := fun (_ : Option Addr) (_ : Nat) W => Below w4.heap.size w4 W) _ ?rr ?kk
        case rr =>
          intro K
          go_region_held3 (fun W => Below w4.heap.size w4 W) (first | assumption | exact below_drew (Below.refl _ _) | exact below_drew (Joins.below_alloc1 _ _) | exact below_next (by assumption) (by assumption)) (first
            | (go_at_call 60; refine (records_call a n c _).mono ?_; rintro e wA ⟨rfl, rfl⟩)
            | (go_at_call 85; refine (HCO.out (w4.alloc (.cells #[.slice a n c] 22)).drew w4.heap.size (below_drew (Joins.below_alloc1 _ _)) (show (w4.alloc (.cells #[.slice a n c] 22)).cell? ⟨w4.heap.size, 0, none⟩ = _ from (row_new w4 22 [.slice a n c]).cell (i := 0) rfl)).mono ?_; rintro e wB ⟨u, rfl, hu, hbB⟩; obtain ⟨ua, uc, rfl, _, _⟩ := hu.rest.shape; have hBB : Below w4.heap.size w4 wB := below_next (below_drew (Joins.below_alloc1 _ _)) hbB)
            | (go_at_call 84; refine (HEQ.out _ _ hBB hu.rest).mono ?_; rintro e wC ⟨rfl, rfl⟩))
          all_goals exact K ua uc _ hBB
        case kk =>
          intro ua uc W hW
          have hb9 := below_next HB.out hW
          cases r
          · go_wp2_with fail
            go_ret
            exact ⟨ret_int (by rw [HX3.out]; simp), hb9⟩
          · go_wp2_with fail
            go_ret
            exact ⟨ret_int (by rw [HX3.out]; simp), hb9⟩
      · have HX2 := Lib.hid (show res = 1 from by rw [HX.out]; simp [hm])
        clear HX
        go_enter Try.func68, Try.ntmps68
        go_wp2_with (first
          | (go_at_call 43; refine (HC1.out _ HB.out).mono ?_; rintro e w2 ⟨rfl, hb⟩; have d0 := HR3.out.later hb (i := 0) rfl; have d1 := HR3.out.later hb (i := 1) rfl; have d2 := HR3.out.later hb (i := 2) rfl; have d3 := HR3.out.later hb (i := 3) rfl; replace HR2 := Lib.hid (HR2.out.keep hb); replace HR3 := Lib.hid (HR3.out.keep hb); replace HB := Lib.hid (below_next HB.out hb); clear hb)
          | (go_at_call 59; refine (HC2.out _ HB.out).mono ?_; rintro e w4 ⟨rfl, hb⟩; (try clear d0 d1 d2 d3); have d0 := HR3.out.later hb (i := 0) rfl; have e1 := HR2.out.later hb (i := 1) rfl; replace HR2 := Lib.hid (HR2.out.keep hb); replace HR3 := Lib.hid (HR3.out.keep hb); replace HB := Lib.hid (below_next HB.out hb); clear hb))
        go_ret
        exact ⟨ret_int HX2.out.symm, HB.out⟩
    · have HX2 := Lib.hid (show res = code from by rw [HX.out]; simp [hz])
      clear HX
      go_enter Try.func68, Try.ntmps68
      go_wp2_with (first
        | (go_at_call 43; refine (HC1.out _ HB.out).mono ?_; rintro e w2 ⟨rfl, hb⟩; have d0 := HR3.out.later hb (i := 0) rfl; have d1 := HR3.out.later hb (i := 1) rfl; have d2 := HR3.out.later hb (i := 2) rfl; have d3 := HR3.out.later hb (i := 3) rfl; replace HR2 := Lib.hid (HR2.out.keep hb); replace HR3 := Lib.hid (HR3.out.keep hb); replace HB := Lib.hid (below_next HB.out hb); clear hb)
        | (go_at_call 59; refine (HC2.out _ HB.out).mono ?_; rintro e w4 ⟨rfl, hb⟩; replace HB := Lib.hid (below_next HB.out hb); clear hb))
      go_ret
      exact ⟨ret_int HX2.out.symm, HB.out⟩
end Go.Proofs.Ytlaaolbdadempaa

/- A record as pieces: the program's function. -/
namespace Go.Proofs.Ytlaaolbdadempaa
open Go.RowKit

/-- one piece in memory -/
structure Pm where
  gen : Nat
  marks : UInt8
  val : Value
def zPm : Pm := ⟨0, 0, .slice none 0 0⟩
/-- block g holds n pieces -/
structure PArr (W : World) (g n : Nat) (f : Nat → Pm) : Prop where
  row : ∃ cs : Array Value, W.heap[g]? = some (.cells cs 115 (0, 0)) ∧ ∀ i, i < n → cs[i * 3]? = some (.int .u32 ((f i).gen : Int)) ∧ cs[i * 3 + 1]? = some (.int .u8 ((f i).marks.toNat : Int)) ∧ cs[i * 3 + 2]? = some (f i).val
theorem PArr.cells {W : World} {g n : Nat} {f : Nat → Pm} (h : PArr W g n f) {i : Nat} (hi : i < n) :
    W.cell? ⟨g, i * 3, none⟩ = some (.int .u32 ((f i).gen : Int)) ∧ W.cell? ⟨g, i * 3 + 1, none⟩ = some (.int .u8 ((f i).marks.toNat : Int)) ∧ W.cell? ⟨g, i * 3 + 2, none⟩ = some (f i).val := by
  obtain ⟨cs, h1, h2⟩ := h.row
  obtain ⟨a, b, c⟩ := h2 i hi
  exact ⟨by rw [cell_of_row W g _ _ _ _ h1]; exact a, by rw [cell_of_row W g _ _ _ _ h1]; exact b, by rw [cell_of_row W g _ _ _ _ h1]; exact c⟩
theorem PArr.free {W : World} {g n : Nat} {f : Nat → Pm} (h : PArr W g n f) (i : Nat) : W.frozen? ⟨g, i, none⟩ = false := by
  obtain ⟨cs, h1, _⟩ := h.row; exact frozen_of_row W g i _ _ h1
theorem PArr.lt {W : World} {g n : Nat} {f : Nat → Pm} (h : PArr W g n f) : g < W.heap.size := by
  obtain ⟨cs, h1, _⟩ := h.row; exact (Array.getElem?_eq_some_iff.1 h1).1
theorem PArr.keep {W W' : World} {g n : Nat} {f : Nat → Pm} (h : PArr W g n f) (hb : Below W.heap.size W W') : PArr W' g n f := by
  obtain ⟨cs, h1, h2⟩ := h.row
  exact ⟨cs, (hb.block g (Array.getElem?_eq_some_iff.1 h1).1).trans h1, h2⟩
/-- a cell is stored -/
theorem PArr.put {W : World} {g n : Nat} {f f' : Nat → Pm} (h : PArr W g n f) (i : Nat) (v : Value) (j : Nat) (hj : i = j * 3 ∨ i = j * 3 + 1 ∨ i = j * 3 + 2)
    (h0 : ∀ k, k < n → k ≠ j → f' k = f k)
    (h1 : j < n → (f' j).gen = (if i = j * 3 then (f' j).gen else (f j).gen) ∧ (i = j * 3 → v = .int .u32 ((f' j).gen : Int)) ∧ (i ≠ j * 3 + 1 → (f' j).marks = (f j).marks) ∧ (i = j * 3 + 1 → v = .int .u8 ((f' j).marks.toNat : Int)) ∧ (i ≠ j * 3 + 2 → (f' j).val = (f j).val) ∧ (i = j * 3 + 2 → v = (f' j).val)) :
    PArr (W.setCell ⟨g, i, none⟩ v) g n f' := by
  obtain ⟨cs, hc, he⟩ := h.row
  have hs := heap_setCell_same W g i _ 115 v hc
  refine ⟨_, hs, fun k hk => ?_⟩
  obtain ⟨e1, e2, e3⟩ := he k hk
  have l1 := (Array.getElem?_eq_some_iff.1 e1).1
  have l2 := (Array.getElem?_eq_some_iff.1 e2).1
  have l3 := (Array.getElem?_eq_some_iff.1 e3).1
  by_cases hkj : k = j
  · subst hkj
    obtain ⟨k1, k2, k3, k4, k5, k6⟩ := h1 hk
    refine ⟨?_, ?_, ?_⟩
    · by_cases hi : i = k * 3
      · rw [k2 hi, hi]; simp [l1]
      · rw [Array.getElem?_setIfInBounds_ne (by omega), e1]; rw [if_neg hi] at k1; rw [k1]
    · by_cases hi : i = k * 3 + 1
      · rw [k4 hi, hi]; simp [l2]
      · rw [Array.getElem?_setIfInBounds_ne (by omega), e2, k3 hi]
    · by_cases hi : i = k * 3 + 2
      · rw [k6 hi, hi]; simp [l3]
      · rw [Array.getElem?_setIfInBounds_ne (by omega), e3, k5 hi]
  · rw [h0 k hk hkj]
    exact ⟨by rw [Array.getElem?_setIfInBounds_ne (by omega), e1], by rw [Array.getElem?_setIfInBounds_ne (by omega), e2], by rw [Array.getElem?_setIfInBounds_ne (by omega), e3]⟩
theorem parr_made (w : World) (n : Nat) : PArr (w.alloc (.cells (madeCells #[.int .u32 0, .int .u8 0, .slice none 0 0] (n * 3)) 115)) w.heap.size n (fun _ => zPm) := by
  refine ⟨_, heap_alloc_new w _, fun i hi => ?_⟩
  unfold madeCells zPm
  have a1 : i * 3 % 3 = 0 := by omega
  have a2 : (i * 3 + 1) % 3 = 1 := by omega
  have a3 : (i * 3 + 2) % 3 = 2 := by omega
  have b1 : i * 3 < n * 3 := by omega
  have b2 : i * 3 + 1 < n * 3 := by omega
  have b3 : i * 3 + 2 < n * 3 := by omega
  refine ⟨?_, ?_, ?_⟩ <;> simp [a1, a2, a3, b1, b2, b3]
theorem Try.info115 : (Try.prog.info? 115).map (fun i => (i.zero, i.size, i.bytes)) = some (some (.agg #[.int .u32 0, .int .u8 0, .slice none 0 0]), 3, 32) := by kernel_rfl
theorem wpList_makeP {ops : Array Oper} {rest : List Oper} {o : Oper} {a : Act} {w : World} {Q : Exit → Act → World → Prop} (hgd : o.guard = none) (x : Operand) (ho : o.op = .makeSlice 112 x x) (n : Nat) (hn : n ≤ 1000000) (hx : a.eval x = .int .i64 (n : Int))
    (h : ∀ g w', PArr w' g n (fun _ => zPm) → w.heap.size ≤ g → Below w.heap.size w w' → wpList Try.prog ops Q rest (a.put o.dst (.slice (some ⟨g, 0, none⟩) n n)) w') : wpList Try.prog ops Q (o :: rest) a w :=
  wpList_plain hgd fun _ hK => by
    obtain ⟨i0, hi, hz0, hz1, hz2⟩ := info_parts Try.info115
    have hr := run_makeSlice (P := Try.prog) w 112 115 i0 (.agg #[.int .u32 0, .int .u8 0, .slice none 0 0]) Try.underlying112 hi hz0 .i64 .i64 (n : Int) (n : Int) (by omega) (by omega) (by rw [hz1, Int.toNat_natCast]; omega) (by rw [hz2]; omega) (by omega)
    rw [hz1, Int.toNat_natCast, show (Value.agg #[.int .u32 0, .int .u8 0, .slice none 0 0]).cells = #[.int .u32 0, .int .u8 0, .slice none 0 0] from rfl] at hr
    have h1 := hK _ _ (h _ _ (parr_made w n) (Nat.le_refl _) (Joins.below_alloc1 w _))
    unfold Oper.wp execOp
    simp [ho, hx, hr, Sem.run_bind]
    exact h1
end Go.Proofs.Ytlaaolbdadempaa

/- A record as pieces: the program's function, walked. -/
namespace Go.Proofs.Ytlaaolbdadempaa
open Go.RowKit

def vvP (bb off L cap j : Nat) : Value := .slice (some ⟨bb, off + j * 112, none⟩) (min ((j + 1) * 112) L - j * 112) (cap - j * 112)
def mkP (n j : Nat) : UInt8 := UInt8.ofNat ((if j = 0 then 1 else 0) + if j + 1 = n then 2 else 0)
def fK (gen bb off L cap k : Nat) : Nat → Pm := fun j => if j < k then ⟨gen, 0, vvP bb off L cap j⟩ else zPm
def PiHead (gen bb off L cap n g : Nat) (w : World) (s13 : Value) (wr : World) : Prop := ∃ k : Nat, k ≤ n ∧ s13 = .int .i64 (k : Int) ∧ PArr wr g n (fK gen bb off L cap k) ∧ Below w.heap.size w wr
theorem pi_step {wr : World} {gen bb off L cap n g k : Nat} (h : PArr wr g n (fK gen bb off L cap k)) (hk : k < n) :
    PArr (((wr.setCell ⟨g, k * 3, none⟩ (.int .u32 (gen : Int))).setCell ⟨g, k * 3 + 1, none⟩ (.int .u8 0)).setCell ⟨g, k * 3 + 2, none⟩ (vvP bb off L cap k)) g n (fK gen bb off L cap (k + 1)) := by
  have h1 : PArr (wr.setCell ⟨g, k * 3, none⟩ (.int .u32 (gen : Int))) g n (fun j => if j = k then ⟨gen, 0, .slice none 0 0⟩ else fK gen bb off L cap k j) :=
    h.put (k * 3) _ k (.inl rfl) (fun j _ hj => by simp [hj]) (fun _ => by simp [fK, zPm])
  have h2 : PArr ((wr.setCell ⟨g, k * 3, none⟩ (.int .u32 (gen : Int))).setCell ⟨g, k * 3 + 1, none⟩ (.int .u8 0)) g n (fun j => if j = k then ⟨gen, 0, .slice none 0 0⟩ else fK gen bb off L cap k j) :=
    h1.put (k * 3 + 1) _ k (.inr (.inl rfl)) (fun j _ hj => rfl) (fun _ => by simp)
  refine h2.put (k * 3 + 2) _ k (.inr (.inr rfl)) (fun j _ hj => ?_) (fun _ => ?_)
  · simp only [fK, hj, if_false]
    by_cases h9 : j < k
    · rw [if_pos h9, if_pos (by omega)]
    · rw [if_neg h9, if_neg (by omega)]
  · simp [fK]
theorem mark_or1 : bits .or .u8 0 1 = 1 := by decide
theorem mark_or2 : bits .or .u8 0 2 = 2 := by decide
theorem mark_or3 : bits .or .u8 1 2 = 3 := by decide
theorem PArr.eqOn {W : World} {g n : Nat} {f f' : Nat → Pm} (h : PArr W g n f) (he : ∀ j, j < n → f' j = f j) : PArr W g n f' := by
  obtain ⟨cs, h1, h2⟩ := h.row
  exact ⟨cs, h1, fun i hi => by rw [he i hi]; exact h2 i hi⟩
/-- what pieces answers -/
def PiecesPost (gen bb off L cap : Nat) (w : World) (e : Ending) (w' : World) : Prop :=
  ∃ g, e = .returned (.slice (some ⟨g, 0, none⟩) (secsOf L) (secsOf L)) ∧ PArr w' g (secsOf L) (fun j => ⟨gen, mkP (secsOf L) j, vvP bb off L cap j⟩) ∧ w.heap.size ≤ g ∧ Below w.heap.size w w'
set_option maxHeartbeats 8000000 in
set_option maxRecDepth 100000 in
theorem pieces_call (gen bb off L cap : Nat) (hL : 0 < L) (hL2 : L ≤ 1000000) (hc : L ≤ cap) (hc2 : cap ≤ 9223372036854775807) (w : World) :
    Calls Try.prog 88 #[.slice (some ⟨bb, off, none⟩) L cap, .int .u32 (gen : Int)] w (PiecesPost gen bb off L cap w) := by
  have HC : Hid (∀ W, Calls Try.prog 62 #[.slice (some ⟨bb, off, none⟩) L cap] W fun e w' => e = .returned (.int .i64 (secsOf L : Int)) ∧ w' = W) := Lib.hid (fun W => sectorsOf_call L (by omega) _ _ W)
  have hn1 : 1 ≤ secsOf L := secsOf_pos L
  have hn2 : (secsOf L) * 112 < L + 112 := by unfold secsOf; omega
  have hn3 : L ≤ secsOf L * 112 := by unfold secsOf; omega
  unfold PiecesPost
  generalize secsOf L = n at *
  go_enter Try.func88, Try.ntmps88
  go_wp2_with (first
    | (go_at_call 62; refine (HC.out _).mono ?_; rintro e w2 ⟨rfl, rfl⟩)
    | (refine wpList_makeP rfl (.tmp 9) rfl n (by omega) rfl ?_; intro g w3 hp hg hb; have HP := Lib.hid hp; have HG := Lib.hid hg; have HB := Lib.hid hb; clear hp hg hb))
  go_loopw [13] (fun s13 wr => PiHead gen bb off L cap n g w2 s13 wr) (fun s13 _ => n - (intOf s13).toNat)
  case atStart => exact ⟨0, Nat.zero_le _, rfl, by have e : fK gen bb off L cap 0 = fun _ => zPm := by funext j; simp [fK]
                                                   rw [e]; exact HP.out, HB.out⟩
  case round =>
    obtain ⟨k, hk, rfl, hp, hb⟩ := hrel
    have HPK := Lib.hid hp
    have HBK := Lib.hid hb
    clear hp hb
    rcases Nat.lt_or_ge k n with hlt | hge
    · obtain ⟨c0, c1, c2⟩ := HPK.out.cells hlt
      have f0 := HPK.out.free (k * 3)
      have f1 := HPK.out.free (k * 3 + 1)
      have f2 := HPK.out.free (k * 3 + 2)
      have e1 : (fK gen bb off L cap k) k = zPm := by simp [fK]
      rw [e1] at c0 c1 c2
      have hkn : (k : Int) < (n : Int) := by omega
      have hk0 : (0 : Int) ≤ (k : Int) := by omega
      have hkL : k * 112 < L := by omega
      have hw1 : IntKind.i64.wrap ((k : Int) + 1) = (k : Int) + 1 := by rw [IntKind.wrap_i64]; omega
      have hw2 : IntKind.i64.wrap (((k : Int) + 1) * 112) = ((k : Int) + 1) * 112 := by rw [IntKind.wrap_i64]; omega
      have hw3 : IntKind.i64.wrap ((k : Int) * 112) = (k : Int) * 112 := by rw [IntKind.wrap_i64]; omega
      have hne : ¬ cap = k * 112 := by omega
      clear e1
      go_wp2_with fail
      have hv : Value.slice (some ⟨bb, off + k * 112, none⟩) ((if (L : Int) < ((k : Int) + 1) * 112 then (L : Int) else ((k : Int) + 1) * 112).toNat - k * 112) (cap - k * 112) = vvP bb off L cap k := by
        unfold vvP
        congr 1
        split <;> omega
      rw [hv]
      exact ⟨⟨k + 1, by omega, by go_num, pi_step HPK.out hlt, below_setCell (below_setCell (below_setCell HBK.out g _ _ HG.out) g _ _ HG.out) g _ _ HG.out⟩, by simp [intOf]; omega⟩
    · obtain rfl : k = n := by omega
      have HPN : Hid (PArr wr g k (fun j => ⟨gen, 0, vvP bb off L cap j⟩)) := Lib.hid (HPK.out.eqOn (fun j hj => by simp [fK, hj]))
      obtain ⟨p, rfl⟩ : ∃ p, k = p + 1 := ⟨k - 1, by omega⟩
      have m0 := (HPN.out.cells (i := 0) (by omega)).2.1
      have f0 := HPN.out.free 1
      have mp := (HPN.out.cells (i := p) (by omega)).2.1
      have fp := HPN.out.free (p * 3 + 1)
      simp only [Nat.zero_mul, Nat.zero_add] at m0
      have hlt := HPN.out.lt
      rcases Nat.eq_zero_or_pos p with h0 | h0
      · subst h0
        have hF : PArr ((wr.setCell ⟨g, 1, none⟩ (.int .u8 1)).setCell ⟨g, 1, none⟩ (.int .u8 3)) g (0 + 1) (fun j => ⟨gen, mkP (0 + 1) j, vvP bb off L cap j⟩) := by
          refine PArr.put (f := fun j => ⟨gen, 1, vvP bb off L cap j⟩) ?_ 1 _ 0 (.inr (.inl rfl)) (fun j hj hne => by omega) (fun _ => by simp [mkP])
          exact HPN.out.put 1 _ 0 (.inr (.inl rfl)) (fun j hj hne => by omega) (fun _ => by simp)
        have hB9 := below_setCell (below_setCell HBK.out g 1 (.int .u8 1) HG.out) g 1 (.int .u8 3) HG.out
        have h1 := mark_or1
        have h3 := mark_or3
        clear mp fp
        go_wp2_with fail
        go_ret
        exact ⟨g, rfl, hF, HG.out, hB9⟩
      · have hpn : ¬ p * 3 + 1 = 1 := by omega
        have hpn2 : ¬ p * 3 = 0 := by omega
        have hp0 : ¬ p = 0 := by omega
        have hF : PArr ((wr.setCell ⟨g, 1, none⟩ (.int .u8 1)).setCell ⟨g, p * 3 + 1, none⟩ (.int .u8 2)) g (p + 1) (fun j => ⟨gen, mkP (p + 1) j, vvP bb off L cap j⟩) := by
          refine PArr.put (f := fun j => ⟨gen, if j = 0 then 1 else 0, vvP bb off L cap j⟩) ?_ (p * 3 + 1) _ p (.inr (.inl rfl)) (fun j hj hne => by
            by_cases h9 : j = 0
            · subst h9; simp [mkP, hp0, show ¬ 0 = p from fun e => hp0 e.symm]
            · simp [mkP, h9, hne]) (fun _ => by simp [mkP, hp0])
          exact HPN.out.put 1 _ 0 (.inr (.inl rfl)) (fun j hj hne => by simp [hne]) (fun _ => by simp)
        have hB9 := below_setCell (below_setCell HBK.out g 1 (.int .u8 1) HG.out) g (p * 3 + 1) (.int .u8 2) HG.out
        have h1 := mark_or1
        have h2 := mark_or2
        go_wp2_with fail
        go_ret
        exact ⟨g, rfl, hF, HG.out, hB9⟩
end Go.Proofs.Ytlaaolbdadempaa

/- Records written: the program's function. -/
namespace Go.Proofs.Ytlaaolbdadempaa
open Go.RowKit

theorem cut5 {A B C D E : Type} {F : A → B → C → D → E → Prop} (G : A → B → C → D → E → Prop) {R : Prop} (rest : (∀ a b c d e, F a b c d e → G a b c d e) → R) (kk : ∀ a b c d e, F a b c d e → G a b c d e) : R := rest kk
theorem piecesL_len (b : List UInt8) (g : Nat) : (piecesL b g).length = secsOf b.length := by simp [piecesL]
theorem pcesL_len : ∀ (l : List (List UInt8)) (g : Nat), (pcesL l g).length = usedL l
  | [], _ => rfl
  | b :: l, g => by
    have h := pcesL_len l g
    have e1 : pcesL (b :: l) g = piecesL b g ++ pcesL l g := by simp [pcesL]
    have e2 : usedL (b :: l) = secsOf b.length + usedL l := by simp [usedL]
    rw [e1, e2, List.length_append, piecesL_len, h]
theorem pcesL_snoc {l : List (List UInt8)} {k : Nat} {x : List UInt8} (h : l[k]? = some x) (g : Nat) : pcesL (l.take (k + 1)) g = pcesL (l.take k) g ++ piecesL x g := by
  obtain ⟨h1, h2⟩ := List.getElem?_eq_some_iff.1 h
  unfold pcesL
  rw [List.take_succ_eq_append_getElem h1, List.map_append, List.flatten_append, h2]; simp
theorem writesD_snoc (p : Pce) : ∀ (ps : List Pce) (d : Dsk) (a : Nat), writesD d a (ps ++ [p]) = (writeD (writesD d a ps) ((a + ps.length : Nat) : Int) (secP p (a + ps.length))).1
  | [], d, a => rfl
  | q :: ps, d, a => by
    rw [List.cons_append, writesD, writesD, writesD_snoc p ps, List.length_cons, show a + 1 + ps.length = a + (ps.length + 1) by omega]
/-- what n writes leave -/
structure Wok (d0 : Dsk) (n : Nat) (d : Dsk) : Prop where
  runs : Runs d
  secs : d.secs = d0.secs
  pend : d.pend.length = n
  left : d.left = d0.left
  stop : d.stop = d0.stop
theorem wok_step {d0 d : Dsk} {n at' : Nat} {x : List UInt8} (h : Wok d0 n d) (ha : at' < d0.secs.length) (hn : n < 4096) (hx : x.length = 128) : (writeD d (at' : Int) x).2 = 0 ∧ Wok d0 (n + 1) (writeD d (at' : Int) x).1 := by
  have hh : hasB d.secs.length (at' : Int) = true := by unfold hasB; rw [h.secs]; simp; omega
  have e : writeD d (at' : Int) x = (⟨d.secs, d.pend ++ [((at' : Int), sectorL [x])], d.left, d.stop⟩, 0) := by
    unfold writeD
    rw [if_pos (by rw [h.runs.runs, hh]; rfl), if_neg (by omega), if_neg (by rw [h.pend]; omega)]
  have hw := h.runs.written hh x (by rw [h.pend]; exact hn)
  rw [e]
  refine ⟨rfl, ?_, h.secs, by simp [h.pend], h.left, h.stop⟩
  exact hw
theorem wok_all {d0 : Dsk} : ∀ (ps : List Pce) (d : Dsk) (n a : Nat), Wok d0 n d → a + ps.length ≤ d0.secs.length → n + ps.length ≤ 4096 → (∀ p ∈ ps, p.data.length ≤ 112) → Wok d0 (n + ps.length) (writesD d a ps)
  | [], d, n, a, h, _, _, _ => h
  | p :: ps, d, n, a, h, h1, h2, h3 => by
    rw [List.length_cons] at h1 h2
    have hs := (wok_step h (at' := a) (by omega) (by omega) (secP_len p a (h3 p (by simp)))).2
    have := wok_all ps _ (n + 1) (a + 1) hs (by omega) (by omega) (fun q hq => h3 q (List.mem_cons_of_mem _ hq))
    rw [writesD, List.length_cons, show n + (ps.length + 1) = n + 1 + ps.length by omega]
    exact this
theorem pcesL_data {l : List (List UInt8)} {g : Nat} : ∀ p ∈ pcesL l g, p.data.length ≤ 112 := by
  intro p hp
  unfold pcesL at hp
  rw [List.mem_flatten] at hp
  obtain ⟨q, hq, hp⟩ := hp
  obtain ⟨b, _, rfl⟩ := List.mem_map.1 hq
  unfold piecesL at hp
  obtain ⟨i, _, rfl⟩ := List.mem_map.1 hp
  simp only [List.length_take]; omega
theorem piecesL_get {b : List UInt8} {g i : Nat} (h : i < secsOf b.length) : (piecesL b g)[i]? = some ⟨g, mkP (secsOf b.length) i, (b.drop (i * 112)).take 112⟩ := by
  unfold piecesL mkP
  simp [h]
/-- a piece that is loaded -/
theorem run_load_pc (w : World) (b o : Nat) (x y u : Value) (h0 : w.cell? ⟨b, o, none⟩ = some x) (h1 : w.cell? ⟨b, o + 1, none⟩ = some y) (h2 : w.cell? ⟨b, o + 2, none⟩ = some u) : (loadVar 115 ⟨b, o, none⟩).run Try.prog w = .ok (.agg #[x, y, u]) w := by
  have hl : (loadCells ⟨b, o, none⟩ 3).run Try.prog w = .ok #[x, y, u] w :=
    run_loadCells_list (P := Try.prog) w ⟨b, o, none⟩ [x, y, u] (fun j v hv => by
      rw [Addr.add_lit]
      match j, hv with
      | 0, hv => injection hv with hv; subst hv; exact h0
      | 1, hv => injection hv with hv; subst hv; exact h1
      | 2, hv => injection hv with hv; subst hv; exact h2)
  have hagg : (isAgg 115).run Try.prog w = .ok true w := by
    unfold isAgg
    rw [Sem.run_bind, run_underlying Try.underlying115 w]
    rfl
  have hs : (sizeOf 115).run Try.prog w = .ok 3 w := by
    obtain ⟨i0, hi, hz0, hz1, hz2⟩ := info_parts Try.info115
    simp [sizeOf, typeInfo, hi, hz1]
  simp [loadVar, Sem.run_bind, hagg, hs, hl]
theorem wpList_load_pc {ops : Array Oper} {rest : List Oper} {o : Oper} {a : Act} {w : World} {Q : Exit → Act → World → Prop} (hgd : o.guard = none) (x : Operand) (ho : o.op = .load 115 x)
    (b q : Nat) (x0 x1 x2 : Value) (hx : a.eval x = .pointer (some ⟨b, q, none⟩)) (hc : w.cell? ⟨b, q, none⟩ = some x0 ∧ w.cell? ⟨b, q + 1, none⟩ = some x1 ∧ w.cell? ⟨b, q + 2, none⟩ = some x2)
    (h : wpList Try.prog ops Q rest (a.put o.dst (.agg #[x0, x1, x2])) w) : wpList Try.prog ops Q (o :: rest) a w :=
  wpList_plain hgd fun _ hK => by
    unfold Oper.wp execOp
    simp only [ho, hx, Instr.loadAt, Instr.sureAddr, Sem.run_bind, Sem.run_pure, Result.andThen_ok, run_load_pc w b q x0 x1 x2 hc.1 hc.2.1 hc.2.2]
    exact hK _ _ h
def Wset (S : Nat → Prop) (n : Nat) : Nat → Prop := fun i => Cut S n i ∨ n + 2 ≤ i
/-- while records are written -/
structure WrI (w : World) (S : Nat → Prop) (d : Dsk) (s p : Value) (l : Int) (b : Bool) (wr : World) : Prop where
  row : Row wr w.heap.size 25 [s, p, .int .i64 l, .bool b]
  res : Row wr (w.heap.size + 1) 25 [.slice none 0 0, .slice none 0 0, .int .i64 0, .bool false]
  rest : DRestS (Wset S w.heap.size) wr d (dv s p l b)
  bel : Below w.heap.size w wr
theorem WrI.keep {w wr wr' : World} {n : Nat → Prop} {d : Dsk} {s p : Value} {l : Int} {b : Bool} (h : WrI w n d s p l b wr) (hb : Below wr.heap.size wr wr') : WrI w n d s p l b wr' :=
  ⟨h.row.keep hb, h.res.keep hb, h.rest.keep (.below hb), below_next h.bel hb⟩
end Go.Proofs.Ytlaaolbdadempaa

/- A record as pieces, also one without bytes. -/
namespace Go.Proofs.Ytlaaolbdadempaa
open Go.RowKit

def fE (gen : Nat) (v : Value) (k : Nat) : Nat → Pm := fun j => if j < k then ⟨gen, 0, v⟩ else zPm
def PeHead (gen : Nat) (v : Value) (g : Nat) (w : World) (s13 : Value) (wr : World) : Prop := ∃ k : Nat, k ≤ 1 ∧ s13 = .int .i64 (k : Int) ∧ PArr wr g 1 (fE gen v k) ∧ Below w.heap.size w wr
theorem pe_step {wr : World} {gen g : Nat} {v : Value} (h : PArr wr g 1 (fE gen v 0)) :
    PArr (((wr.setCell ⟨g, 0, none⟩ (.int .u32 (gen : Int))).setCell ⟨g, 1, none⟩ (.int .u8 0)).setCell ⟨g, 2, none⟩ v) g 1 (fE gen v 1) := by
  have h1 : PArr (wr.setCell ⟨g, 0, none⟩ (.int .u32 (gen : Int))) g 1 (fun j => if j = 0 then ⟨gen, 0, .slice none 0 0⟩ else fE gen v 0 j) :=
    h.put 0 _ 0 (.inl rfl) (fun j _ hj => by simp [hj]) (fun _ => by simp [fE, zPm])
  have h2 : PArr ((wr.setCell ⟨g, 0, none⟩ (.int .u32 (gen : Int))).setCell ⟨g, 1, none⟩ (.int .u8 0)) g 1 (fun j => if j = 0 then ⟨gen, 0, .slice none 0 0⟩ else fE gen v 0 j) :=
    h1.put 1 _ 0 (.inr (.inl rfl)) (fun j _ hj => rfl) (fun _ => by simp)
  exact h2.put 2 _ 0 (.inr (.inr rfl)) (fun j _ hj => by omega) (fun _ => by simp [fE])
/-- what pieces answers -/
def PP (gen n : Nat) (vv : Nat → Value) (w : World) (e : Ending) (w' : World) : Prop :=
  ∃ g, e = .returned (.slice (some ⟨g, 0, none⟩) n n) ∧ PArr w' g n (fun j => ⟨gen, mkP n j, vv j⟩) ∧ w.heap.size ≤ g ∧ Below w.heap.size w w'
set_option maxHeartbeats 8000000 in
set_option maxRecDepth 100000 in
theorem pieces_call0 (gen : Nat) (a : Option Addr) (cap : Nat) (ha : (a = none ∧ cap = 0) ∨ ∃ ad, a = some ad) (hc2 : cap ≤ 9223372036854775807) (w : World) :
    Calls Try.prog 88 #[.slice a 0 cap, .int .u32 (gen : Int)] w (PP gen 1 (fun _ => .slice a 0 cap) w) := by
  have HC : Hid (∀ W, Calls Try.prog 62 #[.slice a 0 cap] W fun e w' => e = .returned (.int .i64 1) ∧ w' = W) := Lib.hid (fun W => sectorsOf_call 0 (by omega) _ _ W)
  unfold PP
  rcases ha with ⟨rfl, rfl⟩ | ⟨ad, rfl⟩
  · go_enter Try.func88, Try.ntmps88
    go_wp2_with (first
      | (go_at_call 62; refine (HC.out _).mono ?_; rintro e w2 ⟨rfl, rfl⟩)
      | (refine wpList_makeP rfl (.tmp 9) rfl 1 (by omega) rfl ?_; intro g w3 hp hg hb; have HP := Lib.hid hp; have HG := Lib.hid hg; have HB := Lib.hid hb; clear hp hg hb))
    go_loopw [13] (fun s13 wr => PeHead gen (.slice none 0 0) g w2 s13 wr) (fun s13 _ => 1 - (intOf s13).toNat)
    case atStart => exact ⟨0, Nat.zero_le _, rfl, by have e : fE gen (.slice none 0 0) 0 = fun _ => zPm := by funext j; simp [fE]
                                                     rw [e]; exact HP.out, HB.out⟩
    case round =>
      obtain ⟨k, hk, rfl, hp, hb⟩ := hrel
      have HPK := Lib.hid hp
      have HBK := Lib.hid hb
      clear hp hb
      have hk2 : k = 0 ∨ k = 1 := by omega
      rcases hk2 with rfl | rfl
      · obtain ⟨c0, c1, c2⟩ := HPK.out.cells (i := 0) (by omega)
        have f0 := HPK.out.free 0
        have f1 := HPK.out.free 1
        have f2 := HPK.out.free 2
        have e1 : (fE gen (.slice none 0 0) 0) 0 = zPm := by simp [fE]
        rw [e1] at c0 c1 c2
        simp only [Nat.zero_mul, Nat.zero_add] at c0 c1 c2
        clear e1
        go_wp2_with fail
        exact ⟨⟨1, by omega, by go_num, pe_step HPK.out, below_setCell (below_setCell (below_setCell HBK.out g _ _ HG.out) g _ _ HG.out) g _ _ HG.out⟩, by simp [intOf]⟩
      · have HPN : Hid (PArr wr g 1 (fun j => ⟨gen, 0, .slice none 0 0⟩)) := Lib.hid (HPK.out.eqOn (fun j hj => by simp [fE, hj]))
        have m0 := (HPN.out.cells (i := 0) (by omega)).2.1
        have f0 := HPN.out.free 1
        simp only [Nat.zero_mul, Nat.zero_add] at m0
        have hlt := HPN.out.lt
        have hF : PArr ((wr.setCell ⟨g, 1, none⟩ (.int .u8 1)).setCell ⟨g, 1, none⟩ (.int .u8 3)) g 1 (fun j => ⟨gen, mkP 1 j, .slice none 0 0⟩) := by
          refine PArr.put (f := fun j => ⟨gen, 1, .slice none 0 0⟩) ?_ 1 _ 0 (.inr (.inl rfl)) (fun j hj hne => by omega) (fun _ => by simp [mkP])
          exact HPN.out.put 1 _ 0 (.inr (.inl rfl)) (fun j hj hne => by omega) (fun _ => by simp)
        have hB9 := below_setCell (below_setCell HBK.out g 1 (.int .u8 1) HG.out) g 1 (.int .u8 3) HG.out
        have h1 := mark_or1
        have h3 := mark_or3
        go_wp2_with fail
        go_ret
        exact ⟨g, rfl, hF, HG.out, hB9⟩
  · go_enter Try.func88, Try.ntmps88
    go_wp2_with (first
      | (go_at_call 62; refine (HC.out _).mono ?_; rintro e w2 ⟨rfl, rfl⟩)
      | (refine wpList_makeP rfl (.tmp 9) rfl 1 (by omega) rfl ?_; intro g w3 hp hg hb; have HP := Lib.hid hp; have HG := Lib.hid hg; have HB := Lib.hid hb; clear hp hg hb))
    go_loopw [13] (fun s13 wr => PeHead gen (.slice (some ad) 0 cap) g w2 s13 wr) (fun s13 _ => 1 - (intOf s13).toNat)
    case atStart => exact ⟨0, Nat.zero_le _, rfl, by have e : fE gen (.slice (some ad) 0 cap) 0 = fun _ => zPm := by funext j; simp [fE]
                                                     rw [e]; exact HP.out, HB.out⟩
    case round =>
      obtain ⟨k, hk, rfl, hp, hb⟩ := hrel
      have HPK := Lib.hid hp
      have HBK := Lib.hid hb
      clear hp hb
      have hk2 : k = 0 ∨ k = 1 := by omega
      rcases hk2 with rfl | rfl
      · obtain ⟨c0, c1, c2⟩ := HPK.out.cells (i := 0) (by omega)
        have f0 := HPK.out.free 0
        have f1 := HPK.out.free 1
        have f2 := HPK.out.free 2
        have e1 : (fE gen (.slice (some ad) 0 cap) 0) 0 = zPm := by simp [fE]
        rw [e1] at c0 c1 c2
        simp only [Nat.zero_mul, Nat.zero_add] at c0 c1 c2
        clear e1
        go_wp2_with fail
        exact ⟨⟨1, by omega, by go_num, pe_step HPK.out, below_setCell (below_setCell (below_setCell HBK.out g _ _ HG.out) g _ _ HG.out) g _ _ HG.out⟩, by simp [intOf]⟩
      · have HPN : Hid (PArr wr g 1 (fun j => ⟨gen, 0, .slice (some ad) 0 cap⟩)) := Lib.hid (HPK.out.eqOn (fun j hj => by simp [fE, hj]))
        have m0 := (HPN.out.cells (i := 0) (by omega)).2.1
        have f0 := HPN.out.free 1
        simp only [Nat.zero_mul, Nat.zero_add] at m0
        have hlt := HPN.out.lt
        have hF : PArr ((wr.setCell ⟨g, 1, none⟩ (.int .u8 1)).setCell ⟨g, 1, none⟩ (.int .u8 3)) g 1 (fun j => ⟨gen, mkP 1 j, .slice (some ad) 0 cap⟩) := by
          refine PArr.put (f := fun j => ⟨gen, 1, .slice (some ad) 0 cap⟩) ?_ 1 _ 0 (.inr (.inl rfl)) (fun j hj hne => by omega) (fun _ => by simp [mkP])
          exact HPN.out.put 1 _ 0 (.inr (.inl rfl)) (fun j hj hne => by omega) (fun _ => by simp)
        have hB9 := below_setCell (below_setCell HBK.out g 1 (.int .u8 1) HG.out) g 1 (.int .u8 3) HG.out
        have h1 := mark_or1
        have h3 := mark_or3
        go_wp2_with fail
        go_ret
        exact ⟨g, rfl, hF, HG.out, hB9⟩
theorem vvP_rest {B : Nat} {w : World} {x : List UInt8} {bb off cap i : Nat} (h : Rest B w x (.slice (some ⟨bb, off, none⟩) x.length cap)) (hi : i * 112 < x.length) : Rest B w ((x.drop (i * 112)).take 112) (vvP bb off x.length cap i) := by
  have hcap : x.length ≤ cap := by obtain ⟨_, _, he, h1, _⟩ := h; injection he with _ _ h3; omega
  have h9 := rest_part h (i * 112) (min ((i + 1) * 112) x.length - i * 112) (cap - i * 112) (by omega) (by omega) (by omega)
  have e : (x.drop (i * 112)).take (min ((i + 1) * 112) x.length - i * 112) = (x.drop (i * 112)).take 112 := by
    rcases Nat.lt_or_ge x.length ((i + 1) * 112) with h1 | h1
    · rw [List.take_of_length_le (by rw [List.length_drop]; omega), List.take_of_length_le (by rw [List.length_drop]; omega)]
    · congr 1; omega
  rw [e] at h9
  exact h9
theorem pieces_any {B : Nat} {w : World} {x : List UInt8} {u : Value} (gen : Nat) (hru : Rest B w x u) (hx : x.length ≤ 1000000) :
    ∃ vv : Nat → Value, (∀ W, Calls Try.prog 88 #[u, .int .u32 (gen : Int)] W (PP gen (secsOf x.length) vv W)) ∧ (∀ i, i < secsOf x.length → (∀ (B2 : Nat) (W : World), Rest B2 W x u → Rest B2 W ((x.drop (i * 112)).take 112) (vv i)) ∧ ∃ y0 y1 y2, vv i = .slice y0 y1 y2) := by
  obtain ⟨a3, c3, he, h1, h2, h3, h4⟩ := hru
  rcases Nat.eq_zero_or_pos x.length with h0 | h0
  · have hx0 : x = [] := List.eq_nil_of_length_eq_zero h0
    subst hx0
    subst he
    refine ⟨fun _ => .slice a3 0 c3, fun W => pieces_call0 gen a3 c3 ?_ h2 W, fun i hi => ⟨fun B2 W h => ?_, _, _, _, rfl⟩⟩
    · rcases a3 with _ | ad
      · exact .inl ⟨rfl, (h3 rfl).2⟩
      · exact .inr ⟨ad, rfl⟩
    · rw [List.drop_nil, List.take_nil]; exact h
  · rcases h4 with h4 | ⟨b4, o4, h5, _⟩
    · omega
    · subst h5
      subst he
      refine ⟨vvP b4 o4 x.length c3, fun W => pieces_call gen b4 o4 x.length c3 h0 hx h1 h2 W, fun i hi => ⟨fun B2 W h => vvP_rest h (by unfold secsOf at hi; omega), _, _, _, rfl⟩⟩
end Go.Proofs.Ytlaaolbdadempaa

/- Records written: the program's function, walked. -/
namespace Go.Proofs.Ytlaaolbdadempaa
open Go.RowKit

theorem PArr.same {W W' : World} {g n : Nat} {f : Nat → Pm} (h : PArr W g n f) (hf : W'.heap[g]? = W.heap[g]?) : PArr W' g n f := by
  obtain ⟨cs, h1, h2⟩ := h.row; exact ⟨cs, hf.trans h1, h2⟩
theorem cut9 {A B C D E F' G' H I : Type} {F : A → B → C → D → E → F' → G' → H → I → Prop} (G : A → B → C → D → E → F' → G' → H → I → Prop) {R : Prop} (rest : (∀ a b c d e f g h i, F a b c d e f g h i → G a b c d e f g h i) → R) (kk : ∀ a b c d e f g h i, F a b c d e f g h i → G a b c d e f g h i) : R := rest kk
def box4 (W : World) (g : Nat) (s p : Value) (l : Int) (b : Bool) : World := (((W.setCell ⟨g, 0, none⟩ s).setCell ⟨g, 1, none⟩ p).setCell ⟨g, 2, none⟩ (.int .i64 l)).setCell ⟨g, 3, none⟩ (.bool b)
theorem box4_far (W : World) (g : Nat) (s p : Value) (l : Int) (b : Bool) (k : Nat) (h : k ≠ g) : (box4 W g s p l b).heap[k]? = W.heap[k]? := by
  unfold box4
  rw [heap_setCell_other _ ⟨g, 3, none⟩ k _ h, heap_setCell_other _ ⟨g, 2, none⟩ k _ h, heap_setCell_other _ ⟨g, 1, none⟩ k _ h, heap_setCell_other _ ⟨g, 0, none⟩ k _ h]
theorem WrI.over {w wB : World} {n : Nat → Prop} {d d' : Dsk} {s p s' p' : Value} {l l' : Int} {b b' : Bool} (h : WrI w n d s p l b wB) (hd : DRestS (Wset n w.heap.size) wB d' (dv s' p' l' b')) : WrI w n d' s' p' l' b' (box4 wB w.heap.size s' p' l' b') :=
  ⟨row_set4 h.row _ _ _ _, h.res.same (box4_far _ _ _ _ _ _ _ (by omega)), hd.keep (.far w.heap.size (fun h => by rcases h with h | h; exact absurd h.2 (Nat.lt_irrefl _); omega) (fun k hk => box4_far _ _ _ _ _ _ k hk)), below_setCell (below_setCell (below_setCell (below_setCell h.bel _ 0 _ (Nat.le_refl _)) _ 1 _ (Nat.le_refl _)) _ 2 _ (Nat.le_refl _)) _ 3 _ (Nat.le_refl _)⟩
theorem wr_next {d0 : Dsk} {at0 a1 i : Nat} {ps0 ps : List Pce} {q : Pce} (hq : ps[i]? = some q) (ha : a1 = at0 + ps0.length) (hok : Wok d0 (ps0.length + i) (writesD d0 at0 (ps0 ++ ps.take i))) (hlt : a1 + i < d0.secs.length) (hm : ps0.length + i < 4096) (hd : q.data.length ≤ 112) :
    writeD (writesD d0 at0 (ps0 ++ ps.take i)) ((a1 + i : Nat) : Int) (secP q (a1 + i)) = (writesD d0 at0 (ps0 ++ ps.take (i + 1)), 0) := by
  obtain ⟨h1, h2⟩ := List.getElem?_eq_some_iff.1 hq
  have hl : (ps0 ++ ps.take i).length = ps0.length + i := by rw [List.length_append, List.length_take]; omega
  have e : writesD d0 at0 (ps0 ++ ps.take (i + 1)) = (writeD (writesD d0 at0 (ps0 ++ ps.take i)) ((a1 + i : Nat) : Int) (secP q (a1 + i))).1 := by
    rw [List.take_succ_eq_append_getElem h1, h2, ← List.append_assoc, writesD_snoc, hl, ha, show at0 + (ps0.length + i) = at0 + ps0.length + i by omega]
  have hs := (wok_step hok (at' := a1 + i) hlt hm (secP_len q (a1 + i) hd)).1
  rw [e]
  exact Prod.ext rfl hs
def WoHead (S : Nat → Prop) (w : World) (d0 : Dsk) (at0 gen : Nat) (l : List (List UInt8)) (s1 s17 : Value) (wr : World) : Prop :=
  ∃ (k : Nat) (s p : Value) (lf : Int) (b : Bool), k ≤ l.length ∧ s17 = .int .i64 (k : Int) ∧ s1 = .int .i64 ((at0 + usedL (l.take k) : Nat) : Int) ∧ WrI w S (writesD d0 at0 (pcesL (l.take k) gen)) s p lf b wr
def WiHead (S : Nat → Prop) (w : World) (d0 : Dsk) (at0 gen a1 : Nat) (ps0 ps : List Pce) (g n : Nat) (f : Nat → Pm) (s1 s25 : Value) (wr : World) : Prop :=
  ∃ (i : Nat) (s p : Value) (lf : Int) (b : Bool), i ≤ n ∧ s25 = .int .i64 (i : Int) ∧ s1 = .int .i64 ((a1 + i : Nat) : Int) ∧ WrI w S (writesD d0 at0 (ps0 ++ ps.take i)) s p lf b wr ∧ PArr wr g n f
set_option maxHeartbeats 16000000 in
set_option maxRecDepth 100000 in
theorem writes_call (S : Nat → Prop) (d0 : Dsk) (s p : Value) (at0 gen : Nat) (l : List (List UInt8)) (v : Value) (w : World) (hd : DRestS S w d0 (dv s p d0.left d0.stop)) (h0 : Wok d0 0 d0) (h : NRest w.heap.size w l v) (hg : gen < 4294967296)
    (hpos : ∀ x ∈ l, x.length ≤ 1000000) (hat : at0 + usedL l ≤ d0.secs.length) :
    Calls Try.prog 70 #[dv s p d0.left d0.stop, .int .i64 (at0 : Int), v, .int .u32 (gen : Int)] w (NewDS S w (writesD d0 at0 (pcesL l gen)) 0) := by
  have HV := Lib.hid h
  obtain ⟨a, cap, rfl, hc1, hc2⟩ := h.shape
  have hmost := h0.runs.most
  obtain ⟨m, hm⟩ : ∃ m, m = l.length := ⟨_, rfl⟩
  rw [← hm] at HV hc2 ⊢
  have HM := Lib.hid hm
  have HP := Lib.hid hpos
  have HAT := Lib.hid hat
  have HW0 := Lib.hid h0
  have HALL : Hid (∀ (ps : List Pce), at0 + ps.length ≤ d0.secs.length → (∀ q ∈ ps, q.data.length ≤ 112) → Wok d0 ps.length (writesD d0 at0 ps)) := Lib.hid (fun ps h1 h2 => by
    have := wok_all ps d0 0 at0 h0 h1 (by omega) h2
    rwa [Nat.zero_add] at this)
  have HI0 : Hid (WrI w S d0 s p d0.left d0.stop ((w.alloc (.cells #[s, p, .int .i64 d0.left, .bool d0.stop] 25)).alloc (.cells #[.slice none 0 0, .slice none 0 0, .int .i64 0, .bool false] 25))) := Lib.hid (by
    have r2 := row_new (w.alloc (.cells #[s, p, .int .i64 d0.left, .bool d0.stop] 25)) 25 [.slice none 0 0, .slice none 0 0, .int .i64 0, .bool false]
    rw [World.size_alloc] at r2
    exact ⟨(row_new w 25 [s, p, .int .i64 d0.left, .bool d0.stop]).keep (Joins.below_alloc1 _ _), r2, (hd.later (below_two w _ _)).weak (fun b h1 _ => .inl h1), below_two w _ _⟩)
  obtain ⟨_, _, ⟨sa, sc, rfl⟩, ⟨pa, pc, rfl⟩⟩ := drest_left hd.rest
  clear h hm hpos hat h0 hd
  unfold dv
  go_enter Try.func70, Try.ntmps70
  go_wp2_with fail
  generalize (w.alloc (.cells #[.slice sa d0.secs.length sc, .slice pa d0.pend.length pc, .int .i64 d0.left, .bool d0.stop] 25)).alloc (.cells #[.slice none 0 0, .slice none 0 0, .int .i64 0, .bool false] 25) = W0 at HI0 ⊢
  go_loopw [1, 17] (fun s1 s17 wr => WoHead S w d0 at0 gen l s1 s17 wr) (fun _ s17 _ => m - (intOf s17).toNat)
  case atStart => exact ⟨0, _, _, _, _, Nat.zero_le _, rfl, by simp [usedL], HI0.out⟩
  case round =>
    obtain ⟨k, s1, p1, l1, b1, hk, rfl, rfl, hi⟩ := hrel
    rw [← HM.out] at hk
    have HI := Lib.hid hi
    clear hi
    rcases Nat.lt_or_ge k m with hlt | hge
    · obtain ⟨x, hx⟩ : ∃ x, l[k]? = some x := ⟨_, List.getElem?_eq_getElem (by rw [← HM.out]; exact hlt)⟩
      obtain ⟨b, off, u, rfl, hbl, hru, hcell⟩ := HV.out.at hx
      have hcu := hcell wr HI.out.bel
      have hxp := HP.out x (List.mem_of_getElem? hx)
      have HUS := Lib.hid (usedL_snoc hx)
      have HPS := Lib.hid (pcesL_snoc hx gen)
      have HUT : Hid (usedL (l.take (k + 1)) ≤ usedL l) := Lib.hid (usedL_take l (k + 1))
      have HPL : Hid ((pcesL (l.take k) gen).length = usedL (l.take k)) := Lib.hid (pcesL_len _ _)
      obtain ⟨vv, hvv, hvr⟩ := pieces_any gen hru hxp
      obtain ⟨uv, huv⟩ : ∃ uv, uv = u := ⟨_, rfl⟩
      have husl : ∃ y0 y1 y2, u = .slice y0 y1 y2 := by obtain ⟨a3, c3, he, _⟩ := hru; exact ⟨_, _, _, he⟩
      have HRU := Lib.hid hru
      have HPC : Hid (∀ W, Calls Try.prog 88 #[u, .int .u32 (gen : Int)] W (PP gen (secsOf x.length) vv W)) := Lib.hid hvv
      have HVV := Lib.hid hvr
      clear hvv hvr huv uv
      obtain ⟨u0, u1', u2, rfl⟩ := husl
      have HGET : Hid (∀ i, i < secsOf x.length → (piecesL x gen)[i]? = some ⟨gen, mkP (secsOf x.length) i, (x.drop (i * 112)).take 112⟩) := Lib.hid (fun i hi => piecesL_get hi)
      have HPLN : Hid ((piecesL x gen).length = secsOf x.length) := Lib.hid (piecesL_len x gen)
      have HDT : Hid (∀ q ∈ piecesL x gen, q.data.length ≤ 112) := Lib.hid (fun q hq => pcesL_data (l := [x]) (g := gen) q (by simpa [pcesL] using hq))
      have HDT0 : Hid (∀ q ∈ pcesL (l.take k) gen, q.data.length ≤ 112) := Lib.hid (fun q hq => pcesL_data q hq)
      have hkm : (k : Int) < (m : Int) := by omega
      have hk0 : (0 : Int) ≤ (k : Int) := by omega
      obtain ⟨L, hL⟩ : ∃ L, L = x.length := ⟨_, rfl⟩
      have HL := Lib.hid hL
      rw [← hL] at HPC HVV HUS HGET HPLN hxp
      obtain ⟨n, hnn⟩ : ∃ n, n = secsOf L := ⟨_, rfl⟩
      unfold PP at HPC
      rw [← hnn] at HPC HVV HUS HGET HPLN
      obtain ⟨u1, hu1⟩ : ∃ u1, u1 = usedL (l.take k) := ⟨_, rfl⟩
      rw [← hu1] at HUS HPL ⊢
      have HN1 : Hid (1 ≤ n) := Lib.hid (by rw [hnn]; exact secsOf_pos L)
      clear hru hcell hx hL hnn hu1
      have hlim : at0 + u1 + n ≤ 4096 := by have h1 := HUS.out; have h2 := HUT.out; have h3 := HAT.out; omega
      obtain ⟨a1, ha1⟩ : ∃ a1, a1 = at0 + u1 := ⟨_, rfl⟩
      have HA1 : Hid (a1 = at0 + (pcesL (l.take k) gen).length) := Lib.hid (by rw [ha1, HPL.out])
      rw [← ha1]
      have HLIM : Hid (a1 + n ≤ d0.secs.length ∧ a1 + n ≤ 4096 ∧ u1 + n ≤ 4096) := Lib.hid (by have h1 := HUS.out; have h2 := HUT.out; have h3 := HAT.out; omega)
      have HAU : Hid (a1 + n = at0 + usedL (l.take (k + 1))) := Lib.hid (by rw [HUS.out]; omega)
      clear ha1 hlim
      have HIR := Lib.hid HI.out
      go_wp2_with (first
        | (go_at_call 88; refine (HPC.out _).mono ?_; rintro e w2 ⟨g, rfl, hp, hg2, hb⟩; have HPA := Lib.hid hp; replace HI := Lib.hid (HI.out.keep hb); have HGB : Hid (w.heap.size + 1 < g) := Lib.hid (by have := HIR.out.res.lt; omega); clear hp hg2 hb))
      go_loopw [1, 25] (fun s1 s25 wr => WiHead S w d0 at0 gen a1 (pcesL (l.take k) gen) (piecesL x gen) g n (fun j => ⟨gen, mkP n j, vv j⟩) s1 s25 wr) (fun _ s25 _ => n - (intOf s25).toNat)
      case atStart => exact ⟨0, _, _, _, _, Nat.zero_le _, rfl, rfl, by rw [List.take_zero, List.append_nil]; exact HI.out, HPA.out⟩
      case round =>
        obtain ⟨i, s2, p2, l2, b2, hi2, rfl, rfl, hI2, hpa⟩ := hrel
        obtain ⟨⟨sa2, sn2, sc2, rfl⟩, ⟨pa2, pn2, pc2, rfl⟩⟩ := slices_of hI2.rest.rest
        have HI2 := Lib.hid hI2
        have HPA2 := Lib.hid hpa
        clear hI2 hpa
        rcases Nat.lt_or_ge i n with hilt | hige
        · have hget := HGET.out i hilt
          have HQ : Hid ((piecesL x gen)[i]? = some ⟨gen, mkP n i, (x.drop (i * 112)).take 112⟩) := Lib.hid hget
          have hcc := HPA2.out.cells hilt
          simp only at hcc
          have HCC := Lib.hid hcc
          have hL2 := HLIM.out
          have HOK : Hid (Wok d0 ((pcesL (l.take k) gen).length + i) (writesD d0 at0 (pcesL (l.take k) gen ++ (piecesL x gen).take i))) := Lib.hid (by
            have h9 := HALL.out (pcesL (l.take k) gen ++ (piecesL x gen).take i) (by
              rw [List.length_append, List.length_take, HPLN.out, HPL.out]
              have := HA1.out; rw [HPL.out] at this; omega) (fun q hq => by
              rcases List.mem_append.1 hq with hq | hq
              · exact HDT0.out q hq
              · exact HDT.out q (List.mem_of_mem_take hq))
            rwa [List.length_append, List.length_take, HPLN.out, Nat.min_eq_left (by omega)] at h9)
          have HNX : Hid (writeD (writesD d0 at0 (pcesL (l.take k) gen ++ (piecesL x gen).take i)) ((a1 + i : Nat) : Int) (secP ⟨gen, mkP n i, (x.drop (i * 112)).take 112⟩ (a1 + i)) = (writesD d0 at0 (pcesL (l.take k) gen ++ (piecesL x gen).take (i + 1)), 0)) := Lib.hid
            (wr_next HQ.out HA1.out HOK.out (by omega) (by rw [HPL.out]; omega) (by simp only [List.length_take]; omega))
          have HVR : Hid (∀ W, Below w.heap.size w W → Rest W.heap.size W ((x.drop (i * 112)).take 112) (vv i)) := Lib.hid (fun W hW => (HVV.out i hilt).1 _ _ ((HRU.out.stays hW).mono hW.size))
          have HSE : Hid (∀ W, Below w.heap.size w W → Calls Try.prog 89 #[.agg #[.int .u32 (gen : Int), .int .u8 ((mkP n i).toNat : Int), vv i], .int .i64 ((a1 + i : Nat) : Int)] W fun e w' => e = .returned (.agg (cellsOf (secP ⟨gen, mkP n i, (x.drop (i * 112)).take 112⟩ (a1 + i))).toArray) ∧ Below W.heap.size W w') := Lib.hid (fun W hW =>
            sectorP_call ⟨gen, mkP n i, (x.drop (i * 112)).take 112⟩ hg (by simp only [List.length_take]; omega) (a1 + i) (by omega) _ W (HVR.out W hW))
          have HSL : Hid ((secP ⟨gen, mkP n i, (x.drop (i * 112)).take 112⟩ (a1 + i)).length = 128) := Lib.hid (secP_len _ _ (by simp only [List.length_take]; omega))
          have hpsl0 := (HVV.out i hilt).2
          have hiv : (vv i).oneCell' = true := by obtain ⟨_, _, _, e⟩ := hpsl0; rw [e]; rfl
          obtain ⟨SV, hSV⟩ : ∃ SV, SV = secP ⟨gen, mkP n i, (x.drop (i * 112)).take 112⟩ (a1 + i) := ⟨_, rfl⟩
          rw [← hSV] at HNX HSE HSL
          obtain ⟨pvv, hpvv⟩ : ∃ pvv, pvv = vv i := ⟨_, rfl⟩
          have hpsl : ∃ y0 y1 y2, pvv = .slice y0 y1 y2 := by rw [hpvv]; exact hpsl0
          clear hpsl0
          rw [← hpvv] at HSE HCC hiv
          obtain ⟨y0, y1, y2, rfl⟩ := hpsl
          obtain ⟨mk, hmk⟩ : ∃ mk, mk = (mkP n i).toNat := ⟨_, rfl⟩
          rw [← hmk] at HSE HCC
          obtain ⟨ai, hai⟩ : ∃ ai, ai = a1 + i := ⟨_, rfl⟩
          rw [← hai] at HNX HSE ⊢
          have HAI := Lib.hid hai
          have hin : (i : Int) < (n : Int) := by omega
          have hi0 : (0 : Int) ≤ (i : Int) := by omega
          have haib : ai ≤ 4096 := by omega
          have hi4 : i ≤ 4096 := by omega
          have HZ := Lib.hid zero115
          have HZ2 := Lib.hid zero116
          clear hSV hpvv hmk hai hget hcc hL2 hcu
          go_wp2_with (first
            | (refine wpList_load_pc rfl (.tmp 27) rfl g (i * 3) (.int .u32 (gen : Int)) (.int .u8 (mk : Int)) (.slice y0 y1 y2) rfl HCC.out ?_)
            | (refine wpList_alloc_u rfl 13 rfl rfl [.int .u32 0, .int .u8 0, .slice none 0 0] HZ.out ?_; intro g13 w3 hg13 hrow hb; have HR13 := Lib.hid hrow; have HB3 := Lib.hid hb; have hle13 := Nat.le_of_eq hg13.symm; clear hrow hb hg13)
            | (refine wpList_store_ags rfl 115 (.tmp 13) (.tmp 28) rfl g13 [.int .u32 (gen : Int), .int .u8 (mk : Int), .slice y0 y1 y2] _ size115 (by rfl) rfl rfl HR13.out (by rfl) HB3.out hle13 ?_; intro w4 hr hb hf; replace HI2 := Lib.hid (HI2.out.keep hb); replace HPA2 := Lib.hid (HPA2.out.keep hb); have t0 := hr.cell (i := 0) rfl; have t1 := hr.cell (i := 1) rfl; have t2 := hr.cell (i := 2) rfl; clear hr hb hf HB3 HR13)
            | (go_at_call 89; refine (HSE.out _ HI2.out.bel).mono ?_; rintro e w5 ⟨rfl, hb⟩; replace HI2 := Lib.hid (HI2.out.keep hb); replace HPA2 := Lib.hid (HPA2.out.keep hb); clear hb t0 t1 t2)
            | (refine wpList_alloc_u rfl 14 rfl rfl (cellsOf zSec) HZ2.out ?_; intro g14 w6 hg14 hrow hb; have HR14 := Lib.hid hrow; have HB6 := Lib.hid hb; have hle14 := Nat.le_of_eq hg14.symm; clear hrow hb hg14)
            | (refine wpList_store_ags rfl 116 (.tmp 14) (.tmp 31) rfl g14 (cellsOf SV) (cellsOf zSec) (by rw [cellsOf_len, HSL.out]; exact size116) (by rw [cellsOf_len, cellsOf_len, HSL.out]; rfl) rfl rfl HR14.out (cellsOf_all _) HB6.out hle14 ?_; intro w7 hr hb hf; replace HR14 := Lib.hid hr; replace HI2 := Lib.hid (HI2.out.keep hb); replace HPA2 := Lib.hid (HPA2.out.keep hb); clear hr hb hf HB6))
          have HWR : Hid (∀ W, Below w7.heap.size w7 W → Calls Try.prog 26 #[.agg #[.slice sa2 sn2 sc2, .slice pa2 pn2 pc2, .int .i64 l2, .bool b2], .int .i64 (ai : Int), .slice (some ⟨g14, 0, none⟩) 128 128] W (NewDS (Wset S w.heap.size) W (writesD d0 at0 (pcesL (l.take k) gen ++ (piecesL x gen).take (i + 1))) 0)) := Lib.hid (fun W hW =>
            write_lawS (HI2.out.rest.keep (.below hW)) (ai : Int) (row_restT (HR14.out.keep hW) HSL.out (by omega)) HNX.out)
          have c0 := HI2.out.row.cell (i := 0) rfl
          have c1 := HI2.out.row.cell (i := 1) rfl
          have c2 := HI2.out.row.cell (i := 2) rfl
          have c3 := HI2.out.row.cell (i := 3) rfl
          refine' cut9 (F := fun sa4 sn4 sc4 pa4 pn4 pc4 l4 b4 W9 => WrI w S (writesD d0 at0 (pcesL (l.take k) gen ++ (piecesL x gen).take (i + 1))) (.slice sa4 sn4 sc4) (.slice pa4 pn4 pc4) l4 b4 W9 ∧ PArr W9 g n (fun j => ⟨gen, mkP n j, vv j⟩)) _ ?r8 ?k8
          case r8 =>
            intro K
            go_region_law (go_simp; go_at_call 26; refine (HWR.out _ (below_drew (Below.refl _ _))).mono ?_; rintro e wB ⟨s4, p4, l4, b4, rfl, hdB, hbB⟩; obtain ⟨⟨sa4, sn4, sc4, rfl⟩, ⟨pa4, pn4, pc4, rfl⟩⟩ := slices_of hdB.rest; unfold dv; have hbB' := below_undrew hbB; have rB := HI2.out.row.keep hbB'; have q0 := rB.cell (i := 0) rfl; have q1 := rB.cell (i := 1) rfl; have q2 := rB.cell (i := 2) rfl; have q3 := rB.cell (i := 3) rfl; have k0 := rB.free 0; have k1 := rB.free 1; have k2 := rB.free 2; have k3 := rB.free 3)
            all_goals
              have hF := And.intro ((HI2.out.keep hbB').over (hdB.weak (fun b h1 _ => by
                rcases h1 with h1 | h1
                · exact h1
                · exact .inr (by have := HI2.out.res.lt; have h9 : w7.heap.size ≤ b := h1; omega)))) ((HPA2.out.keep hbB').same (box4_far wB w.heap.size (.slice sa4 sn4 sc4) (.slice pa4 pn4 pc4) l4 b4 g (by have := HGB.out; omega)))
              unfold box4 at hF
              generalize (((wB.setCell ⟨w.heap.size, 0, none⟩ (.slice sa4 sn4 sc4)).setCell ⟨w.heap.size, 1, none⟩ (.slice pa4 pn4 pc4)).setCell ⟨w.heap.size, 2, none⟩ (.int .i64 l4)).setCell ⟨w.heap.size, 3, none⟩ (.bool b4) = W9 at hF ⊢
              exact K sa4 sn4 sc4 pa4 pn4 pc4 l4 b4 W9 hF
          case k8 =>
            rintro sa4 sn4 sc4 pa4 pn4 pc4 l4 b4 W9 ⟨hI9, hP9⟩
            have HI9 := Lib.hid hI9
            have HP9 := Lib.hid hP9
            clear hI9 hP9 c0 c1 c2 c3
            go_wp2_with fail
            exact ⟨⟨i + 1, _, _, _, _, by omega, by go_num, by rw [show a1 + (i + 1) = ai + 1 from by have := HAI.out; omega]; simp, HI9.out, HP9.out⟩, by simp [intOf]; omega⟩
        · obtain rfl : i = n := by omega
          have HFIN : Hid (pcesL (l.take k) gen ++ (piecesL x gen).take i = pcesL (l.take (k + 1)) gen) := Lib.hid (by
            rw [HPS.out, show (piecesL x gen).take i = piecesL x gen from List.take_of_length_le (by rw [HPLN.out]; exact Nat.le_refl _)])
          rw [show a1 + i = at0 + usedL (l.take (k + 1)) from HAU.out]
          go_wp2_with fail
          exact ⟨⟨k + 1, _, _, _, _, by rw [← HM.out]; omega, by go_num, by simp, by rw [← HFIN.out]; exact HI2.out⟩, by simp [intOf]; omega⟩
    · obtain rfl : k = m := by omega
      obtain ⟨⟨sa1, sn1, sc1, rfl⟩, ⟨pa1, pn1, pc1, rfl⟩⟩ := slices_of HI.out.rest.rest
      have HALLK : Hid (l.take k = l) := Lib.hid (by rw [HM.out, List.take_length])
      rw [HALLK.out] at HI ⊢
      go_wp2_with (first
        | (refine wpList_load_dsk rfl (.tmp 4) rfl w.heap.size [.slice sa1 sn1 sc1, .slice pa1 pn1 pc1, .int .i64 l1, .bool b1] (by rfl) rfl HI.out.row ?_)
        | (refine wpList_store_ags rfl 25 (.tmp 8) (.tmp 47) rfl (w.heap.size + 1) [.slice sa1 sn1 sc1, .slice pa1 pn1 pc1, .int .i64 l1, .bool b1] _ size25 (by rfl) rfl rfl HI.out.res (by rfl) HI.out.bel (by omega) ?_; intro w9 hr hb hf))
      refine bodyPost_ret (results_dsk Try.results70 _ w9 (w.heap.size + 1) _ rfl rfl (.int .i64 0) rfl hr) rfl ?_
      exact ⟨.slice sa1 sn1 sc1, .slice pa1 pn1 pc1, l1, b1, rfl, (HI.out.rest.keep (.far (w.heap.size + 1) (fun h => by rcases h with h | h; exact absurd h.2 (by omega); omega) hf)).weak (fun b h1 _ => by
        rcases h1 with h1 | h1
        · exact .inl h1.1
        · exact .inr (by omega)), hb⟩
end Go.Proofs.Ytlaaolbdadempaa

/- Sync: the program's function. -/
namespace Go.Proofs.Ytlaaolbdadempaa
open Go.RowKit

theorem nrest_drop {B : Nat} {w : World} {xs : List (List UInt8)} {b off n cap : Nat} (h : NRest B w xs (.slice (some ⟨b, off, none⟩) n cap)) (k : Nat) (hk : k ≤ n) : NRest B w (xs.drop k) (.slice (some ⟨b, off + k, none⟩) (n - k) (cap - k)) := by
  obtain ⟨a2, cap2, he, h2, h3, h4, h5⟩ := h
  injection he with he1 he2 he3
  subst he1 he2 he3
  refine ⟨_, cap - k, by rw [List.length_drop], by rw [List.length_drop]; omega, by omega, (fun h => by cases h), ?_⟩
  rcases h5 with h5 | ⟨b2, off2, ha, hb, hc⟩
  · exact .inl (by rw [List.length_drop]; omega)
  · injection ha with ha
    injection ha with ha1 ha2
    subst ha1 ha2
    refine .inr ⟨b, off + k, rfl, hb, fun i x hi => ?_⟩
    rw [List.getElem?_drop] at hi
    rw [Nat.add_assoc]
    exact hc (k + i) x hi
/-- the four blocks of Sync -/
structure Sy4 (w : World) (c2 c3 c4 c5 : List Value) (wr : World) : Prop where
  r2 : Row wr w.heap.size 55 c2
  r3 : Row wr (w.heap.size + 1) 25 c3
  r4 : Row wr (w.heap.size + 2) 55 c4
  r5 : Row wr (w.heap.size + 3) 25 c5
  bel : Below w.heap.size w wr
theorem Sy4.keep {w wr wr' : World} {c2 c3 c4 c5 : List Value} (h : Sy4 w c2 c3 c4 c5 wr) (hb : Below wr.heap.size wr wr') : Sy4 w c2 c3 c4 c5 wr' :=
  ⟨h.r2.keep hb, h.r3.keep hb, h.r4.keep hb, h.r5.keep hb, below_next h.bel hb⟩
def zJc : List Value := [.slice none 0 0, .int .i64 0, .int .i64 0]
def zDc : List Value := [.slice none 0 0, .slice none 0 0, .int .i64 0, .bool false]
theorem sy4_new (w : World) (c2 c3 : List Value) : Sy4 w c2 c3 zJc zDc ((((w.alloc (.cells c2.toArray 55)).alloc (.cells c3.toArray 25)).alloc (.cells zJc.toArray 55)).alloc (.cells zDc.toArray 25)) := by
  have r2 := row_new w 55 c2
  have r3 := row_new (w.alloc (.cells c2.toArray 55)) 25 c3
  have r4 := row_new ((w.alloc (.cells c2.toArray 55)).alloc (.cells c3.toArray 25)) 55 zJc
  have r5 := row_new (((w.alloc (.cells c2.toArray 55)).alloc (.cells c3.toArray 25)).alloc (.cells zJc.toArray 55)) 25 zDc
  simp only [World.size_alloc] at r3 r4 r5
  exact ⟨((r2.keep (Joins.below_alloc1 _ _)).keep (Joins.below_alloc1 _ _)).keep (Joins.below_alloc1 _ _), (r3.keep (Joins.below_alloc1 _ _)).keep (Joins.below_alloc1 _ _), r4.keep (Joins.below_alloc1 _ _), r5, (below_two w _ _).trans ((below_two _ _ _).mono (by simp; omega))⟩
theorem results_sy {fn : Func} {p q r : Tmp} (h : fn.results = #[.cell p 55, .cell q 25, .tmp r]) (tmps : Array Value) (w : World) (g g2 : Nat) (cs cs2 : List Value) (hl : cs.length = 3) (hl2 : cs2.length = 4)
    (hp : tmps.getD p undef = .pointer (some ⟨g, 0, none⟩)) (hq : tmps.getD q undef = .pointer (some ⟨g2, 0, none⟩)) (x : Value) (hx : tmps.getD r undef = x) (hg : Row w g 55 cs) (hg2 : Row w g2 25 cs2) :
    (results fn tmps).run Try.prog w = .ok (.tuple #[.agg cs.toArray, .agg cs2.toArray, x]) w := by
  have hr : (loadVar 55 ⟨g, 0, none⟩).run Try.prog w = .ok (.agg cs.toArray) w := run_loadVar_row (P := Try.prog) w g 55 55 cs.toArray (0, 0) _ hg Try.underlying55 rfl (by rw [size55]; simp [hl])
  have hr2 : (loadVar 25 ⟨g2, 0, none⟩).run Try.prog w = .ok (.agg cs2.toArray) w := run_loadVar_row (P := Try.prog) w g2 25 25 cs2.toArray (0, 0) _ hg2 Try.underlying25 rfl (by rw [size25]; simp [hl2])
  have hp' : tmps[p]?.getD undef = .pointer (some ⟨g, 0, none⟩) := by simpa using hp
  have hq' : tmps[q]?.getD undef = .pointer (some ⟨g2, 0, none⟩) := by simpa using hq
  have hx' : tmps[r]?.getD undef = x := by simpa using hx
  simp [results, h, hp', hq', hx', asAddr, hr, hr2, Sem.run_bind]
def SyRefuse (w : World) (code : Int) (e : Ending) (w' : World) : Prop :=
  e = .returned (.tuple #[.agg #[.slice none 0 0, .int .i64 0, .int .i64 0], .agg #[.slice none 0 0, .slice none 0 0, .int .i64 0, .bool false], .int .i64 code]) ∧ Below w.heap.size w w'
set_option maxHeartbeats 8000000 in
set_option maxRecDepth 100000 in
theorem sync_refuse (j : Jnl) (v : Value) (d : Dsk) (s p : Value) (w : World) (h : NRest w.heap.size w j.recs v) (hj : Mild j) (hd : DRest w.heap.size w d (dv s p d.left d.stop)) (code : Int) (hc : chkB j d = code) (hz : code ≠ 0) :
    Calls Try.prog 47 #[jv v j.many j.synced, dv s p d.left d.stop] w (SyRefuse w code) := by
  have HC : Hid (∀ W, Below w.heap.size w W → Calls Try.prog 68 #[jv v j.many j.synced, dv s p d.left d.stop] W fun e w' => e = .returned (.int .i64 code) ∧ Below W.heap.size W w') := Lib.hid (fun W hW => by
    have := checkBoth_call j v d s p W (h.keep hW) hj (hd.keep hW); rwa [hc] at this)
  obtain ⟨_, _, ⟨a, c, rfl⟩, ⟨a2, c2, rfl⟩⟩ := drest_left hd
  obtain ⟨ja, jc, rfl, _, _⟩ := h.shape
  clear h hj hd hc
  unfold jv dv at *
  generalize j.recs.length = jn at *
  generalize j.many = jm at *
  generalize j.synced = js at *
  generalize d.secs.length = n at *
  generalize d.pend.length = m at *
  generalize d.left = lf at *
  generalize d.stop = st at *
  have HS := Lib.hid (sy4_new w [.slice ja jn jc, .int .i64 jm, .int .i64 js] [.slice a n c, .slice a2 m c2, .int .i64 lf, .bool st])
  unfold zJc zDc at HS
  go_enter Try.func47, Try.ntmps47
  go_wp2_with (first
    | (go_at_call 68; refine (HC.out _ HS.out.bel).mono ?_; rintro e w2 ⟨rfl, hb⟩; replace HS := Lib.hid (HS.out.keep hb); clear hb)
    | (refine wpList_store_ags rfl 55 (.tmp 4) (.tmp 15) rfl (w.heap.size + 2) zJc _ size55 (by rfl) rfl rfl HS.out.r4 (by rfl) HS.out.bel (by omega) ?_; intro w3 hr hb hf; have HR4 := Lib.hid hr; have HR5 := Lib.hid (HS.out.r5.same (hf _ (by omega))); have HB := Lib.hid hb; clear hr hb hf)
    | (refine wpList_store_ags rfl 25 (.tmp 5) (.tmp 16) rfl (w.heap.size + 3) zDc _ size25 (by rfl) rfl rfl HR5.out (by rfl) HB.out (by omega) ?_; intro w4 hr hb hf; replace HR4 := Lib.hid (HR4.out.same (hf _ (by omega))); replace HR5 := Lib.hid hr; replace HB := Lib.hid hb; clear hr hb hf))
  exact bodyPost_ret (results_sy Try.results47 _ w4 (w.heap.size + 2) (w.heap.size + 3) _ _ rfl rfl rfl rfl _ rfl HR4.out HR5.out) rfl ⟨rfl, HB.out⟩
end Go.Proofs.Ytlaaolbdadempaa

/- Sync: the program's function, where it goes on. -/
namespace Go.Proofs.Ytlaaolbdadempaa
open Go.RowKit

/-- what Sync answers -/
def SyAns (S : Nat → Prop) (w : World) (r : Jnl × Dsk × Int) (e : Ending) (w' : World) : Prop :=
  ∃ v s p l b, e = .returned (.tuple #[jv v r.1.many r.1.synced, dv s p l b, .int .i64 r.2.2]) ∧ NRestS (Ext S w.heap.size) w' r.1.recs v ∧ DRestS (Ext S w.heap.size) w' r.2.1 (dv s p l b) ∧ Below w.heap.size w w'
structure JOk (j : Jnl) (d : Dsk) (sn : Nat) : Prop where
  runs : Runs d
  pend : d.pend = []
  many : j.many = (d.secs.length : Int)
  syn : j.synced = (sn : Int)
  sle : sn ≤ j.recs.length
  used : usedL j.recs ≤ d.secs.length
  recs : recsL d.secs = j.recs.take sn
theorem JOk.of {j : Jnl} {d : Dsk} (h : chkB j d = 0) : JOk j d j.synced.toNat := by
  unfold chkB at h
  split at h
  · rename_i hj
    split at h
    · contradiction
    · rename_i hd
      split at h
      · cases h
      · rename_i hm
        split at h
        · rename_i hr
          unfold jokB at hj
          simp at hj
          have hd2 : chkD d = 0 := by omega
          unfold chkD at hd2
          split at hd2
          · rename_i hv
            split at hd2
            · cases hd2
            · rename_i hs
              split at hd2
              · cases hd2
              · rename_i hp
                exact ⟨Runs.of (d := d) (by unfold runsB; simp [hv]; simpa using hs), List.eq_nil_of_length_eq_zero (by omega), by omega, by omega, by omega, by omega, hr⟩
          · cases hd2
        · cases h
  · cases h
theorem JOk.chk {j : Jnl} {d : Dsk} {sn : Nat} (h : JOk j d sn) : chkB j d = 0 := by
  have hj : jokB j = true := by unfold jokB; have := h.runs.pos; have := h.runs.most; have := h.many; have := h.syn; have := h.sle; have := h.used; simp; omega
  have hd : chkD d = 0 := by
    unfold chkD
    have h1 := h.runs.valid
    have h2 := h.runs.stop
    have h3 := h.pend
    simp [h1, h2, h3]
  unfold chkB
  rw [if_pos hj, if_neg (by simp [hd]), if_neg (by simp [h.many]), if_pos (by rw [h.syn, Int.toNat_natCast]; exact h.recs)]
theorem JOk.wok {j : Jnl} {d : Dsk} {sn : Nat} (h : JOk j d sn) : Wok d 0 d := ⟨h.runs, rfl, by rw [h.pend]; rfl, rfl, rfl⟩
theorem len_used {l : List (List UInt8)} {x : List UInt8} (h : x ∈ l) : x.length ≤ usedL l * 112 := by
  induction l with
  | nil => cases h
  | cons y l ih =>
    have e : usedL (y :: l) = secsOf y.length + usedL l := by simp [usedL]
    have h2 : y.length ≤ secsOf y.length * 112 := by unfold secsOf; omega
    rw [e, Nat.add_mul]
    rcases List.mem_cons.1 h with h | h
    · subst h; omega
    · have := ih h; omega
theorem JOk.len {j : Jnl} {d : Dsk} {sn : Nat} (h : JOk j d sn) : ∀ x ∈ j.recs, x.length ≤ 1000000 := fun x hx => by
  have h1 := len_used hx
  have h2 := h.used
  have h3 := h.runs.most
  omega
theorem used_split (l : List (List UInt8)) (k : Nat) : usedL (l.take k) + usedL (l.drop k) = usedL l := by
  unfold usedL
  rw [← List.sum_append, ← List.map_append, List.take_append_drop]
theorem JOk.mild {j : Jnl} {d : Dsk} {sn : Nat} (h : JOk j d sn) : Mild j := ⟨by have := h.used; have := h.runs.most; omega, fun x hx => by have := h.len x hx; omega⟩
theorem syncJ_eq {j : Jnl} {d : Dsk} {sn : Nat} (h : JOk j d sn) : syncJ j d =
    if lastGen d.secs = 4294967295 then (zeroJ, zeroD, 50)
    else if j.recs.drop sn = [] then (j, d, 0)
    else if (syncD (writesD d (usedL (j.recs.take sn)) (pcesL (j.recs.drop sn) (lastGen d.secs + 1)))).2 ≠ 0 then (zeroJ, (syncD (writesD d (usedL (j.recs.take sn)) (pcesL (j.recs.drop sn) (lastGen d.secs + 1)))).1, (syncD (writesD d (usedL (j.recs.take sn)) (pcesL (j.recs.drop sn) (lastGen d.secs + 1)))).2)
    else ({ j with synced := j.recs.length }, (syncD (writesD d (usedL (j.recs.take sn)) (pcesL (j.recs.drop sn) (lastGen d.secs + 1)))).1, 0) := by
  unfold syncJ
  rw [if_neg (by rw [h.chk]; simp)]
  simp only [h.syn, Int.toNat_natCast]
end Go.Proofs.Ytlaaolbdadempaa

/- Sync: the program's function, where it goes on, walked. -/
namespace Go.Proofs.Ytlaaolbdadempaa
open Go.RowKit

def box3 (W : World) (g : Nat) (a b c : Value) : World := ((W.setCell ⟨g, 0, none⟩ a).setCell ⟨g, 1, none⟩ b).setCell ⟨g, 2, none⟩ c
theorem box3_far (W : World) (g : Nat) (a b c : Value) (k : Nat) (h : k ≠ g) : (box3 W g a b c).heap[k]? = W.heap[k]? := by
  unfold box3
  rw [heap_setCell_other _ ⟨g, 2, none⟩ k _ h, heap_setCell_other _ ⟨g, 1, none⟩ k _ h, heap_setCell_other _ ⟨g, 0, none⟩ k _ h]
theorem row_set3 {w : World} {g T : Nat} {a b c : Value} (h : Row w g T [a, b, c]) (a' b' c' : Value) : Row (box3 w g a' b' c') g T [a', b', c'] :=
  ((h.set 0 a' (cs' := [a', b, c]) rfl).set 1 b' (cs' := [a', b', c]) rfl).set 2 c' (cs' := [a', b', c']) rfl
theorem Sy4.over4 {w W : World} {c2 c3 c5 : List Value} {a b c : Value} (h : Sy4 w c2 c3 [a, b, c] c5 W) (a' b' c' : Value) : Sy4 w c2 c3 [a', b', c'] c5 (box3 W (w.heap.size + 2) a' b' c') :=
  ⟨h.r2.same (box3_far _ _ _ _ _ _ (by omega)), h.r3.same (box3_far _ _ _ _ _ _ (by omega)), row_set3 h.r4 _ _ _, h.r5.same (box3_far _ _ _ _ _ _ (by omega)), below_setCell (below_setCell (below_setCell h.bel _ 0 _ (by omega)) _ 1 _ (by omega)) _ 2 _ (by omega)⟩
theorem Sy4.over5 {w W : World} {c2 c3 c4 : List Value} {a b c e : Value} (h : Sy4 w c2 c3 c4 [a, b, c, e] W) (s p : Value) (l : Int) (t : Bool) : Sy4 w c2 c3 c4 [s, p, .int .i64 l, .bool t] (box4 W (w.heap.size + 3) s p l t) :=
  ⟨h.r2.same (box4_far _ _ _ _ _ _ _ (by omega)), h.r3.same (box4_far _ _ _ _ _ _ _ (by omega)), h.r4.same (box4_far _ _ _ _ _ _ _ (by omega)), row_set4 h.r5 _ _ _ _, below4 h.bel _ _ _ _ _ (by omega)⟩
theorem Sy4.drew {w W : World} {c2 c3 c4 c5 : List Value} (h : Sy4 w c2 c3 c4 c5 W) : Sy4 w c2 c3 c4 c5 W.drew := h.keep (below_drew (Below.refl _ _))
theorem NRestS.exts {S : Nat → Prop} {w W : World} {xs : List (List UInt8)} {v : Value} (h : NRestS S w xs v) (hb : Below w.heap.size w W) : NRestS (Ext S w.heap.size) W xs v := (h.later hb).weak (fun _ h _ => .inl h.1)
theorem DRestS.exts {S : Nat → Prop} {w W : World} {d : Dsk} {v : Value} (h : DRestS S w d v) (hb : Below w.heap.size w W) : DRestS (Ext S w.heap.size) W d v := (h.later hb).weak (fun _ h _ => .inl h.1)
set_option maxHeartbeats 16000000 in
set_option maxRecDepth 100000 in
theorem sync_none (S : Nat → Prop) (j : Jnl) (v : Value) (d : Dsk) (s p : Value) (w : World) (sn : Nat) (h : NRestS S w j.recs v) (hd : DRestS S w d (dv s p d.left d.stop)) (hk : JOk j d sn) (hno : j.recs.drop sn = []) :
    Calls Try.prog 47 #[jv v j.many j.synced, dv s p d.left d.stop] w (SyAns S w (syncJ j d)) := by
  have HC : Hid (∀ W, Below w.heap.size w W → Calls Try.prog 68 #[jv v j.many j.synced, dv s p d.left d.stop] W fun e w' => e = .returned (.int .i64 0) ∧ Below W.heap.size W w') := Lib.hid (fun W hW => by
    have := checkBoth_call j v d s p W (h.rest.keep hW) hk.mild (hd.rest.keep hW); rwa [hk.chk] at this)
  have HR : Hid (syncJ j d = if lastGen d.secs = 4294967295 then (zeroJ, zeroD, 50) else (j, d, 0)) := Lib.hid (by rw [syncJ_eq hk, if_pos hno])
  have HH := Lib.hid h
  have HD := Lib.hid hd
  have hlgt := lastGen_lt d.secs
  have HLG : Hid (∀ (a : Option Addr) (n c : Nat) W, NRest w.heap.size w d.secs (.slice a n c) → Below w.heap.size w W → Calls Try.prog 69 #[.slice a n c] W fun e w' => e = .returned (.int .u32 (lastGen d.secs : Int)) ∧ Below W.heap.size W w') := Lib.hid (fun a n c W hn hW => lastGen_call d.secs _ W (hn.keep hW) hk.runs.secs)
  obtain ⟨_, _, ⟨a, c, rfl⟩, ⟨a2, c2, rfl⟩⟩ := drest_left hd.rest
  have hsec : NRest w.heap.size w d.secs (.slice a d.secs.length c) := by
    obtain ⟨s', p', he, h1, h2⟩ := hd.rest
    unfold dv dskOf dskCells at he
    simp at he
    rw [he.1]; exact h1
  have HLG2 := Lib.hid (fun W hW => HLG.out a d.secs.length c W hsec hW)
  clear HLG
  obtain ⟨ja, jc, rfl, hjc, hjc2⟩ := h.rest.shape
  have hjci : (j.recs.length : Int) ≤ (jc : Int) := by omega
  have hsl : j.recs.length = sn := by have := List.drop_eq_nil_iff.1 hno; have := hk.sle; omega
  have hsy := hk.syn
  obtain rfl : sn = j.recs.length := hsl.symm
  clear h hd hk hno hsec hsl
  have HSY := Lib.hid hsy
  rw [hsy] at HC ⊢
  obtain ⟨jn, hjn⟩ : ∃ jn, jn = j.recs.length := ⟨_, rfl⟩
  rw [← hjn] at HC HH HSY hjci ⊢
  obtain ⟨lg, hlg⟩ : ∃ lg, lg = lastGen d.secs := ⟨_, rfl⟩
  rw [← hlg] at HLG2 HR hlgt
  obtain ⟨r, hr⟩ : ∃ r, r = syncJ j d := ⟨_, rfl⟩
  rw [← hr] at HR ⊢
  clear hlg hr
  unfold jv dv at *
  obtain ⟨n, hn⟩ : ∃ n, n = d.secs.length := ⟨_, rfl⟩
  obtain ⟨m, hm⟩ : ∃ m, m = d.pend.length := ⟨_, rfl⟩
  rw [← hn] at HC HD HLG2 ⊢
  rw [← hm] at HC HD ⊢
  obtain ⟨lf, hlf⟩ : ∃ lf, lf = d.left := ⟨_, rfl⟩
  obtain ⟨st, hst⟩ : ∃ st, st = d.stop := ⟨_, rfl⟩
  obtain ⟨jm, hjm⟩ : ∃ jm, jm = j.many := ⟨_, rfl⟩
  rw [← hlf, ← hst] at HC HD ⊢
  rw [← hjm] at HC ⊢
  have HJM := Lib.hid hjm
  clear hn hm hlf hst hjm hsy hjn
  have HS := Lib.hid (sy4_new w [.slice ja jn jc, .int .i64 jm, .int .i64 jn] [.slice a n c, .slice a2 m c2, .int .i64 lf, .bool st])
  unfold zJc zDc at HS
  by_cases hl : lg = 4294967295
  · replace HR := Lib.hid (show r = (zeroJ, zeroD, 50) from by rw [HR.out]; simp [hl])
    have hli : (lg : Int) = 4294967295 := by omega
    clear hl
    go_enter Try.func47, Try.ntmps47
    go_wp2_with (first
      | (go_at_call 68; refine (HC.out _ HS.out.bel).mono ?_; rintro e w2 ⟨rfl, hb⟩; replace HS := Lib.hid (HS.out.keep hb); have x0 := HS.out.r3.cell (i := 0) rfl; clear hb)
      | (go_at_call 69; refine (HLG2.out _ HS.out.bel).mono ?_; rintro e w2 ⟨rfl, hb⟩; replace HS := Lib.hid (HS.out.keep hb); clear hb)
      | (refine wpList_store_ags rfl 55 (.tmp 4) (.tmp 23) rfl (w.heap.size + 2) zJc _ size55 (by rfl) rfl rfl HS.out.r4 (by rfl) HS.out.bel (by omega) ?_; intro w3 hr hb hf; have HR4 := Lib.hid hr; have HR5 := Lib.hid (HS.out.r5.same (hf _ (by omega))); have HB := Lib.hid hb; clear hr hb hf)
      | (refine wpList_store_ags rfl 25 (.tmp 5) (.tmp 24) rfl (w.heap.size + 3) zDc _ size25 (by rfl) rfl rfl HR5.out (by rfl) HB.out (by omega) ?_; intro w4 hr hb hf; replace HR4 := Lib.hid (HR4.out.same (hf _ (by omega))); replace HR5 := Lib.hid hr; replace HB := Lib.hid hb; clear hr hb hf))
    refine bodyPost_ret (results_sy Try.results47 _ w4 (w.heap.size + 2) (w.heap.size + 3) _ _ rfl rfl rfl rfl _ rfl HR4.out HR5.out) rfl ?_
    rw [HR.out]
    unfold SyAns
    exact ⟨_, _, _, _, _, rfl, nrests_nil _ _, drests_zero _ _, HB.out⟩
  · replace HR := Lib.hid (show r = (j, d, 0) from by rw [HR.out]; simp [hl])
    have hlz : ¬ (lg : Int) = 4294967295 := by omega
    go_enter Try.func47, Try.ntmps47
    go_wp2_with (first
      | (go_at_call 68; refine (HC.out _ HS.out.bel).mono ?_; rintro e w2 ⟨rfl, hb⟩; replace HS := Lib.hid (HS.out.keep hb); have x0 := HS.out.r3.cell (i := 0) rfl; clear hb)
      | (go_at_call 69; refine (HLG2.out _ HS.out.bel).mono ?_; rintro e w3 ⟨rfl, hb⟩; replace HS := Lib.hid (HS.out.keep hb); clear hb x0; have j0 := HS.out.r2.cell (i := 0) rfl; have j1 := HS.out.r2.cell (i := 1) rfl; have j2 := HS.out.r2.cell (i := 2) rfl)
      | go_quiet (fail))
    · have hcj : jc = jn := by omega
      subst hcj
      have HW9 : Hid (Sy4 w _ _ _ _ (w3.drewN nq)) := Lib.hid (HS.out.keep (below_drewN (Below.refl _ _) nq))
      generalize w3.drewN nq = W9 at HW9 ⊢
      clear HC HLG2 HS j0 j1 j2
      have a0 := HW9.out.r2.cell (i := 0) rfl
      have a1 := HW9.out.r2.cell (i := 1) rfl
      have a2' := HW9.out.r2.cell (i := 2) rfl
      have b0 := HW9.out.r3.cell (i := 0) rfl
      have b1 := HW9.out.r3.cell (i := 1) rfl
      have b2 := HW9.out.r3.cell (i := 2) rfl
      have b3 := HW9.out.r3.cell (i := 3) rfl
      have q0 := HW9.out.r4.cell (i := 0) rfl
      have q1 := HW9.out.r4.cell (i := 1) rfl
      have q2 := HW9.out.r4.cell (i := 2) rfl
      have k0 := HW9.out.r4.free 0
      have k1 := HW9.out.r4.free 1
      have k2 := HW9.out.r4.free 2
      have u0 := HW9.out.r5.cell (i := 0) rfl
      have u1 := HW9.out.r5.cell (i := 1) rfl
      have u2 := HW9.out.r5.cell (i := 2) rfl
      have u3 := HW9.out.r5.cell (i := 3) rfl
      have v0 := HW9.out.r5.free 0
      have v1 := HW9.out.r5.free 1
      have v2 := HW9.out.r5.free 2
      have v3 := HW9.out.r5.free 3
      refine' cut1 (F := fun W => ∃ x y0 y1 y2, x = .slice y0 y1 y2 ∧ NRestS S w j.recs x ∧ Sy4 w [x, .int .i64 jm, .int .i64 jc] [.slice a n c, .slice a2 m c2, .int .i64 lf, .bool st] [x, .int .i64 jm, .int .i64 jc] [.slice a n c, .slice a2 m c2, .int .i64 lf, .bool st] W) _ ?r9 ?k9
      case r9 =>
        intro K
        go_region_law (fail)
        all_goals
          obtain ⟨WZ, hWZ⟩ : ∃ WZ, WZ = (box4 (box3 W9 (w.heap.size + 1 + 1) (.slice ja jc jc) (.int .i64 jm) (.int .i64 jc)) (w.heap.size + 1 + 1 + 1) (.slice a n c) (.slice a2 m c2) lf st).drew := ⟨_, rfl⟩
          have hF : Sy4 w [.slice ja jc jc, .int .i64 jm, .int .i64 jc] [.slice a n c, .slice a2 m c2, .int .i64 lf, .bool st] [.slice ja jc jc, .int .i64 jm, .int .i64 jc] [.slice a n c, .slice a2 m c2, .int .i64 lf, .bool st] WZ := by rw [hWZ]; exact ((HW9.out.over4 _ _ _).over5 _ _ _ _).drew
          unfold box4 box3 at hWZ
          rw [← hWZ]
          exact K WZ ⟨_, _, _, _, rfl, HH.out, hF⟩
      case k9 =>
        rintro W ⟨_, y0, y1, y2, rfl, hx, hW⟩
        clear HW9 a0 a1 a2' b0 b1 b2 b3 q0 q1 q2 k0 k1 k2 u0 u1 u2 u3 v0 v1 v2 v3
        go_wp2_with fail
        refine bodyPost_ret (results_sy Try.results47 _ W (w.heap.size + 2) (w.heap.size + 3) _ _ rfl rfl rfl rfl (.int .i64 0) rfl hW.r4 hW.r5) rfl ?_
        rw [HR.out, HJM.out, ← HSY.out]
        unfold SyAns
        exact ⟨_, _, _, _, _, rfl, hx.exts hW.bel, HD.out.exts hW.bel, hW.bel⟩
    · have HW9 : Hid (Sy4 w _ _ _ _ (w3.drewN nq)) := Lib.hid (HS.out.keep (below_drewN (Below.refl _ _) nq))
      generalize w3.drewN nq = W9 at HW9 ⊢
      clear HC HLG2 HS j0 j1 j2
      have a0 := HW9.out.r2.cell (i := 0) rfl
      have a1 := HW9.out.r2.cell (i := 1) rfl
      have a2' := HW9.out.r2.cell (i := 2) rfl
      have b0 := HW9.out.r3.cell (i := 0) rfl
      have b1 := HW9.out.r3.cell (i := 1) rfl
      have b2 := HW9.out.r3.cell (i := 2) rfl
      have b3 := HW9.out.r3.cell (i := 3) rfl
      have q0 := HW9.out.r4.cell (i := 0) rfl
      have q1 := HW9.out.r4.cell (i := 1) rfl
      have q2 := HW9.out.r4.cell (i := 2) rfl
      have k0 := HW9.out.r4.free 0
      have k1 := HW9.out.r4.free 1
      have k2 := HW9.out.r4.free 2
      have u0 := HW9.out.r5.cell (i := 0) rfl
      have u1 := HW9.out.r5.cell (i := 1) rfl
      have u2 := HW9.out.r5.cell (i := 2) rfl
      have u3 := HW9.out.r5.cell (i := 3) rfl
      have v0 := HW9.out.r5.free 0
      have v1 := HW9.out.r5.free 1
      have v2 := HW9.out.r5.free 2
      have v3 := HW9.out.r5.free 3
      refine' cut1 (F := fun W => ∃ x y0 y1 y2, x = .slice y0 y1 y2 ∧ NRestS S w j.recs x ∧ Sy4 w [x, .int .i64 jm, .int .i64 jn] [.slice a n c, .slice a2 m c2, .int .i64 lf, .bool st] [x, .int .i64 jm, .int .i64 jn] [.slice a n c, .slice a2 m c2, .int .i64 lf, .bool st] W) _ ?r9 ?k9
      case r9 =>
        intro K
        go_region_law (fail)
        all_goals
          obtain ⟨WZ, hWZ⟩ : ∃ WZ, WZ = (box4 (box3 W9 (w.heap.size + 1 + 1) (.slice ja jn jc) (.int .i64 jm) (.int .i64 jn)) (w.heap.size + 1 + 1 + 1) (.slice a n c) (.slice a2 m c2) lf st).drew := ⟨_, rfl⟩
          have hF : Sy4 w [.slice ja jn jc, .int .i64 jm, .int .i64 jn] [.slice a n c, .slice a2 m c2, .int .i64 lf, .bool st] [.slice ja jn jc, .int .i64 jm, .int .i64 jn] [.slice a n c, .slice a2 m c2, .int .i64 lf, .bool st] WZ := by rw [hWZ]; exact ((HW9.out.over4 _ _ _).over5 _ _ _ _).drew
          unfold box4 box3 at hWZ
          rw [← hWZ]
          exact K WZ ⟨_, _, _, _, rfl, HH.out, hF⟩
      case k9 =>
        rintro W ⟨_, y0, y1, y2, rfl, hx, hW⟩
        clear HW9 a0 a1 a2' b0 b1 b2 b3 q0 q1 q2 k0 k1 k2 u0 u1 u2 u3 v0 v1 v2 v3
        go_wp2_with fail
        refine bodyPost_ret (results_sy Try.results47 _ W (w.heap.size + 2) (w.heap.size + 3) _ _ rfl rfl rfl rfl (.int .i64 0) rfl hW.r4 hW.r5) rfl ?_
        rw [HR.out, HJM.out, ← HSY.out]
        unfold SyAns
        exact ⟨_, _, _, _, _, rfl, hx.exts hW.bel, HD.out.exts hW.bel, hW.bel⟩
end Go.Proofs.Ytlaaolbdadempaa

/- Sync: the program's function, where it writes, walked. -/
namespace Go.Proofs.Ytlaaolbdadempaa
open Go.RowKit

theorem Sy4.lt {w W : World} {c2 c3 c4 c5 : List Value} (h : Sy4 w c2 c3 c4 c5 W) : w.heap.size + 3 < W.heap.size := h.r5.lt
def Tset (S : Nat → Prop) (n : Nat) : Nat → Prop := Ext (Cut S n) (n + 4)
theorem tset_new {S : Nat → Prop} {n m : Nat} (h : n + 4 ≤ m) {W : World} {d : Dsk} {v : Value} (hd : DRestS (Ext (Cut S n) m) W d v) : DRestS (Tset S n) W d v := hd.weak (fun b h1 _ => by
  rcases h1 with h1 | h1
  · exact .inl h1
  · exact .inr (Nat.le_trans h h1))
theorem tset_end {S : Nat → Prop} {n m : Nat} (h : n ≤ m) {W : World} {d : Dsk} {v : Value} (hd : DRestS (Ext (Tset S n) m) W d v) : DRestS (Ext S n) W d v := hd.weak (fun b h1 _ => by
  rcases h1 with h1 | h1
  · rcases h1 with h1 | h1
    · exact .inl h1.1
    · exact .inr (by have h2 : n + 4 ≤ b := h1; show n ≤ b; omega)
  · exact .inr (Nat.le_trans h h1))
theorem tset_no {S : Nat → Prop} {n k : Nat} (h : Ext (Tset S n) (n + 4) k) (h1 : n ≤ k) (h2 : k < n + 4) : False := by
  rcases h with h | h
  · rcases h with h | h
    · exact absurd h.2 (by omega)
    · have h3 : n + 4 ≤ k := h
      omega
  · have h3 : n + 4 ≤ k := h
    omega
theorem box3_size (W : World) (g : Nat) (a b c : Value) : (box3 W g a b c).heap.size = W.heap.size := by unfold box3; simp
theorem box4_size (W : World) (g : Nat) (a b : Value) (c : Int) (d : Bool) : (box4 W g a b c d).heap.size = W.heap.size := by unfold box4; simp
set_option maxHeartbeats 16000000 in
set_option maxRecDepth 100000 in
theorem sync_some (S : Nat → Prop) (j : Jnl) (v : Value) (d : Dsk) (s p : Value) (w : World) (sn : Nat) (h : NRestS S w j.recs v) (hd : DRestS S w d (dv s p d.left d.stop)) (hk : JOk j d sn) (hno : j.recs.drop sn ≠ []) (hlg9 : lastGen d.secs ≠ 4294967295) :
    Calls Try.prog 47 #[jv v j.many j.synced, dv s p d.left d.stop] w (SyAns S w (syncJ j d)) := by
  have HC : Hid (∀ W, Below w.heap.size w W → Calls Try.prog 68 #[jv v j.many j.synced, dv s p d.left d.stop] W fun e w' => e = .returned (.int .i64 0) ∧ Below W.heap.size W w') := Lib.hid (fun W hW => by
    have := checkBoth_call j v d s p W (h.rest.keep hW) hk.mild (hd.rest.keep hW); rwa [hk.chk] at this)
  have HR := syncJ_eq hk
  rw [if_neg hlg9, if_neg hno] at HR
  have HH := Lib.hid h
  have HD := Lib.hid hd
  have hlgt := lastGen_lt d.secs
  have hsl : sn < j.recs.length := by
    rcases Nat.lt_or_ge sn j.recs.length with h1 | h1
    · exact h1
    · exact absurd (List.drop_eq_nil_of_le h1) hno
  have HLG : Hid (∀ (a : Option Addr) (n c : Nat) W, NRest w.heap.size w d.secs (.slice a n c) → Below w.heap.size w W → Calls Try.prog 69 #[.slice a n c] W fun e w' => e = .returned (.int .u32 (lastGen d.secs : Int)) ∧ Below W.heap.size W w') := Lib.hid (fun a n c W hn hW => lastGen_call d.secs _ W (hn.keep hW) hk.runs.secs)
  have HWR0 : Hid (∀ (u : Value) W, NRest w.heap.size w (j.recs.drop sn) u → Below w.heap.size w W → Calls Try.prog 70 #[dv s p d.left d.stop, .int .i64 (usedL (j.recs.take sn) : Int), u, .int .u32 ((lastGen d.secs + 1 : Nat) : Int)] W (NewDS (Cut S w.heap.size) W (writesD d (usedL (j.recs.take sn)) (pcesL (j.recs.drop sn) (lastGen d.secs + 1))) 0)) := Lib.hid (fun u W hu hW =>
    writes_call (Cut S w.heap.size) d s p (usedL (j.recs.take sn)) (lastGen d.secs + 1) (j.recs.drop sn) u W (hd.later hW) hk.wok (hu.keep hW) (by omega) (fun x hx => hk.len x (List.mem_of_mem_drop hx)) (by rw [used_split]; exact hk.used))
  have HOC0 : Hid (∀ (u : Value) W, NRest w.heap.size w (j.recs.take sn) u → Below w.heap.size w W → Calls Try.prog 71 #[u] W fun e w' => e = .returned (.int .i64 (usedL (j.recs.take sn) : Int)) ∧ w' = W) := Lib.hid (fun u W hu hW =>
    occupied_call (j.recs.take sn) u W _ (hu.keep hW) (by have := used_split j.recs sn; have := hk.used; have := hk.runs.most; omega) (fun x hx => by have := hk.len x (List.mem_of_mem_take hx); omega))
  obtain ⟨_, _, ⟨a, c, rfl⟩, ⟨a2, c2, rfl⟩⟩ := drest_left hd.rest
  have hsec : NRest w.heap.size w d.secs (.slice a d.secs.length c) := by
    obtain ⟨s', p', he, h1, h2⟩ := hd.rest
    unfold dv dskOf dskCells at he
    simp at he
    rw [he.1]; exact h1
  have HLG2 := Lib.hid (fun W hW => HLG.out a d.secs.length c W hsec hW)
  clear HLG
  obtain ⟨jb, jo, jc, rfl, hjc, hjc2⟩ : ∃ jb jo jc, v = .slice (some ⟨jb, jo, none⟩) j.recs.length jc ∧ j.recs.length ≤ jc ∧ jc ≤ 9223372036854775807 := by
    obtain ⟨a3, c3, he, h1, h2, h3, h4⟩ := h
    rcases h4 with h4 | ⟨b4, o4, h5, _⟩
    · omega
    · exact ⟨b4, o4, c3, by rw [he, h5], h1, h2⟩
  have HOC := Lib.hid (fun W hW => HOC0.out (.slice (some ⟨jb, jo, none⟩) sn jc) W (nrest_take h.rest sn (by omega)) hW)
  have HWR := Lib.hid (fun W hW => HWR0.out (.slice (some ⟨jb, jo + sn, none⟩) (j.recs.length - sn) (jc - sn)) W (nrest_drop h.rest sn (by omega)) hW)
  clear HOC0 HWR0
  have hjci : (j.recs.length : Int) ≤ (jc : Int) := by omega
  have hsi : (sn : Int) ≤ (jc : Int) := by omega
  have hsy := hk.syn
  clear h hd hk hno hsec
  have HSY := Lib.hid hsy
  rw [hsy] at HC ⊢
  obtain ⟨u1, hu1⟩ : ∃ u1, u1 = usedL (j.recs.take sn) := ⟨_, rfl⟩
  obtain ⟨lg, hlg⟩ : ∃ lg, lg = lastGen d.secs := ⟨_, rfl⟩
  rw [← hlg] at HLG2 HR hlgt HWR hlg9
  rw [← hu1] at HOC HWR HR
  obtain ⟨dW, hdW⟩ : ∃ dW, dW = writesD d u1 (pcesL (j.recs.drop sn) (lg + 1)) := ⟨_, rfl⟩
  rw [← hdW] at HR HWR
  obtain ⟨r, hr⟩ : ∃ r, r = syncJ j d := ⟨_, rfl⟩
  rw [← hr] at HR ⊢
  have HSC : Hid (∀ (v : Value) W, DRestS (Tset S w.heap.size) W dW v → Calls Try.prog 30 #[v] W (AnswersS (Tset S w.heap.size) W (syncD dW))) := Lib.hid (fun v W h => sync_call _ dW v W h)
  obtain ⟨jn, hjn⟩ : ∃ jn, jn = j.recs.length := ⟨_, rfl⟩
  rw [← hjn] at HC HH HR HWR hjci hsl hjc ⊢
  obtain ⟨⟨d2, k2⟩, hsd⟩ : ∃ x, x = syncD dW := ⟨_, rfl⟩
  rw [← hsd] at HR HSC
  replace HR := Lib.hid HR
  unfold jv dv at *
  obtain ⟨n, hn⟩ : ∃ n, n = d.secs.length := ⟨_, rfl⟩
  obtain ⟨m, hm⟩ : ∃ m, m = d.pend.length := ⟨_, rfl⟩
  rw [← hn] at HC HD HLG2 HWR ⊢
  rw [← hm] at HC HD HWR ⊢
  obtain ⟨lf, hlf⟩ : ∃ lf, lf = d.left := ⟨_, rfl⟩
  obtain ⟨st, hst⟩ : ∃ st, st = d.stop := ⟨_, rfl⟩
  obtain ⟨jm, hjm⟩ : ∃ jm, jm = j.many := ⟨_, rfl⟩
  rw [← hlf, ← hst] at HC HD HWR ⊢
  rw [← hjm] at HC ⊢
  have HJM := Lib.hid hjm
  have HJN := Lib.hid hjn
  clear hn hm hlf hst hjm hsy hjn hu1 hlg hdW hr hsd
  have HS := Lib.hid (sy4_new w [.slice (some ⟨jb, jo, none⟩) jn jc, .int .i64 jm, .int .i64 sn] [.slice a n c, .slice a2 m c2, .int .i64 lf, .bool st])
  unfold zJc zDc at HS
  have hlz : ¬ (lg : Int) = 4294967295 := by omega
  have hwl : IntKind.u32.wrap ((lg : Int) + 1) = ((lg + 1 : Nat) : Int) := by rw [IntKind.wrap_u32]; omega
  have hsni : (sn : Int) ≤ (jn : Int) := by omega
  have hcs : ¬ jc = sn := by omega
  have hdz : ¬ jn - sn = 0 := by omega
  go_enter Try.func47, Try.ntmps47
  go_wp2_with (first
    | (go_at_call 68; refine (HC.out _ HS.out.bel).mono ?_; rintro e w2 ⟨rfl, hb⟩; replace HS := Lib.hid (HS.out.keep hb); have x0 := HS.out.r3.cell (i := 0) rfl; clear hb)
    | (go_at_call 69; refine (HLG2.out _ HS.out.bel).mono ?_; rintro e w3 ⟨rfl, hb⟩; replace HS := Lib.hid (HS.out.keep hb); clear hb x0; have j0 := HS.out.r2.cell (i := 0) rfl; have j1 := HS.out.r2.cell (i := 1) rfl; have j2 := HS.out.r2.cell (i := 2) rfl)
    | go_quiet (fail))
  have HW9 : Hid (Sy4 w _ _ _ _ (w3.drewN nq)) := Lib.hid (HS.out.keep (below_drewN (Below.refl _ _) nq))
  generalize w3.drewN nq = W9 at HW9 ⊢
  clear HC HLG2 HS j0 j1 j2
  have b0 := HW9.out.r3.cell (i := 0) rfl
  have b1 := HW9.out.r3.cell (i := 1) rfl
  have b2 := HW9.out.r3.cell (i := 2) rfl
  have b3 := HW9.out.r3.cell (i := 3) rfl
  refine' cut9 (F := fun sa4 sn4 sc4 pa4 pn4 pc4 l4 t4 W => Sy4 w [.slice (some ⟨jb, jo, none⟩) jn jc, .int .i64 jm, .int .i64 sn] [.slice a n c, .slice a2 m c2, .int .i64 lf, .bool st] [.slice none 0 0, .int .i64 0, .int .i64 0] [.slice sa4 sn4 sc4, .slice pa4 pn4 pc4, .int .i64 l4, .bool t4] W ∧ DRestS (Tset S w.heap.size) W dW (dv (.slice sa4 sn4 sc4) (.slice pa4 pn4 pc4) l4 t4)) _ ?r10 ?k10
  case r10 =>
    intro K
    go_region_law (first
      | (go_simp; go_at_call 71; refine (HOC.out _ (below_drew HW9.out.bel)).mono ?_; rintro e wA ⟨rfl, rfl⟩)
      | (go_simp; go_at_call 70; refine (HWR.out _ (below_drew HW9.out.bel)).mono ?_; rintro e wB ⟨s4, p4, l4, t4, rfl, hdB, hbB⟩; obtain ⟨⟨sa4, sn4, sc4, rfl⟩, ⟨pa4, pn4, pc4, rfl⟩⟩ := slices_of hdB.rest; unfold dv; have hbB' := below_undrew hbB; have HB9 := Lib.hid (HW9.out.keep hbB'); have u0 := HB9.out.r5.cell (i := 0) rfl; have u1' := HB9.out.r5.cell (i := 1) rfl; have u2 := HB9.out.r5.cell (i := 2) rfl; have u3 := HB9.out.r5.cell (i := 3) rfl; have v0 := HB9.out.r5.free 0; have v1 := HB9.out.r5.free 1; have v2 := HB9.out.r5.free 2; have v3 := HB9.out.r5.free 3))
    all_goals
      have hF := And.intro (HB9.out.over5 (.slice sa4 sn4 sc4) (.slice pa4 pn4 pc4) l4 t4) ((tset_new (S := S) (n := w.heap.size) (by have h1 := HW9.out.lt; show w.heap.size + 4 ≤ W9.heap.size; omega) hdB).keep (.far (w.heap.size + 3) (fun h => by rcases h with h | h; (exact absurd h.2 (by omega)); (have h2 : w.heap.size + 4 ≤ w.heap.size + 3 := h; omega)) (fun k hk => box4_far wB (w.heap.size + 3) (.slice sa4 sn4 sc4) (.slice pa4 pn4 pc4) l4 t4 k hk)))
      obtain ⟨WZ, hWZ⟩ : ∃ WZ, WZ = box4 wB (w.heap.size + 3) (.slice sa4 sn4 sc4) (.slice pa4 pn4 pc4) l4 t4 := ⟨_, rfl⟩
      rw [← hWZ] at hF
      have hWZ' : WZ = box4 wB (w.heap.size + 1 + 1 + 1) (.slice sa4 sn4 sc4) (.slice pa4 pn4 pc4) l4 t4 := hWZ
      unfold box4 at hWZ'
      rw [← hWZ']
      exact K sa4 sn4 sc4 pa4 pn4 pc4 l4 t4 WZ hF
  case k10 =>
    rintro sa4 sn4 sc4 pa4 pn4 pc4 l4 t4 W ⟨hW, hdW⟩
    have HW := Lib.hid hW
    have HDW := Lib.hid hdW
    clear hW hdW HW9 b0 b1 b2 b3 HWR HOC
    have y0 := HW.out.r5.cell (i := 0) rfl
    have y1 := HW.out.r5.cell (i := 1) rfl
    have y2 := HW.out.r5.cell (i := 2) rfl
    have y3 := HW.out.r5.cell (i := 3) rfl
    by_cases hk2 : k2 = 0
    · subst hk2
      have HR2 := Lib.hid (show r = ({ j with synced := (jn : Int) }, d2, 0) from by rw [HR.out]; simp)
      clear HR
      go_wp2_with (first
        | (go_at_call 30; refine (HSC.out _ _ HDW.out).mono ?_; intro e wS hS; obtain ⟨s5, p5, l5, t5, rfl, hd5, hb5⟩ := hS.newS rfl; obtain ⟨⟨sa5, sn5, sc5, rfl⟩, ⟨pa5, pn5, pc5, rfl⟩⟩ := slices_of hd5.rest; unfold dv; have HX0 := Lib.hid (HW.out.keep hb5); have HD5 : Hid (DRestS (Ext (Tset S w.heap.size) (w.heap.size + 4)) wS d2 (dv (.slice sa5 sn5 sc5) (.slice pa5 pn5 pc5) l5 t5)) := Lib.hid (hd5.weak (fun b h1 _ => by rcases h1 with h1 | h1; exact .inl h1; exact .inr (by have h2 := HW.out.lt; have h3 : W.heap.size ≤ b := h1; show w.heap.size + 4 ≤ b; omega))); clear hb5 hd5 hS y0 y1 y2 y3)
        | (refine wpList_store_ags rfl 25 (.tmp 5) (.tmp 58) rfl (w.heap.size + 3) [.slice sa5 sn5 sc5, .slice pa5 pn5 pc5, .int .i64 l5, .bool t5] _ size25 (by rfl) rfl rfl HX0.out.r5 (by rfl) HX0.out.bel (by omega) ?_; intro WX hr hb hf; have HX : Hid (Sy4 w _ _ _ _ WX) := Lib.hid ⟨HX0.out.r2.same (hf _ (by omega)), HX0.out.r3.same (hf _ (by omega)), HX0.out.r4.same (hf _ (by omega)), hr, hb⟩; have HDX := Lib.hid (HD5.out.keep (.far (w.heap.size + 3) (fun h => tset_no h (by omega) (by omega)) hf)); clear hr hb hf HX0 HD5; have g0 := HX.out.r2.cell (i := 0) rfl; have g2 := HX.out.r2.cell (i := 2) rfl; have gf2 := HX.out.r2.free 2))
      have HXN : Hid (Sy4 w [.slice (some ⟨jb, jo, none⟩) jn jc, .int .i64 jm, .int .i64 jn] _ _ _ (WX.setCell ⟨w.heap.size, 2, none⟩ (.int .i64 jn))) := Lib.hid
        ⟨HX.out.r2.set 2 (.int .i64 jn) rfl, HX.out.r3.same (heap_setCell_other _ ⟨w.heap.size, 2, none⟩ _ _ (by show w.heap.size + 1 ≠ w.heap.size; omega)), HX.out.r4.same (heap_setCell_other _ ⟨w.heap.size, 2, none⟩ _ _ (by show w.heap.size + 2 ≠ w.heap.size; omega)), HX.out.r5.same (heap_setCell_other _ ⟨w.heap.size, 2, none⟩ _ _ (by show w.heap.size + 3 ≠ w.heap.size; omega)), below_setCell HX.out.bel _ 2 _ (Nat.le_refl _)⟩
      have HDXN := Lib.hid (HDX.out.keep (.far w.heap.size (fun h => tset_no h (Nat.le_refl _) (by omega)) (fun k hk => heap_setCell_other WX ⟨w.heap.size, 2, none⟩ k (.int .i64 jn) hk)))
      generalize WX.setCell ⟨w.heap.size, 2, none⟩ (.int .i64 jn) = WX2 at HXN HDXN ⊢
      clear HX HDX g0 g2 gf2
      have HX := HXN
      have HDX := HDXN
      clear HXN HDXN
      have g0 := HX.out.r2.cell (i := 0) rfl
      have g1 := HX.out.r2.cell (i := 1) rfl
      have g2 := HX.out.r2.cell (i := 2) rfl
      have q0 := HX.out.r4.cell (i := 0) rfl
      have q1 := HX.out.r4.cell (i := 1) rfl
      have q2 := HX.out.r4.cell (i := 2) rfl
      have qf0 := HX.out.r4.free 0
      have qf1 := HX.out.r4.free 1
      have qf2 := HX.out.r4.free 2
      have u0 := HX.out.r5.cell (i := 0) rfl
      have u1 := HX.out.r5.cell (i := 1) rfl
      have u2 := HX.out.r5.cell (i := 2) rfl
      have u3 := HX.out.r5.cell (i := 3) rfl
      have uf0 := HX.out.r5.free 0
      have uf1 := HX.out.r5.free 1
      have uf2 := HX.out.r5.free 2
      have uf3 := HX.out.r5.free 3
      refine' cut1 (F := fun W => Sy4 w [.slice (some ⟨jb, jo, none⟩) jn jc, .int .i64 jm, .int .i64 jn] [.slice a n c, .slice a2 m c2, .int .i64 lf, .bool st] [.slice (some ⟨jb, jo, none⟩) jn jc, .int .i64 jm, .int .i64 jn] [.slice sa5 sn5 sc5, .slice pa5 pn5 pc5, .int .i64 l5, .bool t5] W ∧ DRestS (Ext (Tset S w.heap.size) (w.heap.size + 4)) W d2 (dv (.slice sa5 sn5 sc5) (.slice pa5 pn5 pc5) l5 t5)) _ ?r15 ?k15
      case r15 =>
        intro K
        go_region_law (fail)
        all_goals
          obtain ⟨WZ, hWZ⟩ : ∃ WZ, WZ = (box4 (box3 WX2 (w.heap.size + 1 + 1) (.slice (some ⟨jb, jo, none⟩) jn jc) (.int .i64 jm) (.int .i64 jn)) (w.heap.size + 1 + 1 + 1) (.slice sa5 sn5 sc5) (.slice pa5 pn5 pc5) l5 t5).drew := ⟨_, rfl⟩
          have hF : Sy4 w [.slice (some ⟨jb, jo, none⟩) jn jc, .int .i64 jm, .int .i64 jn] [.slice a n c, .slice a2 m c2, .int .i64 lf, .bool st] [.slice (some ⟨jb, jo, none⟩) jn jc, .int .i64 jm, .int .i64 jn] [.slice sa5 sn5 sc5, .slice pa5 pn5 pc5, .int .i64 l5, .bool t5] WZ ∧ DRestS (Ext (Tset S w.heap.size) (w.heap.size + 4)) WZ d2 (dv (.slice sa5 sn5 sc5) (.slice pa5 pn5 pc5) l5 t5) := by
            rw [hWZ]
            refine ⟨((HX.out.over4 _ _ _).over5 _ _ _ _).drew, HDX.out.keep (KeepS.trans (KeepS.far (w.heap.size + 2) (fun h => tset_no h (by omega) (by omega)) (fun k hk => box3_far WX2 (w.heap.size + 2) _ _ _ k hk)) (Nat.le_of_eq (box3_size _ _ _ _ _).symm) (KeepS.trans (KeepS.far (w.heap.size + 3) (fun h => tset_no h (by omega) (by omega)) (fun k hk => box4_far _ (w.heap.size + 3) _ _ _ _ k hk)) (Nat.le_of_eq (box4_size _ _ _ _ _ _).symm) (KeepS.below (below_drew (Below.refl _ _)))))⟩
          unfold box4 box3 at hWZ
          rw [← hWZ]
          exact K WZ hF
      case k15 =>
        rintro WY ⟨hY, hdY⟩
        clear HX HDX g0 g1 g2 q0 q1 q2 qf0 qf1 qf2 u0 u1 u2 u3 uf0 uf1 uf2 uf3
        go_wp2_with fail
        refine bodyPost_ret (results_sy Try.results47 _ WY (w.heap.size + 2) (w.heap.size + 3) _ _ rfl rfl rfl rfl (.int .i64 0) rfl hY.r4 hY.r5) rfl ?_
        rw [HR2.out]
        unfold SyAns
        rw [HJM.out]
        exact ⟨_, _, _, _, _, rfl, HH.out.exts hY.bel, tset_end (Nat.le_refl _) (hdY.weak (fun b h1 _ => by rcases h1 with h1 | h1; exact .inl h1; exact .inr (by have h3 : w.heap.size + 4 ≤ b := h1; show w.heap.size ≤ b; omega))), hY.bel⟩
    · have HR2 := Lib.hid (show r = (zeroJ, d2, k2) from by rw [HR.out]; simp [hk2])
      clear HR
      go_wp2_with (first
        | (go_at_call 30; refine (HSC.out _ _ HDW.out).mono ?_; intro e wS hS; obtain ⟨s5, p5, l5, t5, rfl, hd5, hb5⟩ := hS.newS rfl; obtain ⟨⟨sa5, sn5, sc5, rfl⟩, ⟨pa5, pn5, pc5, rfl⟩⟩ := slices_of hd5.rest; unfold dv; have HX0 := Lib.hid (HW.out.keep hb5); have HD5 : Hid (DRestS (Ext (Tset S w.heap.size) (w.heap.size + 4)) wS d2 (dv (.slice sa5 sn5 sc5) (.slice pa5 pn5 pc5) l5 t5)) := Lib.hid (hd5.weak (fun b h1 _ => by rcases h1 with h1 | h1; exact .inl h1; exact .inr (by have h2 := HW.out.lt; have h3 : W.heap.size ≤ b := h1; show w.heap.size + 4 ≤ b; omega))); clear hb5 hd5 hS y0 y1 y2 y3)
        | (refine wpList_store_ags rfl 25 (.tmp 5) (.tmp 58) rfl (w.heap.size + 3) [.slice sa5 sn5 sc5, .slice pa5 pn5 pc5, .int .i64 l5, .bool t5] _ size25 (by rfl) rfl rfl HX0.out.r5 (by rfl) HX0.out.bel (by omega) ?_; intro WX hr hb hf; have HX : Hid (Sy4 w _ _ _ _ WX) := Lib.hid ⟨HX0.out.r2.same (hf _ (by omega)), HX0.out.r3.same (hf _ (by omega)), HX0.out.r4.same (hf _ (by omega)), hr, hb⟩; have HDX := Lib.hid (HD5.out.keep (.far (w.heap.size + 3) (fun h => tset_no h (by omega) (by omega)) hf)); clear hr hb hf HX0 HD5))
      have q0 := HX.out.r4.cell (i := 0) rfl
      have q1 := HX.out.r4.cell (i := 1) rfl
      have q2 := HX.out.r4.cell (i := 2) rfl
      have qf0 := HX.out.r4.free 0
      have qf1 := HX.out.r4.free 1
      have qf2 := HX.out.r4.free 2
      have u0 := HX.out.r5.cell (i := 0) rfl
      have u1 := HX.out.r5.cell (i := 1) rfl
      have u2 := HX.out.r5.cell (i := 2) rfl
      have u3 := HX.out.r5.cell (i := 3) rfl
      have uf0 := HX.out.r5.free 0
      have uf1 := HX.out.r5.free 1
      have uf2 := HX.out.r5.free 2
      have uf3 := HX.out.r5.free 3
      refine' cut1 (F := fun W => Sy4 w [.slice (some ⟨jb, jo, none⟩) jn jc, .int .i64 jm, .int .i64 sn] [.slice a n c, .slice a2 m c2, .int .i64 lf, .bool st] [.slice none 0 0, .int .i64 0, .int .i64 0] [.slice sa5 sn5 sc5, .slice pa5 pn5 pc5, .int .i64 l5, .bool t5] W ∧ DRestS (Ext (Tset S w.heap.size) (w.heap.size + 4)) W d2 (dv (.slice sa5 sn5 sc5) (.slice pa5 pn5 pc5) l5 t5)) _ ?r15 ?k15
      case r15 =>
        intro K
        go_region_law (fail)
        all_goals
          obtain ⟨WZ, hWZ⟩ : ∃ WZ, WZ = (box4 (box3 WX (w.heap.size + 1 + 1) (.slice none 0 0) (.int .i64 0) (.int .i64 0)) (w.heap.size + 1 + 1 + 1) (.slice sa5 sn5 sc5) (.slice pa5 pn5 pc5) l5 t5).drew := ⟨_, rfl⟩
          have hF : Sy4 w [.slice (some ⟨jb, jo, none⟩) jn jc, .int .i64 jm, .int .i64 sn] [.slice a n c, .slice a2 m c2, .int .i64 lf, .bool st] [.slice none 0 0, .int .i64 0, .int .i64 0] [.slice sa5 sn5 sc5, .slice pa5 pn5 pc5, .int .i64 l5, .bool t5] WZ ∧ DRestS (Ext (Tset S w.heap.size) (w.heap.size + 4)) WZ d2 (dv (.slice sa5 sn5 sc5) (.slice pa5 pn5 pc5) l5 t5) := by
            rw [hWZ]
            refine ⟨((HX.out.over4 _ _ _).over5 _ _ _ _).drew, HDX.out.keep (KeepS.trans (KeepS.far (w.heap.size + 2) (fun h => tset_no h (by omega) (by omega)) (fun k hk => box3_far WX (w.heap.size + 2) _ _ _ k hk)) (Nat.le_of_eq (box3_size _ _ _ _ _).symm) (KeepS.trans (KeepS.far (w.heap.size + 3) (fun h => tset_no h (by omega) (by omega)) (fun k hk => box4_far _ (w.heap.size + 3) _ _ _ _ k hk)) (Nat.le_of_eq (box4_size _ _ _ _ _ _).symm) (KeepS.below (below_drew (Below.refl _ _)))))⟩
          unfold box4 box3 at hWZ
          rw [← hWZ]
          exact K WZ hF
      case k15 =>
        rintro WY ⟨hY, hdY⟩
        clear HX HDX q0 q1 q2 qf0 qf1 qf2 u0 u1 u2 u3 uf0 uf1 uf2 uf3
        go_wp2_with fail
        refine bodyPost_ret (results_sy Try.results47 _ WY (w.heap.size + 2) (w.heap.size + 3) _ _ rfl rfl rfl rfl (.int .i64 k2) rfl hY.r4 hY.r5) rfl ?_
        rw [HR2.out]
        unfold SyAns
        exact ⟨_, _, _, _, _, rfl, nrests_nil _ _, tset_end (Nat.le_refl _) (hdY.weak (fun b h1 _ => by rcases h1 with h1 | h1; exact .inl h1; exact .inr (by have h3 : w.heap.size + 4 ≤ b := h1; show w.heap.size ≤ b; omega))), hY.bel⟩
end Go.Proofs.Ytlaaolbdadempaa

/- Sync: the program's function, whole. -/
namespace Go.Proofs.Ytlaaolbdadempaa
open Go.RowKit

set_option maxHeartbeats 16000000 in
set_option maxRecDepth 100000 in
theorem sync_last (S : Nat → Prop) (j : Jnl) (v : Value) (d : Dsk) (s p : Value) (w : World) (sn : Nat) (h : NRestS S w j.recs v) (hd : DRestS S w d (dv s p d.left d.stop)) (hk : JOk j d sn) (hlg9 : lastGen d.secs = 4294967295) :
    Calls Try.prog 47 #[jv v j.many j.synced, dv s p d.left d.stop] w (SyAns S w (syncJ j d)) := by
  have HC : Hid (∀ W, Below w.heap.size w W → Calls Try.prog 68 #[jv v j.many j.synced, dv s p d.left d.stop] W fun e w' => e = .returned (.int .i64 0) ∧ Below W.heap.size W w') := Lib.hid (fun W hW => by
    have := checkBoth_call j v d s p W (h.rest.keep hW) hk.mild (hd.rest.keep hW); rwa [hk.chk] at this)
  have HR := syncJ_eq hk
  rw [if_pos hlg9] at HR
  have HH := Lib.hid h
  have HD := Lib.hid hd
  have hlgt := lastGen_lt d.secs
  have HLG : Hid (∀ (a : Option Addr) (n c : Nat) W, NRest w.heap.size w d.secs (.slice a n c) → Below w.heap.size w W → Calls Try.prog 69 #[.slice a n c] W fun e w' => e = .returned (.int .u32 (lastGen d.secs : Int)) ∧ Below W.heap.size W w') := Lib.hid (fun a n c W hn hW => lastGen_call d.secs _ W (hn.keep hW) hk.runs.secs)
  obtain ⟨_, _, ⟨a, c, rfl⟩, ⟨a2, c2, rfl⟩⟩ := drest_left hd.rest
  have hsec : NRest w.heap.size w d.secs (.slice a d.secs.length c) := by
    obtain ⟨s', p', he, h1, h2⟩ := hd.rest
    unfold dv dskOf dskCells at he
    simp at he
    rw [he.1]; exact h1
  have HLG2 := Lib.hid (fun W hW => HLG.out a d.secs.length c W hsec hW)
  clear HLG
  obtain ⟨ja, jc, rfl, hjc, hjc2⟩ := h.rest.shape
  have hsy := hk.syn
  clear h hd hk hsec
  have HSY := Lib.hid hsy
  rw [hsy] at HC ⊢
  obtain ⟨lg, hlg⟩ : ∃ lg, lg = lastGen d.secs := ⟨_, rfl⟩
  rw [← hlg] at HLG2 hlgt hlg9
  obtain ⟨r, hr⟩ : ∃ r, r = syncJ j d := ⟨_, rfl⟩
  rw [← hr] at HR ⊢
  obtain ⟨jn, hjn⟩ : ∃ jn, jn = j.recs.length := ⟨_, rfl⟩
  rw [← hjn] at HC HH ⊢
  replace HR := Lib.hid HR
  unfold jv dv at *
  obtain ⟨n, hn⟩ : ∃ n, n = d.secs.length := ⟨_, rfl⟩
  obtain ⟨m, hm⟩ : ∃ m, m = d.pend.length := ⟨_, rfl⟩
  rw [← hn] at HC HD HLG2 ⊢
  rw [← hm] at HC HD ⊢
  obtain ⟨lf, hlf⟩ : ∃ lf, lf = d.left := ⟨_, rfl⟩
  obtain ⟨st, hst⟩ : ∃ st, st = d.stop := ⟨_, rfl⟩
  obtain ⟨jm, hjm⟩ : ∃ jm, jm = j.many := ⟨_, rfl⟩
  rw [← hlf, ← hst] at HC HD ⊢
  rw [← hjm] at HC ⊢
  have HJM := Lib.hid hjm
  have HJN := Lib.hid hjn
  clear hn hm hlf hst hjm hsy hjn hlg hr
  have HS := Lib.hid (sy4_new w [.slice ja jn jc, .int .i64 jm, .int .i64 sn] [.slice a n c, .slice a2 m c2, .int .i64 lf, .bool st])
  unfold zJc zDc at HS
  have hli : (lg : Int) = 4294967295 := by omega
  go_enter Try.func47, Try.ntmps47
  go_wp2_with (first
    | (go_at_call 68; refine (HC.out _ HS.out.bel).mono ?_; rintro e w2 ⟨rfl, hb⟩; replace HS := Lib.hid (HS.out.keep hb); have x0 := HS.out.r3.cell (i := 0) rfl; clear hb)
    | (go_at_call 69; refine (HLG2.out _ HS.out.bel).mono ?_; rintro e w2 ⟨rfl, hb⟩; replace HS := Lib.hid (HS.out.keep hb); clear hb)
    | (refine wpList_store_ags rfl 55 (.tmp 4) (.tmp 23) rfl (w.heap.size + 2) zJc _ size55 (by rfl) rfl rfl HS.out.r4 (by rfl) HS.out.bel (by omega) ?_; intro w3 hr hb hf; have HR4 := Lib.hid hr; have HR5 := Lib.hid (HS.out.r5.same (hf _ (by omega))); have HB := Lib.hid hb; clear hr hb hf)
    | (refine wpList_store_ags rfl 25 (.tmp 5) (.tmp 24) rfl (w.heap.size + 3) zDc _ size25 (by rfl) rfl rfl HR5.out (by rfl) HB.out (by omega) ?_; intro w4 hr hb hf; replace HR4 := Lib.hid (HR4.out.same (hf _ (by omega))); replace HR5 := Lib.hid hr; replace HB := Lib.hid hb; clear hr hb hf))
  refine bodyPost_ret (results_sy Try.results47 _ w4 (w.heap.size + 2) (w.heap.size + 3) _ _ rfl rfl rfl rfl _ rfl HR4.out HR5.out) rfl ?_
  rw [HR.out]
  unfold SyAns
  exact ⟨_, _, _, _, _, rfl, nrests_nil _ _, drests_zero _ _, HB.out⟩
theorem jsync_call (S : Nat → Prop) (j : Jnl) (v : Value) (d : Dsk) (s p : Value) (w : World) (h : NRestS S w j.recs v) (hj : Mild j) (hd : DRestS S w d (dv s p d.left d.stop)) :
    Calls Try.prog 47 #[jv v j.many j.synced, dv s p d.left d.stop] w (SyAns S w (syncJ j d)) := by
  by_cases hz : chkB j d = 0
  · have hk := JOk.of hz
    by_cases hlg : lastGen d.secs = 4294967295
    · exact sync_last S j v d s p w _ h hd hk hlg
    · by_cases hno : j.recs.drop j.synced.toNat = []
      · exact sync_none S j v d s p w _ h hd hk hno
      · exact sync_some S j v d s p w _ h hd hk hno hlg
  · have hr : syncJ j d = (zeroJ, zeroD, chkB j d) := by unfold syncJ; rw [if_pos hz]
    rw [hr]
    refine (sync_refuse j v d s p w h.rest hj hd.rest _ rfl hz).mono ?_
    rintro e w' ⟨rfl, hb⟩
    exact ⟨_, _, _, _, _, rfl, nrests_nil _ _, drests_zero _ _, hb⟩
end Go.Proofs.Ytlaaolbdadempaa

/- Journals in blocks of their own; the contracts as the laws take them. -/
namespace Go.Proofs.Ytlaaolbdadempaa
open Go.RowKit

/-- a journal in a block of its own: what it holds lies below -/
structure JBox (w : World) (g : Nat) (l : List (List UInt8)) (v : Value) (m s : Int) : Prop where
  row : Row w g 55 [v, .int .i64 m, .int .i64 s]
  rest : NRest g w l v
section
variable {w w' W : World} {g : Nat} {l l' : List (List UInt8)} {v : Value} {m s m' s' k : Int} {d d' : Dsk} {ds dp : Value} {dl : Int} {db : Bool}
theorem JBox.lt (h : JBox w g l v m s) : g < w.heap.size := h.row.lt
theorem JBox.keep (h : JBox w g l v m s) (hb : Below w.heap.size w w') : JBox w' g l v m s := ⟨h.row.keep hb, h.rest.stays (hb.mono (Nat.le_of_lt h.row.lt))⟩
theorem JBox.nrest (h : JBox w g l v m s) : NRest w.heap.size w l v := h.rest.mono (Nat.le_of_lt h.row.lt)
theorem JBox.new (h : NRest w.heap.size w l v) (hr : Row w' w.heap.size 55 [v, .int .i64 m, .int .i64 s]) (hb : Below w.heap.size w w') : JBox w' w.heap.size l v m s := ⟨hr, h.stays hb⟩
theorem nrest_slice {B : Nat} (h : NRest B w l v) : ∃ a c, v = .slice a l.length c := by obtain ⟨a, c, he, _⟩ := h; exact ⟨a, c, he⟩
theorem one_alj {B : Nat} (h : NRest B w l v) : [v, .int .i64 m, .int .i64 s].all (·.oneCell') = true := by
  obtain ⟨a, c, rfl⟩ := nrest_slice h; rfl
theorem wpList_load_jnl {ops : Array Oper} {rest : List Oper} {o : Oper} {a : Act} {w : World} {Q : Exit → Act → World → Prop} (hgd : o.guard = none) (x : Operand) (ho : o.op = .load 55 x)
    (g : Nat) (cs : List Value) (hl : cs.length = 3) (hx : a.eval x = .pointer (some ⟨g, 0, none⟩)) (hg : Row w g 55 cs)
    (h : wpList Try.prog ops Q rest (a.put o.dst (.agg cs.toArray)) w) : wpList Try.prog ops Q (o :: rest) a w :=
  wpList_load_row hgd 55 x ho g hx 55 cs.toArray (0, 0) _ hg Try.underlying55 rfl (by rw [size55]; simp [hl]) h
/-- what a call answers that returns a journal and an error -/
def NewJ (w : World) (l : List (List UInt8)) (m s k : Int) (e : Ending) (w' : World) : Prop :=
  ∃ v, e = .returned (.tuple #[.agg #[v, .int .i64 m, .int .i64 s], .int .i64 k]) ∧ NRest w'.heap.size w' l v ∧ Below w.heap.size w w'
theorem JAnsS.new {S : Nat → Prop} {r : Jnl × Int} {e : Ending} (h : JAnsS S w r e w') (hr : r = (⟨l, m, s⟩, k)) : NewJ w l m s k e w' := by
  subst hr
  obtain ⟨v, rfl, hd, hb⟩ := h
  exact ⟨v, rfl, hd.rest, hb⟩
theorem open_law (h : DRest W.heap.size W d (dv ds dp dl db)) (hr : openJ d = (⟨l, m, s⟩, k)) : Calls Try.prog 38 #[dv ds dp dl db] W (NewJ W l m s k) := by
  obtain ⟨rfl, rfl, _, _⟩ := drest_left h
  exact (open_call (fun _ => True) d ds dp W h).mono fun _ _ h => h.new hr
theorem append_law (h : NRest W.heap.size W l v) {b : List UInt8} {bv : Value} (hb : Rest W.heap.size W b bv) (hj : Mild ⟨l, m, s⟩) (hbl : b.length ≤ 1000000000000) (hr : appJ ⟨l, m, s⟩ b = (⟨l', m', s'⟩, k)) :
    Calls Try.prog 41 #[.agg #[v, .int .i64 m, .int .i64 s], bv] W (NewJ W l' m' s' k) :=
  (append_call (fun b => b < W.heap.size) ⟨l, m, s⟩ v b bv W h hb hj hbl).mono fun _ _ h => h.new hr
/-- what Sync answers, as the laws take it -/
def NewS (w : World) (l : List (List UInt8)) (m s : Int) (d : Dsk) (k : Int) (e : Ending) (w' : World) : Prop :=
  ∃ v ds dp dl db, e = .returned (.tuple #[.agg #[v, .int .i64 m, .int .i64 s], .agg #[ds, dp, .int .i64 dl, .bool db], .int .i64 k]) ∧ NRest w'.heap.size w' l v ∧ DRest w'.heap.size w' d (dv ds dp dl db) ∧ Below w.heap.size w w'
theorem jsync_law (h : NRest W.heap.size W l v) (hj : Mild ⟨l, m, s⟩) (hd : DRest W.heap.size W d (dv ds dp dl db)) (hr : syncJ ⟨l, m, s⟩ d = (⟨l', m', s'⟩, d', k)) :
    Calls Try.prog 47 #[.agg #[v, .int .i64 m, .int .i64 s], .agg #[ds, dp, .int .i64 dl, .bool db]] W (NewS W l' m' s' d' k) := by
  obtain ⟨rfl, rfl, _, _⟩ := drest_left hd
  refine (jsync_call (fun b => b < W.heap.size) ⟨l, m, s⟩ v d ds dp W h hj hd).mono fun _ _ h => ?_
  rw [hr] at h
  obtain ⟨v, s1, p1, l1, b1, rfl, h1, h2, h3⟩ := h
  exact ⟨v, s1, p1, l1, b1, rfl, h1.rest, h2.rest, h3⟩
theorem check_law (h : NRest W.heap.size W l v) (hj : Mild ⟨l, m, s⟩) : Calls Try.prog 43 #[.agg #[v, .int .i64 m, .int .i64 s]] W fun e w' => e = .returned (.int .i64 (if jokB ⟨l, m, s⟩ then 0 else 1)) ∧ Below W.heap.size W w' :=
  jcheck_call ⟨l, m, s⟩ v W _ h (Nat.le_refl _) hj
theorem room_law (h : NRest W.heap.size W l v) (hj : Mild ⟨l, m, s⟩) : Calls Try.prog 45 #[.agg #[v, .int .i64 m, .int .i64 s]] W fun e w' => e = .returned (.int .i64 (roomJ ⟨l, m, s⟩)) ∧ Below W.heap.size W w' :=
  room_call ⟨l, m, s⟩ v W h hj
end
/-- the examples, reckoned -/
def jDS : Dsk := (syncJ ⟨[[97, 98]], 1, 0⟩ jD1).2.1
theorem jnew1 : newD 1 = (jD1, 0) := by kernel_rfl
theorem jop1 : openJ jD1 = (⟨[], 1, 0⟩, 0) := by kernel_rfl
theorem jap1 : appJ ⟨[], 1, 0⟩ (List.replicate 113 0) = (⟨[], 0, 0⟩, 2) := by kernel_rfl
theorem jap2 : appJ ⟨[], 1, 0⟩ [97, 98] = (⟨[[97, 98]], 1, 0⟩, 0) := by kernel_rfl
theorem jsy1 : syncJ ⟨[[97, 98]], 1, 0⟩ jD1 = (⟨[[97, 98]], 1, 1⟩, jDS, 0) := by kernel_rfl
theorem jop2 : openJ jDS = (⟨[[97, 98]], 1, 1⟩, 0) := by kernel_rfl
theorem jsy2 : syncJ ⟨[[97, 98]], 1, 0⟩ jDS = (⟨[], 0, 0⟩, zeroD, 50) := by kernel_rfl
theorem jrm1 : roomJ ⟨[], 1, 0⟩ = 112 := by kernel_rfl
theorem mild0 {m s : Int} : Mild ⟨[], m, s⟩ := ⟨by simp [usedL], fun x hx => by cases hx⟩
theorem mild1 {m s : Int} : Mild ⟨[[97, 98]], m, s⟩ := ⟨by show usedL [[97, 98]] ≤ 1000000000000; decide, fun x hx => by simp at hx; subst hx; decide⟩
end Go.Proofs.Ytlaaolbdadempaa
