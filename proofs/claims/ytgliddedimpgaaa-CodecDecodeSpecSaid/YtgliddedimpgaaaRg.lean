/- The specification's reader: a list, at every depth. -/
import Derived.Test.YtgliddedimpgaaaRc
import Derived.Deep.RegionLaw
namespace Go.Proofs.Ytgliddedimpgaaa
open Go.RowKit

def RLHead (B rb g : Nat) (w3 : World) (a : Option Addr) (cap : Nat) (bs : List UInt8) (f : List UInt8 → Option (V × List UInt8)) (n : Nat) (r1 : List UInt8) (s9 : Value) (wr : World) : Prop :=
  ∃ (i q : Nat) (bad : Bool) (es : List El) (xs : List V) (s4 : Value), s9 = .int .u64 (i : Int) ∧ i ≤ n ∧ es.length = i ∧ wr.heap[g]? = some (.cells #[.int .i64 3, .int .i64 0, .string ⟨#[]⟩, s4] 24) ∧
    wr.ownsRow 0 24 4 s4 i (es.flatMap El.cells) ∧ (∀ k, s4.ownBlock = some k → g + 1 ≤ k) ∧ RR B rb wr a cap bs q bad ∧ Only rb w3 wr ∧
    (bad = false → xs.length = i ∧ (∀ j (h1 : j < xs.length), Sure (fun k => g + 1 ≤ k ∧ some k ≠ s4.ownBlock) wr xs[j] (es.getD j El.none).val) ∧ decN f n r1 = (decN f (n - i) (bs.drop q)).map fun p => (xs ++ p.1, p.2)) ∧
    (bad = true → decN f n r1 = none)

theorem own_slice24 {w : World} {v : Value} {n : Nat} {xs : List Value} (h : w.ownsRow 0 24 4 v n xs) : ∃ (a : Option Addr) (c : Nat), v = .slice a n c := by
  rcases h.2 with ⟨rfl, h0⟩ | ⟨g, cap, cur, rfl, _⟩
  · have := h.1
    rw [h0] at this
    exact ⟨none, 0, by rw [show n = 0 by simp at this; omega]⟩
  · exact ⟨_, _, rfl⟩

theorem dec_list_none {d : Nat} {r : List UInt8} (h : decL d r = none) : dec d (3 :: r) = none := by
  rw [dec, decHead, if_neg (show ¬ UInt8.toNat 3 = 1 by decide), if_neg (show ¬ UInt8.toNat 3 = 2 by decide), if_pos (show UInt8.toNat 3 = 3 from rfl), h]
theorem dec_list_some {d : Nat} {r r2 : List UInt8} {l : List V} (h : decL d r = some (l, r2)) : dec d (3 :: r) = some (.mk 3 0 ⟨#[]⟩ l, r2) := by
  rw [dec, decHead, if_neg (show ¬ UInt8.toNat 3 = 1 by decide), if_neg (show ¬ UInt8.toNat 3 = 2 by decide), if_pos (show UInt8.toNat 3 = 3 from rfl), h]
theorem decL_bad {d : Nat} {r : List UInt8} (h : readNum r = none) : decL d r = none := by
  cases d with
  | zero => rfl
  | succ d => rw [decL, h]
theorem decL_more {d u : Nat} {r r2 : List UInt8} (h : readNum r = some (u, r2)) (hu : r2.length < u) : decL d r = none := by
  cases d with
  | zero => rfl
  | succ d =>
    rw [decL, h]
    show decN (dec d) u r2 = none
    cases hn : decN (dec d) u r2 with
    | none => rfl
    | some p =>
      obtain ⟨l, r3⟩ := p
      have := decN_len (fun bs x r h => dec_len h) u r2 l r3 hn
      omega

/-- the end of the reading of a list -/
theorem list_end {B rb g i u q q2 d p : Nat} {w w3 wr : World} {a : Option Addr} {cap : Nat} {bs r : List UInt8} {bad : Bool} {es : List El} {xs : List V} {va : Option Addr} {c : Nat} (hsz : w.heap.size < g) (hrb : rb < w.heap.size)
    (hdr : bs.drop p = 3 :: r) (hn : readNum r = some (u, bs.drop q)) (hi : i ≤ 1000000) (hes : es.length = i) (hown : wr.ownsRow 0 24 4 (.slice va i c) i (es.flatMap El.cells)) (hlo : ∀ k, (Value.slice va i c).ownBlock = some k → g + 1 ≤ k) (hr : RR B rb wr a cap bs q2 bad)
    (ho1 : Only rb (w.alloc zeroCells4) w3) (ho : Only rb w3 wr) (HB : Below w.heap.size w (w.alloc zeroCells4))
    (hok : bad = false → xs.length = i ∧ (∀ j (h1 : j < xs.length), Sure (fun k => g + 1 ≤ k ∧ some k ≠ (Value.slice va i c).ownBlock) wr xs[j] (es.getD j El.none).val) ∧ decN (dec d) u (bs.drop q) = (decN (dec d) (u - i) (bs.drop q2)).map fun p => (xs ++ p.1, p.2))
    (hbad : bad = true → decN (dec d) u (bs.drop q) = none) (hend : bad = true ∨ i = u) :
    ValR B rb w ((((wr.setCell ⟨w.heap.size, 0, none⟩ (.int .i64 3)).setCell ⟨w.heap.size, 1, none⟩ (.int .i64 0)).setCell ⟨w.heap.size, 2, none⟩ (.string ⟨#[]⟩)).setCell ⟨w.heap.size, 3, none⟩ (.slice va i c)) a cap bs (d + 1) p (.returned (val 3 0 ⟨#[]⟩ va i c)) := by
  have hO := only_new4 (v0 := .int .i64 3) (v1 := .int .i64 0) (v2 := .string ⟨#[]⟩) (v3 := .slice va i c) ((only_below HB).trans (ho1.trans ho))
  have hL : decL (d + 1) r = decN (dec d) u (bs.drop q) := by rw [decL, hn]; rfl
  cases bad with
  | true =>
    have h1 := hbad rfl
    exact valr_bad (by rw [hdr]; exact dec_list_none (hL.trans h1)) (hr.new4 hrb) hO
  | false =>
    obtain ⟨hxs, hs, hdec⟩ := hok rfl
    have hiu : i = u := by rcases hend with h | h; cases h; exact h
    subst hiu
    obtain ⟨a2, c2, he, hsure⟩ := sure_list hes hxs (by omega) hown hlo hs
    injection he with he1 he2 he3
    subst he1 he3
    rw [hxs] at hsure
    refine valr_ok (x := .mk 3 0 ⟨#[]⟩ xs) (r := bs.drop q2) ?_ rfl (hr.new4 hrb) hO ?_
    · rw [hdr]
      refine dec_list_some (hL.trans ?_)
      rw [hdec, Nat.sub_self, decN]; simp
    · exact hsure.later (by simp) (fun k _ hp => by
        rw [Below.heap_setCell _ _ _ k (by simp; omega), Below.heap_setCell _ _ _ k (by simp; omega), Below.heap_setCell _ _ _ k (by simp; omega), Below.heap_setCell _ _ _ k (by simp; omega)]) (fun k _ hp => by omega)

theorem step_block {rb g : Nat} {wr w5 w6 : World} {o : Obj} {s4 v3 : Value} {cs : Array Value} {T : TypeId} (hg : wr.heap[g]? = some (.cells cs T)) (hne : rb < g) (ho5 : Only rb wr w5) (hlo : ∀ k, s4.ownBlock = some k → g + 1 ≤ k) (hw : Wrote (w5.alloc o) w6 s4 v3) : w6.heap[g]? = some (.cells cs T) := by
  have hgr : g < wr.heap.size := (Array.getElem?_eq_some_iff.1 hg).1
  have hsz5 := ho5.size
  rw [hw.grown.block g (by simp; omega) (fun h => by have := hlo g h.symm; omega), Below.heap_alloc w5 o g (by omega), ho5.block g hgr (fun h => by injection h with h; omega)]
  exact hg

/-- the elements behind one more reading -/
theorem list_step {B rb g i u q q2 q4 d : Nat} {w3 wr w5 w6 : World} {o : Obj} {a : Option Addr} {cap : Nat} {bs : List UInt8} {bad : Bool} {es : List El} {xs : List V} {s4 v3 : Value} {e : El} (hg3 : w3.heap.size = g) (hrb : rb < g)
    (hi : i < u) (hes : es.length = i) (hg : wr.heap[g]? = some (.cells #[.int .i64 3, .int .i64 0, .string ⟨#[]⟩, s4] 24)) (hown : wr.ownsRow 0 24 4 s4 i (es.flatMap El.cells)) (hlo : ∀ k, s4.ownBlock = some k → g + 1 ≤ k) (ho : Only rb w3 wr)
    (hok : xs.length = i ∧ (∀ j (h1 : j < xs.length), Sure (fun k => g + 1 ≤ k ∧ some k ≠ s4.ownBlock) wr xs[j] (es.getD j El.none).val) ∧ decN (dec d) u (bs.drop q) = (decN (dec d) (u - i) (bs.drop q2)).map fun p => (xs ++ p.1, p.2))
    (hr5 : RR B rb w5 a cap bs q4 bad) (ho5 : Only rb wr w5) (hout : ValOut wr.heap.size d bs q2 q4 bad w5 e.val)
    (hw : Wrote (w5.alloc o) w6 s4 v3) (ho6 : w6.ownsRow 0 24 4 v3 (i + 1) (es.flatMap El.cells ++ e.cells)) :
    RLHead B rb g w3 a cap bs (dec d) u (bs.drop q) (.int .u64 ((i + 1 : Nat) : Int)) (w6.setCell ⟨g, 3, none⟩ v3) := by
  obtain ⟨hxs, hsu, hdec⟩ := hok
  have hgr : g < wr.heap.size := (Array.getElem?_eq_some_iff.1 hg).1
  have hsz5 := ho5.size
  have hlo6 : ∀ k, v3.ownBlock = some k → g + 1 ≤ k := wrote_own hw (by simp; omega) hlo
  have hgb : w6.heap[g]? = some (.cells #[.int .i64 3, .int .i64 0, .string ⟨#[]⟩, s4] 24) := by
    rw [hw.grown.block g (by simp; omega) (fun h => by have := hlo g h.symm; omega), Below.heap_alloc w5 o g (by omega), ho5.block g hgr (fun h => by injection h with h; omega)]
    exact hg
  have hB6 : Below (g + 1) (w5.alloc o) w6 := hw.toBelow (by simp; omega) hlo
  have hr6 : RR B rb w6 a cap bs q4 bad := (hr5.stays (Joins.below_alloc1 w5 o) (by omega)).stays hB6 (by omega)
  have hO6 : Only rb w3 w6 := only_belowC ((ho.trans ho5).trans (only_below (Joins.below_alloc1 w5 o))) (hB6.mono (by omega))
  have hset : ∀ k, g + 1 ≤ k → (w6.setCell ⟨g, 3, none⟩ v3).heap[k]? = w6.heap[k]? := fun k hk => Below.heap_setCell _ _ _ k (by simp; omega)
  refine ⟨i + 1, q4, bad, es ++ [e], if bad = true then [] else (match dec d (bs.drop q2) with | some (x, _) => xs ++ [x] | none => []), v3, rfl, by omega, by simp [hes], Joins.block_setCell hgb v3, ?_, hlo6, hr6.stays (C := g) ((Below.refl _ _).setCell (p := ⟨g, 3, none⟩) (Nat.le_refl _) _) hrb,
    only_belowC hO6 ((Below.refl _ _).setCell (p := ⟨g, 3, none⟩) (by simp; omega) _), fun hb => ?_, fun hb => ?_⟩
  · rw [List.flatMap_append]
    have h4 : w6.ownsRow 0 24 4 v3 (i + 1) (es.flatMap El.cells ++ [e].flatMap El.cells) := by simpa using ho6
    exact h4.kept (row := some g) ⟨rfl, rfl, rfl, by simp, fun k _ hne => Below.heap_setCell _ _ _ k (fun h => hne (by rw [h]))⟩ (.inr fun h => by have := hlo6 g h; omega)
  · subst hb
    unfold ValOut at hout
    cases hd : dec d (bs.drop q2) with
    | none => rw [hd] at hout; cases hout
    | some p =>
      obtain ⟨x, r⟩ := p
      rw [hd] at hout
      obtain ⟨_, rfl, hs⟩ := hout
      simp only [Bool.false_eq_true, if_false]
      refine ⟨by simp [hxs], ?_, ?_⟩
      · have hm := list_more (w := w3.alloc o) (o := o) (e := e) (x := x) (by simp; omega) hes hxs (fun j h1 => by have := hsu j h1; rw [show (w3.alloc o).heap.size = g + 1 by simp; omega]; exact this) (by simp; omega) ho5 hs (fun k hk => by have := hlo k hk; simp; omega) hown.lt hw
        intro j h1
        have h2 := hm j h1
        rw [show (w3.alloc o).heap.size = g + 1 by simp; omega] at h2
        exact h2.later (by simp) (fun k _ hp => hset k hp.1) (fun _ _ hp => hp)
      · rw [hdec, show u - i = (u - (i + 1)) + 1 by omega, decN_more hd]
        cases decN (dec d) (u - (i + 1)) (bs.drop q4) with
        | none => rfl
        | some p => simp
  · subst hb
    unfold ValOut at hout
    cases hd : dec d (bs.drop q2) with
    | some p => obtain ⟨x, r⟩ := p; rw [hd] at hout; cases hout.1
    | none =>
      rw [hdec, show u - i = (u - (i + 1)) + 1 by omega, decN_stop hd]; rfl

theorem block4 {w : World} {g : Nat} {v0 v1 v2 v3 : Value} {T : TypeId} (h : w.heap[g]? = some (.cells #[v0, v1, v2, v3] T)) :
    w.cell? ⟨g, 0, none⟩ = some v0 ∧ w.cell? ⟨g, 1, none⟩ = some v1 ∧ w.cell? ⟨g, 2, none⟩ = some v2 ∧ w.cell? ⟨g, 3, none⟩ = some v3 ∧ w.frozen? ⟨g, 0, none⟩ = false ∧ w.frozen? ⟨g, 1, none⟩ = false ∧ w.frozen? ⟨g, 2, none⟩ = false ∧ w.frozen? ⟨g, 3, none⟩ = false ∧ g < w.heap.size :=
  ⟨by rw [Joins.cell_of_block h]; rfl, by rw [Joins.cell_of_block h]; rfl, by rw [Joins.cell_of_block h]; rfl, by rw [Joins.cell_of_block h]; rfl, Joins.unfrozen_of_block h 0, Joins.unfrozen_of_block h 1, Joins.unfrozen_of_block h 2, Joins.unfrozen_of_block h 3, (Array.getElem?_eq_some_iff.1 h).1⟩

set_option maxHeartbeats 4000000 in
set_option maxRecDepth 100000 in
theorem refval_3 (d m B rb : Nat) (w : World) (a : Option Addr) (cap : Nat) (bs r : List UInt8) (p : Nat) (hm : m + d = 16) (ih : Hid (∀ d', d = d' + 1 → RefValSaid d')) (h : RR B rb w a cap bs p false) (hdr : bs.drop p = 3 :: r) :
    Calls Try.prog 35 #[.pointer (some ⟨rb, 0, none⟩), .int .i64 (m : Int)] w fun e w' => ValR B rb w w' a cap bs d p e := by
  have hrb := h.hi
  have HB : Hid (Below w.heap.size w (w.alloc zeroCells4)) := Joins.below_alloc1 w _
  have HDR := Lib.hid hdr
  have HR0 := Lib.hid (h.stays HB.out hrb)
  have hl := h.len
  have HM := Lib.hid hm
  have hm16 : m ≤ 16 := by omega
  clear hdr hm
  go_enter Try.func35, Try.ntmps35
  go_wp2_with fail
  refine (refnext_call B rb _ a cap bs p HR0.out).mono ?_
  rintro e w1 hq
  unfold NextR at hq
  rw [HDR.out] at hq
  obtain ⟨rfl, hr1, ho1⟩ := hq
  go_wp2_with fail
  refine (refnumber_call B rb _ a cap bs (p + 1) hr1).mono ?_
  rintro e w2 ⟨u, q, bad, rfl, hu, hr2, ho2, hout⟩
  have HO2 := Lib.hid (ho1.trans ho2)
  have HR2 := Lib.hid hr2
  have hq := hr2.le
  obtain ⟨z0, z1, z2, z3, g0, g1, g2, g3, hsz⟩ := only_zero HO2.out hrb
  obtain ⟨c0, c1, c2, f0, f1, f2⟩ := hr2.cells
  clear hr1 ho1 ho2 hr2
  have i1 : IntKind.i64.wrap ((bs.length : Int) - (q : Int)) = (bs.length : Int) - (q : Int) := by rw [IntKind.wrap_i64]; omega
  have i2 : IntKind.u64.wrap ((bs.length : Int) - (q : Int)) = (bs.length : Int) - (q : Int) := by rw [IntKind.wrap_u64]; omega
  cases bad with
  | true =>
    have HN : Hid (dec d (bs.drop p) = none) := by
      have h1 := numout_bad hout
      rw [drop_next HDR.out] at h1
      unfold Hid; rw [HDR.out]; exact dec_list_none (decL_bad h1)
    clear hout
    go_wp2_with fail
    go_quiet (fail)
    go_wp2_with fail
    refine bodyPost_ret (v := val 0 0 ⟨#[]⟩ none 0 0) (by simp [results, Try.results35, go_sem, z0, z1, z2, z3]) rfl (valr_bad HN.out (((HR2.out.draws _).setBad true).new4 hrb) (only_new4 ((only_below HB.out).trans ((HO2.out.trans (only_below (Joins.below_draws _ _ _))).trans (only_set rb _ 2 _)))))
  | false =>
    have HNO : Hid (readNum r = some (u, bs.drop q)) := by
      have := numout_ok hout
      rw [drop_next HDR.out] at this; exact this
    clear hout
    by_cases hgt : bs.length - q < u
    · have HN : Hid (dec d (bs.drop p) = none) := by
        unfold Hid; rw [HDR.out]; exact dec_list_none (decL_more HNO.out (by rw [List.length_drop]; omega))
      have hd : decide ((bs.length : Int) - (q : Int) < (u : Int)) = true := by simp; omega
      clear hgt
      go_wp2_with fail
      go_quiet (fail)
      go_wp2_with fail
      refine bodyPost_ret (v := val 0 0 ⟨#[]⟩ none 0 0) (by simp [results, Try.results35, go_sem, z0, z1, z2, z3]) rfl (valr_bad HN.out (((HR2.out.draws _).setBad true).new4 hrb) (only_new4 ((only_below HB.out).trans ((HO2.out.trans (only_below (Joins.below_draws _ _ _))).trans (only_set rb _ 2 _)))))
    · have hd : decide ((bs.length : Int) - (q : Int) < (u : Int)) = false := by simp; omega
      have huq : q + u ≤ bs.length := by omega
      clear hgt
      cases d with
      | zero =>
        have HN : Hid (dec 0 (bs.drop p) = none) := by unfold Hid; rw [HDR.out]; exact dec_list_none rfl
        have hm2 : (((m : Nat) : Int) == 16) = true := by have := HM.out; simp; omega
        go_wp2_with fail
        go_quiet (fail)
        go_wp2_with fail
        refine bodyPost_ret (v := val 0 0 ⟨#[]⟩ none 0 0) (by simp [results, Try.results35, go_sem, z0, z1, z2, z3]) rfl (valr_bad HN.out (((HR2.out.draws _).setBad true).new4 hrb) (only_new4 ((only_below HB.out).trans ((HO2.out.trans (only_below (Joins.below_draws _ _ _))).trans (only_set rb _ 2 _)))))
      | succ d =>
        have hm2 : (((m : Nat) : Int) == 16) = false := by have := HM.out; simp; omega
        go_wp2_with fail
        go_quiet (fail)
        have HR3 := Lib.hid (HR2.out.draws nq)
        have HO3 := Lib.hid (HO2.out.trans (only_below (Joins.below_draws w2.heap.size w2 nq)))
        clear c0 c1 c2 f0 f1 f2 z0 z1 z2 z3 g0 g1 g2 g3 hsz hd i1 i2
        generalize w2.drewN nq = w3 at HR3 HO3 ⊢
        have hsz : w.heap.size < w3.heap.size := by have := HO3.out.size; simp at this; omega
        go_wp2_with fail
        have HV : Hid (∀ (wr : World) (q2 : Nat), RR B rb wr a cap bs q2 false → Calls Try.prog 35 #[.pointer (some ⟨rb, 0, none⟩), .int .i64 ((m : Int) + 1)] wr fun e w' => ValR B rb wr w' a cap bs d q2 e) := fun wr q2 h2 => by
          have := ih.out d rfl (m + 1) B rb wr a cap bs q2 (by have := HM.out; omega) h2
          rw [show ((m + 1 : Nat) : Int) = (m : Int) + 1 by omega] at this
          exact this
        have hrb3 : rb < w3.heap.size := by omega
        obtain ⟨i0, hi0, hz0, hz1, hz2⟩ := info_parts Try.info24
        go_loopw [9] (fun s9 wr => RLHead B rb w3.heap.size w3 a cap bs (dec d) u (bs.drop q) s9 wr) (fun s9 _ => u - (intOf s9).toNat)
        case atStart =>
          exact ⟨0, q, false, [], [], .slice none 0 0, rfl, by omega, rfl, heap_alloc_new w3 _, World.ownsRow_nil _ _ _ _, (fun k hk => by simp [Value.ownBlock] at hk), HR3.out.stays (Joins.below_alloc1 w3 _) hrb3, only_below (Joins.below_alloc1 w3 _), (fun _ => ⟨rfl, (fun j hj => by simp at hj), by simp⟩), (fun h => by cases h)⟩
        case round =>
          obtain ⟨i, q2, bad, es, xs, s4, rfl, hi, hes, hg, hown, hlo, hr, ho, hok, hbad⟩ := hrel
          have HES := Lib.hid hes
          have HOWN := Lib.hid hown
          have HLO := Lib.hid hlo
          have HRR := Lib.hid hr
          have HO := Lib.hid ho
          have HOK := Lib.hid hok
          have HBAD := Lib.hid hbad
          have HG := Lib.hid hg
          obtain ⟨c0, c1, c2, f0, f1, f2⟩ := hr.cells
          obtain ⟨d0, d1, d2, d3, e0, e1, e2, e3, hgs⟩ := block4 hg
          obtain ⟨z0, z1, z2, z3, g0, g1, g2, g3, hsz2⟩ := only_zero (HO3.out.trans ho) hrb
          clear hes hown hlo hr ho hok hbad hg
          by_cases hlt : i < u
          · cases bad with
            | false =>
              have w1m : IntKind.i64.wrap ((m : Int) + 1) = (m : Int) + 1 := by rw [IntKind.wrap_i64]; omega
              go_wp2_with fail
              have HRD : Hid (RR B rb wr.drew a cap bs q2 false) := HRR.out.stays (Below.refl _ _).drew HRR.out.hi
              have HOWND : Hid (wr.drew.ownsRow 0 24 4 s4 i (es.flatMap El.cells)) := owns_below HOWN.out (Below.refl _ _).drew
              have HGD : Hid (wr.drew.heap[w3.heap.size]? = some (.cells #[.int .i64 3, .int .i64 0, .string ⟨#[]⟩, s4] 24)) := HG.out
              have HOD : Hid (Only rb w3 wr.drew) := HO.out.trans (only_below (Below.refl _ _).drew)
              have HOKD : Hid (xs.length = i ∧ (∀ j (h1 : j < xs.length), Sure (fun k => w3.heap.size + 1 ≤ k ∧ some k ≠ s4.ownBlock) wr.drew xs[j] (es.getD j El.none).val) ∧ decN (dec d) u (bs.drop q) = (decN (dec d) (u - i) (bs.drop q2)).map fun p => (xs ++ p.1, p.2)) := by
                obtain ⟨k1, k2, k3⟩ := HOK.out trivial
                exact ⟨k1, fun j h1 => (k2 j h1).later (by simp) (fun _ _ _ => rfl) (fun _ _ hp => hp), k3⟩
              clear HRR HOWN HG HO HOK HBAD
              go_region_law (first
                | (go_simp; go_at_call 35; refine (HV.out _ q2 HRD.out).mono ?_; rintro e w5 ⟨ek, en, e_s, ea, el, ec, q4, bad4, rfl, hr5, ho5, hout5⟩; have HR5 := Lib.hid hr5; have HO5 := Lib.hid ho5; have HOUT5 := Lib.hid hout5; clear hr5 ho5 hout5; obtain ⟨p0, p1, p2, p3, p4, p5, p6, p7, hg5⟩ := block4 ((HO5.out.block w3.heap.size (by simpa using hgs) (fun h => by injection h with h; omega)).trans HGD.out); clear p0 p1 p2 p4 p5 p6)
                | (refine step_append_mine _ rfl (.tmp 129) (.tmp 134) 22 rfl 24 i0 (.agg #[.int .i64 0, .int .i64 0, .string ⟨#[]⟩, .slice none 0 0]) 4 56 Try.underlying22 hi0 hz0 hz1 hz2 rfl (by decide) s4 i (es.flatMap El.cells) rfl (World.ownsRow.alloc (HOWND.out.kept HO5.out (own_off HLO.out (by omega))) _) ⟨w5.heap.size, 0, none⟩ 1 1 [.int .i64 ek, .int .i64 en, .string e_s, .slice ea el ec] rfl rfl (cell_new4 _ _ _ _ _ _) (by intro u hu; simp at hu; rcases hu with rfl | rfl | rfl | rfl <;> rfl) (by simp [maxLen]; omega) (by omega) ?_; intro v3 w6 ho6 hw6; obtain ⟨va3, c3, rfl⟩ := own_slice24 ho6; have HO6 := Lib.hid ho6; have HW6 := Lib.hid hw6; clear ho6 hw6; obtain ⟨t0, t1, t2, t3, t4, t5, t6, t7, hg6⟩ := block4 (step_block HGD.out hrb3 HO5.out HLO.out HW6.out); clear t0 t1 t2 t4 t5 t6))
              all_goals have HF := Lib.hid (list_step rfl hrb3 hlt HES.out HGD.out HOWND.out HLO.out HOD.out HOKD.out HR5.out HO5.out HOUT5.out (e := ⟨ek, en, e_s, ea, el, ec⟩) HW6.out HO6.out)
              all_goals clear HRD HOWND HGD HOD HOKD HR5 HO5 HOUT5 HO6 HW6
              all_goals go_wp2_with fail
              all_goals go_roundw
              case rel => exact HF.out
              case measure => simp [intOf]; omega
              case rel => exact HF.out
              case measure => simp [intOf]; omega
              case rel => exact HF.out
              case measure => simp [intOf]; omega
            | true =>
              obtain ⟨va, c, rfl⟩ := own_slice24 HOWN.out
              go_wp2_with fail
              refine bodyPost_ret (v := val 3 0 ⟨#[]⟩ va i c) (by simp [results, Try.results35, go_sem, z0, z1, z2, z3]) rfl ?_
              exact list_end (xs := xs) hsz hrb HDR.out HNO.out (by omega) HES.out HOWN.out HLO.out HRR.out HO3.out HO.out HB.out (fun h => by cases h) (fun _ => HBAD.out trivial) (.inl rfl)
          · obtain ⟨va, c, rfl⟩ := own_slice24 HOWN.out
            go_wp2_with fail
            refine bodyPost_ret (v := val 3 0 ⟨#[]⟩ va i c) (by simp [results, Try.results35, go_sem, z0, z1, z2, z3]) rfl ?_
            exact list_end hsz hrb HDR.out HNO.out (by omega) HES.out HOWN.out HLO.out HRR.out HO3.out HO.out HB.out HOK.out HBAD.out (.inr (by omega))

theorem refval_at (d : Nat) (ih : Hid (∀ d', d = d' + 1 → RefValSaid d')) : RefValSaid d := by
  intro m B rb w a cap bs p hm h
  cases hdr : bs.drop p with
  | nil => exact refval_none d m B rb w a cap bs p h hdr
  | cons c r =>
    by_cases h1 : c.toNat = 1
    · obtain rfl : c = 1 := by rw [← UInt8.toNat_inj, h1]; rfl
      exact refval_1 d m B rb w a cap bs r p h hdr
    · by_cases h2 : c.toNat = 2
      · obtain rfl : c = 2 := by rw [← UInt8.toNat_inj, h2]; rfl
        obtain ⟨a2, cap2, he, hl, hmx, ha, hc⟩ := h.rest
        injection he with he1 he2 he3
        subst he1 he3
        rcases hc with h0 | ⟨b, off, rfl, hb, hc⟩
        · have : bs = [] := List.eq_nil_of_length_eq_zero h0
          subst this; simp at hdr
        · exact refval_2 d m B rb b off w cap bs r p h ⟨hl, hmx⟩ hdr
      · by_cases h3 : c.toNat = 3
        · obtain rfl : c = 3 := by rw [← UInt8.toNat_inj, h3]; rfl
          exact refval_3 d m B rb w a cap bs r p hm ih h hdr
        · exact refval_other d m B rb w a cap bs r p c h hdr h1 h2 h3

theorem refval_call : ∀ d : Nat, RefValSaid d := by
  intro d
  induction d with
  | zero => exact refval_at 0 (Lib.hid (fun d' h => by omega))
  | succ d ih => exact refval_at (d + 1) (Lib.hid (fun d' h => by injection h with h; subst h; exact ih))
end Go.Proofs.Ytgliddedimpgaaa
