/- What a block does to the state: the program's function. -/
import Derived.Deep.DeepFit
import Derived.Test.YtbceimbcjijfgaaDoorZq6
namespace Go.Proofs.YtbceimbcjijfgaaDoor.Dig
open Go.RowKit

def St.list (s : St) : List Nat := [s.a, s.b, s.c, s.d, s.e, s.f, s.g, s.h]
/-- the state with its first i words of t -/
def mixS (s t : St) (i : Nat) : List Nat := t.list.take i ++ s.list.drop i
/-- Only block rb, and new blocks, have turned. -/
abbrev Only (rb : Nat) (w w' : World) : Prop := w.grownBy w' (some rb)
theorem Only.refl (rb : Nat) (w : World) : Only rb w w := World.grownBy.refl w _
theorem Only.trans {rb : Nat} {a b c : World} (h : Only rb a b) (k : Only rb b c) : Only rb a c :=
  ⟨k.os.trans h.os, k.tape.trans h.tape, k.output.trans h.output, Nat.le_trans h.size k.size, fun i hi hne => (k.block i (Nat.lt_of_lt_of_le hi h.size) hne).trans (h.block i hi hne)⟩
theorem only_set (rb : Nat) (w : World) (o : Nat) (v : Value) : Only rb w (w.setCell ⟨rb, o, none⟩ v) :=
  ⟨rfl, rfl, rfl, by simp, fun i _ hne => Below.heap_setCell w _ v i (fun e => hne (by rw [e]))⟩
theorem only_below {rb : Nat} {a b : World} (h : Below a.heap.size a b) : Only rb a b := ⟨h.os, h.tape, h.output, h.size, fun i hi _ => h.block i hi⟩
theorem Only.below {rb B : Nat} {a b : World} (h : Only rb a b) (hB : B ≤ rb) (hs : B ≤ a.heap.size) : Below B a b :=
  ⟨h.os, h.tape, h.output, h.size, fun i hi => h.block i (by omega) (fun e => by injection e with e; omega)⟩
theorem Only.drewN {rb : Nat} {a b : World} (h : Only rb a b) (n : Nat) : Only rb a (b.drewN n) := ⟨h.os, h.tape, h.output, h.size, h.block⟩

/-- only the count of draws has turned -/
def Like (W wr : World) : Prop := ∃ n, wr = W.drewN n
theorem Like.cell {W wr : World} (h : Like W wr) (p : Addr) : wr.cell? p = W.cell? p := by obtain ⟨n, rfl⟩ := h; rfl
theorem Like.only {W wr w : World} {rb : Nat} (h : Like W wr) (k : Only rb w W) : Only rb w wr := by obtain ⟨n, rfl⟩ := h; exact k.drewN n
theorem Like.row {W wr : World} {g T : Nat} {cs : List Value} (h : Like W wr) (k : Row W g T cs) : Row wr g T cs := by obtain ⟨n, rfl⟩ := h; exact k
theorem Like.drewN {W wr : World} (h : Like W wr) (m : Nat) : Like W (wr.drewN m) := by
  obtain ⟨n, rfl⟩ := h
  exact ⟨n + m, by simp [World.drewN, Nat.add_assoc]⟩

def RndHead (l : List Nat) (s : St) (W : World) (s5 s6 s7 s8 s9 s10 s11 s12 s60 : Value) (wr : World) : Prop :=
  ∃ (t : Nat) (r : St), t ≤ 64 ∧ s60 = .int .i64 (t : Int) ∧ r = rnds l s t ∧ s5 = .int .u32 (r.a : Int) ∧ s6 = .int .u32 (r.b : Int) ∧ s7 = .int .u32 (r.c : Int) ∧ s8 = .int .u32 (r.d : Int) ∧
    s9 = .int .u32 (r.e : Int) ∧ s10 = .int .u32 (r.f : Int) ∧ s11 = .int .u32 (r.g : Int) ∧ s12 = .int .u32 (r.h : Int) ∧ Like W wr

theorem ror_any (v : Nat) (x : Int) (w : World) (h1 : v < 4294967296) (h2 : 0 < x) (h3 : x < 32) :
    Calls Tryd.prog 51 #[.int .u32 v, .int .i64 x] w fun e w' => e = .returned (.int .u32 (rr x.toNat v)) ∧ w' = w := by
  have h := ror_same v x.toNat w h1 (by omega) (by omega)
  rwa [Int.toNat_of_nonneg (by omega)] at h

theorem idx8 (a b c d e f g h i : Nat) (hi : i < 8) (w : World) :
    (Instr.index 73 (.agg #[.int .u32 (a : Int), .int .u32 (b : Int), .int .u32 (c : Int), .int .u32 (d : Int), .int .u32 (e : Int), .int .u32 (f : Int), .int .u32 (g : Int), .int .u32 (h : Int)]) (.int .i64 (i : Int))).run Tryd.prog w = .ok (.int .u32 (St.nth ⟨a, b, c, d, e, f, g, h⟩ i : Int)) w := by
  rcases (by omega : i = 0 ∨ i = 1 ∨ i = 2 ∨ i = 3 ∨ i = 4 ∨ i = 5 ∨ i = 6 ∨ i = 7) with rfl | rfl | rfl | rfl | rfl | rfl | rfl | rfl
  · exact (by kernel_rfl)
  · exact (by kernel_rfl)
  · exact (by kernel_rfl)
  · exact (by kernel_rfl)
  · exact (by kernel_rfl)
  · exact (by kernel_rfl)
  · exact (by kernel_rfl)
  · exact (by kernel_rfl)
theorem mix_get (s r : St) (i : Nat) (hi : i < 8) : (u32s (mixS s r i))[i]? = some (.int .u32 (s.nth i : Int)) := by
  match i, hi with
  | 0, _ => rfl
  | 1, _ => rfl
  | 2, _ => rfl
  | 3, _ => rfl
  | 4, _ => rfl
  | 5, _ => rfl
  | 6, _ => rfl
  | 7, _ => rfl
theorem mix_set (s r t : St) (i : Nat) (hi : i < 8) (n : Nat) (hn : n = t.nth i) : (u32s (mixS s t i)).set i (.int .u32 (n : Int)) = u32s (mixS s t (i + 1)) := by
  subst hn
  match i, hi with
  | 0, _ => rfl
  | 1, _ => rfl
  | 2, _ => rfl
  | 3, _ => rfl
  | 4, _ => rfl
  | 5, _ => rfl
  | 6, _ => rfl
  | 7, _ => rfl
theorem nth_add (s r : St) (i : Nat) (hi : i < 8) : (addS s r).nth i = (s.nth i + r.nth i) % 4294967296 := by
  match i, hi with
  | 0, _ => rfl
  | 1, _ => rfl
  | 2, _ => rfl
  | 3, _ => rfl
  | 4, _ => rfl
  | 5, _ => rfl
  | 6, _ => rfl
  | 7, _ => rfl
def AddHead (s r : St) (sb T : Nat) (w : World) (s132 : Value) (wr : World) : Prop :=
  ∃ i : Nat, i ≤ 8 ∧ s132 = .int .i64 (i : Int) ∧ Row wr sb T (u32s (mixS s (addS s r) i)) ∧ Only sb w wr

set_option maxHeartbeats 4000000 in
set_option maxRecDepth 100000 in
theorem absorb_call (s : St) (hs : s.ok) (l : List UInt8) (hl : l.length = 64) (v : Value) (sb T : Nat) (w : World) (hr : Rest w.heap.size w l v) (ht : Tab w) (hst : Row w sb T (u32s s.list)) (hsb : 0 < sb) :
    Calls Tryd.prog 36 #[.pointer (some ⟨sb, 0, none⟩), v] w fun e w' => e = .returned (.tuple #[]) ∧ Row w' sb T (u32s (blockF s l).list) ∧ Only sb w w' := by
  have HR := Lib.hid hr
  have HT := Lib.hid ht
  have HS := Lib.hid hst
  clear hr ht hst
  go_enter Tryd.func36, Tryd.ntmps36
  go_wp2_with fail
  refine (schedule_call l hl v w HR.out).mono ?_
  rintro e w1 ⟨rfl, hb1⟩
  obtain ⟨ws, hws⟩ : ∃ ws, ws = wl l 48 := ⟨_, rfl⟩
  rw [← hws]
  have HWS := Lib.hid hws
  have hwl : ws.length = 64 := by rw [hws, wl_len]
  have HWLT : Hid (∀ i, ws.getD i 0 < 4294967296) := by rw [hws]; exact fun i => wl_at l 48 i
  clear hws
  have HB1 := Lib.hid hb1
  clear hb1
  have HSZ : Hid ((u32s ws).toArray.size = 64) := by rw [List.size_toArray, u32s_len, hwl]; exact rfl
  go_wp2_with (refine wpList_store_row rfl 76 (.tmp 4) (.tmp 19) rfl w1.heap.size (u32s ws).toArray rfl rfl 76 _ (heap_alloc_new w1 _) (by rw [HSZ.out]; kernel_rfl) (by rw [HSZ.out]; rfl) (u32s_one _) ?_; rw [World.setRow_alloc_new])
  obtain ⟨W, hW⟩ : ∃ W, W = w1.alloc (.cells (u32s ws).toArray 76) := ⟨_, rfl⟩
  rw [← hW]
  obtain ⟨gw, hgw⟩ : ∃ gw, gw = w1.heap.size := ⟨_, rfl⟩
  rw [← hgw]
  have hRW : Row W gw 76 (u32s ws) := by rw [hW, hgw]; exact row_new w1 76 _
  have hBW : Below w.heap.size w W := by rw [hW]; exact HB1.out.alloc HB1.out.size _
  have hSW : Row W sb T (u32s s.list) := HS.out.keep hBW
  have hTW : Tab W := HT.out.keep hBW
  have hne : gw ≠ sb := by have := HS.out.lt; have := HB1.out.size; omega
  have hwg : w.heap.size ≤ gw := by have := HB1.out.size; omega
  have HRW := Lib.hid hRW
  have HBW := Lib.hid hBW
  have HSW := Lib.hid hSW
  have HTW := Lib.hid hTW
  have c0 : W.cell? ⟨sb, 0, none⟩ = some (.int .u32 (s.a : Int)) := hSW.cell rfl
  have c1 : W.cell? ⟨sb, 1, none⟩ = some (.int .u32 (s.b : Int)) := hSW.cell rfl
  have c2 : W.cell? ⟨sb, 2, none⟩ = some (.int .u32 (s.c : Int)) := hSW.cell rfl
  have c3 : W.cell? ⟨sb, 3, none⟩ = some (.int .u32 (s.d : Int)) := hSW.cell rfl
  have c4 : W.cell? ⟨sb, 4, none⟩ = some (.int .u32 (s.e : Int)) := hSW.cell rfl
  have c5 : W.cell? ⟨sb, 5, none⟩ = some (.int .u32 (s.f : Int)) := hSW.cell rfl
  have c6 : W.cell? ⟨sb, 6, none⟩ = some (.int .u32 (s.g : Int)) := hSW.cell rfl
  have c7 : W.cell? ⟨sb, 7, none⟩ = some (.int .u32 (s.h : Int)) := hSW.cell rfl
  have HW := Lib.hid hW
  have HGW := Lib.hid hgw
  clear hW hRW hBW hSW hTW hgw
  go_quiet (fail)
  clear c0 c1 c2 c3 c4 c5 c6 c7
  go_wp2_with fail
  go_loopw [5, 6, 7, 8, 9, 10, 11, 12, 60] (fun s5 s6 s7 s8 s9 s10 s11 s12 s60 wr => RndHead ws s W s5 s6 s7 s8 s9 s10 s11 s12 s60 wr) (fun _ _ _ _ _ _ _ _ s60 _ => 64 - (intOf s60).toNat)
  case atStart => exact ⟨0, s, by omega, rfl, rfl, rfl, rfl, rfl, rfl, rfl, rfl, rfl, rfl, nq, rfl⟩
  case round =>
    obtain ⟨t, r, ht, rfl, hrr, rfl, rfl, rfl, rfl, rfl, rfl, rfl, rfl, hlk⟩ := hrel
    have HLK := Lib.hid hlk
    clear hlk
    have HRR := Lib.hid hrr
    have hok : r.ok := by rw [hrr]; exact rnds_ok hs t
    clear hrr
    obtain ⟨a, b, c, d, e, f, g, h⟩ := r
    obtain ⟨ha, hb, hc, hd, he, hf, hg, hh⟩ := hok
    simp only at ha hb hc hd he hf hg hh
    rcases Nat.lt_or_ge t 64 with hlt | hge
    · have ck : wr.cell? ⟨0, t, none⟩ = some (.int .u32 (kTab.getD t 0 : Int)) := (HLK.out.cell _).trans (HTW.out.2 t hlt)
      have cw : wr.cell? ⟨gw, t, none⟩ = some (.int .u32 (ws.getD t 0 : Int)) := (HLK.out.cell _).trans (HRW.out.cell (u32s_get (by omega)))
      obtain ⟨kk, hkk⟩ : ∃ kk, kk = kTab.getD t 0 := ⟨_, rfl⟩
      obtain ⟨wt, hwt⟩ : ∃ wt, wt = ws.getD t 0 := ⟨_, rfl⟩
      rw [← hkk] at ck
      rw [← hwt] at cw
      have lk : kk < 4294967296 := by rw [hkk]; exact kTab_lt t
      have lw : wt < 4294967296 := by rw [hwt]; exact HWLT.out t
      have HKK := Lib.hid hkk
      have HWT := Lib.hid hwt
      clear hkk hwt
      go_wp2_with fail
      go_quiet ((go_at_call 51; exact Calls.quiet_of_same (ror_any _ _ _ (by omega) (by omega) (by omega))))
      go_wp2_with (go_at_call 51; refine (ror_any _ _ _ (by omega) (by omega) (by omega)).mono ?_; rintro e' w' ⟨rfl, rfl⟩)
      go_roundw
      case rel =>
        rw [bg1_bits e he, bg0_bits a ha, chs_bits e f g he hf hg, maj_bits a b c ha hb hc, rnd_a kk wt a b c d e f g h, rnd_e kk wt a b c d e f g h]
        exact ⟨t + 1, rnd kk wt ⟨a, b, c, d, e, f, g, h⟩, by omega, by go_num, by rw [rnds, ← HRR.out, ← HKK.out, ← HWT.out], rfl, rfl, rfl, rfl, rfl, rfl, rfl, rfl, HLK.out.drewN nq⟩
      case measure => simp [intOf]; omega
    · obtain rfl : t = 64 := by omega
      rw [show ((64 : Nat) : Int) = 64 from rfl]
      go_wp2_with fail
      obtain ⟨wo, rfl⟩ : ∃ wo : World, wo = wr := ⟨_, rfl⟩
      have HRow : Hid (Row wo sb T (u32s s.list)) := HLK.out.row HSW.out
      have HOnly : Hid (Only sb w wo) := HLK.out.only ((only_below HBW.out))
      go_loopw [132] (fun s132 wr => AddHead s ⟨a, b, c, d, e, f, g, h⟩ sb T w s132 wr) (fun s132 _ => 8 - (intOf s132).toNat)
      case atStart => exact ⟨0, by omega, rfl, by unfold mixS; simpa using HRow.out, HOnly.out⟩
      case round =>
        obtain ⟨i, hi, rfl, hrow, hon⟩ := hrel
        have HRow := Lib.hid hrow
        have HOnly := Lib.hid hon
        clear hrow hon
        rcases Nat.lt_or_ge i 8 with hlt | hge
        · obtain ⟨x, hx⟩ : ∃ x, x = St.nth ⟨a, b, c, d, e, f, g, h⟩ i := ⟨_, rfl⟩
          obtain ⟨y, hy⟩ : ∃ y, y = s.nth i := ⟨_, rfl⟩
          have hidx := idx8 a b c d e f g h i hlt wr
          rw [← hx] at hidx
          have hcell : wr.cell? ⟨sb, i, none⟩ = some (.int .u32 (y : Int)) := by rw [hy]; exact HRow.out.cell (mix_get s _ i hlt)
          have hfr : wr.frozen? ⟨sb, i, none⟩ = false := HRow.out.free i
          have HX := Lib.hid hx
          have HY := Lib.hid hy
          clear hx hy
          go_wp2_with fail
          refine wp_region_still_tail 11 (by kernel_rfl) (by kernel_rfl) ?_
          simp only [List.take_succ_cons, List.take_zero, List.drop_succ_cons, List.drop_zero]
          obtain ⟨W2, hW2⟩ : ∃ W2, W2 = wr.drew := ⟨_, rfl⟩
          have hcell2 : W2.cell? ⟨sb, i, none⟩ = some (.int .u32 (y : Int)) := by rw [hW2]; exact hcell
          have hfr2 : W2.frozen? ⟨sb, i, none⟩ = false := by rw [hW2]; exact hfr
          change wpStill Tryd.prog _ (wr.drew) (fun a' => wpList Tryd.prog _ _ _ a' (wr.drew)) _ _
          rw [← hW2]
          have HW2 := Lib.hid hW2
          clear hW2 hcell hfr hidx
          repeat still_step
          refine wpStill_nil ?_
          go_wp2_with fail
          go_roundw
          case rel =>
            have hW2 : W2 = wr.drew := HW2.out
            have hr2 : Row W2 sb T (u32s (mixS s (addS s ⟨a, b, c, d, e, f, g, h⟩) i)) := by rw [hW2]; exact HRow.out
            have ho2 : Only sb w W2 := by rw [hW2]; exact HOnly.out.drewN 1
            rw [show ((y : Int) + (x : Int)) % 4294967296 = (((y + x) % 4294967296 : Nat) : Int) by omega]
            exact ⟨i + 1, by omega, by go_num, hr2.set i _ (mix_set s s (addS s ⟨a, b, c, d, e, f, g, h⟩) i hlt _ (by rw [nth_add _ _ i hlt, HX.out, HY.out])), ho2.trans (only_set _ _ _ _)⟩
          case measure => simp [intOf]; omega
        · obtain rfl : i = 8 := by omega
          go_wp2_with fail
          go_end0
          have e1 : addS s ⟨a, b, c, d, e, f, g, h⟩ = blockF s l := by rw [HRR.out, HWS.out]; rfl
          have hrow : Row wr sb T (u32s (mixS s (addS s ⟨a, b, c, d, e, f, g, h⟩) 8)) := HRow.out
          rw [e1] at hrow
          exact ⟨rfl, hrow, HOnly.out⟩
end Go.Proofs.YtbceimbcjijfgaaDoor.Dig

/- The state's beginning and its bytes: the program's functions. -/
namespace Go.Proofs.YtbceimbcjijfgaaDoor.Dig
open Go.RowKit

set_option maxRecDepth 100000 in
theorem begin_call (w : World) :
    Calls Tryd.prog 35 #[] w fun e w' => e = .returned (.pointer (some ⟨w.heap.size, 0, none⟩)) ∧ w' = w.alloc (.cells (u32s init.list).toArray 75) := by
  go_enter Tryd.func35, Tryd.ntmps35
  go_wp2
  go_ret
  exact ⟨rfl, rfl⟩

/-- the first i bytes and noughts -/
def ob (s : St) (i : Nat) : List UInt8 := (out s).take i ++ List.replicate (32 - i) 0
theorem ob_len (s : St) (i : Nat) (h : i ≤ 32) : (ob s i).length = 32 := by unfold ob; rw [List.length_append, List.length_take, out_len]; simp; omega
theorem out_get (s : St) (i : Nat) (h : i < 32) : (out s)[i]? = some (UInt8.ofNat (s.nth (i / 4) / 2 ^ (24 - i % 4 * 8))) := by simp [out, h]
theorem ob_set (s : St) (i : Nat) (h : i < 32) (n : Nat) (hn : n = s.nth (i / 4) / 2 ^ (24 - i % 4 * 8) % 256) : (cellsOf (ob s i)).set i (.int .u8 (n : Int)) = cellsOf (ob s (i + 1)) := by
  subst hn
  unfold ob
  have hl : (cellsOf ((out s).take i)).length = i := by rw [cellsOf_len, List.length_take, out_len]; omega
  rw [cellsOf_append, cellsOf_append, List.set_append_right _ _ (by omega), hl, show 32 - i = (32 - (i + 1)) + 1 by omega, List.replicate_succ]
  have ht : (out s).take (i + 1) = (out s).take i ++ [UInt8.ofNat (s.nth (i / 4) / 2 ^ (24 - i % 4 * 8))] := by
    have hi : i < (out s).length := by rw [out_len]; exact h
    rw [List.take_succ_eq_append_getElem hi]
    have := out_get s i h
    rw [List.getElem?_eq_getElem hi] at this
    rw [Option.some.inj this]
  rw [ht, cellsOf_append, List.append_assoc]
  congr 1
  simp [cellsOf]

def DigHead (s : St) (g : Nat) (w : World) (s4 : Value) (wr : World) : Prop := ∃ i : Nat, i ≤ 32 ∧ s4 = .int .i64 (i : Int) ∧ Row wr g 30 (cellsOf (ob s i)) ∧ Below w.heap.size w wr

theorem list_nth (s : St) (i : Nat) (h : i < 8) : (u32s s.list)[i]? = some (.int .u32 (s.nth i : Int)) := by
  rcases (by omega : i = 0 ∨ i = 1 ∨ i = 2 ∨ i = 3 ∨ i = 4 ∨ i = 5 ∨ i = 6 ∨ i = 7) with rfl | rfl | rfl | rfl | rfl | rfl | rfl | rfl <;> rfl

set_option maxHeartbeats 1000000 in
set_option maxRecDepth 100000 in
theorem digest_call (s : St) (hs : s.ok) (sb T : Nat) (w : World) (hst : Row w sb T (u32s s.list)) :
    Calls Tryd.prog 39 #[.pointer (some ⟨sb, 0, none⟩)] w fun e w' => e = .returned (dg (out s)) ∧ Below w.heap.size w w' := by
  have HS := Lib.hid hst
  have hlt := hst.lt
  clear hst
  go_enter Tryd.func39, Tryd.ntmps39
  go_wp2_with fail
  go_loopw [4] (fun s4 wr => DigHead s w.heap.size w s4 wr) (fun s4 _ => 32 - (intOf s4).toNat)
  case atStart => exact ⟨0, by omega, rfl, row_new w 30 _, Joins.below_alloc1 w _⟩
  case round =>
    obtain ⟨i, hi, rfl, hrow, hbe⟩ := hrel
    have HR := Lib.hid hrow
    have HB := Lib.hid hbe
    clear hrow hbe
    rcases Nat.lt_or_ge i 32 with hlt2 | hge
    · obtain ⟨x, hx⟩ : ∃ x, x = s.nth (i / 4) := ⟨_, rfl⟩
      obtain ⟨q, hq⟩ : ∃ q, q = i / 4 := ⟨_, rfl⟩
      have eq1 : (i : Int) / 4 = (q : Int) := by omega
      have eq2 : (i : Int).tdiv 4 = (q : Int) := by rw [Int.tdiv_eq_ediv_of_nonneg (by omega)]; omega
      have hc : wr.cell? ⟨sb, q, none⟩ = some (.int .u32 (x : Int)) := by rw [hx, hq]; exact (HB.out.cell (p := ⟨sb, i / 4, none⟩) hlt).trans (HS.out.cell (list_nth s _ (by omega)))
      have lq : q < 8 := by omega
      have lx : x < 4294967296 := by rw [hx]; exact St.nth_lt hs _
      have hc0 : ∃ v0, wr.cell? ⟨w.heap.size, i, none⟩ = some v0 := ⟨_, HR.out.cell (v := _) (cellsOf_get (by rw [ob_len s i hi]; exact hlt2))⟩
      obtain ⟨v0, hc0⟩ := hc0
      have hf0 : wr.frozen? ⟨w.heap.size, i, none⟩ = false := HR.out.free i
      have HX := Lib.hid hx
      have HQ := Lib.hid hq
      clear hx hq
      go_wp2_with fail
      go_roundw
      case rel =>
        rw [show (x : Int) / 2 ^ (24 - i % 4 * 8) % 256 = ((x / 2 ^ (24 - i % 4 * 8) % 256 : Nat) : Int) by simp]
        exact ⟨i + 1, by omega, by go_num, HR.out.set i _ (ob_set s i hlt2 _ (by rw [HX.out])), HB.out.setCell (Nat.le_refl _) _⟩
      case measure => simp [intOf]; omega
    · obtain rfl : i = 32 := by omega
      have hcs : Hid ((cellsOf (ob s 32)).toArray.size = 32) := by rw [List.size_toArray, cellsOf_len, ob_len s 32 (by omega)]; exact rfl
      go_wp2_with (first | (refine wpList_load_row rfl 30 (.tmp 2) rfl w.heap.size rfl 30 (cellsOf (ob s 32)).toArray (0, 0) _ HR.out Tryd.underlying30 rfl (by rw [hcs.out]; kernel_rfl) ?_) | (refine wpList_store_row rfl 30 (.tmp 2) (.tmp 23) rfl w.heap.size (cellsOf (ob s 32)).toArray rfl rfl 30 (cellsOf (ob s 32)).toArray HR.out (by rw [hcs.out]; kernel_rfl) rfl (cellsOf_one _) ?_))
      refine bodyPost_ret (results_cell_row rfl _ _ w.heap.size 30 (cellsOf (ob s 32)).toArray (0, 0) _ rfl (HR.out.setRow _) Tryd.underlying30 rfl (by rw [hcs.out]; kernel_rfl)) rfl ⟨?_, below_setRow HB.out _ _ (Nat.le_refl _)⟩
      have e : ob s 32 = out s := by unfold ob; rw [List.take_of_length_le (by rw [out_len]; omega)]; simp
      rw [e]; rfl
end Go.Proofs.YtbceimbcjijfgaaDoor.Dig
