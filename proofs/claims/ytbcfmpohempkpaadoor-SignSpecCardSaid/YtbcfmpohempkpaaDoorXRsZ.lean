/- The hash of bytes: the reference's function. -/
import Derived.Test.YtbcfmpohempkpaaDoorXRbZ
import Derived.Test.YtbcfmpohempkpaaDoorXRpZ
import Derived.Test.YtbcfmpohempkpaaDoorZc21
import Derived.Test.YtbcfmpohempkpaaDoorXTZ
import Derived.Deep.RegionLaw
import Derived.Deep.RegionHeld
import Derived.BigRegion
namespace Go.Proofs.YtbcfmpohempkpaaDoor.Dig
open Go.RowKit

set_option maxRecDepth 100000 in
theorem only_setRow (rb : Nat) (w : World) (cs : Array Value) : Only rb w (w.setRow rb cs) :=
  ⟨rfl, rfl, rfl, by simp, fun i _ hne => setRow_other w rb i cs (fun e => hne (by rw [e]))⟩
set_option maxRecDepth 100000 in
theorem buf_only {w1 W0 W' : World} {v : Value} {xs : List UInt8} {g : Nat} (hn : New w1 W0 v xs) (hg : g < w1.heap.size) (ho : Only g W0 W') : Rest W'.heap.size W' xs v := by
  have hb : Buf W' v xs := by
    have hown : W0.ownsRow 0 5 1 v xs.length (cellsOf xs) := hn.1
    refine ⟨hown.1, ?_⟩
    rcases hown.2 with h0 | ⟨g', cap, cur, rfl, hbg, hh, h1, h2, h3, h4⟩
    · exact .inl h0
    · have hge := hn.2.2 g' rfl
      have hlt : g' < W0.heap.size := (Array.getElem?_eq_some_iff.1 hh).1
      exact .inr ⟨g', cap, cur, rfl, hbg, (ho.block g' hlt (fun e => by injection e with e; omega)).trans hh, h1, h2, h3, h4⟩
  exact buf_rest' hb
set_option maxRecDepth 100000 in
theorem row_only {w w' : World} {g g' T : Nat} {cs : List Value} (h : Row w g T cs) (ho : Only g' w w') (hne : g ≠ g') : Row w' g T cs :=
  (ho.block g h.lt (fun e => by injection e with e; exact hne e)).trans h
set_option maxRecDepth 100000 in
theorem wp_load_58 {o : Oper} {a : Act} {w : World} {K : Act → World → Prop} {Q : Exit → Act → World → Prop} (x : Operand) (ho : o.op = .load 90 x) (g : Nat) (s : St) (hx : a.eval x = .pointer (some ⟨g, 0, none⟩)) (hg : Row w g 90 (u32s s.list))
    (h : K (a.put o.dst (.agg (u32s s.list).toArray)) w) : o.wp Tryd.prog a w K Q :=
  wp_load_mid 90 x ho g 0 hx (u32s s.list) _ (range_row hg) und58 rfl info90 h
set_option maxRecDepth 100000 in
theorem wp_store_58 {o : Oper} {a : Act} {w W0 : World} {K : Act → World → Prop} {Q : Exit → Act → World → Prop} (x y : Operand) (ho : o.op = .store 90 x y) (g : Nat) (s t : St) (hx : a.eval x = .pointer (some ⟨g, 0, none⟩)) (hy : a.eval y = .agg (u32s t.list).toArray)
    (hg : Row w g 90 (u32s s.list)) (hO : Only g W0 w) (h : ∀ w', Row w' g 90 (u32s t.list) → Only g W0 w' → K (a.put o.dst undef) w') : o.wp Tryd.prog a w K Q :=
  wp_store_row 90 x y ho g (u32s t.list).toArray hx hy 90 (u32s s.list).toArray hg info90 rfl (u32s_one _) (h _ (hg.setRow _) (hO.trans (only_setRow g w _)))
set_option maxRecDepth 100000 in
theorem pad_mul (l : List UInt8) : 64 * ((pad l).length / 64) = (pad l).length := by have := pad_len l; omega
set_option maxRecDepth 100000 in
theorem pad_pos (l : List UInt8) : 0 < (pad l).length := by unfold pad; rw [List.length_append, ends_len]; omega
set_option maxRecDepth 100000 in
theorem pad_le (l : List UInt8) : (pad l).length ≤ l.length + 73 := by unfold pad; rw [List.length_append, ends_len]; unfold zeros; omega

def SuHead (W0 : World) (l : List UInt8) (g3 : Nat) (s5 : Value) (wr : World) : Prop := ∃ k : Nat, 64 * k ≤ (pad l).length ∧ s5 = .int .i64 ((64 * k : Nat) : Int) ∧ Row wr g3 90 (u32s (absN init (pad l) k).list) ∧ Only g3 W0 wr
def SoHead (s : St) (g6 : Nat) (W : World) (s7 : Value) (wr : World) : Prop := ∃ i : Nat, i ≤ 32 ∧ s7 = .int .i64 (i : Int) ∧ Row wr g6 59 (cellsOf (ob s i)) ∧ Only g6 W wr

set_option maxHeartbeats 4000000 in
set_option maxRecDepth 100000 in
theorem refsum_call (l : List UInt8) (hl : l.length ≤ 1099511627776) (v : Value) (w : World) (hr : Rest w.heap.size w l v) : Calls Tryd.prog 61 #[v] w (RetD w (sha l)) := by
  have HR := Lib.hid hr
  have HB0 := Lib.hid (Below.refl w.heap.size w)
  clear hr
  go_enter Tryd.func61, Tryd.ntmps61
  go_wp2_with (first
    | (refine wpList_alloc_dig rfl 2 rfl rfl ?_; intro g2 w1 hg hrow hb; have H2 := Lib.hid hrow; have hg2 : w.heap.size ≤ g2 := (by omega); have HB0 := Lib.hid (below_next HB0.out hb); clear hg hrow hb)
    | (refine wpList_value 90 ⟨_, rfl⟩ rfl (.agg (u32s init.list).toArray) (by kernel_rfl) ?_)
    | (refine wpList_alloc_u rfl 3 rfl rfl (u32s (List.replicate 8 0)) (by kernel_rfl) ?_; intro g3 w2 hg hrow hb; have H3 := Lib.hid hrow; have h23 : g2 ≠ g3 := (by have := H2.out.lt; omega); have H2 := Lib.hid (H2.out.keep hb); have hg3 : w.heap.size ≤ g3 := (by have := HB0.out.size; omega); have HB0 := Lib.hid (below_next HB0.out hb); clear hg hrow hb)
    | (refine wpList_store_u rfl (.tmp 3) (.tmp 8) rfl g3 (u32s init.list) (u32s (List.replicate 8 0)) rfl rfl H3.out info90 rfl (u32s_one _) HB0.out hg3 ?_; intro w3 hrow hb hoth; have H3 := Lib.hid hrow; have H2 := Lib.hid (hoth _ _ _ h23 H2.out); have HB0 := Lib.hid hb; clear hrow hb hoth)
    | fail)
  refine (refpadded_call l hl v w3 (rest_keep HR.out HB0.out)).mono ?_
  rintro e W0 ⟨pv, rfl, hnew⟩
  have HB := Lib.hid (below_next HB0.out hnew.2.1)
  have H3W := Lib.hid (H3.out.keep hnew.2.1)
  have H2W := Lib.hid (H2.out.keep hnew.2.1)
  obtain ⟨p, hp⟩ : ∃ p, p = pad l := ⟨_, rfl⟩
  rw [← hp] at hnew
  have hp0 : 0 < p.length := by rw [hp]; exact pad_pos l
  have hpl : p.length ≤ 1099511627849 := by have := pad_le l; rw [hp]; omega
  have hpm : 64 * (p.length / 64) = p.length := by rw [hp]; exact pad_mul l
  have HREST : Hid (∀ W', Only g3 W0 W' → Rest W'.heap.size W' p pv) := fun W' h => buf_only hnew H3.out.lt h
  obtain ⟨pb, poff, pcap, rfl, hpc, hpc2, _, _⟩ := rest_cells (buf_rest' hnew.1) hp0
  obtain ⟨m, hm⟩ : ∃ m, m = p.length := ⟨_, rfl⟩
  rw [← hm] at HREST hp0 hpl hpm hpc ⊢
  have HM := Lib.hid hm
  have HP := Lib.hid hp
  clear hnew hm hp
  go_wp2_with fail
  go_loopw [5] (fun s5 wr => SuHead W0 l g3 s5 wr) (fun s5 _ => m - (intOf s5).toNat)
  case atStart => exact ⟨0, by omega, by go_num, H3W.out, Only.refl _ _⟩
  case round =>
    obtain ⟨k, hk, rfl, hrow, hon⟩ := hrel
    rw [← HP.out, ← HM.out] at hk
    rw [← HP.out] at hrow
    have HO := Lib.hid hon
    obtain ⟨st, hst⟩ : ∃ st, st = absN init p k := ⟨_, rfl⟩
    have hok : st.ok := by rw [hst]; exact absN_ok init_ok p k
    rw [← hst] at hrow
    have HG := Lib.hid hrow
    have HST := Lib.hid hst
    clear hrow hon hst
    rcases Nat.lt_or_ge (64 * k) m with hlt | hge
    · have hfit : 64 * k + 64 ≤ m := by omega
      obtain ⟨lb, hlb⟩ : ∃ lb, lb = (p.drop (64 * k)).take 64 := ⟨_, rfl⟩
      have hlbl : lb.length = 64 := by rw [hlb, List.length_take, List.length_drop, ← HM.out]; omega
      have HBK : Hid (∀ W', Only g3 W0 W' → Calls Tryd.prog 79 #[.agg (u32s st.list).toArray, .slice (some ⟨pb, poff + 64 * k, none⟩) 64 (pcap - 64 * k)] W' fun e w' => e = .returned (.agg (u32s (blockF st lb).list).toArray) ∧ Below W'.heap.size W' w') := fun W' h => by
        have hr := HREST.out W' h
        rw [HM.out] at hr
        have hp := rest_part hr (64 * k) 64 (pcap - 64 * k) (by rw [← HM.out]; omega) (by omega) (by omega)
        rw [← hlb] at hp
        exact refblock_call st hok lb hlbl _ W' hp
      have HLB := Lib.hid hlb
      have hltI : (64 : Int) * (k : Int) < (m : Int) := by omega
      obtain ⟨j0, hj0⟩ : ∃ j0, j0 = 64 * k := ⟨_, rfl⟩
      obtain ⟨j1, hj1⟩ : ∃ j1, j1 = j0 + 64 := ⟨_, rfl⟩
      rw [← hj0] at HBK
      have HJ0 := Lib.hid hj0
      have HJ1 := Lib.hid hj1
      have e0 : (64 : Int) * (k : Int) = (j0 : Int) := by omega
      have e1 : IntKind.i64.wrap ((j0 : Int) + 64) = (j1 : Int) := by rw [IntKind.wrap_i64]; omega
      have l1 : j1 ≤ pcap := by omega
      have l2 : j0 ≤ j1 := by omega
      have l3 : j1 - j0 = 64 := by omega
      have l4 : ¬ pcap = j0 := by omega
      clear hlb hj0 hj1
      go_wp2_with fail
      refine wp_region_any (by kernel_rfl) ?_
      try (change wpAny _ _ _ _ _ _ _ (World.drew _))
      (obtain ⟨w0, hw0⟩ : ∃ x, x = wr.drew := ⟨_, rfl⟩; rw [← hw0]; have HO0 : Hid (Only g3 W0 w0) := (by rw [hw0]; exact HO.out.drewN 1); have HG0 : Hid (Row w0 g3 90 (u32s st.list)) := (by rw [hw0]; exact HG.out); clear hw0)
      refine wpAny_take (i := 1) (oi := { dst := some 18, op := Op.move (Operand.tmp 4), type := 22, pos := "ref.go:66", after := #[], guard := none }) (v := ?_) rfl (by kernel_rfl) (by kernel_rfl) (by kernel_rfl) (fun _ _ _ h => h) (Or.inl ⟨by rfl, ?_⟩) ?_
      rotate_left
      · (intro w; go_simp; with_reducible rfl)
      try simp only [Act.put, List.setIfInBounds_toArray, List.set_cons_zero, List.set_cons_succ]
      refine wpAny_take (i := 2) (oi := { dst := some 19, op := Op.move (Operand.tmp 5), type := 3, pos := "ref.go:66", after := #[], guard := none }) (v := ?_) rfl (by kernel_rfl) (by kernel_rfl) (by kernel_rfl) (fun _ _ _ h => h) (Or.inl ⟨by rfl, ?_⟩) ?_
      rotate_left
      · (intro w; go_simp; with_reducible rfl)
      try simp only [Act.put, List.setIfInBounds_toArray, List.set_cons_zero, List.set_cons_succ]
      refine wpAny_take (i := 3) (oi := { dst := some 20, op := Op.move (Operand.tmp 5), type := 3, pos := "ref.go:66", after := #[], guard := none }) (v := ?_) rfl (by kernel_rfl) (by kernel_rfl) (by kernel_rfl) (fun _ _ _ h => h) (Or.inl ⟨by rfl, ?_⟩) ?_
      rotate_left
      · (intro w; go_simp; with_reducible rfl)
      try simp only [Act.put, List.setIfInBounds_toArray, List.set_cons_zero, List.set_cons_succ]
      refine wpAny_take (i := 4) (oi := { dst := some 21, op := Op.binOp BinOp.add 3 (Operand.tmp 20) (Operand.const (Value.int IntKind.i64 64)) 3, type := 3, pos := "ref.go:66", after := #[{ on := 3, ground := Ground.data }], guard := none }) (v := ?_) rfl (by kernel_rfl) (by kernel_rfl) (by kernel_rfl) (fun _ _ _ h => h) (Or.inl ⟨by rfl, ?_⟩) ?_
      rotate_left
      · (intro w; go_simp; with_reducible rfl)
      try simp only [Act.put, List.setIfInBounds_toArray, List.set_cons_zero, List.set_cons_succ]
      refine wpAny_take (i := 5) (oi := { dst := some 22, op := Op.slice 22 (Operand.tmp 18) (some (Operand.tmp 19)) (some (Operand.tmp 21)) none, type := 22, pos := "ref.go:66", after := #[{ on := 1, ground := Ground.data }, { on := 2, ground := Ground.data }, { on := 4, ground := Ground.data }], guard := none }) (v := ?_) rfl (by kernel_rfl) (by kernel_rfl) (by kernel_rfl) (fun _ _ _ h => h) (Or.inl ⟨by rfl, ?_⟩) ?_
      rotate_left
      · (intro w; go_simp; with_reducible rfl)
      try simp only [Act.put, List.setIfInBounds_toArray, List.set_cons_zero, List.set_cons_succ]
      refine wpAny_ready (rs := [0]) (by kernel_rfl) (by simp) ?_
      refine Go.BigFrame.allReady_want (o := { dst := some 17, op := Op.load 90 (Operand.tmp 3), type := 90, pos := "ref.go:66", after := #[], guard := none }) rfl (by rfl) (fun K hK => ?_) ?_
      · skip
        ((refine wp_load_58 _ rfl g3 st rfl HG0.out ?_))
        refine hK _ _ ?_
        clear hK K
        try simp only [Act.put, List.setIfInBounds_toArray, List.set_cons_zero, List.set_cons_succ]
        refine wpAny_ready (rs := [6]) (by kernel_rfl) (by simp) ?_
        refine Go.BigFrame.allReady_want (o := { dst := some 23, op := Op.call { callee := Callee.value (Operand.func 79), args := #[Operand.tmp 17, Operand.tmp 22], argTypes := #[90, 22] }, type := 90, pos := "ref.go:66", after := #[{ on := 0, ground := Ground.data }, { on := 5, ground := Ground.data }], guard := none }) rfl (by rfl) (fun K hK => ?_) ?_
        · skip
          go_simp
          go_wp2_with ((go_at_call 79; (with_reducible refine (HBK.out _ HO0.out).mono ?_); rintro e w8 ⟨rfl, hb⟩; have HG0 := Lib.hid (HG0.out.keep hb); have HO0 := Lib.hid (HO0.out.trans (only_below hb)); clear hb))
          refine wpAny_ready (rs := [7]) (by kernel_rfl) (by simp) ?_
          refine Go.BigFrame.allReady_want (o := { dst := none, op := Op.store 90 (Operand.tmp 3) (Operand.tmp 23), type := 0, pos := "ref.go:66", after := #[{ on := 6, ground := Ground.data }, { on := 6, ground := Ground.chain }, { on := 0, ground := Ground.phase }, { on := 1, ground := Ground.phase }, { on := 2, ground := Ground.phase }, { on := 3, ground := Ground.phase }, { on := 4, ground := Ground.phase }, { on := 5, ground := Ground.phase }, { on := 6, ground := Ground.phase }], guard := none }) rfl (by rfl) (fun K hK => ?_) ?_
          · skip
            ((refine wp_store_58 _ _ rfl g3 st (blockF st lb) rfl rfl HG0.out HO0.out ?_; intro w9 hg ho; have HG0 := Lib.hid hg; have HO0 := Lib.hid ho; clear hg ho))
            refine hK _ _ ?_
            clear hK K
            try simp only [Act.put, List.setIfInBounds_toArray, List.set_cons_zero, List.set_cons_succ]
            refine wpAny_done (by kernel_rfl) ?_ _
            ((go_wp2_with fail; exact ⟨⟨k + 1, (by rw [← HP.out, ← HM.out]; omega), (by have := HJ0.out; have := HJ1.out; go_num), (by rw [← HP.out, absN, ← HST.out, ← HLB.out]; exact HG0.out), HO0.out⟩, (by simp [intOf]; omega)⟩))
          exact AllReady.nil
        exact AllReady.nil
      exact AllReady.nil
    · have hge2 : ¬ ((64 : Int) * (k : Int) < (m : Int)) := by omega
      have hke : k = m / 64 := by omega
      have HSH : Hid (sha l = out st) := by rw [HST.out, hke, HM.out, HP.out]; rfl
      have H2r : Hid (Row wr g2 59 zb) := row_only H2W.out HO.out h23
      have HBr : Hid (Below w.heap.size w wr) := by
        have := HO.out.below (B := w.heap.size) hg3 HB.out.size
        exact HB.out.trans this
      clear hke
      have H26z : Hid ((cellsOf zd).toArray = z32) := rfl
      go_wp2_with (first
        | (refine wpList_value 59 ⟨_, rfl⟩ rfl (dg zd) (by kernel_rfl) ?_)
        | (refine wpList_alloc_dig rfl 6 rfl rfl ?_; intro g6 w11 hg hrow hb; have H6 := Lib.hid hrow; have h26 : g2 ≠ g6 := (by have := H2r.out.lt; omega); have h36 : g3 ≠ g6 := (by have := HG.out.lt; omega); have hg6 : wr.heap.size ≤ g6 := (by omega); have HB11 := Lib.hid hb; clear hg hrow hb)
        | (refine wpList_store_dig rfl (.tmp 6) (.tmp 24) rfl g6 zd zd_len rfl rfl H6.out HB11.out hg6 ?_; intro W hrow hb hoth; have H6 := Lib.hid hrow; have HBW := Lib.hid hb; clear hrow hb hoth)
        | fail)
      have H2W' := Lib.hid (H2r.out.keep HBW.out)
      have H3W' := Lib.hid (HG.out.keep HBW.out)
      have HBWw := Lib.hid (below_next HBr.out HBW.out)
      have hg6w : w.heap.size ≤ g6 := by have := HBr.out.size; omega
      have hlt3 := H3W'.out.lt
      have HLO : Hid ((out st).length = 32) := out_len st
      obtain ⟨wo, rfl⟩ : ∃ wo : World, wo = wr := ⟨_, rfl⟩
      clear hge hge2
      go_loopw [7] (fun s7 wr => SoHead st g6 W s7 wr) (fun s7 _ => 32 - (intOf s7).toNat)
      case atStart => exact ⟨0, by omega, by go_num, H6.out, Only.refl _ _⟩
      case round =>
        obtain ⟨i, hi, rfl, hrow, hbe⟩ := hrel
        have HR6 := Lib.hid hrow
        have HB6 := Lib.hid hbe
        clear hrow hbe
        rcases Nat.lt_or_ge i 32 with hlt2 | hge
        · obtain ⟨x, hx⟩ : ∃ x, x = st.nth (i / 4) := ⟨_, rfl⟩
          obtain ⟨q, hq⟩ : ∃ q, q = i / 4 := ⟨_, rfl⟩
          have eq1 : (i : Int) / 4 = (q : Int) := by omega
          have eq2 : (i : Int).tdiv 4 = (q : Int) := by rw [Int.tdiv_eq_ediv_of_nonneg (by omega)]; omega
          have hc : wr.cell? ⟨g3, q, none⟩ = some (.int .u32 (x : Int)) := by rw [hx, hq]; exact (row_only H3W'.out HB6.out h36).cell (list_nth st _ (by omega))
          have lq : q < 8 := by omega
          have lx : x < 4294967296 := by rw [hx]; exact St.nth_lt hok _
          have hc0 : ∃ v0, wr.cell? ⟨g6, i, none⟩ = some v0 := ⟨_, HR6.out.cell (v := _) (cellsOf_get (by rw [ob_len st i hi]; exact hlt2))⟩
          obtain ⟨v0, hc0⟩ := hc0
          have hf0 : wr.frozen? ⟨g6, i, none⟩ = false := HR6.out.free i
          have HX := Lib.hid hx
          have HQ := Lib.hid hq
          clear hx hq
          go_wp2_with fail
          rw [show (x : Int) / 2 ^ (24 - 8 * (i % 4)) % 256 = ((x / 2 ^ (24 - i % 4 * 8) % 256 : Nat) : Int) by rw [Nat.mul_comm (i % 4) 8]; simp]
          exact ⟨⟨i + 1, by omega, by go_num, HR6.out.set i _ (ob_set st i hlt2 _ (by rw [HX.out])), HB6.out.trans (only_set _ _ _ _)⟩, by simp [intOf]; omega⟩
        · obtain rfl : i = 32 := by omega
          have e : ob st 32 = out st := by unfold ob; rw [List.take_of_length_le (by rw [out_len]; omega)]; simp
          have HRo : Hid (Row wr g6 59 (cellsOf (out st))) := by rw [← e]; exact HR6.out
          have H2z := Lib.hid (row_only H2W'.out HB6.out h26)
          have HBz := Lib.hid (HBWw.out.trans (HB6.out.below (B := w.heap.size) hg6w HBWw.out.size))
          clear e
          go_wp2_with (first
            | (refine wpList_row_dig rfl (.tmp 6) rfl g6 (out st) HLO.out rfl HRo.out ?_)
            | (refine wpList_store_dig rfl (.tmp 2) (.tmp 41) rfl g2 (out st) HLO.out rfl rfl H2z.out HBz.out hg2 ?_; intro wE hrow hb hoth; have HRE := Lib.hid hrow; have HBE := Lib.hid hb; clear hrow hb hoth)
            | fail)
          exact bodyPost_ret (results_cell_row rfl _ _ g2 59 (cellsOf (out st)).toArray (0, 0) _ rfl HRE.out Tryd.underlying59 rfl (size32' HLO.out)) rfl ⟨by rw [HSH.out]; rfl, HBE.out⟩
end Go.Proofs.YtbcfmpohempkpaaDoor.Dig
