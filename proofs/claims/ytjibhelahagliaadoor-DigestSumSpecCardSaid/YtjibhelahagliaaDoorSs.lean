/- DigestSumSpec: the law's walk. -/
import Derived.Test.YtjibhelahagliaaDoorRu
import Derived.Test.YtjibhelahagliaaDoorTa
import Derived.Laws.OwnMore
namespace Go.Proofs.YtjibhelahagliaaDoor
open Go.RowKit

theorem made_bytes (n : Nat) : madeCells (Value.int IntKind.u8 0).cells (n * 1) = (cellsOf (List.replicate n 0)).toArray := by
  apply Array.ext'
  rw [Nat.mul_one, show (Value.int IntKind.u8 0).cells = #[Value.int IntKind.u8 0] from rfl, toList_madeCells_one]
  simp [cellsOf]
theorem wpList_make {ops : Array Oper} {rest : List Oper} {o : Oper} {a : Act} {w : World} {Q : Exit → Act → World → Prop} (hgd : o.guard = none) (x : Operand) (ho : o.op = .makeSlice 22 x x) (n : Nat) (hn : n ≤ 1000000) (hx : a.eval x = .int .i64 (n : Int))
    (h : ∀ g w', Row w' g 5 (cellsOf (List.replicate n 0)) → w.heap.size ≤ g → Below w.heap.size w w' → wpList Tryd.prog ops Q rest (a.put o.dst (.slice (some ⟨g, 0, none⟩) n n)) w') : wpList Tryd.prog ops Q (o :: rest) a w :=
  wpList_plain hgd fun _ hK => by
    obtain ⟨i0, hi, hz0, hz1, hz2⟩ := info_parts Tryd.info5
    have hr := run_makeSlice (P := Tryd.prog) w 22 5 i0 (.int .u8 0) Tryd.underlying22 hi hz0 .i64 .i64 (n : Int) (n : Int) (by omega) (by omega) (by rw [hz1, Int.toNat_natCast]; omega) (by rw [hz2]; omega) (by omega)
    rw [hz1, Int.toNat_natCast, made_bytes] at hr
    have h1 := hK _ _ (h _ _ (row_new w 5 _) (Nat.le_refl _) (Joins.below_alloc1 w _))
    unfold Oper.wp execOp
    simp [ho, hx, hr, Sem.run_bind]
    exact h1
theorem row_rest' {w : World} {g n : Nat} {xs : List UInt8} (h : Row w g 5 (cellsOf xs)) (hl : xs.length = n) (hn : n ≤ 1000000) : Rest w.heap.size w xs (.slice (some ⟨g, 0, none⟩) n n) :=
  ⟨some ⟨g, 0, none⟩, n, by rw [hl], by omega, by unfold maxLen; omega, (fun h => by cases h), .inr ⟨g, 0, rfl, h.lt, fun i hi => by rw [Nat.zero_add]; exact h.cell (cellsOf_get hi)⟩⟩
theorem set_byte (xs : List UInt8) (i : Nat) (c : UInt8) : (cellsOf xs).set i (.int .u8 (c.toNat : Int)) = cellsOf (xs.set i c) := by simp [cellsOf]
def SsHead (n g : Nat) (W : World) (s27 : Value) (wr : World) : Prop := ∃ (i : Nat) (xs : List UInt8), i ≤ n ∧ s27 = .int .i64 (i : Int) ∧ xs.length = n ∧ Row wr g 5 (cellsOf xs) ∧ Only g W wr
def SsHead2 (W : World) (s53 : Value) (wr : World) : Prop := ∃ i : Nat, i ≤ 2 ∧ s53 = .int .i64 (i : Int) ∧ Below W.heap.size W wr
theorem rest_only2 {B : Nat} {w W' : World} {v : Value} {xs : List UInt8} {g : Nat} (hr : Rest B w xs v) (hg : B ≤ g) (hB : B ≤ w.heap.size) (ho : Only g w W') : Rest B W' xs v :=
  hr.stays (ho.below hg hB)

set_option maxHeartbeats 8000000 in
set_option maxRecDepth 100000 in
theorem sum_walk (hs : Sane) (l : List UInt8) (v : Value) (tag : ByteArray) (many : Int) (hm0 : 0 ≤ many) (hm1 : many ≤ 255) (w : World) (hr : Rest w.heap.size w l v) (hT : Tab w) :
    Calls Tryd.prog 3 #[v, .string tag, .int .u8 many] w fun e w' => e = .returned (.bool true) ∧ Below w.heap.size w w' := by
  have HT := Lib.hid hT
  have HR := Lib.hid hr
  obtain ⟨va, vc, rfl⟩ : ∃ a cap, v = .slice a l.length cap := by obtain ⟨a, cap, h, _⟩ := hr; exact ⟨a, cap, h⟩
  have HS := Lib.hid (hs w hT)
  clear hs hT hr
  obtain ⟨ln, hln⟩ : ∃ ln, ln = l.length := ⟨_, rfl⟩
  rw [← hln] at HR ⊢
  have HLN := Lib.hid hln
  clear hln
  go_enter Tryd.func3, Tryd.ntmps3
  go_wp2_with fail
  refine HS.out.mono ?_
  rintro e w1 ⟨rfl, hb1⟩
  have HB1 := Lib.hid hb1
  clear HS hb1
  by_cases h1 : ln > 300
  · have h1' : ((ln : Nat) : Int) > 300 := by omega
    go_wp2_with fail
    exact bodyPost_ret (results_tmp (p := 6) rfl _ _ (.bool true) rfl) rfl ⟨rfl, HB1.out⟩
  by_cases h2 : tag.size > 300
  · have h1' : ¬ ((ln : Nat) : Int) > 300 := by omega
    have h2' : ((tag.size : Nat) : Int) > 300 := by omega
    go_wp2_with fail
    exact bodyPost_ret (results_tmp (p := 6) rfl _ _ (.bool true) rfl) rfl ⟨rfl, HB1.out⟩
  have h1' : ¬ ((ln : Nat) : Int) > 300 := by omega
  have h2' : ¬ ((tag.size : Nat) : Int) > 300 := by omega
  obtain ⟨n, hn⟩ : ∃ n : Nat, many + 1 = (n : Int) := ⟨(many + 1).toNat, by omega⟩
  have hn1 : 1 ≤ n := by omega
  have hn2 : n ≤ 256 := by omega
  have hw8 : IntKind.i64.wrap many = many := by rw [IntKind.wrap_i64]; omega
  go_wp2_with (first
    | (refine wpList_make rfl (.tmp 23) rfl n (by omega) (by show Value.int _ _ = _; rw [← hn]; try rfl) ?_; intro g7 W hrow hg7 hb; have H7 := Lib.hid hrow; have HBW := Lib.hid (below_next HB1.out hb); have HB1W := Lib.hid hb; clear hrow hb)
    | fail)
  clear hw8
  go_loopw [27] (fun s27 wr => SsHead n g7 W s27 wr) (fun s27 _ => n - (intOf s27).toNat)
  case atStart => exact ⟨0, List.replicate n 0, by omega, by go_num, by simp, H7.out, Only.refl _ _⟩
  case round =>
    obtain ⟨i, xs, hi, rfl, hxl, hrow, hon⟩ := hrel
    have HX := Lib.hid hrow
    have HO := Lib.hid hon
    have HXL := Lib.hid hxl
    have HRW : Hid (Rest w.heap.size wr l (.slice va ln vc)) := by
      have h0 : Rest w.heap.size W l (.slice va ln vc) := HR.out.stays HBW.out
      exact h0.stays (HO.out.below (by have := HB1.out.size; omega) HBW.out.size)
    clear hrow hon
    rcases Nat.lt_or_ge i n with hlt | hge
    · have hcell : wr.cell? ⟨g7, i, none⟩ = some (.int .u8 ((xs.getD i 0).toNat : Int)) := by
        rw [HX.out.cell (cellsOf_get (by omega))]; simp [show i < xs.length by omega]
      have hfr : wr.frozen? ⟨g7, i, none⟩ = false := HX.out.free i
      have hb8 : Value.int IntKind.u8 (i : Int) = Value.int IntKind.u8 ((UInt8.ofNat i).toNat : Int) := by congr 1; simp; omega
      have HB8 := Lib.hid hb8
      clear hb8 hxl
      rcases Nat.eq_zero_or_pos ln with h0 | h0
      · subst h0
        go_wp2_with fail
        rw [HB8.out]
        exact ⟨⟨i + 1, xs.set i (UInt8.ofNat i), by omega, by go_num, by rw [List.length_set, HXL.out], HX.out.set i _ (set_byte _ _ _), HO.out.trans (only_set _ _ _ _)⟩, by simp [intOf]; omega⟩
      · obtain ⟨q, hq⟩ : ∃ q, q = i % ln := ⟨_, rfl⟩
        have hql : q < ln := by rw [hq]; exact Nat.mod_lt _ h0
        have e1 : (i : Int) % (ln : Int) = (q : Int) := by rw [hq]; simp
        have e2 : (i : Int).tmod (ln : Int) = (q : Int) := by rw [Int.tmod_eq_emod_of_nonneg (by omega)]; exact e1
        obtain ⟨bb, boff, bcap, he, hbc1, hbc2, hbb, hbc⟩ := rest_cells HRW.out (by rw [← HLN.out]; exact h0)
        injection he with he1 he2 he3
        subst he1 he3
        obtain ⟨c, hc⟩ : ∃ c, c = l.getD q 0 := ⟨_, rfl⟩
        have hcb : ∀ u, (wr.setCell ⟨g7, i, none⟩ u).cell? ⟨bb, boff + q, none⟩ = some (.int .u8 (c.toNat : Int)) := fun u => by
          rw [World.cell?_setCell_far _ _ _ _ (by show g7 ≠ bb; have := HB1.out.size; omega), hc]
          exact hbc q (by rw [← HLN.out]; exact hql)
        have hl0 : ¬ ((ln : Int) = 0) := by omega
        have hl1 : (ln : Int) > 0 := by omega
        clear hbc hc he2 hq hbc1 hbc2
        go_wp2_with fail
        rw [HB8.out]
        exact ⟨⟨i + 1, (xs.set i (UInt8.ofNat i)).set i c, by omega, by go_num, by rw [List.length_set, List.length_set, HXL.out], (HX.out.set i _ (set_byte _ _ _)).set i _ (set_byte _ _ _), (HO.out.trans (only_set _ _ _ _)).trans (only_set _ _ _ _)⟩, by simp [intOf]; omega⟩
    · obtain rfl : i = n := by omega
      obtain ⟨wo, rfl⟩ : ∃ wo : World, wo = wr := ⟨_, rfl⟩
      have HBO : Hid (Below w.heap.size w wo) := HBW.out.trans (HO.out.below (by have := HB1.out.size; omega) HBW.out.size)
      have HRX : Hid (Rest wo.heap.size wo xs (.slice (some ⟨g7, 0, none⟩) i i)) := row_rest' HX.out HXL.out (by omega)
      have HRL : Hid (Rest wo.heap.size wo l (.slice va ln vc)) := rest_mono HRW.out HBO.out.size
      clear hge
      go_wp2_with fail
      obtain ⟨W2, hW2⟩ : ∃ W2, W2 = wo.alloc (.cells #[.slice va ln vc, .slice (some ⟨g7, 0, none⟩) i i] 22) := ⟨_, rfl⟩
      rw [← hW2]
      have HRow2 : Hid (Row W2 wo.heap.size 22 [.slice va ln vc, .slice (some ⟨g7, 0, none⟩) i i]) := by rw [hW2]; exact row_new wo 22 _
      have hb2 : Below wo.heap.size wo W2 := by rw [hW2]; exact Joins.below_alloc1 wo _
      have HB2 := Lib.hid (below_next HBO.out hb2)
      have HRL2 := Lib.hid (rest_keep HRL.out hb2)
      have HRX2 := Lib.hid (rest_keep HRX.out hb2)
      have HT2 := Lib.hid (HT.out.keep HB2.out)
      have hts : tag.size ≤ 300 := by omega
      clear hW2 hb2 HRL HRX HRW HX HO
      go_loopw [53] (fun s53 wr => SsHead2 W2 s53 wr) (fun s53 _ => 2 - (intOf s53).toNat)
      case atStart => exact ⟨0, by omega, by go_num, Below.refl _ _⟩
      case round =>
        obtain ⟨k, hk, rfl, hbr⟩ := hrel
        have HBR := Lib.hid hbr
        clear hbr
        rcases Nat.lt_or_ge k 2 with hlt2 | hge2
        · obtain ⟨u, c, hcu, hcl, hur⟩ : ∃ (u : Value) (c : List UInt8), ([.slice va ln vc, .slice (some ⟨g7, 0, none⟩) i i] : List Value)[k]? = some u ∧ c.length ≤ 300 ∧ Rest W2.heap.size W2 c u := by
            rcases (by omega : k = 0 ∨ k = 1) with rfl | rfl
            · exact ⟨_, l, rfl, by have := HLN.out; omega, HRL2.out⟩
            · exact ⟨_, xs, rfl, by omega, HRX2.out⟩
          have hcell : wr.cell? ⟨wo.heap.size, k, none⟩ = some u := (HRow2.out.keep HBR.out).cell hcu
          have hk2 : (k : Int) < 2 := by omega
          have HRU : Hid (∀ W', Below W2.heap.size W2 W' → Rest W'.heap.size W' c u) := fun W' h => rest_keep hur h
          obtain ⟨d1, hd1⟩ : ∃ d1, d1 = sha c := ⟨_, rfl⟩
          obtain ⟨d2, hd2⟩ : ∃ d2, d2 = tagged tag.data.toList c := ⟨_, rfl⟩
          have HL1 : Hid (d1.length = 32) := by rw [hd1]; exact sha_len _
          have HL2 : Hid (d2.length = 32) := by rw [hd2]; exact tagged_len _ _
          have H12 : Hid (∀ W', Below W2.heap.size W2 W' → Calls Tryd.prog 12 #[u] W' (RetD W' d1)) := fun W' h => by rw [hd1]; exact sum_call c u W' (HRU.out W' h) (HT2.out.keep h) (by omega)
          have H13 : Hid (∀ W', Below W2.heap.size W2 W' → Calls Tryd.prog 13 #[u] W' (RetD W' d1)) := fun W' h => by rw [hd1]; exact refsum_call c (by omega) u W' (HRU.out W' h)
          have H14 : Hid (∀ W', Below W2.heap.size W2 W' → Calls Tryd.prog 14 #[.string tag, u] W' (RetD W' d2)) := fun W' h => by rw [hd2]; exact tagged_call tag c u W' (by omega) (by omega) (HRU.out W' h) (HT2.out.keep h)
          have H15 : Hid (∀ W', Below W2.heap.size W2 W' → Calls Tryd.prog 15 #[.string tag, u] W' (RetD W' d2)) := fun W' h => by rw [hd2]; exact reftagged_call tag c u W' (by omega) (by omega) (HRU.out W' h)
          clear hcu hur hd1 hd2 HRU
          go_wp2_with (first
            | (go_at_call 12; (with_reducible refine (H12.out _ HBR.out).mono ?_); rintro e w3 ⟨rfl, hb⟩; have HBR := Lib.hid (below_next HBR.out hb); clear hb)
            | (go_at_call 13; (with_reducible refine (H13.out _ HBR.out).mono ?_); rintro e w4 ⟨rfl, hb⟩; have HBR := Lib.hid (below_next HBR.out hb); clear hb)
            | (go_at_call 14; (with_reducible refine (H14.out _ HBR.out).mono ?_); rintro e w5 ⟨rfl, hb⟩; have HBR := Lib.hid (below_next HBR.out hb); clear hb)
            | (go_at_call 15; (with_reducible refine (H15.out _ HBR.out).mono ?_); rintro e w6 ⟨rfl, hb⟩; have HBR := Lib.hid (below_next HBR.out hb); clear hb)
            | (refine wpList_neq_dig _ _ rfl d1 d1 HL1.out HL1.out rfl rfl (by rfl) ?_; rw [beq_self_eq_true, Bool.not_true])
            | (refine wpList_neq_dig _ _ rfl d2 d2 HL2.out HL2.out rfl rfl (by rfl) ?_; rw [beq_self_eq_true, Bool.not_true])
            | fail)
          exact ⟨⟨k + 1, by omega, by go_num, HBR.out⟩, by simp [intOf]; omega⟩
        · obtain rfl : k = 2 := by omega
          go_wp2_with fail
          go_ret
          exact ⟨rfl, below_next HB2.out HBR.out⟩
end Go.Proofs.YtjibhelahagliaaDoor
