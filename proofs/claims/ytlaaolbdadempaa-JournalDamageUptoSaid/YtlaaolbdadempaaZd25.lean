/- JournalDamage: the walk, up to the records appended. -/
import Derived.Laws.BitsAllLaws
import Derived.Test.YtlaaolbdadempaaZd23
import Derived.Test.YtlaaolbdadempaaZd19
import Derived.Test.YtlaaolbdadempaaZd22
import Derived.Test.YtlaaolbdadempaaZd24
namespace Go.Proofs.Ytlaaolbdadempaa
open Go.RowKit

theorem Try.info3 : (Try.prog.info? 3).map (fun i => (i.zero, i.size, i.bytes)) = some (some (.int .i64 0), 1, 8) := by kernel_rfl
/-- where each record ends -/
def endsC (R : List (List UInt8)) (k : Nat) : List Value := (List.range k).map fun i => .int .i64 ((usedL (R.take (i + 1)) : Nat) : Int)
theorem endsC_len (R : List (List UInt8)) (k : Nat) : (endsC R k).length = k := by simp [endsC]
theorem endsC_get {R : List (List UInt8)} {i k : Nat} (h : i < k) : (endsC R k)[i]? = some (.int .i64 ((usedL (R.take (i + 1)) : Nat) : Int)) := by simp [endsC, h]
theorem endsC_succ (R : List (List UInt8)) (k : Nat) : endsC R (k + 1) = endsC R k ++ [.int .i64 ((usedL (R.take (k + 1)) : Nat) : Int)] := by simp [endsC, List.range_succ]
theorem wpList_append_int {w : World} {ops : Array Oper} {rest : List Oper} {o : Oper} {a : Act} {Q : Exit → Act → World → Prop} (hgd : o.guard = none) (s x : Operand) (ho : o.op = .call { callee := .builtin .append, args := #[s, x], argTypes := #[71, 71] })
    (v : Value) (n : Nat) (old : List Value) (hs : a.eval s = v) (hown : w.ownsRow 0 3 1 v n old) (g : Nat) (z : Int) (hx : a.eval x = .slice (some ⟨g, 0, none⟩) 1 1) (hr : Row w g 3 [.int .i64 z]) (hlen : n + 1 ≤ 2000000000000)
    (h : ∀ v' w', w'.ownsRow 0 3 1 v' (n + 1) (old ++ [.int .i64 z]) → Wrote w w' v v' → wpList Try.prog ops Q rest (a.put o.dst v') w') : wpList Try.prog ops Q (o :: rest) a w := by
  obtain ⟨i0, hi, hz0, hz1, hz2⟩ := info_parts Try.info3
  exact wpList_append_mine w hgd s x 71 ho 3 i0 _ 1 8 Try.underlying71 hi hz0 hz1 hz2 rfl (by decide) v n old hs hown ⟨g, 0, none⟩ 1 1 [.int .i64 z] hx rfl (fun j u hj => by rw [Addr.add_lit, Nat.zero_add]; exact hr.cell hj) (by intro u hu; simp at hu; subst hu; rfl) (by unfold maxLen; omega) (by omega) h
theorem size_far {w w' : World} {g : Nat} (hf : ∀ b, b ≠ g → w'.heap[b]? = w.heap[b]?) (h : g + 1 < w.heap.size) : w.heap.size ≤ w'.heap.size := by
  rcases Nat.lt_or_ge w'.heap.size w.heap.size with h1 | h1
  · have e := hf (w.heap.size - 1) (by omega)
    rw [Array.getElem?_eq_none (by omega), Array.getElem?_eq_getElem (by omega)] at e
    cases e
  · exact h1
theorem own_other {w w' : World} {base e size n : Nat} {v : Value} {xs : List Value} (h : w.ownsRow base e size v n xs) (hf : ∀ b, v.ownBlock = some b → w'.heap[b]? = w.heap[b]?) : w'.ownsRow base e size v n xs := by
  refine ⟨h.1, ?_⟩
  rcases h.2 with ⟨he, h0⟩ | ⟨g, cap, cur, he, hbg, hg, hr⟩
  · exact .inl ⟨he, h0⟩
  · exact .inr ⟨g, cap, cur, he, hbg, (hf g (by rw [he]; rfl)).trans hg, hr⟩
structure DmI (w0 : World) (g11 : Nat) (P : List (List UInt8)) (vl ve : Value) (k : Nat) (R : List (List UInt8)) (wr : World) : Prop where
  row : Row wr g11 55 [vl, .int .i64 40, .int .i64 0]
  rest : NRestS (fun b => b ≠ g11 ∧ ve.ownBlock ≠ some b) wr P vl
  own : wr.ownsRow 0 3 1 ve k (endsC R k)
  apart : ∀ g, ve.ownBlock = some g → g11 < g
  bel : Below g11 w0 wr
theorem DmI.keep {w0 wr wr' : World} {g11 : Nat} {P R : List (List UInt8)} {vl ve : Value} {k : Nat} (h : DmI w0 g11 P vl ve k R wr) (hb : Below wr.heap.size wr wr') : DmI w0 g11 P vl ve k R wr' :=
  ⟨h.row.keep hb, h.rest.keep (.below hb), own_keep h.own hb, h.apart, h.bel.trans (hb.mono (Nat.le_of_lt h.row.lt))⟩
/-- the journal is stored anew, and a number appended to the ends -/
theorem DmI.next {w0 wr w5 w6 w6a w9 : World} {g11 : Nat} {P P' R : List (List UInt8)} {vl v4 ve v9 : Value} {k : Nat} (h : DmI w0 g11 P vl ve k R w5) (hw : wr.heap.size ≤ w5.heap.size) (hrow : Row w6 g11 55 [v4, .int .i64 40, .int .i64 0])
    (hn : NRestS (Ext (fun b => b ≠ g11 ∧ ve.ownBlock ≠ some b) wr.heap.size) w5 P' v4) (hlt : g11 < wr.heap.size) (hve : ∀ g, ve.ownBlock = some g → g < wr.heap.size) (hbel : Below g11 w0 w6) (hf : ∀ b, b ≠ g11 → w6.heap[b]? = w5.heap[b]?) (hs6 : w5.heap.size ≤ w6.heap.size)
    (ha : Below w6.heap.size w6 w6a) (ho : w9.ownsRow 0 3 1 v9 (k + 1) (endsC R (k + 1))) (hwr : Wrote w6a w9 ve v9) : DmI w0 g11 P' v4 v9 (k + 1) R w9 := by
  have hne : ∀ b, ve.ownBlock = some b → b ≠ g11 := fun b hb e => by have := h.apart b hb; omega
  have hg6 : g11 < w6.heap.size := hrow.lt
  have hsz := ha.size
  have hap : ∀ g, v9.ownBlock = some g → g11 < g := fun g hg => by
    rcases hwr.own with h1 | h1
    · exact h.apart g (by rw [← h1]; exact hg)
    · have := h1 g hg; omega
  have hg9 : w9.heap[g11]? = w6a.heap[g11]? := hwr.grown.block g11 (by omega) (fun e => hne _ e.symm rfl)
  have n5 : NRestS (fun b => b ≠ g11 ∧ ve.ownBlock ≠ some b) w5 P' v4 := hn.weak (fun b h1 h2 => by
    rcases h1 with h1 | h1
    · exact h1
    · exact ⟨by omega, fun e => by have := hve b e; omega⟩)
  have n6 : NRestS (fun b => b ≠ g11 ∧ ve.ownBlock ≠ some b) w6 P' v4 := n5.keep (fun b hb _ => hf b hb.1)
  have n7 : NRestS (fun b => (b ≠ g11 ∧ ve.ownBlock ≠ some b) ∧ b < w6.heap.size) w6 P' v4 := n6.weak (fun b h1 h2 => ⟨h1, h2⟩)
  have n8 := n7.keep (.below ha)
  have n9 : NRestS (fun b => (b ≠ g11 ∧ ve.ownBlock ≠ some b) ∧ b < w6.heap.size) w9 P' v4 := n8.keep (fun b hb hl => hwr.grown.block b hl (fun e => hb.1.2 e.symm))
  refine ⟨(hg9.trans (ha.block g11 hg6)).trans hrow, n9.weak (fun b hb _ => ⟨hb.1.1, fun e => ?_⟩), ho, hap, (hbel.trans (ha.mono (by omega))).trans (hwr.toBelow (by omega) (fun g hg => by have := h.apart g hg; omega))⟩
  rcases hwr.own with h1 | h1
  · rw [h1] at e; exact hb.1.2 e
  · have := h1 b e; omega
def WaHead (m : Nat) (w : World) (s27 : Value) (wr : World) : Prop := ∃ q : Nat, q ≤ m ∧ s27 = .int .i64 (q : Int) ∧ wr = w
def DmHead (w0 : World) (g11 : Nat) (R : List (List UInt8)) (s13 s62 : Value) (wr : World) : Prop :=
  ∃ (k : Nat) (vl : Value), k ≤ R.length ∧ usedL (R.take k) ≤ 40 ∧ s62 = .int .i64 (k : Int) ∧ DmI w0 g11 (R.take k) vl s13 k R wr
set_option maxHeartbeats 8000000 in
set_option maxRecDepth 100000 in
theorem jdamage_walk (R : List (List UInt8)) (vR : Value) (sec at' : Int) (by' : Nat) (w : World) (h : NRest w.heap.size w R vR) (hlen : ∀ x ∈ R, x.length ≤ 2000000) (hn6 : R.length ≤ 2000000) (hb8 : by' < 256) (hs1 : -9223372036854775808 ≤ sec) (hs2 : sec ≤ 9223372036854775807) (ha1 : -9223372036854775808 ≤ at') (ha2 : at' ≤ 9223372036854775807) :
    Calls Try.prog 15 #[vR, .int .i64 sec, .int .i64 at', .int .u8 (by' : Int)] w fun e w' => e = .returned (.bool true) ∧ Below w.heap.size w w' := by
  obtain ⟨ra, rc, rfl, hrc9, hrc⟩ := h.shape
  have HR := Lib.hid h
  have HB := Lib.hid (Below.refl w.heap.size w)
  have HLEN := Lib.hid hlen
  obtain ⟨N, hN⟩ : ∃ N, N = R.length := ⟨_, rfl⟩
  rw [← hN] at HR hrc hn6 ⊢
  have HN := Lib.hid hN
  clear h hlen hN
  go_enter Try.func15, Try.ntmps15
  go_wp2_with fail
  refine (jsane_call _).mono ?_
  rintro e wS ⟨rfl, hb⟩
  replace HB := Lib.hid (below_next HB.out hb)
  clear hb
  go_wp2_with fail
  refine (new_law 40 (new_dN (n := 40) (by omega) (by omega))).mono ?_
  rintro e w1 ⟨s1, p1, l1, b1, rfl, hd, hb⟩
  replace HB := Lib.hid (below_next HB.out hb)
  obtain ⟨⟨sa1, sn1, sc1, rfl⟩, ⟨pa1, pn1, pc1, rfl⟩⟩ := slices_of hd
  have HD1 := Lib.hid hd
  clear hd hb
  unfold dv at *
  go_wp2_with (first
    | (refine wpList_store_ags rfl _ _ _ rfl w1.heap.size [.slice sa1 sn1 sc1, .slice pa1 pn1 pc1, .int .i64 l1, .bool b1] _ size25 (by rfl) rfl rfl (row_new w1 25 _) (one_all HD1.out) (Joins.below_alloc1 w1 _) (Nat.le_refl _) ?_; intro v1 hr hb _; replace HB := Lib.hid (below_next HB.out hb); have HX1 := Lib.hid (Box.new HD1.out hr hb); have c0 := HX1.out.row.cell (i := 0) rfl; have c1 := HX1.out.row.cell (i := 1) rfl; have c2 := HX1.out.row.cell (i := 2) rfl; have c3 := HX1.out.row.cell (i := 3) rfl; clear hr hb HD1))
  refine (jfew_call R _ _ _ _ _ _ _ _ _ v1 (HR.out.keep HB.out)).mono ?_
  rintro e wF ⟨r, rfl, hb⟩
  replace HB := Lib.hid (below_next HB.out hb)
  replace HX1 := Lib.hid (HX1.out.keep hb)
  clear hb c0 c1 c2 c3
  cases r
  · go_wp2_with fail
    go_ret
    exact ⟨rfl, HB.out⟩
  by_cases hN0 : N = 0
  · have hNi : ((N : Int) == 0) = true := by simp; omega
    go_wp2_with fail
    go_ret
    exact ⟨rfl, HB.out⟩
  have hNi : ((N : Int) == 0) = false := by simp; omega
  by_cases hby : by' = 0
  · have hbi : ((by' : Int) == 0) = true := by simp; omega
    go_wp2_with fail
    go_ret
    exact ⟨rfl, HB.out⟩
  have hbi : ((by' : Int) == 0) = false := by simp; omega
  go_wp2_with (first
    | (refine wpList_load_dsk rfl (.tmp 9) rfl w1.heap.size _ (by rfl) rfl HX1.out.row ?_))
  have hop : openJ (dN 40) = (⟨[], 40, 0⟩, 0) := open_dN (n := 40) (by omega) (by omega)
  refine (open_law HX1.out.drest hop).mono ?_
  rintro e w2 ⟨jv2, rfl, hn, hb⟩
  replace HB := Lib.hid (below_next HB.out hb)
  replace HX1 := Lib.hid (HX1.out.keep hb)
  have HN2 := Lib.hid hn
  obtain ⟨ja2, jc2, rfl⟩ := nrest_slice hn
  have HLT12 : Hid (w1.heap.size < w2.heap.size) := Lib.hid HX1.out.lt
  have HWW : Hid (w.heap.size ≤ w2.heap.size) := Lib.hid HB.out.size
  clear hn hb hop
  go_upto_region 11 with ((first
    | (refine wpList_store_ags rfl _ _ _ rfl w2.heap.size [.slice ja2 ([] : List (List UInt8)).length jc2, .int .i64 40, .int .i64 0] _ size55 (by rfl) rfl rfl (row_new w2 55 _) (by rfl) (Joins.below_alloc1 w2 _) (Nat.le_refl _) ?_; intro v2 hr hb _; replace HB := Lib.hid (below_next HB.out hb); replace HX1 := Lib.hid (HX1.out.keep hb); have HR2 := Lib.hid hr; have HN22 := Lib.hid (HN2.out.stays hb); clear hr hb HN2)))
  have hlt12 : w1.heap.size < w2.heap.size := HLT12.out
  have hv2 : w2.heap.size < v2.heap.size := HR2.out.lt
  have HRW : Hid (NRest w.heap.size v2 R (.slice ra N rc)) := Lib.hid (HR.out.stays HB.out)
  have hww : w.heap.size ≤ w2.heap.size := HWW.out
  have HM0 : Hid (DmI v2 w2.heap.size (R.take 0) (.slice ja2 0 jc2) (.slice none 0 0) 0 R v2) := Lib.hid
    ⟨HR2.out, (NRestS.of HN22.out).weak (fun b hb _ => ⟨Nat.ne_of_lt hb, fun h => by cases h⟩), World.ownsRow_nil v2 _ 3 1, fun g h => (by cases h), Below.refl _ _⟩
  have HBV := Lib.hid (HB.out)
  clear HR HB
  go_loopw [13, 62] (fun s13 s62 wr => DmHead v2 w2.heap.size R s13 s62 wr) (fun _ s62 _ => N - (intOf s62).toNat)
  case atStart => exact ⟨0, _, Nat.zero_le _, by simp [usedL], rfl, HM0.out⟩
  case round =>
    obtain ⟨k, vl, hk, hku, rfl, hi⟩ := hrel
    obtain ⟨al, cl, rfl⟩ := nrest_slice hi.rest.rest
    obtain ⟨ae, ce, rfl, hae1, hae2⟩ := own_shape hi.own
    have HI := Lib.hid hi
    have hg11 := hi.row.lt
    rw [← HN.out] at hk
    clear hi
    have HWR : Hid (Below w.heap.size v2 wr) := Lib.hid (HI.out.bel.mono hww)
    rcases Nat.lt_or_ge k N with hlt | hge
    · obtain ⟨x, hx⟩ : ∃ x, R[k]? = some x := ⟨_, List.getElem?_eq_getElem (by rw [← HN.out]; exact hlt)⟩
      obtain ⟨b, off, u, hbo, hbl, hru, hcell⟩ := HRW.out.at hx
      obtain rfl := hbo
      have hcu := hcell wr HWR.out
      obtain ⟨u0, uc2, rfl, hu1, hu2⟩ := hru.shape
      have hxl := HLEN.out x (List.mem_of_getElem? hx)
      have HUS := Lib.hid (usedL_snoc hx)
      have htk : R.take (k + 1) = R.take k ++ [x] := by
        obtain ⟨h1, h2⟩ := List.getElem?_eq_some_iff.1 hx
        rw [List.take_succ_eq_append_getElem h1, h2]
      have HTK := Lib.hid htk
      have HRU : Hid (Rest wr.heap.size wr x (.slice u0 x.length uc2)) := Lib.hid ((hru.stays HWR.out).mono (by have := HWR.out.size; omega))
      have hpl : (R.take k).length = k := by rw [List.length_take, ← HN.out]; omega
      have HPL := Lib.hid hpl
      have hjk : jokB ⟨R.take k, ((40 : Nat) : Int), 0⟩ = true := jok_of (by omega) (by omega) (by omega) (by omega) hku
      have HMI : Hid (Mild ⟨R.take k, 40, 0⟩) := Lib.hid ⟨by show usedL (R.take k) ≤ _; omega, fun y hy => by have h9 := HLEN.out y (List.mem_of_mem_take hy); omega⟩
      have HAP : Hid (appJ ⟨R.take k, 40, 0⟩ x = if usedL (R.take k) + secsOf x.length ≤ 40 then (⟨R.take k ++ [x], 40, 0⟩, 0) else (⟨[], 0, 0⟩, 2)) := Lib.hid (app_add (m := 40) hjk x)
      have HAC : Hid (Calls Try.prog 41 #[.agg #[.slice al (R.take k).length cl, .int .i64 40, .int .i64 0], .slice u0 x.length uc2] wr (JAnsS (fun b => b ≠ w2.heap.size ∧ (Value.slice ae k ce).ownBlock ≠ some b) wr (appJ ⟨R.take k, 40, 0⟩ x))) := Lib.hid
        (append_call _ ⟨R.take k, 40, 0⟩ _ x _ wr HI.out.rest HRU.out HMI.out (by omega))
      rw [hpl] at HI HAC
      obtain ⟨xn, hxn⟩ : ∃ xn, xn = x.length := ⟨_, rfl⟩
      obtain ⟨sN, hsN⟩ : ∃ sN, sN = secsOf x.length := ⟨_, rfl⟩
      have hsv : sN = max 1 ((xn + 111) / 112) := by rw [hsN, hxn]; rfl
      rw [← hsN] at HUS
      rw [← hxn] at HRU HAC hcu hxl hu2
      obtain ⟨q, hq⟩ : ∃ q, q = (xn + 111) / 112 := ⟨_, rfl⟩
      rw [← hq] at hsv
      have hq2 : q ≤ 20000 := by omega
      have hki : (k : Int) < (N : Int) := by omega
      have hk0 : (0 : Int) ≤ (k : Int) := by omega
      have hdiv : ((xn : Int) + 111).tdiv 112 = (q : Int) := by rw [Int.tdiv_eq_ediv_of_nonneg (by omega)]; omega
      have hw1 : IntKind.i64.wrap ((xn : Int) + 111) = (xn : Int) + 111 := by rw [IntKind.wrap_i64]; omega
      have HXN := Lib.hid hxn
      have HSN := Lib.hid hsN
      have HSV := Lib.hid hsv
      clear hcell hru hx htk hpl hjk hxn hsN hu1 hq hsv
      rw [HAP.out] at HAC
      by_cases hfit : usedL (R.take k) + secsOf x.length ≤ 40
      · rw [if_pos hfit] at HAC
        have HFIT : Hid (usedL (R.take (k + 1)) ≤ 40) := Lib.hid (by rw [HUS.out, HSN.out]; exact hfit)
        clear hfit HAP
        obtain ⟨z, hz⟩ : ∃ z, z = usedL (R.take k) := ⟨_, rfl⟩
        have HZ := Lib.hid hz
        have hz40 : z ≤ 40 := by omega
        have hq40 : q ≤ 40 ∨ sN ≤ 40 := .inr (by have := HUS.out; have := HFIT.out; omega)
        clear hz hku
        have HVE : Hid (∀ g, (Value.slice ae k ce).ownBlock = some g → g < wr.heap.size) := Lib.hid (fun g hg => (HI.out.own.lt g hg).2)
        have hmx : (if (1 : Int) < (q : Int) then (q : Int) else 1) = (sN : Int) := by have := HSV.out; split <;> omega
        rcases Nat.eq_zero_or_pos k with hk9 | hk9
        · subst hk9
          rw [Nat.add_zero] at hcu
          have hsz : z = 0 := by have := HZ.out; simpa [usedL] using this
          have HE : Hid (endsC R 0 ++ [.int .i64 (sN : Int)] = endsC R (0 + 1)) := Lib.hid (by rw [endsC_succ, HUS.out, ← HZ.out, hsz]; simp)
          clear hsz
          go_wp2_with (first
            | (refine wpList_load_jnl rfl (.tmp 11) rfl w2.heap.size _ (by rfl) rfl HI.out.row ?_)
            | (go_at_call 41; refine HAC.out.mono ?_; rintro e wB ⟨v4, rfl, hn4, hb4⟩; obtain ⟨a4, c4, rfl⟩ := nrest_slice hn4.rest; unfold jv; obtain ⟨rn, hrn⟩ : ∃ rn, rn = (R.take 0 ++ [x]).length := ⟨_, rfl⟩; simp only at hn4 ⊢; rw [← hrn] at hn4 ⊢; have HRN := Lib.hid hrn; clear hrn; have HN4 := Lib.hid hn4; replace HI := Lib.hid (HI.out.keep hb4); have HS4 := Lib.hid hb4.size; clear hn4 hb4)
            | (refine wpList_store_ags rfl 55 (.tmp 16) (.tmp 70) rfl wB.heap.size [.slice a4 rn c4, .int .i64 40, .int .i64 0] _ size55 (by rfl) rfl rfl (row_new wB 55 _) (by rfl) (Joins.below_alloc1 wB _) (Nat.le_refl _) ?_; intro w5 hr hb hf; have HR7 := Lib.hid hr; have HN5 := Lib.hid (HN4.out.keep (.below hb)); replace HI := Lib.hid (HI.out.keep hb); have HS5 := Lib.hid hb.size; clear hr hb hf HN4)
            | (refine wpList_load_jnl rfl (.tmp 16) rfl wB.heap.size _ (by rfl) rfl HR7.out ?_)
            | (refine wpList_store_ags rfl 55 (.tmp 11) (.tmp 74) rfl w2.heap.size [.slice a4 rn c4, .int .i64 40, .int .i64 0] _ size55 (by rfl) rfl rfl HI.out.row (by rfl) HI.out.bel (Nat.le_refl _) ?_; intro w6 hr hb hf; have HR6 := Lib.hid hr; have HB6 := Lib.hid hb; have HF6 := Lib.hid hf; have HO6 := Lib.hid (own_other HI.out.own (fun b hb => hf b (fun e => by have := HI.out.apart b hb; omega))); have HS56 : Hid (w5.heap.size ≤ w6.heap.size) := Lib.hid (size_far hf (by have := HR7.out.lt; have := HS4.out; omega)); clear hr hb hf HR7)
            | (refine wpList_append_int rfl (.tmp 91) (.tmp 93) rfl (.slice ae 0 ce) 0 _ rfl (own_keep HO6.out (Joins.below_alloc1 w6 _)) w6.heap.size (sN : Int) rfl (row_new w6 3 [.int .i64 (sN : Int)]) (by omega) ?_; intro v9 w9 hown hgrow; have HO9 := Lib.hid hown; have HG9 := Lib.hid hgrow; clear hown hgrow))
          have hs56 : w5.heap.size ≤ w6.heap.size := HS56.out
          refine ⟨⟨0 + 1, .slice a4 rn c4, by rw [← HN.out]; omega, HFIT.out, by go_num, ?_⟩, by simp [intOf] <;> omega⟩
          rw [HTK.out]
          refine DmI.next (wr := wr) HI.out (Nat.le_trans HS4.out HS5.out) HR6.out HN5.out hg11 HVE.out HB6.out HF6.out hs56 (Joins.below_alloc1 w6 (.cells #[.int .i64 (sN : Int)] 3)) ?_ HG9.out
          have h9 := HO9.out
          rwa [HE.out] at h9
        · obtain ⟨ge, ce2, hve, hge1, hge2⟩ := HI.out.own.form hk9
          injection hve with hve1 hve2 hve3
          subst hve1 hve3
          obtain ⟨p, hp⟩ : ∃ p, k = p + 1 := ⟨k - 1, by omega⟩
          have hk11 := hk9
          have hel : (endsC R k)[p]? = some (.int .i64 (z : Int)) := by rw [endsC_get (by omega), ← hp, ← HZ.out]
          have hec : ∀ W : World, W.heap[ge]? = wr.heap[ge]? → W.cell? ⟨ge, p, none⟩ = some (.int .i64 (z : Int)) := fun W hW => by
            have h9 := World.ownsRow.cells HI.out.own (g := ge) rfl p _ hel
            rw [Addr.add_lit, Nat.zero_add] at h9
            unfold World.cell? at h9 ⊢
            simp only at h9 ⊢
            rw [hW]; exact h9
          have HEC := Lib.hid hec
          have HP := Lib.hid hp
          have hpk : (p : Int) < (k : Int) := by omega
          have hp0 : (0 : Int) ≤ (p : Int) := by omega
          have hkp : IntKind.i64.wrap ((k : Int) - 1) = (p : Int) := by rw [IntKind.wrap_i64]; omega
          have hk00 : (0 : Int) < (k : Int) := by omega
          have hsum : IntKind.i64.wrap ((sN : Int) + (z : Int)) = ((z + sN : Nat) : Int) := by rw [IntKind.wrap_i64]; have := HUS.out; have := HFIT.out; have := HZ.out; omega
          have HE : Hid (endsC R k ++ [.int .i64 ((z + sN : Nat) : Int)] = endsC R (k + 1)) := Lib.hid (by rw [endsC_succ, HUS.out, ← HZ.out])
          have hge11 : w2.heap.size < ge := HI.out.apart ge rfl
          have HB2 : Hid True := Lib.hid trivial
          clear hel hec hp hk9
          go_wp2_with (first
            | (refine wpList_load_jnl rfl (.tmp 11) rfl w2.heap.size _ (by rfl) rfl HI.out.row ?_)
            | (go_at_call 41; refine HAC.out.mono ?_; rintro e wB ⟨v4, rfl, hn4, hb4⟩; obtain ⟨a4, c4, rfl⟩ := nrest_slice hn4.rest; unfold jv; obtain ⟨rn, hrn⟩ : ∃ rn, rn = (R.take k ++ [x]).length := ⟨_, rfl⟩; simp only at hn4 ⊢; rw [← hrn] at hn4 ⊢; have HRN := Lib.hid hrn; clear hrn; have HN4 := Lib.hid hn4; replace HI := Lib.hid (HI.out.keep hb4); have HS4 := Lib.hid hb4.size; have HGB : Hid (wB.heap[ge]? = wr.heap[ge]?) := Lib.hid (hb4.block ge hge2); clear hn4 hb4)
            | (refine wpList_store_ags rfl 55 (.tmp 16) (.tmp 70) rfl wB.heap.size [.slice a4 rn c4, .int .i64 40, .int .i64 0] _ size55 (by rfl) rfl rfl (row_new wB 55 _) (by rfl) (Joins.below_alloc1 wB _) (Nat.le_refl _) ?_; intro w5 hr hb hf; have HR7 := Lib.hid hr; have HN5 := Lib.hid (HN4.out.keep (.below hb)); replace HI := Lib.hid (HI.out.keep hb); have HS5 := Lib.hid hb.size; have HGE : Hid (w5.heap[ge]? = wr.heap[ge]?) := Lib.hid ((hb.block ge (by have := HS4.out; omega)).trans (HGB.out)); clear hr hb hf HN4)
            | (refine wpList_load_jnl rfl (.tmp 16) rfl wB.heap.size _ (by rfl) rfl HR7.out ?_)
            | (refine wpList_store_ags rfl 55 (.tmp 11) (.tmp 74) rfl w2.heap.size [.slice a4 rn c4, .int .i64 40, .int .i64 0] _ size55 (by rfl) rfl rfl HI.out.row (by rfl) HI.out.bel (Nat.le_refl _) ?_; intro w6 hr hb hf; have HR6 := Lib.hid hr; have HB6 := Lib.hid hb; have HF6 := Lib.hid hf; have HO6 := Lib.hid (own_other HI.out.own (fun b hb => hf b (fun e => by have := HI.out.apart b hb; omega))); have HS56 : Hid (w5.heap.size ≤ w6.heap.size) := Lib.hid (size_far hf (by have := HR7.out.lt; have := HS4.out; omega)); have e6 : w6.cell? ⟨ge, p, none⟩ = some (.int .i64 (z : Int)) := HEC.out w6 ((hf ge (by omega)).trans HGE.out); clear hr hb hf HR7)
            | (refine wpList_append_int rfl (.tmp 91) (.tmp 93) rfl (.slice (some ⟨ge, 0, none⟩) k ce) k _ rfl (own_keep HO6.out (Joins.below_alloc1 w6 _)) w6.heap.size ((z + sN : Nat) : Int) rfl (row_new w6 3 [.int .i64 ((z + sN : Nat) : Int)]) (by omega) ?_; intro v9 w9 hown hgrow; have HO9 := Lib.hid hown; have HG9 := Lib.hid hgrow; clear hown hgrow))
          have hs56 : w5.heap.size ≤ w6.heap.size := HS56.out
          refine ⟨⟨k + 1, .slice a4 rn c4, by rw [← HN.out]; omega, HFIT.out, by go_num, ?_⟩, by simp [intOf] <;> omega⟩
          rw [HTK.out]
          refine DmI.next (wr := wr) HI.out (Nat.le_trans HS4.out HS5.out) HR6.out HN5.out hg11 HVE.out HB6.out HF6.out hs56 (Joins.below_alloc1 w6 (.cells #[.int .i64 ((z + sN : Nat) : Int)] 3)) ?_ HG9.out
          have h9 := HO9.out
          rwa [HE.out] at h9
      · rw [if_neg hfit] at HAC
        clear hfit HAP
        go_upto_region 21 with ((first
          | (refine wpList_load_jnl rfl (.tmp 11) rfl w2.heap.size _ (by rfl) rfl HI.out.row ?_)
          | (go_at_call 41; refine HAC.out.mono ?_; rintro e wB ⟨v4, rfl, hn4, hb4⟩; obtain ⟨a4, c4, rfl⟩ := nrest_slice hn4.rest; unfold jv; simp only [List.length_nil]; replace HI := Lib.hid (HI.out.keep hb4); clear hn4 hb4)
          | (refine wpList_store_ags rfl 55 (.tmp 16) (.tmp 70) rfl wB.heap.size [.slice a4 0 c4, .int .i64 0, .int .i64 0] _ size55 (by rfl) rfl rfl (row_new wB 55 _) (by rfl) (Joins.below_alloc1 wB _) (Nat.le_refl _) ?_; intro w4 hr hb hf; replace HI := Lib.hid (HI.out.keep hb); clear hr hb hf)))
        clear HAC hdiv hw1 hcu
        have HXW := Lib.hid (HX1.out.stays HI.out.bel hlt12)
        have HBW := Lib.hid (HBV.out.trans (HI.out.bel.mono hww))
        rcases Nat.eq_zero_or_pos k with hk9 | hk9
        · subst hk9
          have hsy : syncJ ⟨R.take 0, 40, 0⟩ (dN 40) = (⟨[], 40, 0⟩, dN 40, 0) := dmg_none
          have HSY := Lib.hid (jsync_law HI.out.rest.rest (show Mild ⟨R.take 0, 40, 0⟩ from mild0) HXW.out.drest hsy)
          clear hsy
          go_wp2_with (first
            | (refine wpList_load_jnl rfl (.tmp 11) rfl w2.heap.size _ (by rfl) rfl HI.out.row ?_)
            | (refine wpList_load_dsk rfl (.tmp 9) rfl w1.heap.size _ (by rfl) rfl HXW.out.row ?_)
            | (go_at_call 47; refine HSY.out.mono ?_; rintro e w5 ⟨jv5, ds5, dp5, dl5, db5, rfl, hn, hd, hb⟩; replace HBW := Lib.hid (below_next HBW.out hb); obtain ⟨ja5, jc5, rfl⟩ := nrest_slice hn; obtain ⟨⟨sa5, sn5, sc5, rfl⟩, ⟨pa5, pn5, pc5, rfl⟩⟩ := slices_of hd; simp only [List.length_nil]; have rA := Lib.hid ((row_new w5 55 [.slice none 0 0, .int .i64 0, .int .i64 0]).keep (Joins.below_alloc1 _ (.cells #[.slice none 0 0, .slice none 0 0, .int .i64 0, .bool false] 25))); have rB := row_new (w5.alloc (.cells #[.slice none 0 0, .int .i64 0, .int .i64 0] 55)) 25 [.slice none 0 0, .slice none 0 0, .int .i64 0, .bool false]; rw [World.size_alloc] at rB; replace rB := Lib.hid rB; have bAB := Lib.hid (below_two w5 (.cells #[.slice none 0 0, .int .i64 0, .int .i64 0] 55) (.cells #[.slice none 0 0, .slice none 0 0, .int .i64 0, .bool false] 25)); clear hn hd hb)
            | (refine wpList_store_ags rfl 55 (.tmp 19) _ rfl w5.heap.size [.slice ja5 0 jc5, .int .i64 40, .int .i64 0] _ size55 (by rfl) rfl rfl rA.out (by rfl) bAB.out (Nat.le_refl _) ?_; intro vA hr hb hf; have rA2 := Lib.hid hr; replace rB := Lib.hid (rB.out.same (hf _ (by omega))); replace bAB := Lib.hid hb; clear hr hb hf rA)
            | (refine wpList_store_ags rfl 25 (.tmp 20) _ rfl (w5.heap.size + 1) [.slice sa5 sn5 sc5, .slice pa5 pn5 pc5, .int .i64 dl5, .bool db5] _ size25 (by rfl) rfl rfl rB.out (by rfl) bAB.out (by omega) ?_; intro v5 hr hb hf; replace HBW := Lib.hid (below_next HBW.out hb); clear hr hb hf rA2 rB bAB))
          go_ret
          exact ⟨rfl, HBW.out⟩
        · have hpl2 : (R.take k).length = k := by rw [List.length_take, ← HN.out]; omega
          have hP : R.take k ≠ [] := by intro h0; rw [h0] at hpl2; simp at hpl2; omega
          obtain ⟨y, hsy, hyl, hyp, hdm⟩ := dmg_sync hP hku
          rw [hpl2] at hsy
          have HDM := Lib.hid hdm
          have HYL := Lib.hid hyl
          have hmi : Mild ⟨R.take k, 40, 0⟩ := ⟨by show usedL (R.take k) ≤ _; omega, fun z hz => by have h9 := HLEN.out z (List.mem_of_mem_take hz); omega⟩
          have HSY := Lib.hid (jsync_law HI.out.rest.rest hmi HXW.out.drest hsy)
          obtain ⟨P, hPe⟩ : ∃ P, P = R.take k := ⟨_, rfl⟩
          have HPE := Lib.hid hPe
          obtain ⟨T, hT⟩ : ∃ T, T = usedL (R.take k) := ⟨_, rfl⟩
          have HT := Lib.hid hT
          have hT40 : T ≤ 40 := by omega
          have hT1 : 1 ≤ T := by
            rcases Nat.eq_zero_or_pos T with h0 | h0
            · exfalso
              have h9 := usedL_ge (R.take k)
              omega
            · exact h0
          rw [← hPe] at hpl2 HDM HSY
          have HPL2 := Lib.hid hpl2
          obtain ⟨ge, ce2, hve, hge1, hge2⟩ := HI.out.own.form hk9
          injection hve with hve1 hve2 hve3
          subst hve1 hve3
          have hkb : ((k : Int) == 0) = false := by simp; omega
          clear hsy hyl hyp hdm hmi hPe hT hku hP hpl2
          go_upto_region 24 with ((first
            | (refine wpList_load_jnl rfl (.tmp 11) rfl w2.heap.size _ (by rfl) rfl HI.out.row ?_)
            | (refine wpList_load_dsk rfl (.tmp 9) rfl w1.heap.size _ (by rfl) rfl HXW.out.row ?_)
            | (go_at_call 47; refine HSY.out.mono ?_; rintro e w5 ⟨jv5, ds5, dp5, dl5, db5, rfl, hn, hd, hb⟩; replace HBW := Lib.hid (below_next HBW.out hb); have HBW5 := HBW; replace HI := Lib.hid (HI.out.keep hb); have HI5 := HI; obtain ⟨ja5, jc5, rfl⟩ := nrest_slice hn; obtain ⟨hdl, hdb, ⟨sa5, sc5, rfl⟩, ⟨pa5, pc5, rfl⟩⟩ := drest_left hd; clear hdl hdb; rw [HPL2.out]; rw [HYL.out] at hd ⊢; obtain ⟨pn5, hpn5⟩ : ∃ pn5, pn5 = y.pend.length := ⟨_, rfl⟩; rw [← hpn5] at hd ⊢; have HD5 := Lib.hid hd; have rA := Lib.hid ((row_new w5 55 [.slice none 0 0, .int .i64 0, .int .i64 0]).keep (Joins.below_alloc1 _ (.cells #[.slice none 0 0, .slice none 0 0, .int .i64 0, .bool false] 25))); have rB := row_new (w5.alloc (.cells #[.slice none 0 0, .int .i64 0, .int .i64 0] 55)) 25 [.slice none 0 0, .slice none 0 0, .int .i64 0, .bool false]; rw [World.size_alloc] at rB; replace rB := Lib.hid rB; have bAB := Lib.hid (below_two w5 (.cells #[.slice none 0 0, .int .i64 0, .int .i64 0] 55) (.cells #[.slice none 0 0, .slice none 0 0, .int .i64 0, .bool false] 25)); clear hn hd hb hpn5)
            | (refine wpList_store_ags rfl 55 (.tmp 19) _ rfl w5.heap.size [.slice ja5 k jc5, .int .i64 40, .int .i64 (k : Int)] _ size55 (by rfl) rfl rfl rA.out (by rfl) bAB.out (Nat.le_refl _) ?_; intro vA hr hb hf; have rA2 := Lib.hid hr; replace rB := Lib.hid (rB.out.same (hf _ (by omega))); replace bAB := Lib.hid hb; clear hr hb hf rA)
            | (refine wpList_store_ags rfl 25 (.tmp 20) _ rfl (w5.heap.size + 1) [.slice sa5 40 sc5, .slice pa5 pn5 pc5, .int .i64 dl5, .bool db5] _ size25 (by rfl) rfl rfl rB.out (by rfl) bAB.out (by omega) ?_; intro v5 hr hb hf; replace HBW := Lib.hid (below_next HBW.out hb); have HB5 := Lib.hid hb; have HX20 : Hid (Box v5 (w5.heap.size + 1) y (.slice sa5 40 sc5) (.slice pa5 pn5 pc5) dl5 db5) := Lib.hid ⟨hr, (HD5.out.stays hb).mono (Nat.le_succ _)⟩; clear hr hb hf rA2 rB bAB HD5)))
          obtain ⟨p, hp⟩ : ∃ p, k = p + 1 := ⟨k - 1, by omega⟩
          have hel : (endsC R k)[p]? = some (.int .i64 (T : Int)) := by rw [endsC_get (by omega), ← hp, ← HT.out]
          have e0 : v5.cell? ⟨ge, p, none⟩ = some (.int .i64 (T : Int)) := by
            have h9 := World.ownsRow.cells (own_keep HI5.out.own HB5.out) (g := ge) rfl p _ hel
            rwa [Addr.add_lit, Nat.zero_add] at h9
          have hpk : (p : Int) < (k : Int) := by omega
          have hp0 : (0 : Int) ≤ (p : Int) := by omega
          have hkp : IntKind.i64.wrap ((k : Int) - 1) = (p : Int) := by rw [IntKind.wrap_i64]; omega
          obtain ⟨S0, hS0⟩ : ∃ S0 : Nat, IntKind.u64.wrap sec = (S0 : Int) := ⟨(IntKind.u64.wrap sec).toNat, by have : 0 ≤ IntKind.u64.wrap sec := by rw [IntKind.wrap_u64]; omega
                                                                                                                omega⟩
          have hwT : IntKind.u64.wrap (T : Int) = (T : Int) := by rw [IntKind.wrap_u64]; omega
          obtain ⟨kk, hkk⟩ : ∃ kk, kk = S0 % T := ⟨_, rfl⟩
          have hkT : kk < T := by rw [hkk]; exact Nat.mod_lt _ (by omega)
          have hmod : (S0 : Int).tmod (T : Int) = (kk : Int) := by rw [Int.tmod_eq_emod_of_nonneg (by omega), hkk]; rfl
          have hTz : ¬ (T : Int) = 0 := by omega
          have hTz2 : ¬ T = 0 := by omega
          have hwk : IntKind.i64.wrap (kk : Int) = (kk : Int) := by rw [IntKind.wrap_i64]; omega
          have hwk2 : IntKind.u64.wrap (kk : Int) = (kk : Int) := by rw [IntKind.wrap_u64]; omega
          have HKK := Lib.hid hkk
          clear hel hp hkk
          go_upto_region 25 with (fail)
          clear e0 hpk hp0 hkp hS0 hwT hmod hTz hTz2 hwk hwk2
          obtain ⟨A0, hA0⟩ : ∃ A0 : Nat, IntKind.u64.wrap at' = (A0 : Int) := ⟨(IntKind.u64.wrap at').toNat, by have : 0 ≤ IntKind.u64.wrap at' := by rw [IntKind.wrap_u64]; omega
                                                                                                                omega⟩
          obtain ⟨ti, hti⟩ : ∃ ti, ti = A0 % 128 := ⟨_, rfl⟩
          have hti8 : ti < 128 := by omega
          obtain ⟨x0, hx0⟩ : ∃ x0, x0 = (y.secs.getD kk []).getD ti 0 := ⟨_, rfl⟩
          obtain ⟨xn, hxn⟩ : ∃ xn, xn = x0.toNat ^^^ by' := ⟨_, rfl⟩
          have hx08 := x0.toNat_lt
          have hxn8 : xn < 256 := by rw [hxn]; exact Nat.xor_lt_two_pow (n := 8) hx08 hb8
          obtain ⟨m, c1, c2, hdmg⟩ := HDM.out kk ti (UInt8.ofNat xn) (by rw [HPE.out, ← HT.out]; exact hkT) hti8 (by
            rw [← hx0, hxn]
            have h9 := xor_ne hx08 hb8 hby
            rwa [UInt8.ofNat_toNat] at h9)
          have HDG := Lib.hid hdmg
          have hn20 : NRest (w5.heap.size + 1) v5 y.secs (.slice sa5 40 sc5) := by
            obtain ⟨s', p', he, h1, h2⟩ := HX20.out.rest
            unfold dv dskOf dskCells at he
            simp at he
            rw [he.1]; exact h1
          have hyl := HYL.out
          have hsk : y.secs[kk]? = some (y.secs.getD kk []) := by rw [List.getElem?_eq_getElem (by omega)]; simp [List.getD, show kk < y.secs.length by omega]
          obtain ⟨sk, hske⟩ : ∃ sk, sk = y.secs.getD kk [] := ⟨_, rfl⟩
          have HSK := Lib.hid hske
          rw [← hske] at hsk hx0
          have hskl : sk.length = 128 := by rw [hske]; exact hdmg.len
          obtain ⟨sb, so, u, hso, hbl, hru, hcell⟩ := hn20.at hsk
          subst hso
          have hcu := hcell v5 (Below.refl _ _)
          have hcua := hcell (v5.alloc (.cells #[] 5)) ((Joins.below_alloc1 v5 _).mono (Nat.le_of_lt HX20.out.row.lt))
          obtain ⟨ub0, uc, rfl, hu1, hu2⟩ := hru.shape
          rw [hskl] at hcu hcua hu2
          have HRUS := Lib.hid hru
          rw [hskl] at HRUS
          have HSKL := Lib.hid hskl
          have j0 := (HI5.out.row.keep HB5.out).cell (i := 0) rfl
          have c0 := HX20.out.row.cell (i := 0) rfl
          have hk40 : (kk : Int) < 40 := by omega
          have hk40b : ¬ (40 : Int) ≤ (kk : Int) := by omega
          have hkk0 : (0 : Int) ≤ (kk : Int) := by omega
          have hsc : (40 : Int) ≤ (sc5 : Int) := by obtain ⟨_, _, he, h1, _⟩ := hn20; injection he with _ _ h3; omega
          clear hn20 hsk hske hskl hru hcell hbl hdmg hyl
          have HMADE : Hid ((v5.alloc (.cells #[] 5)).ownsRow v5.heap.size 5 1 (.slice (some ⟨v5.heap.size, 0, none⟩) 0 0) 0 (cellsOf [])) := Lib.hid (World.ownsRow_made v5 #[] 0 (Nat.le_refl _) (by unfold maxLen; omega) rfl)
          have HRA : Hid (Rest (w5.heap.size + 1) (v5.alloc (.cells #[] 5)) sk (.slice ub0 128 uc)) := Lib.hid (HRUS.out.stays ((Joins.below_alloc1 v5 _).mono (Nat.le_of_lt HX20.out.row.lt)))
          have c0a := (HX20.out.row.keep (Joins.below_alloc1 v5 (.cells #[] 5))).cell (i := 0) rfl
          have HCUA := Lib.hid hcua
          have HC0A := Lib.hid c0a
          clear hcua c0a
          go_upto_region 27 with (fail)
          clear hcu c0 j0
          have hcua := HCUA.out
          have c0a := HC0A.out
          go_upto_region 28 with ((first
            | (refine wpList_append_rest rfl (.tmp 145) (.tmp 150) rfl v5.heap.size (.slice (some ⟨v5.heap.size, 0, none⟩) 0 0) 0 [] rfl HMADE.out sk (.slice ub0 128 uc) rfl HRA.out (by rw [HSKL.out]; omega) (by rw [World.size_alloc]; omega) ?_; intro v8 w8 hown hgrow; rw [HSKL.out, Nat.zero_add, List.nil_append] at hown; have HB8 := Lib.hid ((Joins.below_alloc1 v5 (.cells #[] 5)).trans (below_grewn HMADE.out hgrow (by rw [World.size_alloc]; omega) (Nat.le_refl _))); obtain ⟨g8, c8, rfl, hg81, hg82⟩ := hown.form (by omega); have HO8 := Lib.hid hown; clear hown hgrow)))
          clear hcua c0a hsc
          obtain ⟨cs8, r8, k8⟩ := owns_row HO8.out
          have hc8 : cs8[ti]? = some (.int .u8 (x0.toNat : Int)) := by
            have h9 := World.ownsRow.cells HO8.out (g := g8) rfl ti _ (cellsOf_get (by rw [HSKL.out]; omega))
            rw [Addr.add_lit, Nat.zero_add, cell_of_row w8 g8 _ _ _ _ r8] at h9
            have h10 : sk[ti]'(by rw [HSKL.out]; omega) = x0 := by rw [hx0]; simp [List.getD, show ti < sk.length by rw [HSKL.out]; omega]
            rw [h10] at h9
            simpa using h9
          have e8 := r8.cell hc8
          have f8 := r8.free ti
          have hxr : bits .xor .u8 (x0.toNat : Int) (by' : Int) = (xn : Int) := by rw [u8_xor_nat _ _ hx08 hb8, ← hxn]
          have htm : (A0 : Int).tmod 128 = (ti : Int) := by rw [Int.tmod_eq_emod_of_nonneg (by omega), hti]; rfl
          have hti9 : (ti : Int) < 128 := by omega
          have hti0 : (0 : Int) ≤ (ti : Int) := by omega
          have HXN9 := Lib.hid hxn
          have HTI := Lib.hid hti
          clear hxn hti hx0
          go_upto_region 29 with (fail)
          have hsh := own_shape HO8.out
          have HRS : Hid (Rest (w8.setCell ⟨g8, ti, none⟩ (.int .u8 (xn : Int))).heap.size (w8.setCell ⟨g8, ti, none⟩ (.int .u8 (xn : Int))) (sk.set ti (UInt8.ofNat xn)) (.slice (some ⟨g8, 0, none⟩) 128 c8)) := Lib.hid (by
            have r8s := r8.set ti (.int .u8 (xn : Int)) rfl
            have hl9 : (sk.set ti (UInt8.ofNat xn)).length = 128 := by rw [List.length_set]; exact HSKL.out
            obtain ⟨a9, c9, he9, h91, h92⟩ := hsh
            injection he9 with _ _ he93
            refine ⟨_, c8, by rw [hl9], by omega, by omega, (fun h => by cases h), .inr ⟨g8, 0, rfl, r8s.lt, fun i hi => ?_⟩⟩
            rw [Nat.zero_add]
            rw [hl9] at hi
            refine r8s.cell ?_
            by_cases hit : i = ti
            · subst hit
              have hlc : i < cs8.length := (List.getElem?_eq_some_iff.1 hc8).1
              rw [List.getElem?_set_self hlc]
              simp only [List.getElem_set_self, UInt8.toNat_ofNat']
              rw [Nat.mod_eq_of_lt (by omega)]
            · rw [List.getElem?_set_ne (fun h => hit h.symm)]
              have h9 := World.ownsRow.cells HO8.out (g := g8) rfl i _ (cellsOf_get (by rw [HSKL.out]; omega))
              rw [Addr.add_lit, Nat.zero_add, cell_of_row w8 g8 _ _ _ _ r8] at h9
              rw [List.getElem_set_ne (fun h => hit h.symm)]
              simpa using h9)
          have HB8b : Hid (Below v5.heap.size v5 (w8.setCell ⟨g8, ti, none⟩ (.int .u8 (xn : Int)))) := Lib.hid (below_setCell HB8.out g8 ti _ hg81)
          generalize w8.setCell ⟨g8, ti, none⟩ (.int .u8 (xn : Int)) = W8 at HRS HB8b ⊢
          replace HX20 := Lib.hid (HX20.out.keep HB8b.out)
          replace HB5 := Lib.hid (HB5.out.trans (HB8b.out.mono (by have := HB5.out.size; exact this)))
          have hww5 : w.heap.size ≤ w5.heap.size := HBW5.out.size
          have HWRT : Hid (Calls Try.prog 26 #[.agg #[.slice (some ⟨sb, so, none⟩) 40 sc5, .slice pa5 pn5 pc5, .int .i64 dl5, .bool db5], .int .i64 (kk : Int), .slice (some ⟨g8, 0, none⟩) 128 c8] W8 (NewDS (fun b => b < w5.heap.size + 1) W8 c1 0)) := Lib.hid (by
            have h9 := HDG.out.write
            rw [← HSK.out] at h9
            exact write_lawS HX20.out.rest (kk : Int) HRS.out h9)
          have HSY1 : Hid (∀ W v, DRestS (fun b => b ≠ w5.heap.size + 1) W c1 v → Calls Try.prog 30 #[v] W (NewDS (fun b => b ≠ w5.heap.size + 1) W c2 0)) := Lib.hid (fun W v h => (sync_call _ c1 v W h).mono fun _ _ h9 => h9.newS HDG.out.sync)
          have hpm : (P.take m).length = m := by rw [List.length_take]; have := HDG.out.lt; omega
          have HPM := Lib.hid hpm
          clear e8 f8 hxr htm hti9 hti0 hc8 hsh hpm
          go_upto_region 33 with ((first
            | (have hchk := HX20.out; refine wpList_load_dsk rfl (.tmp 20) rfl (w5.heap.size + 1) _ (by rfl) rfl HX20.out.row ?_)
            | (have hchk := HX20.out; go_at_call 26; refine HWRT.out.mono ?_; rintro e w9 ⟨s9, p9, l9, b9, rfl, hd, hb⟩; obtain ⟨⟨sa9, sn9, sc9, rfl⟩, ⟨pa9, pn9, pc9, rfl⟩⟩ := slices_of hd.rest; unfold dv; have HR9 := Lib.hid (HX20.out.row.keep hb); have HC9 : Hid (DRestS (fun b => b ≠ w5.heap.size + 1) w9 c1 (dv (.slice sa9 sn9 sc9) (.slice pa9 pn9 pc9) l9 b9)) := Lib.hid (hd.weak (fun b h _ => (show b ≠ w5.heap.size + 1 by have := HX20.out.row.lt; rcases h with h | h <;> omega))); replace HB5 := Lib.hid (below_next HB5.out hb); clear hd hb HX20)
            | (refine wpList_store_ags rfl 25 (.tmp 20) _ rfl (w5.heap.size + 1) [.slice sa9 sn9 sc9, .slice pa9 pn9 pc9, .int .i64 l9, .bool b9] _ size25 (by rfl) rfl rfl HR9.out (by rfl) HB5.out (by omega) ?_; intro w10 hr hb hf; have HR10 := Lib.hid hr; have HC10 := Lib.hid (HC9.out.keep (.far (w5.heap.size + 1) (fun h => h rfl) hf)); replace HB5 := Lib.hid hb; clear hr hb hf HR9 HC9)
            | (have hchk := HR10.out; refine wpList_load_dsk rfl (.tmp 20) rfl (w5.heap.size + 1) _ (by rfl) rfl HR10.out ?_)
            | (go_at_call 30; refine (HSY1.out _ _ HC10.out).mono ?_; rintro e w11 ⟨s11, p11, l11, b11, rfl, hd, hb⟩; obtain ⟨⟨sa11, sn11, sc11, rfl⟩, ⟨pa11, pn11, pc11, rfl⟩⟩ := slices_of hd.rest; unfold dv; have HR11 := Lib.hid (HR10.out.keep hb); have HC11 : Hid (DRestS (fun b => b ≠ w5.heap.size + 1) w11 c2 (dv (.slice sa11 sn11 sc11) (.slice pa11 pn11 pc11) l11 b11)) := Lib.hid (hd.weak (fun b h _ => (show b ≠ w5.heap.size + 1 by have := HR10.out.lt; rcases h with h | h; exact h; omega))); replace HB5 := Lib.hid (below_next HB5.out hb); clear hd hb HR10)
            | (refine wpList_store_ags rfl 25 (.tmp 20) _ rfl (w5.heap.size + 1) [.slice sa11 sn11 sc11, .slice pa11 pn11 pc11, .int .i64 l11, .bool b11] _ size25 (by rfl) rfl rfl HR11.out (by rfl) HB5.out (by omega) ?_; intro w12 hr hb hf; have HR12 := Lib.hid hr; have HC12 := Lib.hid (HC11.out.keep (.far (w5.heap.size + 1) (fun h => h rfl) hf)); replace HB5 := Lib.hid hb; clear hr hb hf HR11 HC11)
            | (have hchk := HR12.out; refine wpList_load_dsk rfl (.tmp 20) rfl (w5.heap.size + 1) _ (by rfl) rfl HR12.out ?_)
            | (go_at_call 38; refine (open_law HC12.out.rest HDG.out.opens).mono ?_; rintro e w13 ⟨jv13, rfl, hn, hb⟩; obtain ⟨ja13, jc13, rfl⟩ := nrest_slice hn; rw [HPM.out]; rw [HPM.out] at hn; have HN13 := Lib.hid hn; replace HB5 := Lib.hid (below_next HB5.out hb); clear hn hb HR12)
            | (refine wpList_store_ags rfl 55 (.tmp 25) _ rfl w13.heap.size [.slice ja13 m jc13, .int .i64 40, .int .i64 (m : Int)] _ size55 (by rfl) rfl rfl (row_new w13 55 _) (by rfl) (Joins.below_alloc1 w13 _) (Nat.le_refl _) ?_; intro w14 hr hb hf; have HJ14 := Lib.hid (JBox.new HN13.out hr hb); replace HB5 := Lib.hid (below_next HB5.out hb); clear hr hb hf HN13)))
          have hmk : m < k := by have h1 := HDG.out.lt; have h2 := HPL2.out; omega
          have htm2 : P.take m = R.take m := by rw [HPE.out, List.take_take, Nat.min_eq_left (by omega)]
          have HLOW : Hid (usedL (R.take m) ≤ kk) := Lib.hid (by have h1 := HDG.out.low; rwa [htm2] at h1)
          have HHIGH : Hid (kk < usedL (R.take (m + 1))) := Lib.hid (by have h1 := HDG.out.high; rwa [HPE.out, List.take_take, Nat.min_eq_left (by omega)] at h1)
          have HEND : Hid (∀ q, q < k → w14.cell? ⟨ge, q, none⟩ = some (.int .i64 ((usedL (R.take (q + 1)) : Nat) : Int))) := Lib.hid (fun q hq => by
            have h9 := World.ownsRow.cells (own_keep HI5.out.own HB5.out) (g := ge) rfl q _ (endsC_get hq)
            rwa [Addr.add_lit, Nat.zero_add] at h9)
          have HSR : Hid (∀ W, Below w14.heap.size w14 W → Calls Try.prog 49 #[.slice ja13 m jc13, .slice al m cl] W fun e w' => e = .returned (.bool true) ∧ Below W.heap.size W w') := Lib.hid (fun W hW => by
            have h1 : NRest w14.heap.size w14 (P.take m) (.slice ja13 m jc13) := HJ14.out.nrest
            have h2 : NRest w14.heap.size w14 (P.take m) (.slice al m cl) := by
              have h3 := nrest_take (HI5.out.rest.rest.keep HB5.out) m (by omega)
              rwa [← HPE.out] at h3
            have h4 := samerec_call (P.take m) (P.take m) _ _ W (h1.keep hW) (h2.keep hW)
            rwa [decide_eq_true rfl] at h4)
          have f0 : ∀ W, Below w14.heap.size w14 W → W.cell? ⟨w13.heap.size, 0, none⟩ = some (.slice ja13 m jc13) := fun W hW => HJ14.out.row.later hW (i := 0) rfl
          have g0 : ∀ W, Below w14.heap.size w14 W → W.cell? ⟨w2.heap.size, 0, none⟩ = some (.slice al k cl) := fun W hW => (HI5.out.row.keep HB5.out).later hW (i := 0) rfl
          have hcl : k ≤ cl := by obtain ⟨_, _, he, h1, _⟩ := HI5.out.rest.rest; injection he with _ h2 h3; omega
          have hmc : (m : Int) ≤ (cl : Int) := by omega
          have HBF : Hid (Below w.heap.size w w14) := Lib.hid (HBW5.out.trans (HB5.out.mono hww5))
          have HF0 := Lib.hid f0
          have HG0 := Lib.hid g0
          clear htm2 f0 g0 hcl
          go_loopw [27] (fun s27 wr => WaHead m w14 s27 wr) (fun s27 _ => k - (intOf s27).toNat)
          case atStart => exact ⟨0, Nat.zero_le _, rfl, rfl⟩
          case round =>
            obtain ⟨q, hq, rfl, rfl⟩ := hrel
            have hqk : (q : Int) < (k : Int) := by omega
            have hq0 : (0 : Int) ≤ (q : Int) := by omega
            have e1 := HEND.out q (by omega)
            obtain ⟨E, hE⟩ : ∃ E, E = usedL (R.take (q + 1)) := ⟨_, rfl⟩
            rw [← hE] at e1
            rcases Nat.lt_or_ge q m with hqm | hqm
            · have hle : E ≤ kk := by
                have h1 := usedL_take (R.take m) (q + 1)
                rw [List.take_take, Nat.min_eq_left (by omega), ← hE] at h1
                have h2 := HLOW.out
                omega
              have hlei : (E : Int) ≤ (kk : Int) := by omega
              clear hE
              go_wp2_with fail
              exact ⟨⟨q + 1, by omega, by go_num, rfl⟩, by simp [intOf] <;> omega⟩
            · obtain rfl : q = m := by omega
              have hgt : ¬ (E : Int) ≤ (kk : Int) := by have h1 := HHIGH.out; rw [← hE] at h1; omega
              clear hE
              go_upto_region 35 with (fail)
              clear e1 hgt
              have f0 := HF0.out
              have g0 := HG0.out
              refine' cut1 (F := fun W => Below wr.heap.size wr W) _ ?r35 ?k35
              case r35 =>
                intro K
                go_region_held3 (fun W => Below wr.heap.size wr W) (first | assumption | exact below_drew (Below.refl _ _) | exact below_next (by assumption) (by assumption)) (first
                  | (go_at_call 49; refine (HSR.out _ (by first | assumption | exact below_drew (Below.refl _ _))).mono ?_; rintro e wC ⟨rfl, hbC⟩; have hBC : Below wr.heap.size wr wC := below_next (by first | assumption | exact below_drew (Below.refl _ _)) hbC))
                all_goals exact K _ hBC
              case k35 =>
                intro W hW
                go_wp2_with fail
                go_ret
                exact ⟨rfl, below_next HBF.out hW⟩
    · obtain rfl : k = N := by omega
      have hpl : (R.take k).length = k := by rw [List.length_take, ← HN.out]; omega
      rw [hpl] at HI
      go_upto_region 21 with (fail)
      have HXW := Lib.hid (HX1.out.stays HI.out.bel hlt12)
      have HBW := Lib.hid (HBV.out.trans (HI.out.bel.mono hww))
      rcases Nat.eq_zero_or_pos k with hk9 | hk9
      · subst hk9
        have hsy : syncJ ⟨R.take 0, 40, 0⟩ (dN 40) = (⟨[], 40, 0⟩, dN 40, 0) := dmg_none
        have HSY := Lib.hid (jsync_law HI.out.rest.rest (show Mild ⟨R.take 0, 40, 0⟩ from mild0) HXW.out.drest hsy)
        clear hsy
        go_wp2_with (first
          | (refine wpList_load_jnl rfl (.tmp 11) rfl w2.heap.size _ (by rfl) rfl HI.out.row ?_)
          | (refine wpList_load_dsk rfl (.tmp 9) rfl w1.heap.size _ (by rfl) rfl HXW.out.row ?_)
          | (go_at_call 47; refine HSY.out.mono ?_; rintro e w5 ⟨jv5, ds5, dp5, dl5, db5, rfl, hn, hd, hb⟩; replace HBW := Lib.hid (below_next HBW.out hb); obtain ⟨ja5, jc5, rfl⟩ := nrest_slice hn; obtain ⟨⟨sa5, sn5, sc5, rfl⟩, ⟨pa5, pn5, pc5, rfl⟩⟩ := slices_of hd; simp only [List.length_nil]; have rA := Lib.hid ((row_new w5 55 [.slice none 0 0, .int .i64 0, .int .i64 0]).keep (Joins.below_alloc1 _ (.cells #[.slice none 0 0, .slice none 0 0, .int .i64 0, .bool false] 25))); have rB := row_new (w5.alloc (.cells #[.slice none 0 0, .int .i64 0, .int .i64 0] 55)) 25 [.slice none 0 0, .slice none 0 0, .int .i64 0, .bool false]; rw [World.size_alloc] at rB; replace rB := Lib.hid rB; have bAB := Lib.hid (below_two w5 (.cells #[.slice none 0 0, .int .i64 0, .int .i64 0] 55) (.cells #[.slice none 0 0, .slice none 0 0, .int .i64 0, .bool false] 25)); clear hn hd hb)
          | (refine wpList_store_ags rfl 55 (.tmp 19) _ rfl w5.heap.size [.slice ja5 0 jc5, .int .i64 40, .int .i64 0] _ size55 (by rfl) rfl rfl rA.out (by rfl) bAB.out (Nat.le_refl _) ?_; intro vA hr hb hf; have rA2 := Lib.hid hr; replace rB := Lib.hid (rB.out.same (hf _ (by omega))); replace bAB := Lib.hid hb; clear hr hb hf rA)
          | (refine wpList_store_ags rfl 25 (.tmp 20) _ rfl (w5.heap.size + 1) [.slice sa5 sn5 sc5, .slice pa5 pn5 pc5, .int .i64 dl5, .bool db5] _ size25 (by rfl) rfl rfl rB.out (by rfl) bAB.out (by omega) ?_; intro v5 hr hb hf; replace HBW := Lib.hid (below_next HBW.out hb); clear hr hb hf rA2 rB bAB))
        go_ret
        exact ⟨rfl, HBW.out⟩
      · have hpl2 : (R.take k).length = k := by rw [List.length_take, ← HN.out]; omega
        have hP : R.take k ≠ [] := by intro h0; rw [h0] at hpl2; simp at hpl2; omega
        obtain ⟨y, hsy, hyl, hyp, hdm⟩ := dmg_sync hP hku
        rw [hpl2] at hsy
        have HDM := Lib.hid hdm
        have HYL := Lib.hid hyl
        have hmi : Mild ⟨R.take k, 40, 0⟩ := ⟨by show usedL (R.take k) ≤ _; omega, fun z hz => by have h9 := HLEN.out z (List.mem_of_mem_take hz); omega⟩
        have HSY := Lib.hid (jsync_law HI.out.rest.rest hmi HXW.out.drest hsy)
        obtain ⟨P, hPe⟩ : ∃ P, P = R.take k := ⟨_, rfl⟩
        have HPE := Lib.hid hPe
        obtain ⟨T, hT⟩ : ∃ T, T = usedL (R.take k) := ⟨_, rfl⟩
        have HT := Lib.hid hT
        have hT40 : T ≤ 40 := by omega
        have hT1 : 1 ≤ T := by
          rcases Nat.eq_zero_or_pos T with h0 | h0
          · exfalso
            have h9 := usedL_ge (R.take k)
            omega
          · exact h0
        rw [← hPe] at hpl2 HDM HSY
        have HPL2 := Lib.hid hpl2
        obtain ⟨ge, ce2, hve, hge1, hge2⟩ := HI.out.own.form hk9
        injection hve with hve1 hve2 hve3
        subst hve1 hve3
        have hkb : ((k : Int) == 0) = false := by simp; omega
        clear hsy hyl hyp hdm hmi hPe hT hku hP hpl2
        go_upto_region 24 with ((first
          | (refine wpList_load_jnl rfl (.tmp 11) rfl w2.heap.size _ (by rfl) rfl HI.out.row ?_)
          | (refine wpList_load_dsk rfl (.tmp 9) rfl w1.heap.size _ (by rfl) rfl HXW.out.row ?_)
          | (go_at_call 47; refine HSY.out.mono ?_; rintro e w5 ⟨jv5, ds5, dp5, dl5, db5, rfl, hn, hd, hb⟩; replace HBW := Lib.hid (below_next HBW.out hb); have HBW5 := HBW; replace HI := Lib.hid (HI.out.keep hb); have HI5 := HI; obtain ⟨ja5, jc5, rfl⟩ := nrest_slice hn; obtain ⟨hdl, hdb, ⟨sa5, sc5, rfl⟩, ⟨pa5, pc5, rfl⟩⟩ := drest_left hd; clear hdl hdb; rw [HPL2.out]; rw [HYL.out] at hd ⊢; obtain ⟨pn5, hpn5⟩ : ∃ pn5, pn5 = y.pend.length := ⟨_, rfl⟩; rw [← hpn5] at hd ⊢; have HD5 := Lib.hid hd; have rA := Lib.hid ((row_new w5 55 [.slice none 0 0, .int .i64 0, .int .i64 0]).keep (Joins.below_alloc1 _ (.cells #[.slice none 0 0, .slice none 0 0, .int .i64 0, .bool false] 25))); have rB := row_new (w5.alloc (.cells #[.slice none 0 0, .int .i64 0, .int .i64 0] 55)) 25 [.slice none 0 0, .slice none 0 0, .int .i64 0, .bool false]; rw [World.size_alloc] at rB; replace rB := Lib.hid rB; have bAB := Lib.hid (below_two w5 (.cells #[.slice none 0 0, .int .i64 0, .int .i64 0] 55) (.cells #[.slice none 0 0, .slice none 0 0, .int .i64 0, .bool false] 25)); clear hn hd hb hpn5)
          | (refine wpList_store_ags rfl 55 (.tmp 19) _ rfl w5.heap.size [.slice ja5 k jc5, .int .i64 40, .int .i64 (k : Int)] _ size55 (by rfl) rfl rfl rA.out (by rfl) bAB.out (Nat.le_refl _) ?_; intro vA hr hb hf; have rA2 := Lib.hid hr; replace rB := Lib.hid (rB.out.same (hf _ (by omega))); replace bAB := Lib.hid hb; clear hr hb hf rA)
          | (refine wpList_store_ags rfl 25 (.tmp 20) _ rfl (w5.heap.size + 1) [.slice sa5 40 sc5, .slice pa5 pn5 pc5, .int .i64 dl5, .bool db5] _ size25 (by rfl) rfl rfl rB.out (by rfl) bAB.out (by omega) ?_; intro v5 hr hb hf; replace HBW := Lib.hid (below_next HBW.out hb); have HB5 := Lib.hid hb; have HX20 : Hid (Box v5 (w5.heap.size + 1) y (.slice sa5 40 sc5) (.slice pa5 pn5 pc5) dl5 db5) := Lib.hid ⟨hr, (HD5.out.stays hb).mono (Nat.le_succ _)⟩; clear hr hb hf rA2 rB bAB HD5)))
        obtain ⟨p, hp⟩ : ∃ p, k = p + 1 := ⟨k - 1, by omega⟩
        have hel : (endsC R k)[p]? = some (.int .i64 (T : Int)) := by rw [endsC_get (by omega), ← hp, ← HT.out]
        have e0 : v5.cell? ⟨ge, p, none⟩ = some (.int .i64 (T : Int)) := by
          have h9 := World.ownsRow.cells (own_keep HI5.out.own HB5.out) (g := ge) rfl p _ hel
          rwa [Addr.add_lit, Nat.zero_add] at h9
        have hpk : (p : Int) < (k : Int) := by omega
        have hp0 : (0 : Int) ≤ (p : Int) := by omega
        have hkp : IntKind.i64.wrap ((k : Int) - 1) = (p : Int) := by rw [IntKind.wrap_i64]; omega
        obtain ⟨S0, hS0⟩ : ∃ S0 : Nat, IntKind.u64.wrap sec = (S0 : Int) := ⟨(IntKind.u64.wrap sec).toNat, by have : 0 ≤ IntKind.u64.wrap sec := by rw [IntKind.wrap_u64]; omega
                                                                                                              omega⟩
        have hwT : IntKind.u64.wrap (T : Int) = (T : Int) := by rw [IntKind.wrap_u64]; omega
        obtain ⟨kk, hkk⟩ : ∃ kk, kk = S0 % T := ⟨_, rfl⟩
        have hkT : kk < T := by rw [hkk]; exact Nat.mod_lt _ (by omega)
        have hmod : (S0 : Int).tmod (T : Int) = (kk : Int) := by rw [Int.tmod_eq_emod_of_nonneg (by omega), hkk]; rfl
        have hTz : ¬ (T : Int) = 0 := by omega
        have hTz2 : ¬ T = 0 := by omega
        have hwk : IntKind.i64.wrap (kk : Int) = (kk : Int) := by rw [IntKind.wrap_i64]; omega
        have hwk2 : IntKind.u64.wrap (kk : Int) = (kk : Int) := by rw [IntKind.wrap_u64]; omega
        have HKK := Lib.hid hkk
        clear hel hp hkk
        go_upto_region 25 with (fail)
        clear e0 hpk hp0 hkp hS0 hwT hmod hTz hTz2 hwk hwk2
        obtain ⟨A0, hA0⟩ : ∃ A0 : Nat, IntKind.u64.wrap at' = (A0 : Int) := ⟨(IntKind.u64.wrap at').toNat, by have : 0 ≤ IntKind.u64.wrap at' := by rw [IntKind.wrap_u64]; omega
                                                                                                              omega⟩
        obtain ⟨ti, hti⟩ : ∃ ti, ti = A0 % 128 := ⟨_, rfl⟩
        have hti8 : ti < 128 := by omega
        obtain ⟨x0, hx0⟩ : ∃ x0, x0 = (y.secs.getD kk []).getD ti 0 := ⟨_, rfl⟩
        obtain ⟨xn, hxn⟩ : ∃ xn, xn = x0.toNat ^^^ by' := ⟨_, rfl⟩
        have hx08 := x0.toNat_lt
        have hxn8 : xn < 256 := by rw [hxn]; exact Nat.xor_lt_two_pow (n := 8) hx08 hb8
        obtain ⟨m, c1, c2, hdmg⟩ := HDM.out kk ti (UInt8.ofNat xn) (by rw [HPE.out, ← HT.out]; exact hkT) hti8 (by
          rw [← hx0, hxn]
          have h9 := xor_ne hx08 hb8 hby
          rwa [UInt8.ofNat_toNat] at h9)
        have HDG := Lib.hid hdmg
        have hn20 : NRest (w5.heap.size + 1) v5 y.secs (.slice sa5 40 sc5) := by
          obtain ⟨s', p', he, h1, h2⟩ := HX20.out.rest
          unfold dv dskOf dskCells at he
          simp at he
          rw [he.1]; exact h1
        have hyl := HYL.out
        have hsk : y.secs[kk]? = some (y.secs.getD kk []) := by rw [List.getElem?_eq_getElem (by omega)]; simp [List.getD, show kk < y.secs.length by omega]
        obtain ⟨sk, hske⟩ : ∃ sk, sk = y.secs.getD kk [] := ⟨_, rfl⟩
        have HSK := Lib.hid hske
        rw [← hske] at hsk hx0
        have hskl : sk.length = 128 := by rw [hske]; exact hdmg.len
        obtain ⟨sb, so, u, hso, hbl, hru, hcell⟩ := hn20.at hsk
        subst hso
        have hcu := hcell v5 (Below.refl _ _)
        have hcua := hcell (v5.alloc (.cells #[] 5)) ((Joins.below_alloc1 v5 _).mono (Nat.le_of_lt HX20.out.row.lt))
        obtain ⟨ub0, uc, rfl, hu1, hu2⟩ := hru.shape
        rw [hskl] at hcu hcua hu2
        have HRUS := Lib.hid hru
        rw [hskl] at HRUS
        have HSKL := Lib.hid hskl
        have j0 := (HI5.out.row.keep HB5.out).cell (i := 0) rfl
        have c0 := HX20.out.row.cell (i := 0) rfl
        have hk40 : (kk : Int) < 40 := by omega
        have hk40b : ¬ (40 : Int) ≤ (kk : Int) := by omega
        have hkk0 : (0 : Int) ≤ (kk : Int) := by omega
        have hsc : (40 : Int) ≤ (sc5 : Int) := by obtain ⟨_, _, he, h1, _⟩ := hn20; injection he with _ _ h3; omega
        clear hn20 hsk hske hskl hru hcell hbl hdmg hyl
        have HMADE : Hid ((v5.alloc (.cells #[] 5)).ownsRow v5.heap.size 5 1 (.slice (some ⟨v5.heap.size, 0, none⟩) 0 0) 0 (cellsOf [])) := Lib.hid (World.ownsRow_made v5 #[] 0 (Nat.le_refl _) (by unfold maxLen; omega) rfl)
        have HRA : Hid (Rest (w5.heap.size + 1) (v5.alloc (.cells #[] 5)) sk (.slice ub0 128 uc)) := Lib.hid (HRUS.out.stays ((Joins.below_alloc1 v5 _).mono (Nat.le_of_lt HX20.out.row.lt)))
        have c0a := (HX20.out.row.keep (Joins.below_alloc1 v5 (.cells #[] 5))).cell (i := 0) rfl
        have HCUA := Lib.hid hcua
        have HC0A := Lib.hid c0a
        clear hcua c0a
        go_upto_region 27 with (fail)
        clear hcu c0 j0
        have hcua := HCUA.out
        have c0a := HC0A.out
        go_upto_region 28 with ((first
          | (refine wpList_append_rest rfl (.tmp 145) (.tmp 150) rfl v5.heap.size (.slice (some ⟨v5.heap.size, 0, none⟩) 0 0) 0 [] rfl HMADE.out sk (.slice ub0 128 uc) rfl HRA.out (by rw [HSKL.out]; omega) (by rw [World.size_alloc]; omega) ?_; intro v8 w8 hown hgrow; rw [HSKL.out, Nat.zero_add, List.nil_append] at hown; have HB8 := Lib.hid ((Joins.below_alloc1 v5 (.cells #[] 5)).trans (below_grewn HMADE.out hgrow (by rw [World.size_alloc]; omega) (Nat.le_refl _))); obtain ⟨g8, c8, rfl, hg81, hg82⟩ := hown.form (by omega); have HO8 := Lib.hid hown; clear hown hgrow)))
        clear hcua c0a hsc
        obtain ⟨cs8, r8, k8⟩ := owns_row HO8.out
        have hc8 : cs8[ti]? = some (.int .u8 (x0.toNat : Int)) := by
          have h9 := World.ownsRow.cells HO8.out (g := g8) rfl ti _ (cellsOf_get (by rw [HSKL.out]; omega))
          rw [Addr.add_lit, Nat.zero_add, cell_of_row w8 g8 _ _ _ _ r8] at h9
          have h10 : sk[ti]'(by rw [HSKL.out]; omega) = x0 := by rw [hx0]; simp [List.getD, show ti < sk.length by rw [HSKL.out]; omega]
          rw [h10] at h9
          simpa using h9
        have e8 := r8.cell hc8
        have f8 := r8.free ti
        have hxr : bits .xor .u8 (x0.toNat : Int) (by' : Int) = (xn : Int) := by rw [u8_xor_nat _ _ hx08 hb8, ← hxn]
        have htm : (A0 : Int).tmod 128 = (ti : Int) := by rw [Int.tmod_eq_emod_of_nonneg (by omega), hti]; rfl
        have hti9 : (ti : Int) < 128 := by omega
        have hti0 : (0 : Int) ≤ (ti : Int) := by omega
        have HXN9 := Lib.hid hxn
        have HTI := Lib.hid hti
        clear hxn hti hx0
        go_upto_region 29 with (fail)
        have hsh := own_shape HO8.out
        have HRS : Hid (Rest (w8.setCell ⟨g8, ti, none⟩ (.int .u8 (xn : Int))).heap.size (w8.setCell ⟨g8, ti, none⟩ (.int .u8 (xn : Int))) (sk.set ti (UInt8.ofNat xn)) (.slice (some ⟨g8, 0, none⟩) 128 c8)) := Lib.hid (by
          have r8s := r8.set ti (.int .u8 (xn : Int)) rfl
          have hl9 : (sk.set ti (UInt8.ofNat xn)).length = 128 := by rw [List.length_set]; exact HSKL.out
          obtain ⟨a9, c9, he9, h91, h92⟩ := hsh
          injection he9 with _ _ he93
          refine ⟨_, c8, by rw [hl9], by omega, by omega, (fun h => by cases h), .inr ⟨g8, 0, rfl, r8s.lt, fun i hi => ?_⟩⟩
          rw [Nat.zero_add]
          rw [hl9] at hi
          refine r8s.cell ?_
          by_cases hit : i = ti
          · subst hit
            have hlc : i < cs8.length := (List.getElem?_eq_some_iff.1 hc8).1
            rw [List.getElem?_set_self hlc]
            simp only [List.getElem_set_self, UInt8.toNat_ofNat']
            rw [Nat.mod_eq_of_lt (by omega)]
          · rw [List.getElem?_set_ne (fun h => hit h.symm)]
            have h9 := World.ownsRow.cells HO8.out (g := g8) rfl i _ (cellsOf_get (by rw [HSKL.out]; omega))
            rw [Addr.add_lit, Nat.zero_add, cell_of_row w8 g8 _ _ _ _ r8] at h9
            rw [List.getElem_set_ne (fun h => hit h.symm)]
            simpa using h9)
        have HB8b : Hid (Below v5.heap.size v5 (w8.setCell ⟨g8, ti, none⟩ (.int .u8 (xn : Int)))) := Lib.hid (below_setCell HB8.out g8 ti _ hg81)
        generalize w8.setCell ⟨g8, ti, none⟩ (.int .u8 (xn : Int)) = W8 at HRS HB8b ⊢
        replace HX20 := Lib.hid (HX20.out.keep HB8b.out)
        replace HB5 := Lib.hid (HB5.out.trans (HB8b.out.mono (by have := HB5.out.size; exact this)))
        have hww5 : w.heap.size ≤ w5.heap.size := HBW5.out.size
        have HWRT : Hid (Calls Try.prog 26 #[.agg #[.slice (some ⟨sb, so, none⟩) 40 sc5, .slice pa5 pn5 pc5, .int .i64 dl5, .bool db5], .int .i64 (kk : Int), .slice (some ⟨g8, 0, none⟩) 128 c8] W8 (NewDS (fun b => b < w5.heap.size + 1) W8 c1 0)) := Lib.hid (by
          have h9 := HDG.out.write
          rw [← HSK.out] at h9
          exact write_lawS HX20.out.rest (kk : Int) HRS.out h9)
        have HSY1 : Hid (∀ W v, DRestS (fun b => b ≠ w5.heap.size + 1) W c1 v → Calls Try.prog 30 #[v] W (NewDS (fun b => b ≠ w5.heap.size + 1) W c2 0)) := Lib.hid (fun W v h => (sync_call _ c1 v W h).mono fun _ _ h9 => h9.newS HDG.out.sync)
        have hpm : (P.take m).length = m := by rw [List.length_take]; have := HDG.out.lt; omega
        have HPM := Lib.hid hpm
        clear e8 f8 hxr htm hti9 hti0 hc8 hsh hpm
        go_upto_region 33 with ((first
          | (have hchk := HX20.out; refine wpList_load_dsk rfl (.tmp 20) rfl (w5.heap.size + 1) _ (by rfl) rfl HX20.out.row ?_)
          | (have hchk := HX20.out; go_at_call 26; refine HWRT.out.mono ?_; rintro e w9 ⟨s9, p9, l9, b9, rfl, hd, hb⟩; obtain ⟨⟨sa9, sn9, sc9, rfl⟩, ⟨pa9, pn9, pc9, rfl⟩⟩ := slices_of hd.rest; unfold dv; have HR9 := Lib.hid (HX20.out.row.keep hb); have HC9 : Hid (DRestS (fun b => b ≠ w5.heap.size + 1) w9 c1 (dv (.slice sa9 sn9 sc9) (.slice pa9 pn9 pc9) l9 b9)) := Lib.hid (hd.weak (fun b h _ => (show b ≠ w5.heap.size + 1 by have := HX20.out.row.lt; rcases h with h | h <;> omega))); replace HB5 := Lib.hid (below_next HB5.out hb); clear hd hb HX20)
          | (refine wpList_store_ags rfl 25 (.tmp 20) _ rfl (w5.heap.size + 1) [.slice sa9 sn9 sc9, .slice pa9 pn9 pc9, .int .i64 l9, .bool b9] _ size25 (by rfl) rfl rfl HR9.out (by rfl) HB5.out (by omega) ?_; intro w10 hr hb hf; have HR10 := Lib.hid hr; have HC10 := Lib.hid (HC9.out.keep (.far (w5.heap.size + 1) (fun h => h rfl) hf)); replace HB5 := Lib.hid hb; clear hr hb hf HR9 HC9)
          | (have hchk := HR10.out; refine wpList_load_dsk rfl (.tmp 20) rfl (w5.heap.size + 1) _ (by rfl) rfl HR10.out ?_)
          | (go_at_call 30; refine (HSY1.out _ _ HC10.out).mono ?_; rintro e w11 ⟨s11, p11, l11, b11, rfl, hd, hb⟩; obtain ⟨⟨sa11, sn11, sc11, rfl⟩, ⟨pa11, pn11, pc11, rfl⟩⟩ := slices_of hd.rest; unfold dv; have HR11 := Lib.hid (HR10.out.keep hb); have HC11 : Hid (DRestS (fun b => b ≠ w5.heap.size + 1) w11 c2 (dv (.slice sa11 sn11 sc11) (.slice pa11 pn11 pc11) l11 b11)) := Lib.hid (hd.weak (fun b h _ => (show b ≠ w5.heap.size + 1 by have := HR10.out.lt; rcases h with h | h; exact h; omega))); replace HB5 := Lib.hid (below_next HB5.out hb); clear hd hb HR10)
          | (refine wpList_store_ags rfl 25 (.tmp 20) _ rfl (w5.heap.size + 1) [.slice sa11 sn11 sc11, .slice pa11 pn11 pc11, .int .i64 l11, .bool b11] _ size25 (by rfl) rfl rfl HR11.out (by rfl) HB5.out (by omega) ?_; intro w12 hr hb hf; have HR12 := Lib.hid hr; have HC12 := Lib.hid (HC11.out.keep (.far (w5.heap.size + 1) (fun h => h rfl) hf)); replace HB5 := Lib.hid hb; clear hr hb hf HR11 HC11)
          | (have hchk := HR12.out; refine wpList_load_dsk rfl (.tmp 20) rfl (w5.heap.size + 1) _ (by rfl) rfl HR12.out ?_)
          | (go_at_call 38; refine (open_law HC12.out.rest HDG.out.opens).mono ?_; rintro e w13 ⟨jv13, rfl, hn, hb⟩; obtain ⟨ja13, jc13, rfl⟩ := nrest_slice hn; rw [HPM.out]; rw [HPM.out] at hn; have HN13 := Lib.hid hn; replace HB5 := Lib.hid (below_next HB5.out hb); clear hn hb HR12)
          | (refine wpList_store_ags rfl 55 (.tmp 25) _ rfl w13.heap.size [.slice ja13 m jc13, .int .i64 40, .int .i64 (m : Int)] _ size55 (by rfl) rfl rfl (row_new w13 55 _) (by rfl) (Joins.below_alloc1 w13 _) (Nat.le_refl _) ?_; intro w14 hr hb hf; have HJ14 := Lib.hid (JBox.new HN13.out hr hb); replace HB5 := Lib.hid (below_next HB5.out hb); clear hr hb hf HN13)))
        have hmk : m < k := by have h1 := HDG.out.lt; have h2 := HPL2.out; omega
        have htm2 : P.take m = R.take m := by rw [HPE.out, List.take_take, Nat.min_eq_left (by omega)]
        have HLOW : Hid (usedL (R.take m) ≤ kk) := Lib.hid (by have h1 := HDG.out.low; rwa [htm2] at h1)
        have HHIGH : Hid (kk < usedL (R.take (m + 1))) := Lib.hid (by have h1 := HDG.out.high; rwa [HPE.out, List.take_take, Nat.min_eq_left (by omega)] at h1)
        have HEND : Hid (∀ q, q < k → w14.cell? ⟨ge, q, none⟩ = some (.int .i64 ((usedL (R.take (q + 1)) : Nat) : Int))) := Lib.hid (fun q hq => by
          have h9 := World.ownsRow.cells (own_keep HI5.out.own HB5.out) (g := ge) rfl q _ (endsC_get hq)
          rwa [Addr.add_lit, Nat.zero_add] at h9)
        have HSR : Hid (∀ W, Below w14.heap.size w14 W → Calls Try.prog 49 #[.slice ja13 m jc13, .slice al m cl] W fun e w' => e = .returned (.bool true) ∧ Below W.heap.size W w') := Lib.hid (fun W hW => by
          have h1 : NRest w14.heap.size w14 (P.take m) (.slice ja13 m jc13) := HJ14.out.nrest
          have h2 : NRest w14.heap.size w14 (P.take m) (.slice al m cl) := by
            have h3 := nrest_take (HI5.out.rest.rest.keep HB5.out) m (by omega)
            rwa [← HPE.out] at h3
          have h4 := samerec_call (P.take m) (P.take m) _ _ W (h1.keep hW) (h2.keep hW)
          rwa [decide_eq_true rfl] at h4)
        have f0 : ∀ W, Below w14.heap.size w14 W → W.cell? ⟨w13.heap.size, 0, none⟩ = some (.slice ja13 m jc13) := fun W hW => HJ14.out.row.later hW (i := 0) rfl
        have g0 : ∀ W, Below w14.heap.size w14 W → W.cell? ⟨w2.heap.size, 0, none⟩ = some (.slice al k cl) := fun W hW => (HI5.out.row.keep HB5.out).later hW (i := 0) rfl
        have hcl : k ≤ cl := by obtain ⟨_, _, he, h1, _⟩ := HI5.out.rest.rest; injection he with _ h2 h3; omega
        have hmc : (m : Int) ≤ (cl : Int) := by omega
        have HBF : Hid (Below w.heap.size w w14) := Lib.hid (HBW5.out.trans (HB5.out.mono hww5))
        have HF0 := Lib.hid f0
        have HG0 := Lib.hid g0
        clear htm2 f0 g0 hcl
        go_loopw [27] (fun s27 wr => WaHead m w14 s27 wr) (fun s27 _ => k - (intOf s27).toNat)
        case atStart => exact ⟨0, Nat.zero_le _, rfl, rfl⟩
        case round =>
          obtain ⟨q, hq, rfl, rfl⟩ := hrel
          have hqk : (q : Int) < (k : Int) := by omega
          have hq0 : (0 : Int) ≤ (q : Int) := by omega
          have e1 := HEND.out q (by omega)
          obtain ⟨E, hE⟩ : ∃ E, E = usedL (R.take (q + 1)) := ⟨_, rfl⟩
          rw [← hE] at e1
          rcases Nat.lt_or_ge q m with hqm | hqm
          · have hle : E ≤ kk := by
              have h1 := usedL_take (R.take m) (q + 1)
              rw [List.take_take, Nat.min_eq_left (by omega), ← hE] at h1
              have h2 := HLOW.out
              omega
            have hlei : (E : Int) ≤ (kk : Int) := by omega
            clear hE
            go_wp2_with fail
            exact ⟨⟨q + 1, by omega, by go_num, rfl⟩, by simp [intOf] <;> omega⟩
          · obtain rfl : q = m := by omega
            have hgt : ¬ (E : Int) ≤ (kk : Int) := by have h1 := HHIGH.out; rw [← hE] at h1; omega
            clear hE
            go_upto_region 35 with (fail)
            clear e1 hgt
            have f0 := HF0.out
            have g0 := HG0.out
            refine' cut1 (F := fun W => Below wr.heap.size wr W) _ ?r35 ?k35
            case r35 =>
              intro K
              go_region_held3 (fun W => Below wr.heap.size wr W) (first | assumption | exact below_drew (Below.refl _ _) | exact below_next (by assumption) (by assumption)) (first
                | (go_at_call 49; refine (HSR.out _ (by first | assumption | exact below_drew (Below.refl _ _))).mono ?_; rintro e wC ⟨rfl, hbC⟩; have hBC : Below wr.heap.size wr wC := below_next (by first | assumption | exact below_drew (Below.refl _ _)) hbC))
              all_goals exact K _ hBC
            case k35 =>
              intro W hW
              go_wp2_with fail
              go_ret
              exact ⟨rfl, below_next HBF.out hW⟩
end Go.Proofs.Ytlaaolbdadempaa
