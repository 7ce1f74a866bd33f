/- Reading a list of values: the loop that appends what it reads; and reading at every depth. -/
import Derived.Test.YtgliddedimpgaaaR
import Derived.Test.YtgliddedimpgaaaI
namespace Go.Proofs.Ytgliddedimpgaaa
open Go.RowKit

/-- an element as it lies in memory -/
structure El where
  k : Int
  n : Int
  s : ByteArray
  a : Option Addr
  l : Nat
  c : Nat
def El.val (e : El) : Value := Ytgliddedimpgaaa.val e.k e.n e.s e.a e.l e.c
def El.cells (e : El) : List Value := [.int .i64 e.k, .int .i64 e.n, .string e.s, .slice e.a e.l e.c]
def El.none : El := ⟨0, 0, ⟨#[]⟩, Option.none, 0, 0⟩

theorem cells_len : ∀ es : List El, (es.flatMap El.cells).length = es.length * 4
  | [] => rfl
  | e :: es => by rw [List.flatMap_cons, List.length_append, cells_len es, List.length_cons]; simp [El.cells]; omega

theorem cells_at : ∀ (es : List El) (i t : Nat), i < es.length → t < 4 → (es.flatMap El.cells)[i * 4 + t]? = (es.getD i El.none).cells[t]?
  | [], i, t, h, _ => by simp at h
  | e :: es, 0, t, _, ht => by
    rw [List.flatMap_cons, List.getElem?_append_left (by simp [El.cells]; omega)]; simp
  | e :: es, i + 1, t, h, ht => by
    rw [List.flatMap_cons, List.getElem?_append_right (by simp [El.cells]; omega)]
    rw [show (i + 1) * 4 + t - e.cells.length = i * 4 + t by simp [El.cells]; omega, cells_at es i t (by simp at h; omega) ht]
    simp

theorem Rd.staysC {B rb C : Nat} {w w' : World} {bs : List UInt8} (h : Rd B rb w bs) (hb : Below C w w') (hC : rb < C) : Rd B rb w' bs := by
  obtain ⟨v, hv, hR⟩ := h.cell
  have hlo := h.lo
  exact ⟨hlo, Nat.lt_of_lt_of_le h.hi hb.size, ⟨v, (hb.cell (p := ⟨rb, 0, none⟩) hC).trans hv, hR.stays (hb.mono (by omega))⟩, (hb.frozen (p := ⟨rb, 0, none⟩) hC).trans h.free⟩

theorem only_belowC {rb : Nat} {w w1 w2 : World} (h : Only rb w w1) (hb : Below w.heap.size w1 w2) : Only rb w w2 :=
  ⟨hb.os.trans h.os, hb.tape.trans h.tape, hb.output.trans h.output, Nat.le_trans h.size hb.size, fun k hk hne => (hb.block k hk).trans (h.block k hk hne)⟩

/-- the list that has been read lies in memory -/
theorem sure_list {W0 : Nat} {w : World} {es : List El} {xs : List V} {v : Value} {n : Nat} (hes : es.length = n) (hxs : xs.length = n) (hn : n ≤ 1099511627776) (ho : w.ownsRow 0 24 4 v n (es.flatMap El.cells)) (hlo : ∀ k, v.ownBlock = some k → W0 ≤ k)
    (hs : ∀ j (h1 : j < xs.length), Sure (fun k => W0 ≤ k ∧ some k ≠ v.ownBlock) w xs[j] (es.getD j El.none).val) :
    ∃ (a : Option Addr) (c : Nat), v = .slice a xs.length c ∧ Sure (fun k => W0 ≤ k) w (.mk 3 0 ⟨#[]⟩ xs) (val 3 0 ⟨#[]⟩ a xs.length c) := by
  rcases ho.2 with ⟨rfl, h0⟩ | ⟨g, cap, cur, rfl, _, hg, hnc, hcm, hcs, htake⟩
  · have hx0 : xs = [] := List.eq_nil_of_length_eq_zero (by omega)
    subst hx0
    exact ⟨none, 0, rfl, fun _ _ _ => .mk 3 0 ⟨#[]⟩ [] none 0 (fun _ => 0) (fun _ => 0) (fun _ => ⟨#[]⟩) (fun _ => none) (fun _ => 0) (fun _ => 0) (by omega) (by omega) (Nat.zero_le _) (by simp) (.inl rfl) (fun i h => by simp at h)⟩
  · refine ⟨some ⟨g, 0, none⟩, cap, by rw [hxs], fun w2 ha h2 => ?_⟩
    have hglt : g < w.heap.size := (Array.getElem?_eq_some_iff.1 hg).1
    have hgb : w2.heap[g]? = w.heap[g]? := ha g hglt (hlo g rfl)
    refine .mk 3 0 ⟨#[]⟩ xs (some ⟨g, 0, none⟩) cap (fun i => (es.getD i El.none).k) (fun i => (es.getD i El.none).n) (fun i => (es.getD i El.none).s) (fun i => (es.getD i El.none).a) (fun i => (es.getD i El.none).l) (fun i => (es.getD i El.none).c)
      (by omega) (by omega) (Nat.zero_le _) (by omega) (.inr ⟨g, 0, rfl, hglt, fun i hi => ?_⟩) (fun i hi => ?_)
    · have hc : ∀ t, t < 4 → w2.cell? ⟨g, i * 4 + t, none⟩ = (es.getD i El.none).cells[t]? := fun t ht => by
        rw [World.cell?_of_block (w := w) hgb, ho.cellAt (i * 4 + t) (by omega), cells_at es i t (by omega) ht]
      have c0 := hc 0 (by omega)
      have c1 := hc 1 (by omega)
      have c2 := hc 2 (by omega)
      have c3 := hc 3 (by omega)
      rw [Nat.zero_add]
      exact ⟨c0, c1, c2, c3⟩
    · exact hs i hi w2 (fun k hk hp => ha k hk hp.1) h2

theorem cell_new4 (w : World) (a b c d : Value) (T : TypeId) : ∀ j u, [a, b, c, d][j]? = some u → (w.alloc (.cells #[a, b, c, d] T)).cell? ((⟨w.heap.size, 0, none⟩ : Addr).add j) = some u := by
  intro j u hj
  match j, hj with
  | 0, hj => simp at hj; subst hj; simp [Addr.add]
  | 1, hj => simp at hj; subst hj; simp [Addr.add]
  | 2, hj => simp at hj; subst hj; simp [Addr.add]
  | 3, hj => simp at hj; subst hj; simp [Addr.add]

theorem own_off {v : Value} {W0 rb : Nat} (h : ∀ k, v.ownBlock = some k → W0 ≤ k) (hrb : rb < W0) : v.ownBlock = none ∨ v.ownBlock ≠ some rb := by
  right; intro e; have := h rb e; omega

/-- the elements behind one more append -/
theorem list_more {w wr w2 w3 : World} {rb i : Nat} {o : Obj} {s4 v3 : Value} {es : List El} {e : El} {xs : List V} {x : V} (hrb : rb < w.heap.size) (hes : es.length = i) (hxs : xs.length = i)
    (hsu : ∀ j (h1 : j < xs.length), Sure (fun k => w.heap.size ≤ k ∧ some k ≠ s4.ownBlock) wr xs[j] (es.getD j El.none).val) (hsz : w.heap.size ≤ wr.heap.size) (ho : Only rb wr w2) (hs : Sure (fun k => wr.heap.size ≤ k) w2 x e.val)
    (hlo : ∀ k, s4.ownBlock = some k → w.heap.size ≤ k) (hlt : ∀ k, s4.ownBlock = some k → 0 ≤ k ∧ k < wr.heap.size) (hw : Wrote (w2.alloc o) w3 s4 v3) :
    ∀ j (h1 : j < (xs ++ [x]).length), Sure (fun k => w.heap.size ≤ k ∧ some k ≠ v3.ownBlock) w3 (xs ++ [x])[j] ((es ++ [e]).getD j El.none).val := by
  have last : ∀ {y : V} {u : Value}, Sure (fun k => w.heap.size ≤ k ∧ some k ≠ s4.ownBlock) w2 y u → Sure (fun k => w.heap.size ≤ k ∧ some k ≠ v3.ownBlock) w3 y u := fun h => by
    have h2 : Sure (fun k => w.heap.size ≤ k ∧ some k ≠ s4.ownBlock) (w2.alloc o) _ _ := h.later (by simp) (fun k hk _ => Below.heap_alloc w2 o k hk) (fun _ _ hp => hp)
    refine h2.later hw.grown.size (fun k hk hp => hw.grown.block k hk hp.2) (fun k hk hp => ⟨hp.1, fun e => ?_⟩)
    rcases hw.own with h3 | h3
    · exact hp.2 (e.trans h3)
    · have := h3 k e.symm; omega
  intro j h1
  rw [List.length_append, List.length_singleton] at h1
  by_cases hj : j < xs.length
  · have e1 : (xs ++ [x])[j] = xs[j] := List.getElem_append_left hj
    have e2 : (es ++ [e]).getD j El.none = es.getD j El.none := by
      rw [List.getD_eq_getElem?_getD, List.getD_eq_getElem?_getD, List.getElem?_append_left (by omega)]
    rw [e1, e2]
    refine last ((hsu j hj).later ho.size (fun k hk hp => ho.block k hk (fun e => by injection e with e; omega)) (fun _ _ hp => hp))
  · obtain rfl : j = xs.length := by omega
    have e1 : (xs ++ [x])[xs.length] = x := by simp
    have e2 : (es ++ [e]).getD xs.length El.none = e := by
      rw [List.getD_eq_getElem?_getD, List.getElem?_append_right (by omega)]; simp [hes, hxs]
    rw [e1, e2]
    exact last (hs.mono fun k _ hp => ⟨by omega, fun e => by have := (hlt k e.symm).2; omega⟩)

def LHead (B rb : Nat) (w : World) (f : List UInt8 → Option (V × List UInt8)) (n : Nat) (r1 : List UInt8) (s4 s10 : Value) (wr : World) : Prop :=
  ∃ (i : Nat) (es : List El) (xs : List V) (r2 : List UInt8), s10 = .int .u64 (i : Int) ∧ i ≤ n ∧ es.length = i ∧ xs.length = i ∧ wr.ownsRow 0 24 4 s4 i (es.flatMap El.cells) ∧ (∀ k, s4.ownBlock = some k → w.heap.size ≤ k) ∧
    (∀ j (h1 : j < xs.length), Sure (fun k => w.heap.size ≤ k ∧ some k ≠ s4.ownBlock) wr xs[j] (es.getD j El.none).val) ∧ Rd B rb wr r2 ∧ Only rb w wr ∧ i + r2.length ≤ 1099511627776 ∧
    decN f n r1 = (decN f (n - i) r2).map fun p => (xs ++ p.1, p.2)

theorem list_zero : ListSaid 0 := by
  intro B rb w bs h hlen
  go_enter Try.func44, Try.ntmps44
  go_wp2_with fail
  exact ⟨rfl, rfl, Only.refl _ _⟩

theorem Try.info24 : (Try.prog.info? 24).map (fun i => (i.zero, i.size, i.bytes)) = some (some (.agg #[.int .i64 0, .int .i64 0, .string ⟨#[]⟩, .slice none 0 0]), 4, 56) := by kernel_rfl

theorem lread_bad {B rb : Nat} {w w' : World} {o : Option (List V × List UInt8)} (ho : o = none) (h3 : Only rb w w') : LRead B rb w w' o badCode := by
  subst ho; exact ⟨rfl, h3⟩

set_option maxHeartbeats 1000000 in
set_option maxRecDepth 100000 in
theorem list_of_value (d : Nat) (hd1000 : d ≤ 1000) (hV : ValSaid d) : ListSaid (d + 1) := by
  intro B rb w bs h hlen
  have hrb := h.hi
  have hz : (((d : Nat) : Int) + 1 == 0) = false := by simp; omega
  have e1 : ((d + 1 : Nat) : Int) = (d : Int) + 1 := by omega
  rw [e1]
  clear e1
  obtain ⟨i0, hi0, hz0, hz1, hz2⟩ := info_parts Try.info24
  go_enter Try.func44, Try.ntmps44
  go_wp2_with fail
  refine (numeral_call B rb _ bs h).mono ?_
  rintro e w1 hq
  cases hn : readNum bs with
  | none =>
    rw [hn] at hq
    obtain ⟨rfl, ho⟩ := hq
    have HF : Hid (decL (d + 1) bs = none) := by unfold Hid; rw [decL, hn]
    clear hn
    go_wp2_with fail
    exact ⟨rfl, lread_bad HF.out ho⟩
  | some p =>
    obtain ⟨n, r1⟩ := p
    rw [hn] at hq
    obtain ⟨rfl, hr1, ho1, hn64⟩ := hq
    have hrl := readNum_len hn
    have HF : Hid (decL (d + 1) bs = decN (dec d) n r1) := by unfold Hid; rw [decL, hn]; rfl
    have HL : Hid (r1.length ≤ 1099511627776) := by unfold Hid; omega
    clear hn hrl
    go_wp2_with fail
    go_loopw [4, 10] (fun s4 s10 wr => LHead B rb w (dec d) n r1 s4 s10 wr) (fun _ s10 _ => n - (intOf s10).toNat)
    case atStart => exact ⟨0, [], [], r1, rfl, by omega, rfl, rfl, World.ownsRow_nil _ _ _ _, (fun k hk => by simp [Value.ownBlock] at hk), (fun j hj => by simp at hj), hr1, ho1, by have := HL.out; omega, by simp⟩
    case round =>
      obtain ⟨i, es, xs, r2, rfl, hi, hes, hxs, hown, hlo, hsure, hr2, ho2, hbd, hdec⟩ := hrel
      have HES := Lib.hid hes
      have HXS := Lib.hid hxs
      have HOWN := Lib.hid hown
      have HLO := Lib.hid hlo
      have HSU := Lib.hid hsure
      have HO2 := Lib.hid ho2
      have HDEC := Lib.hid hdec
      clear hes hxs hown hlo hsure ho2 hdec
      rcases Nat.lt_or_ge i n with hlt | hge
      · go_wp2_with fail
        refine (hV B rb _ r2 hr2 (by omega)).mono ?_
        rintro e w2 hq
        cases hv : dec d r2 with
        | none =>
          rw [hv] at hq
          obtain ⟨rfl, ho3⟩ := hq
          have HN : Hid (decL (d + 1) bs = none) := by
            unfold Hid; rw [HF.out, HDEC.out, show n - i = (n - i - 1) + 1 by omega, decN_stop hv]; rfl
          clear hv
          go_wp2_with fail
          exact ⟨rfl, lread_bad HN.out (HO2.out.trans ho3)⟩
        | some p =>
          obtain ⟨x, r3⟩ := p
          rw [hv] at hq
          obtain ⟨ek, en, e_s, ea, el, ec, rfl, hs3, hr3, ho3⟩ := hq
          have hl3 := dec_len hv
          have HN : Hid (decN (dec d) n r1 = (decN (dec d) (n - (i + 1)) r3).map fun p => (xs ++ [x] ++ p.1, p.2)) := by
            unfold Hid
            rw [HDEC.out, show n - i = (n - (i + 1)) + 1 by omega, decN_more hv]
            cases decN (dec d) (n - (i + 1)) r3 with
            | none => rfl
            | some p => simp
          clear hv
          have HS3 := Lib.hid hs3
          have HO3 := Lib.hid ho3
          have HOWN2 := Lib.hid (HOWN.out.kept ho3 (own_off HLO.out hrb))
          clear hs3 ho3
          go_wp2_with (at_builtin; refine wpList_append_mine _ rfl (.tmp 12) (.tmp 17) 22 rfl 24 i0 (.agg #[.int .i64 0, .int .i64 0, .string ⟨#[]⟩, .slice none 0 0]) 4 56 Try.underlying22 hi0 hz0 hz1 hz2 rfl (by decide) _ _ _ rfl (World.ownsRow.alloc HOWN2.out _) ⟨w2.heap.size, 0, none⟩ 1 1 [.int .i64 ek, .int .i64 en, .string e_s, .slice ea el ec] rfl rfl ?c1 ?c2 ?c3 ?c4 ?_)
          case c1 => exact cell_new4 _ _ _ _ _ _
          case c2 => intro u hu; simp at hu; rcases hu with rfl | rfl | rfl | rfl <;> rfl
          case c3 => simp [maxLen]; omega
          case c4 => omega
          intro v3 w3 ho4 hw4
          have HR4 : Hid (Rd B rb w3 r3) := (hr3.stays (Joins.below_alloc1 w2 _)).staysC (hw4.toBelow (B := w.heap.size) (by have := HO2.out.size; have := HO3.out.size; simp; omega) HLO.out) hrb
          have HO4 : Hid (Only rb w w3) := only_belowC ((HO2.out.trans HO3.out).trans (only_below (Joins.below_alloc1 w2 _))) (hw4.toBelow (B := w.heap.size) (by have := HO2.out.size; have := HO3.out.size; simp; omega) HLO.out)
          have HSU4 := Lib.hid (list_more (e := ⟨ek, en, e_s, ea, el, ec⟩) hrb HES.out HXS.out HSU.out HO2.out.size HO3.out HS3.out HLO.out (HOWN.out.lt) hw4)
          have HLO4 := Lib.hid (wrote_own hw4 (by have := HO2.out.size; have := HO3.out.size; simp; omega) HLO.out)
          have HOW4 := Lib.hid ho4
          clear ho4 hw4
          go_wp2_with fail
          go_roundw
          case rel =>
            refine ⟨i + 1, es ++ [⟨ek, en, e_s, ea, el, ec⟩], xs ++ [x], r3, by simp, by omega, by simp [HES.out], by simp [HXS.out], ?_, HLO4.out, HSU4.out, HR4.out, HO4.out, by omega, HN.out⟩
            have h4 := HOW4.out
            rw [List.flatMap_append]
            simpa [El.cells] using h4
          case measure => simp [intOf]; omega
      · obtain rfl : i = n := by omega
        have HN : Hid (decL (d + 1) bs = some (xs, r2)) := by
          unfold Hid; rw [HF.out, HDEC.out, Nat.sub_self, decN]; simp
        obtain ⟨a, c, hv4, hs4⟩ := sure_list HES.out HXS.out (by omega) HOWN.out HLO.out HSU.out
        have HS4 := Lib.hid hs4
        have HV4 := Lib.hid hv4
        clear hs4 hv4
        go_wp2_with fail
        go_ret
        rw [HN.out]
        exact ⟨a, c, congrArg Ending.returned HV4.out, HS4.out, hr2, HO2.out⟩

theorem reads : ∀ d : Nat, d ≤ 1000 → ListSaid d
  | 0, _ => list_zero
  | d + 1, h => list_of_value d (by omega) (value_of_list d (reads d (by omega)))

theorem value_call (d : Nat) (h : d ≤ 1000) : ValSaid d := value_of_list d (reads d h)
end Go.Proofs.Ytgliddedimpgaaa
