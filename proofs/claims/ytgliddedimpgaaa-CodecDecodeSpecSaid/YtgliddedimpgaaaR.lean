/- Reading a value: what the reader's functions return, or that they panic, for all bytes. -/
import Derived.Test.YtgliddedimpgaaaQ
import Derived.Laws.IdiomStrings
namespace Go.Proofs.Ytgliddedimpgaaa
open Go.RowKit

theorem Rd.stays {B rb : Nat} {w w' : World} {bs : List UInt8} (h : Rd B rb w bs) (hb : Below w.heap.size w w') : Rd B rb w' bs := by
  obtain ⟨v, hv, hR⟩ := h.cell
  have hlo := h.lo
  have hhi := h.hi
  exact ⟨hlo, Nat.lt_of_lt_of_le hhi hb.size, ⟨v, (hb.cell (p := ⟨rb, 0, none⟩) hhi).trans hv, hR.stays (hb.mono (by omega))⟩, (hb.frozen (p := ⟨rb, 0, none⟩) hhi).trans h.free⟩

theorem Rd.set_other {B rb : Nat} {w : World} {bs : List UInt8} (h : Rd B rb w bs) {b o : Nat} (hb : rb < b) (v : Value) : Rd B rb (w.setCell ⟨b, o, none⟩ v) bs := by
  obtain ⟨u, hu, hR⟩ := h.cell
  have hlo := h.lo
  have hc : Below b w (w.setCell ⟨b, o, none⟩ v) := (Below.refl _ _).setCell (p := ⟨b, o, none⟩) (Nat.le_refl _) v
  exact ⟨hlo, by have := h.hi; simpa using this, ⟨u, (hc.cell (p := ⟨rb, 0, none⟩) hb).trans hu, hR.stays (hc.mono (by omega))⟩, (World.frozen?_setCell _ _ _ _).trans h.free⟩

theorem only_setNew {rb : Nat} {w w' : World} (h : Only rb w w') {b o : Nat} (hb : w.heap.size ≤ b) (v : Value) : Only rb w (w'.setCell ⟨b, o, none⟩ v) :=
  ⟨h.os, h.tape, h.output, by simpa using h.size, fun k hk hne => (Below.heap_setCell w' _ v k (by simp; omega)).trans (h.block k hk hne)⟩

/-- the zero value in a new block, and its four cells as long as the block is not written -/
def zeroCells4 : Obj := .cells #[.int .i64 0, .int .i64 0, .string ⟨#[]⟩, .slice none 0 0] 24
theorem only_zero {rb : Nat} {w w' : World} (h : Only rb (w.alloc zeroCells4) w') (hr : rb < w.heap.size) :
    w'.cell? ⟨w.heap.size, 0, none⟩ = some (.int .i64 0) ∧ w'.cell? ⟨w.heap.size, 1, none⟩ = some (.int .i64 0) ∧ w'.cell? ⟨w.heap.size, 2, none⟩ = some (.string ⟨#[]⟩) ∧ w'.cell? ⟨w.heap.size, 3, none⟩ = some (.slice none 0 0) ∧
    w'.frozen? ⟨w.heap.size, 0, none⟩ = false ∧ w'.frozen? ⟨w.heap.size, 1, none⟩ = false ∧ w'.frozen? ⟨w.heap.size, 2, none⟩ = false ∧ w'.frozen? ⟨w.heap.size, 3, none⟩ = false ∧ w.heap.size < w'.heap.size := by
  have hne : some w.heap.size ≠ some rb := fun e => by injection e with e; omega
  have hb := h.block w.heap.size (by simp) hne
  have h0 : (w.alloc zeroCells4).heap[w.heap.size]? = some zeroCells4 := heap_alloc_new w _
  rw [h0] at hb
  refine ⟨?_, ?_, ?_, ?_, ?_, ?_, ?_, ?_, ?_⟩
  · rw [Joins.cell_of_block hb]; rfl
  · rw [Joins.cell_of_block hb]; rfl
  · rw [Joins.cell_of_block hb]; rfl
  · rw [Joins.cell_of_block hb]; rfl
  · exact Joins.unfrozen_of_block hb 0
  · exact Joins.unfrozen_of_block hb 1
  · exact Joins.unfrozen_of_block hb 2
  · exact Joins.unfrozen_of_block hb 3
  · have := h.size; simp at this; omega

theorem rd_new4 {B rb : Nat} {w : World} {bs : List UInt8} {b : Nat} {v0 v1 v2 v3 : Value} (h : Rd B rb w bs) (hb : rb < b) :
    Rd B rb ((((w.setCell ⟨b, 0, none⟩ v0).setCell ⟨b, 1, none⟩ v1).setCell ⟨b, 2, none⟩ v2).setCell ⟨b, 3, none⟩ v3) bs :=
  (((h.set_other hb v0).set_other hb v1).set_other hb v2).set_other hb v3
theorem only_new4 {rb : Nat} {w w' : World} {v0 v1 v2 v3 : Value} (h : Only rb w w') :
    Only rb w ((((w'.setCell ⟨w.heap.size, 0, none⟩ v0).setCell ⟨w.heap.size, 1, none⟩ v1).setCell ⟨w.heap.size, 2, none⟩ v2).setCell ⟨w.heap.size, 3, none⟩ v3) :=
  only_setNew (only_setNew (only_setNew (only_setNew h (Nat.le_refl _) v0) (Nat.le_refl _) v1) (Nat.le_refl _) v2) (Nat.le_refl _) v3

/-- what value leaves -/
def VRead (B rb : Nat) (w w' : World) (o : Option (V × List UInt8)) (e : Ending) : Prop :=
  match o with
  | some (x, r) => ∃ (k n : Int) (s : ByteArray) (a : Option Addr) (l c : Nat), e = .returned (val k n s a l c) ∧ Sure (fun b => w.heap.size ≤ b) w' x (val k n s a l c) ∧ Rd B rb w' r ∧ Only rb w w'
  | none => e = badCode ∧ Only rb w w'

/-- what list leaves -/
def LRead (B rb : Nat) (w w' : World) (o : Option (List V × List UInt8)) (e : Ending) : Prop :=
  match o with
  | some (l, r) => ∃ (a : Option Addr) (c : Nat), e = .returned (.slice a l.length c) ∧ Sure (fun b => w.heap.size ≤ b) w' (.mk 3 0 ⟨#[]⟩ l) (val 3 0 ⟨#[]⟩ a l.length c) ∧ Rd B rb w' r ∧ Only rb w w'
  | none => e = badCode ∧ Only rb w w'

theorem vread_ok {B rb : Nat} {w w' : World} {o : Option (V × List UInt8)} {x : V} {r : List UInt8} {e : Ending} {k n : Int} {s : ByteArray} {a : Option Addr} {l c : Nat} (ho : o = some (x, r)) (he : e = .returned (val k n s a l c))
    (h1 : Sure (fun b => w.heap.size ≤ b) w' x (val k n s a l c)) (h2 : Rd B rb w' r) (h3 : Only rb w w') : VRead B rb w w' o e := by
  subst ho; exact ⟨k, n, s, a, l, c, he, h1, h2, h3⟩
theorem vread_bad {B rb : Nat} {w w' : World} {o : Option (V × List UInt8)} (ho : o = none) (h3 : Only rb w w') : VRead B rb w w' o badCode := by
  subst ho; exact ⟨rfl, h3⟩

def ValSaid (d : Nat) : Prop := ∀ (B rb : Nat) (w : World) (bs : List UInt8), Rd B rb w bs → bs.length ≤ 1099511627776 → Calls Try.prog 34 #[.pointer (some ⟨rb, 0, none⟩), .int .i64 (d : Int)] w fun e w' => VRead B rb w w' (dec d bs) e
def ListSaid (d : Nat) : Prop := ∀ (B rb : Nat) (w : World) (bs : List UInt8), Rd B rb w bs → bs.length ≤ 1099511627776 → Calls Try.prog 44 #[.pointer (some ⟨rb, 0, none⟩), .int .i64 (d : Int)] w fun e w' => LRead B rb w w' (decL d bs) e

theorem sure_new4 {w w1 w2 : World} {x : V} {v v0 v1 v2 v3 : Value} (h : Sure (fun b => w1.heap.size ≤ b) w2 x v) (hs : w.heap.size < w1.heap.size) :
    Sure (fun b => w.heap.size ≤ b) ((((w2.setCell ⟨w.heap.size, 0, none⟩ v0).setCell ⟨w.heap.size, 1, none⟩ v1).setCell ⟨w.heap.size, 2, none⟩ v2).setCell ⟨w.heap.size, 3, none⟩ v3) x v :=
  h.later (by simp) (fun k _ hp => by
    rw [Below.heap_setCell _ _ _ k (by simp; omega), Below.heap_setCell _ _ _ k (by simp; omega), Below.heap_setCell _ _ _ k (by simp; omega), Below.heap_setCell _ _ _ k (by simp; omega)]) (fun k _ hp => by omega)

theorem text_size {u : Nat} {r2 r : List UInt8} {c : UInt8} (hle : u ≤ r2.length) (h : r2.length < r.length) (hl : (c :: r).length ≤ 1099511627776) : (⟨(r2.take u).toArray⟩ : ByteArray).size ≤ maxLen := by
  show ((r2.take u).toArray).size ≤ maxLen
  simp [maxLen] at hl ⊢; omega

/-- bytes taken, at their beginning -/
def TookText (B rb : Nat) (w w' : World) (bs : List UInt8) (u : Nat) (e : Ending) : Prop :=
  ∃ v, e = .returned v ∧ Rest B w' (bs.take u) v ∧ Rd B rb w' (bs.drop u) ∧ Only rb w w'

theorem take_text (B rb u : Nat) (w : World) (bs : List UInt8) (h : Rd B rb w bs) (hu : u ≤ bs.length) :
    Calls Try.prog 41 #[.pointer (some ⟨rb, 0, none⟩), .int .u64 (u : Int)] w fun e w' => TookText B rb w w' bs u e := by
  obtain ⟨v, hv, hR⟩ := h.cell
  obtain ⟨a, cap, rfl, hl, hm, ha, hc⟩ := hR
  have hB : ∀ x, Below B w (w.setCell ⟨rb, 0, none⟩ x) := fun x => (Below.refl B w).setCell (p := ⟨rb, 0, none⟩) h.lo x
  by_cases hlt : u < bs.length
  · rcases hc with h0 | ⟨b, off, rfl, hb, hc⟩
    · omega
    refine (take_some rb b off _ cap u w hlt hl hm hv h.free).mono ?_
    rintro e w' ⟨rfl, rfl⟩
    have hlen : (bs.take u).length = u := by rw [List.length_take]; omega
    refine ⟨_, rfl, ⟨some ⟨b, off, none⟩, u, by rw [hlen], by omega, by omega, (fun h => by cases h), .inr ⟨b, off, rfl, hb, fun i hi => ?_⟩⟩, rd_set h ⟨_, _, by rw [List.length_drop], by rw [List.length_drop]; omega, by omega, (fun h => by cases h), .inr ⟨b, off + u, rfl, hb, fun i hi => ?_⟩⟩, only_set rb w 0 _⟩
    · rw [(hB _).cell (p := ⟨b, off + i, none⟩) hb, hc i (by omega)]; simp
    · rw [List.length_drop] at hi
      have h3 := hc (u + i) (by omega)
      rw [show off + u + i = off + (u + i) by omega, h3]; simp
  · obtain rfl : u = bs.length := by omega
    refine (take_all rb bs.length cap a w ha hl hm hv h.free).mono ?_
    rintro e w' ⟨rfl, rfl⟩
    rw [TookText, List.take_length, List.drop_length]
    refine ⟨_, rfl, ⟨a, bs.length, rfl, Nat.le_refl _, by omega, (fun h => ⟨(ha h).1, (ha h).1⟩), ?_⟩, rd_set h ⟨a, 0, rfl, Nat.le_refl _, by simp [maxLen], (fun _ => ⟨rfl, rfl⟩), .inl rfl⟩, only_set rb w 0 _⟩
    rcases hc with h0 | ⟨b, off, rfl, hb, hc⟩
    · exact .inl h0
    · exact .inr ⟨b, off, rfl, hb, fun i hi => ((hB _).cell (p := ⟨b, off + i, none⟩) hb).trans (hc i hi)⟩

/-- string(b) -/
theorem conv_rest {B : Nat} {w : World} {bs : List UInt8} {v : Value} (h : Rest B w bs v) : (convert 27 9 v).run Try.prog w = .ok (.string ⟨bs.toArray⟩) w := by
  obtain ⟨a, cap, rfl, hl, hm, ha, hc⟩ := h
  rcases hc with h0 | ⟨b, off, rfl, hb, hc⟩
  · obtain rfl : bs = [] := List.eq_nil_of_length_eq_zero h0
    rcases a with _ | a
    · show (convert 27 9 (.slice none 0 cap)).run Try.prog w = .ok (.string ⟨#[]⟩) w
      rw [run_convert_bytes_string w 27 9 5 none 0 cap Try.underlying27 Try.underlying5 Try.underlying9]
      simp [Conv.bytesToString]
      rfl
    · exact run_convert_bytes_back w 27 9 5 a cap [] Try.underlying27 Try.underlying5 Try.underlying9 (fun j hj => by simp at hj)
  · refine run_convert_bytes_back w 27 9 5 ⟨b, off, none⟩ cap bs Try.underlying27 Try.underlying5 Try.underlying9 (fun j hj => ?_)
    rw [Addr.add_lit]; exact hc j hj

theorem sure_int (p : Nat → Prop) (w : World) (n : Int) (hn : -9223372036854775808 ≤ n ∧ n ≤ 9223372036854775807) : Sure p w (.mk 1 n ⟨#[]⟩ []) (val 1 n ⟨#[]⟩ none 0 0) :=
  fun _ _ _ => .mk 1 n ⟨#[]⟩ [] none 0 (fun _ => 0) (fun _ => 0) (fun _ => ⟨#[]⟩) (fun _ => none) (fun _ => 0) (fun _ => 0) (by omega) hn (Nat.zero_le _) (by simp) (.inl rfl) (fun i h => by simp at h)
theorem sure_text (p : Nat → Prop) (w : World) (s : ByteArray) (hs : s.size ≤ maxLen) : Sure p w (.mk 2 0 s []) (val 2 0 s none 0 0) :=
  fun _ _ _ => .mk 2 0 s [] none 0 (fun _ => 0) (fun _ => 0) (fun _ => ⟨#[]⟩) (fun _ => none) (fun _ => 0) (fun _ => 0) (by omega) (by omega) hs (by simp) (.inl rfl) (fun i h => by simp at h)

set_option maxHeartbeats 4000000 in
set_option maxRecDepth 100000 in
theorem value_of_list (d : Nat) (hL : ListSaid d) : ValSaid d := by
  intro B rb w bs h hlen
  have hrb := h.hi
  have HB : Hid (Below w.heap.size w (w.alloc zeroCells4)) := Joins.below_alloc1 w _
  have h0 : Rd B rb (w.alloc zeroCells4) bs := h.stays HB.out
  go_enter Try.func34, Try.ntmps34
  go_wp2_with fail
  cases bs with
  | nil =>
    refine (take_none B rb 1 _ [] h0 (by simp)).mono ?_
    rintro e w1 ⟨rfl, rfl⟩
    go_wp2_with fail
    exact ⟨rfl, vread_bad rfl (only_below HB.out)⟩
  | cons c r =>
    refine (take_byte B rb _ c r h0).mono ?_
    rintro e w1 ⟨b, off, rfl, hd, hr1, ho1⟩
    obtain ⟨x, hx⟩ : ∃ x : Nat, x = c.toNat := ⟨_, rfl⟩
    have hx256 : x < 256 := by rw [hx]; exact c.toNat_lt
    rw [← hx] at hd
    have HX := Lib.hid hx
    clear hx
    have HO1 := Lib.hid ho1
    clear ho1
    by_cases h1 : x = 1
    · subst h1
      go_wp2_with fail
      refine (numeral_call B rb _ r hr1).mono ?_
      rintro e w2 hq
      cases hn : readNum r with
      | none =>
        rw [hn] at hq
        obtain ⟨rfl, ho2⟩ := hq
        have HF : Hid (dec d (c :: r) = none) := by unfold Hid dec; rw [decHead, if_pos HX.out.symm, hn]
        clear hn
        go_wp2_with fail
        exact ⟨rfl, vread_bad HF.out ((only_below HB.out).trans (HO1.out.trans ho2))⟩
      | some p =>
        obtain ⟨u, r2⟩ := p
        rw [hn] at hq
        obtain ⟨rfl, hr2, ho2, hu⟩ := hq
        have HF : Hid (dec d (c :: r) = some (.mk 1 (sgn u) ⟨#[]⟩ [], r2)) := by unfold Hid dec; rw [decHead, if_pos HX.out.symm, hn]
        clear hn
        have HO2 := Lib.hid (HO1.out.trans ho2)
        obtain ⟨z0, z1, z2, z3, f0, f1, f2, f3, hsz⟩ := only_zero HO2.out hrb
        clear ho2
        go_wp2_with (go_at_call 42; refine (signed_call _ _ hu).mono ?_; rintro e w' ⟨rfl, rfl⟩)
        refine bodyPost_ret (v := val 1 (sgn u) ⟨#[]⟩ none 0 0) (by simp [results, Try.results34, go_sem, z0, z1, z2, z3]) rfl (vread_ok HF.out rfl (sure_int _ _ _ (sgn_lo u (by omega))) (rd_new4 hr2 hrb) (only_new4 ((only_below HB.out).trans HO2.out)))
    by_cases h2 : x = 2
    · subst h2
      go_wp2_with fail
      refine (numeral_call B rb _ r hr1).mono ?_
      rintro e w2 hq
      cases hn : readNum r with
      | none =>
        rw [hn] at hq
        obtain ⟨rfl, ho2⟩ := hq
        have HF : Hid (dec d (c :: r) = none) := by unfold Hid dec; rw [decHead, if_neg (by rw [← HX.out]; decide), if_pos HX.out.symm, hn]
        clear hn
        go_wp2_with fail
        exact ⟨rfl, vread_bad HF.out ((only_below HB.out).trans (HO1.out.trans ho2))⟩
      | some p =>
        obtain ⟨u, r2⟩ := p
        rw [hn] at hq
        obtain ⟨rfl, hr2, ho2, hu⟩ := hq
        have hrl := readNum_len hn
        by_cases hle : u ≤ r2.length
        · have HF : Hid (dec d (c :: r) = some (.mk 2 0 ⟨(r2.take u).toArray⟩ [], r2.drop u)) := by unfold Hid dec; rw [decHead, if_neg (by rw [← HX.out]; decide), if_pos HX.out.symm, hn]; simp only; rw [if_pos hle]
          clear hn
          have HO2 := Lib.hid (HO1.out.trans ho2)
          clear ho2
          go_wp2_with fail
          refine (take_text B rb u w2 r2 hr2 hle).mono ?_
          rintro e w3 ⟨v3, rfl, hv3, hr3, ho3⟩
          have HO3 := Lib.hid (HO2.out.trans ho3)
          obtain ⟨z0, z1, z2, z3, f0, f1, f2, f3, hsz⟩ := only_zero HO3.out hrb
          have hcv := conv_rest hv3
          clear ho3
          go_wp2_with fail
          refine bodyPost_ret (v := val 2 0 ⟨(r2.take u).toArray⟩ none 0 0) (by simp [results, Try.results34, go_sem, z0, z1, z2, z3]) rfl (vread_ok HF.out rfl (sure_text _ _ _ (text_size hle hrl hlen)) (rd_new4 hr3 hrb) (only_new4 ((only_below HB.out).trans HO3.out)))
        · have HF : Hid (dec d (c :: r) = none) := by unfold Hid dec; rw [decHead, if_neg (by rw [← HX.out]; decide), if_pos HX.out.symm, hn]; simp only; rw [if_neg hle]
          clear hn
          go_wp2_with fail
          refine (take_none B rb u w2 r2 hr2 (by omega)).mono ?_
          rintro e w3 ⟨rfl, rfl⟩
          go_wp2_with fail
          exact ⟨rfl, vread_bad HF.out ((only_below HB.out).trans (HO1.out.trans ho2))⟩
    by_cases h3 : x = 3
    · subst h3
      go_wp2_with fail
      refine (hL B rb _ r hr1 (by simp at hlen; omega)).mono ?_
      rintro e w2 hq
      cases hn : decL d r with
      | none =>
        rw [hn] at hq
        obtain ⟨rfl, ho2⟩ := hq
        have HF : Hid (dec d (c :: r) = none) := by unfold Hid dec; rw [decHead, if_neg (by rw [← HX.out]; decide), if_neg (by rw [← HX.out]; decide), if_pos HX.out.symm, hn]
        clear hn
        go_wp2_with fail
        exact ⟨rfl, vread_bad HF.out ((only_below HB.out).trans (HO1.out.trans ho2))⟩
      | some p =>
        obtain ⟨l, r2⟩ := p
        rw [hn] at hq
        obtain ⟨a2, c2, rfl, hs2, hr2, ho2⟩ := hq
        have HF : Hid (dec d (c :: r) = some (.mk 3 0 ⟨#[]⟩ l, r2)) := by unfold Hid dec; rw [decHead, if_neg (by rw [← HX.out]; decide), if_neg (by rw [← HX.out]; decide), if_pos HX.out.symm, hn]
        clear hn
        have HO2 := Lib.hid (HO1.out.trans ho2)
        have HS := Lib.hid hs2
        have HSZ := Lib.hid HO1.out.size
        clear ho2 hs2
        obtain ⟨z0, z1, z2, z3, f0, f1, f2, f3, hsz⟩ := only_zero HO2.out hrb
        go_wp2_with fail
        refine bodyPost_ret (v := val 3 0 ⟨#[]⟩ a2 l.length c2) (by simp [results, Try.results34, go_sem, z0, z1, z2, z3]) rfl (vread_ok HF.out rfl (sure_new4 HS.out (by have := HSZ.out; simp at this; omega)) (rd_new4 hr2 hrb) (only_new4 ((only_below HB.out).trans HO2.out)))
    · have HF : Hid (dec d (c :: r) = none) := by unfold Hid dec; rw [decHead, if_neg (by rw [← HX.out]; exact h1), if_neg (by rw [← HX.out]; exact h2), if_neg (by rw [← HX.out]; exact h3)]
      have e1 : (((x : Nat) : Int) == 1) = false := by simp; omega
      have e2 : (((x : Nat) : Int) == 2) = false := by simp; omega
      have e3 : (((x : Nat) : Int) == 3) = false := by simp; omega
      clear h1 h2 h3
      go_wp2_with fail
      exact ⟨rfl, vread_bad HF.out ((only_below HB.out).trans HO1.out)⟩
end Go.Proofs.Ytgliddedimpgaaa
