/- What the writing functions append to a buffer: the encoding of a well-formed value. -/
import Derived.Test.YtbcfmpohempkpaaDoorZc28
import Derived.Test.YtbcfmpohempkpaaDoorZc29
namespace Go.Proofs.YtbcfmpohempkpaaDoor.Cod
open Go.RowKit

/-- what a writing function leaves -/
def Wr (w w' : World) (v : Value) (xs : List UInt8) (e : Ending) : Prop := ∃ v', e = .returned v' ∧ Buf w' v' xs ∧ Wrote w w' v v'

set_option maxRecDepth 100000 in
theorem buf_stays {w w' : World} {v : Value} {xs : List UInt8} (h : Buf w v xs) (hb : Below w.heap.size w w') : Buf w' v xs := owns_below h hb
set_option maxRecDepth 100000 in
theorem buf_lt {w : World} {v : Value} {xs : List UInt8} (h : Buf w v xs) : ∀ k, v.ownBlock = some k → k < w.heap.size := owns_lt h

set_option maxRecDepth 100000 in
theorem wrote4 {w1 w2 : World} {v v' : Value} {b : Nat} {c0 c1 c2 c3 : Value} (hw : Wrote w1 w2 v v') (h : w1.cell? ⟨b, 0, none⟩ = some c0 ∧ w1.cell? ⟨b, 1, none⟩ = some c1 ∧ w1.cell? ⟨b, 2, none⟩ = some c2 ∧ w1.cell? ⟨b, 3, none⟩ = some c3)
    (hne : some b ≠ v.ownBlock) :
    w2.cell? ⟨b, 0, none⟩ = some c0 ∧ w2.cell? ⟨b, 1, none⟩ = some c1 ∧ w2.cell? ⟨b, 2, none⟩ = some c2 ∧ w2.cell? ⟨b, 3, none⟩ = some c3 := by
  obtain ⟨h0, h1, h2, h3⟩ := h
  exact ⟨hw.cell h0 hne, hw.cell h1 hne, hw.cell h2 hne, hw.cell h3 hne⟩

set_option maxRecDepth 100000 in
theorem own_ne {w : World} {v : Value} {xs : List UInt8} (h : Buf w v xs) : some w.heap.size ≠ v.ownBlock := fun e => by have := buf_lt h _ e.symm; omega

set_option maxRecDepth 100000 in
theorem own_ne2 {w w1 w2 : World} {v v' : Value} {xs : List UInt8} (h : Buf w v xs) (hw : Wrote w1 w2 v v') (hl : w.heap.size < w1.heap.size) : some w.heap.size ≠ v'.ownBlock := fun e => by
  rcases hw.own with h1 | h1
  · exact own_ne h (e.trans h1)
  · have := h1 _ e.symm; omega

set_option maxRecDepth 100000 in
theorem buf_ne {w : World} {v : Value} {xs : List UInt8} (h : Buf w v xs) (hx : 0 < xs.length) : v ≠ .slice none 0 0 := by
  rintro rfl
  rcases h.2 with ⟨_, h0⟩ | ⟨g, cap, cur, h, _⟩
  · omega
  · cases h

set_option maxRecDepth 100000 in
theorem buf_app {w w1 : World} {v v1 : Value} {xs ys : List UInt8} {s : ByteArray} {n : Nat} (_h : Buf w1 v1 (xs ++ ys)) {w2 : World} {v2 : Value} (ho : w2.ownsRow 0 5 1 v2 n (cellsOf (xs ++ ys) ++ byteCells s)) (hn : n = (xs ++ ys).length + s.size) : Buf w2 v2 (xs ++ (ys ++ s.data.toList)) := by
  have e : cellsOf (xs ++ (ys ++ s.data.toList)) = cellsOf (xs ++ ys) ++ byteCells s := by
    rw [← List.append_assoc, cellsOf_append]; rfl
  unfold Buf
  rw [e]
  have e2 : (xs ++ (ys ++ s.data.toList)).length = n := by
    rw [hn, ← List.append_assoc, List.length_append, Array.length_toList]; rfl
  rw [e2]; exact ho

set_option maxRecDepth 100000 in
theorem writeInt_call (k n : Int) (hn : -9223372036854775808 ≤ n ∧ n ≤ 9223372036854775807) (s : ByteArray) (a : Option Addr) (len cap : Nat) (v : Value) (xs : List UInt8) (w : World) (hx : xs.length ≤ 70368744177664) (hb : Buf w v xs) :
    Calls Tryd.prog 65 #[v, val k n s a len cap] w fun e w' => Wr w w' v (xs ++ digits (uns n)) e := by
  have hu := uns_lt n hn.1 hn.2
  go_enter Tryd.func65, Tryd.ntmps65
  go_wp2_with (first | (go_at_call 81; refine (unsigned_call _ _ hn.1 hn.2).mono ?_; rintro e w' ⟨rfl, rfl⟩))
  refine (writeNumeral_call (uns n) v xs _ (by omega) hx (buf_stays hb (Joins.below_alloc1 w _))).mono ?_
  rintro e w1 ⟨v1, rfl, hb1, hw1⟩
  go_wp2_with fail
  go_ret
  exact ⟨v1, rfl, hb1, (Wrote.below v (Joins.below_alloc1 w _)).trans hw1⟩

set_option maxRecDepth 100000 in
set_option maxHeartbeats 4000000 in
theorem writeText_call (k n : Int) (s : ByteArray) (hs : s.size ≤ 35184372088832) (a : Option Addr) (len cap : Nat) (v : Value) (xs : List UInt8) (w : World) (hx : xs.length ≤ 35184372088832) (hb : Buf w v xs) :
    Calls Tryd.prog 68 #[v, val k n s a len cap] w fun e w' => Wr w w' v (xs ++ (digits s.size ++ s.data.toList)) e := by
  obtain ⟨i0, hi, hz0, hz1, hz2⟩ := info_parts Tryd.info5
  have hd := num_pos s.size
  have h10 := num_len s.size (by omega)
  have hwr : IntKind.u64.wrap ((s.size : Nat) : Int) = ((s.size : Nat) : Int) := by rw [IntKind.wrap_u64]; omega
  go_enter Tryd.func68, Tryd.ntmps68
  go_wp2_with fail
  go_region_held3 (fun w' => w'.cell? ⟨w.heap.size, 0, none⟩ = some (.int .i64 k) ∧ w'.cell? ⟨w.heap.size, 1, none⟩ = some (.int .i64 n) ∧ w'.cell? ⟨w.heap.size, 2, none⟩ = some (.string s) ∧ w'.cell? ⟨w.heap.size, 3, none⟩ = some (.slice a len cap))
    (first | go_keep | (exact wrote4 hw2 (by assumption) (own_ne2 hb hw1 (by simp))) | (exact wrote4 hw1 (by assumption) (own_ne hb)))
    (first | (go_at_call 82; refine (writeNumeral_call s.size v xs _ (by omega) (by omega) (buf_stays hb ((Joins.below_alloc1 w _).drew))).mono ?_; rintro e w1 ⟨v1, rfl, hb1, hw1⟩)
           | (refine step_append_src _ (by rfl) _ _ 22 9 (by rfl) 5 i0 _ 1 1 Tryd.underlying22 hi hz0 hz1 hz2 rfl v1 _ _ (by rfl) hb1 ?_ (.string s) (by rfl) s.size (byteCells s) (Src.ofString _ Tryd.underlying9 s) ?_ ?_ ?_; (exact buf_ne hb1 (by simp [digits]; omega)); (simp [maxLen, digits]; omega); (simp [digits]; omega); intro v2 w2 ho2 hw2))
  go_wp2_with fail
  go_ret
  exact ⟨v2, rfl, buf_app (w := w) (v := v) hb1 ho2 (by simp), ((Wrote.below v ((Joins.below_alloc1 w _).drew)).trans hw1).trans hw2⟩
end Go.Proofs.YtbcfmpohempkpaaDoor.Cod

/- What write appends to a buffer, for every well-formed value: its encoding. -/
namespace Go.Proofs.YtbcfmpohempkpaaDoor.Cod
open Go.RowKit

def WListHead (w : World) (v : Value) (xs : List UInt8) (l : List V) (s0 s16 : Value) (wr : World) : Prop :=
  ∃ i : Nat, i ≤ l.length ∧ s16 = .int .i64 i ∧ Buf wr s0 (xs ++ (digits l.length ++ encL (l.take i))) ∧ Wrote w wr v s0

set_option maxRecDepth 100000 in
theorem wrote_own {w w' : World} {v v' : Value} {B : Nat} (h : Wrote w w' v v') (hB : B ≤ w.heap.size) (hv : ∀ k, v.ownBlock = some k → B ≤ k) : ∀ k, v'.ownBlock = some k → B ≤ k := by
  intro k hk
  rcases h.own with h1 | h1
  · exact hv k (h1 ▸ hk)
  · have := h1 k hk; omega

set_option maxRecDepth 100000 in
/-- An element's four cells, in a later world, below a bound. -/
theorem elem_cellsB {B : Nat} {w wr : World} {b off : Nat} {c0 c1 c2 c3 : Value} (hb : Below B w wr) (hl : b < B)
    (h : w.cell? ⟨b, off, none⟩ = some c0 ∧ w.cell? ⟨b, off + 1, none⟩ = some c1 ∧ w.cell? ⟨b, off + 2, none⟩ = some c2 ∧ w.cell? ⟨b, off + 3, none⟩ = some c3) :
    wr.cell? ⟨b, off, none⟩ = some c0 ∧ wr.cell? ⟨b, off + 1, none⟩ = some c1 ∧ wr.cell? ⟨b, off + 2, none⟩ = some c2 ∧ wr.cell? ⟨b, off + 3, none⟩ = some c3 := by
  obtain ⟨h0, h1, h2, h3⟩ := h
  exact ⟨(hb.cell (p := ⟨b, off, none⟩) hl).trans h0, (hb.cell (p := ⟨b, off + 1, none⟩) hl).trans h1, (hb.cell (p := ⟨b, off + 2, none⟩) hl).trans h2, (hb.cell (p := ⟨b, off + 3, none⟩) hl).trans h3⟩

/-- the contract of write for one tree -/
def WriteSaid (x : V) : Prop := ∀ (B : Nat) (v : Value) (W : World) (b : Value) (xs : List UInt8), IsB B W x v → B ≤ W.heap.size → (∀ k, b.ownBlock = some k → B ≤ k) → Buf W b xs → formed x = true → xs.length + (enc x).length ≤ 35184372088832 →
  Calls Tryd.prog 39 #[b, v] W fun e w' => Wr W w' b (xs ++ enc x) e

set_option maxRecDepth 100000 in
set_option maxHeartbeats 1000000 in
theorem writeList_call (l : List V) (a : Option Addr) (cap : Nat) (B : Nat) (w : World) (v : Value) (xs : List UInt8) (hx : IsB B w (.mk 3 0 ⟨#[]⟩ l) (val 3 0 ⟨#[]⟩ a l.length cap)) (hB : B ≤ w.heap.size) (hv : ∀ k, v.ownBlock = some k → B ≤ k)
    (hbuf : Buf w v xs) (hf : Hid (∀ x ∈ l, formed x = true)) (hlen : xs.length + ((digits l.length).length + (encL l).length) ≤ 35184372088832) (ih : Hid (∀ x ∈ l, WriteSaid x)) :
    Calls Tryd.prog 71 #[v, val 3 0 ⟨#[]⟩ a l.length cap] w fun e w' => Wr w w' v (xs ++ (digits l.length ++ encL l)) e := by
  obtain ⟨_, _, _, _, _, _, fk, fn, fs, fa, fl, fc, hk, hn, hs, hl, hc, he⟩ := hx
  have hll := encL_len l
  have HB0 := Lib.hid (Joins.below_alloc1 w (.cells #[.int .i64 3, .int .i64 0, .string ⟨#[]⟩, .slice a l.length cap] 41))
  go_enter Tryd.func71, Tryd.ntmps71
  go_wp2_with fail
  refine (writeNumeral_call l.length v xs _ (by omega) (by omega) (buf_stays hbuf HB0.out)).mono ?_
  rintro e w0 ⟨v0, rfl, hb0, hw0⟩
  have HW0 := Lib.hid ((Wrote.below v HB0.out).trans hw0)
  have HC3 := hw0.cell (p := ⟨w.heap.size, 3, none⟩) (x := .slice a l.length cap) (by simp) (own_ne hbuf)
  clear hw0
  go_wp2_with fail
  go_loopw [0, 16] (fun s0 s16 wr => WListHead w v xs l s0 s16 wr) (fun _ s16 _ => l.length - (intOf s16).toNat)
  case atStart => exact ⟨0, by omega, rfl, by simpa [encL] using hb0, HW0.out⟩
  case round =>
    obtain ⟨i, hi, rfl, hbr, hwr⟩ := hrel
    rcases Nat.lt_or_ge i l.length with hlt | hge
    · rcases hc with h0 | ⟨b, off, rfl, hbl, hc⟩
      · omega
      have hbel := hwr.toBelow hB hv
      have hel := he i hlt
      obtain ⟨c0, c1, c2, c3⟩ := elem_cellsB hbel hbl (hc i hlt)
      clear hc he
      have hle := encL_le l i hlt
      have HT := Lib.hid (encL_take l i hlt)
      have HS := Lib.hid hwr.grown.size
      go_wp2_with fail
      refine ((ih.out l[i] (List.getElem_mem hlt)) B _ _ _ _ ((hel.stays hbel).stays ((Below.refl _ _).alloc (Nat.le_trans hB HS.out) _)) (by have := HS.out; simp; omega) (wrote_own hwr hB hv) (buf_stays hbr (Joins.below_alloc1 wr _)) (hf.out _ (List.getElem_mem hlt)) (by simp only [List.length_append]; omega)).mono ?_
      rintro e w1 ⟨v1, rfl, hb1, hw1⟩
      go_wp2_with fail
      go_roundw
      case rel => exact ⟨i + 1, by omega, by simp, by rw [HT.out]; simpa [List.append_assoc] using hb1, (hwr.alloc _).trans hw1⟩
      case measure => simp [intOf]; omega
    · obtain rfl : i = l.length := by omega
      rw [List.take_length] at hbr
      go_wp2_with fail
      go_ret
      exact ⟨_, rfl, hbr, hwr⟩
end Go.Proofs.YtbcfmpohempkpaaDoor.Cod

/- write, for each kind: the kind's byte, then what the kind's function appends. -/
namespace Go.Proofs.YtbcfmpohempkpaaDoor.Cod
open Go.RowKit

set_option maxRecDepth 100000 in
theorem cell_new_at (w : World) (x : Value) (T : TypeId) (n : Nat) (hn : n = w.heap.size) : ∀ j u, [x][j]? = some u → (w.alloc (.cells #[x] T)).cell? ((⟨n, 0, none⟩ : Addr).add j) = some u := by
  subst hn; exact cell_new1 w x T
set_option maxRecDepth 100000 in
theorem cell_below {W w1 : World} {x : Value} {n : Nat} (h : ∀ j u, [x][j]? = some u → W.cell? ((⟨n, 0, none⟩ : Addr).add j) = some u) (hb : Below W.heap.size W w1) : ∀ j u, [x][j]? = some u → w1.cell? ((⟨n, 0, none⟩ : Addr).add j) = some u := by
  intro j u hj
  have h1 := h j u hj
  rw [← h1]
  exact hb.cell (World.block_lt_of_cell? W _ h1)
set_option maxRecDepth 100000 in
theorem size2 (w : World) (o : Obj) : w.heap.size + 1 = (w.alloc o).heap.size := by simp
set_option maxRecDepth 100000 in
theorem lt_size (w : World) (o : Obj) : w.heap.size < (w.alloc o).drew.heap.size := by simp
set_option maxRecDepth 100000 in
set_option maxHeartbeats 8000000 in
theorem write_1 (n : Int) (s : ByteArray) (a : Option Addr) (len cap : Nat) (w : World) (v : Value) (xs ys : List UInt8) (hbuf : Buf w v xs) (hx : xs.length ≤ 35184372088832)
    (HF : Hid (∀ W v1, Wrote w W v v1 → Buf W v1 (xs ++ [1]) → Calls Tryd.prog 65 #[v1, val 1 n s a len cap] W fun e w' => Wr W w' v1 (xs ++ [1] ++ ys) e)) :
    Calls Tryd.prog 39 #[v, val 1 n s a len cap] w fun e w' => Wr w w' v (xs ++ (1 :: ys)) e := by
  obtain ⟨i0, hi, hz0, hz1, hz2⟩ := info_parts Tryd.info5
  have k1 := kindAt1
  have k2 := kindFn12
  have hwk : IntKind.u8.wrap 1 = 1 := by rw [IntKind.wrap_u8']; rfl
  go_enter Tryd.func39, Tryd.ntmps39
  go_wp2_with fail
  go_region_held3 (fun w' => w'.cell? ⟨w.heap.size, 0, none⟩ = some (.int .i64 1) ∧ w'.cell? ⟨w.heap.size, 1, none⟩ = some (.int .i64 n) ∧ w'.cell? ⟨w.heap.size, 2, none⟩ = some (.string s) ∧ w'.cell? ⟨w.heap.size, 3, none⟩ = some (.slice a len cap))
    (first | go_keep | (exact wrote4 hw3 (by assumption) hN2) | (exact keep4 hb1 (by assumption)) | (exact wrote4 hw2 (by assumption) (own_ne hbuf)))
    (first | (go_at_call 54; refine (kinds_call _).mono ?_; rintro e w1 ⟨rfl, hb1⟩; have hsz := hb1.size; first | (have hW3 := hW2.trans (Wrote.below v2 hb1); have hB3 := buf_stays hB2 hb1) | (have hP := below_next (((Joins.below_alloc1 w (.cells #[.int .i64 1, .int .i64 n, .string s, .slice a len cap] 41)).alloc (Nat.le_of_lt (lt_size w (.cells #[.int .i64 1, .int .i64 n, .string s, .slice a len cap] 41))) (.cells #[.int .u8 1] 5)).drew) hb1) | (have hP := below_next ((Joins.below_alloc1 w _).drew) hb1))
           | (go_at_call 65; refine (HF.out _ _ hW3 hB3).mono ?_; rintro e w3 ⟨v3, rfl, hb3, hw3⟩; have hW4 := hW3.trans hw3)
           | (go_at_call 65; refine (HF.out _ _ hW2 hB2).mono ?_; rintro e w3 ⟨v3, rfl, hb3, hw3⟩; have hW4 := hW2.trans hw3)
           | (refine step_append_mine _ rfl _ _ 22 rfl 5 i0 _ 1 1 Tryd.underlying22 hi hz0 hz1 hz2 rfl (by decide) v _ _ rfl (World.ownsRow.alloc (buf_stays hbuf hP) _) ⟨w1.heap.size, 0, none⟩ 1 1 [.int .u8 1] rfl rfl (cell_new1 _ _ _) (one_oneCell _ _) ?_ ?_ ?_; (simp [maxLen]; omega); (simp; omega); intro v2 w2 ho2 hw2; have hB2 := buf_snoc (n := 1) (by omega) rfl rfl ho2; have hN2 : some w.heap.size ≠ v2.ownBlock := own_ne2 hbuf hw2 (by first | (simp; done) | (simp at hsz ⊢; omega)); have hW2 := ((Wrote.below v hP).alloc _).trans hw2)
           | (refine step_append_mine _ rfl _ _ 22 rfl 5 i0 _ 1 1 Tryd.underlying22 hi hz0 hz1 hz2 rfl (by decide) v _ _ rfl (buf_stays hbuf hP) ⟨w.heap.size + 1, 0, none⟩ 1 1 [.int .u8 1] rfl rfl (cell_below (W := ((w.alloc (.cells #[.int .i64 1, .int .i64 n, .string s, .slice a len cap] 41)).alloc (.cells #[.int .u8 1] 5)).drew) (cell_new_at (w.alloc (.cells #[.int .i64 1, .int .i64 n, .string s, .slice a len cap] 41)) _ _ _ (size2 w _)) hb1) (one_oneCell _ _) ?_ ?_ ?_; (simp [maxLen]; omega); (simp; omega); intro v2 w2 ho2 hw2; have hB2 := buf_snoc (n := 1) (by omega) rfl rfl ho2; have hN2 : some w.heap.size ≠ v2.ownBlock := own_ne2 hbuf hw2 (by first | (simp; done) | (simp at hsz ⊢; omega)); have hW2 := (Wrote.below v hP).trans hw2)
           | (refine step_append_mine _ rfl _ _ 22 rfl 5 i0 _ 1 1 Tryd.underlying22 hi hz0 hz1 hz2 rfl (by decide) v _ _ rfl (World.ownsRow.drew (World.ownsRow.alloc (buf_stays hbuf (Joins.below_alloc1 w (.cells #[.int .i64 1, .int .i64 n, .string s, .slice a len cap] 41))) (.cells #[.int .u8 1] 5))) ⟨w.heap.size + 1, 0, none⟩ 1 1 [.int .u8 1] rfl rfl (cell_new_at (w.alloc (.cells #[.int .i64 1, .int .i64 n, .string s, .slice a len cap] 41)) _ _ _ (size2 w _)) (one_oneCell _ _) ?_ ?_ ?_; (simp [maxLen]; omega); (simp; omega); intro v2 w2 ho2 hw2; have hB2 := buf_snoc (n := 1) (by omega) rfl rfl ho2; have hN2 : some w.heap.size ≠ v2.ownBlock := own_ne2 hbuf hw2 (by first | (simp; done) | (simp at hsz ⊢; omega)); have hW2 := ((Wrote.below v ((Joins.below_alloc1 w (.cells #[.int .i64 1, .int .i64 n, .string s, .slice a len cap] 41)))).alloc (.cells #[.int .u8 1] 5)).drew.trans hw2))
  all_goals
    go_wp2_with fail
    go_ret
    exact ⟨v3, rfl, by simpa using hb3, hW4⟩

set_option maxRecDepth 100000 in
set_option maxHeartbeats 8000000 in
theorem write_2 (n : Int) (s : ByteArray) (a : Option Addr) (len cap : Nat) (w : World) (v : Value) (xs ys : List UInt8) (hbuf : Buf w v xs) (hx : xs.length ≤ 35184372088832)
    (HF : Hid (∀ W v1, Wrote w W v v1 → Buf W v1 (xs ++ [2]) → Calls Tryd.prog 68 #[v1, val 2 n s a len cap] W fun e w' => Wr W w' v1 (xs ++ [2] ++ ys) e)) :
    Calls Tryd.prog 39 #[v, val 2 n s a len cap] w fun e w' => Wr w w' v (xs ++ (2 :: ys)) e := by
  obtain ⟨i0, hi, hz0, hz1, hz2⟩ := info_parts Tryd.info5
  have k1 := kindAt2
  have k2 := kindFn22
  have hwk : IntKind.u8.wrap 2 = 2 := by rw [IntKind.wrap_u8']; rfl
  go_enter Tryd.func39, Tryd.ntmps39
  go_wp2_with fail
  go_region_held3 (fun w' => w'.cell? ⟨w.heap.size, 0, none⟩ = some (.int .i64 2) ∧ w'.cell? ⟨w.heap.size, 1, none⟩ = some (.int .i64 n) ∧ w'.cell? ⟨w.heap.size, 2, none⟩ = some (.string s) ∧ w'.cell? ⟨w.heap.size, 3, none⟩ = some (.slice a len cap))
    (first | go_keep | (exact wrote4 hw3 (by assumption) hN2) | (exact keep4 hb1 (by assumption)) | (exact wrote4 hw2 (by assumption) (own_ne hbuf)))
    (first | (go_at_call 54; refine (kinds_call _).mono ?_; rintro e w1 ⟨rfl, hb1⟩; have hsz := hb1.size; first | (have hW3 := hW2.trans (Wrote.below v2 hb1); have hB3 := buf_stays hB2 hb1) | (have hP := below_next (((Joins.below_alloc1 w (.cells #[.int .i64 2, .int .i64 n, .string s, .slice a len cap] 41)).alloc (Nat.le_of_lt (lt_size w (.cells #[.int .i64 2, .int .i64 n, .string s, .slice a len cap] 41))) (.cells #[.int .u8 2] 5)).drew) hb1) | (have hP := below_next ((Joins.below_alloc1 w _).drew) hb1))
           | (go_at_call 68; refine (HF.out _ _ hW3 hB3).mono ?_; rintro e w3 ⟨v3, rfl, hb3, hw3⟩; have hW4 := hW3.trans hw3)
           | (go_at_call 68; refine (HF.out _ _ hW2 hB2).mono ?_; rintro e w3 ⟨v3, rfl, hb3, hw3⟩; have hW4 := hW2.trans hw3)
           | (refine step_append_mine _ rfl _ _ 22 rfl 5 i0 _ 1 1 Tryd.underlying22 hi hz0 hz1 hz2 rfl (by decide) v _ _ rfl (World.ownsRow.alloc (buf_stays hbuf hP) _) ⟨w1.heap.size, 0, none⟩ 1 1 [.int .u8 2] rfl rfl (cell_new1 _ _ _) (one_oneCell _ _) ?_ ?_ ?_; (simp [maxLen]; omega); (simp; omega); intro v2 w2 ho2 hw2; have hB2 := buf_snoc (n := 2) (by omega) rfl rfl ho2; have hN2 : some w.heap.size ≠ v2.ownBlock := own_ne2 hbuf hw2 (by first | (simp; done) | (simp at hsz ⊢; omega)); have hW2 := ((Wrote.below v hP).alloc _).trans hw2)
           | (refine step_append_mine _ rfl _ _ 22 rfl 5 i0 _ 1 1 Tryd.underlying22 hi hz0 hz1 hz2 rfl (by decide) v _ _ rfl (buf_stays hbuf hP) ⟨w.heap.size + 1, 0, none⟩ 1 1 [.int .u8 2] rfl rfl (cell_below (W := ((w.alloc (.cells #[.int .i64 2, .int .i64 n, .string s, .slice a len cap] 41)).alloc (.cells #[.int .u8 2] 5)).drew) (cell_new_at (w.alloc (.cells #[.int .i64 2, .int .i64 n, .string s, .slice a len cap] 41)) _ _ _ (size2 w _)) hb1) (one_oneCell _ _) ?_ ?_ ?_; (simp [maxLen]; omega); (simp; omega); intro v2 w2 ho2 hw2; have hB2 := buf_snoc (n := 2) (by omega) rfl rfl ho2; have hN2 : some w.heap.size ≠ v2.ownBlock := own_ne2 hbuf hw2 (by first | (simp; done) | (simp at hsz ⊢; omega)); have hW2 := (Wrote.below v hP).trans hw2)
           | (refine step_append_mine _ rfl _ _ 22 rfl 5 i0 _ 1 1 Tryd.underlying22 hi hz0 hz1 hz2 rfl (by decide) v _ _ rfl (World.ownsRow.drew (World.ownsRow.alloc (buf_stays hbuf (Joins.below_alloc1 w (.cells #[.int .i64 2, .int .i64 n, .string s, .slice a len cap] 41))) (.cells #[.int .u8 2] 5))) ⟨w.heap.size + 1, 0, none⟩ 1 1 [.int .u8 2] rfl rfl (cell_new_at (w.alloc (.cells #[.int .i64 2, .int .i64 n, .string s, .slice a len cap] 41)) _ _ _ (size2 w _)) (one_oneCell _ _) ?_ ?_ ?_; (simp [maxLen]; omega); (simp; omega); intro v2 w2 ho2 hw2; have hB2 := buf_snoc (n := 2) (by omega) rfl rfl ho2; have hN2 : some w.heap.size ≠ v2.ownBlock := own_ne2 hbuf hw2 (by first | (simp; done) | (simp at hsz ⊢; omega)); have hW2 := ((Wrote.below v ((Joins.below_alloc1 w (.cells #[.int .i64 2, .int .i64 n, .string s, .slice a len cap] 41)))).alloc (.cells #[.int .u8 2] 5)).drew.trans hw2))
  all_goals
    go_wp2_with fail
    go_ret
    exact ⟨v3, rfl, by simpa using hb3, hW4⟩

set_option maxRecDepth 100000 in
set_option maxHeartbeats 8000000 in
theorem write_3 (n : Int) (s : ByteArray) (a : Option Addr) (len cap : Nat) (w : World) (v : Value) (xs ys : List UInt8) (hbuf : Buf w v xs) (hx : xs.length ≤ 35184372088832)
    (HF : Hid (∀ W v1, Wrote w W v v1 → Buf W v1 (xs ++ [3]) → Calls Tryd.prog 71 #[v1, val 3 n s a len cap] W fun e w' => Wr W w' v1 (xs ++ [3] ++ ys) e)) :
    Calls Tryd.prog 39 #[v, val 3 n s a len cap] w fun e w' => Wr w w' v (xs ++ (3 :: ys)) e := by
  obtain ⟨i0, hi, hz0, hz1, hz2⟩ := info_parts Tryd.info5
  have k1 := kindAt3
  have k2 := kindFn32
  have hwk : IntKind.u8.wrap 3 = 3 := by rw [IntKind.wrap_u8']; rfl
  go_enter Tryd.func39, Tryd.ntmps39
  go_wp2_with fail
  go_region_held3 (fun w' => w'.cell? ⟨w.heap.size, 0, none⟩ = some (.int .i64 3) ∧ w'.cell? ⟨w.heap.size, 1, none⟩ = some (.int .i64 n) ∧ w'.cell? ⟨w.heap.size, 2, none⟩ = some (.string s) ∧ w'.cell? ⟨w.heap.size, 3, none⟩ = some (.slice a len cap))
    (first | go_keep | (exact wrote4 hw3 (by assumption) hN2) | (exact keep4 hb1 (by assumption)) | (exact wrote4 hw2 (by assumption) (own_ne hbuf)))
    (first | (go_at_call 54; refine (kinds_call _).mono ?_; rintro e w1 ⟨rfl, hb1⟩; have hsz := hb1.size; first | (have hW3 := hW2.trans (Wrote.below v2 hb1); have hB3 := buf_stays hB2 hb1) | (have hP := below_next (((Joins.below_alloc1 w (.cells #[.int .i64 3, .int .i64 n, .string s, .slice a len cap] 41)).alloc (Nat.le_of_lt (lt_size w (.cells #[.int .i64 3, .int .i64 n, .string s, .slice a len cap] 41))) (.cells #[.int .u8 3] 5)).drew) hb1) | (have hP := below_next ((Joins.below_alloc1 w _).drew) hb1))
           | (go_at_call 71; refine (HF.out _ _ hW3 hB3).mono ?_; rintro e w3 ⟨v3, rfl, hb3, hw3⟩; have hW4 := hW3.trans hw3)
           | (go_at_call 71; refine (HF.out _ _ hW2 hB2).mono ?_; rintro e w3 ⟨v3, rfl, hb3, hw3⟩; have hW4 := hW2.trans hw3)
           | (refine step_append_mine _ rfl _ _ 22 rfl 5 i0 _ 1 1 Tryd.underlying22 hi hz0 hz1 hz2 rfl (by decide) v _ _ rfl (World.ownsRow.alloc (buf_stays hbuf hP) _) ⟨w1.heap.size, 0, none⟩ 1 1 [.int .u8 3] rfl rfl (cell_new1 _ _ _) (one_oneCell _ _) ?_ ?_ ?_; (simp [maxLen]; omega); (simp; omega); intro v2 w2 ho2 hw2; have hB2 := buf_snoc (n := 3) (by omega) rfl rfl ho2; have hN2 : some w.heap.size ≠ v2.ownBlock := own_ne2 hbuf hw2 (by first | (simp; done) | (simp at hsz ⊢; omega)); have hW2 := ((Wrote.below v hP).alloc _).trans hw2)
           | (refine step_append_mine _ rfl _ _ 22 rfl 5 i0 _ 1 1 Tryd.underlying22 hi hz0 hz1 hz2 rfl (by decide) v _ _ rfl (buf_stays hbuf hP) ⟨w.heap.size + 1, 0, none⟩ 1 1 [.int .u8 3] rfl rfl (cell_below (W := ((w.alloc (.cells #[.int .i64 3, .int .i64 n, .string s, .slice a len cap] 41)).alloc (.cells #[.int .u8 3] 5)).drew) (cell_new_at (w.alloc (.cells #[.int .i64 3, .int .i64 n, .string s, .slice a len cap] 41)) _ _ _ (size2 w _)) hb1) (one_oneCell _ _) ?_ ?_ ?_; (simp [maxLen]; omega); (simp; omega); intro v2 w2 ho2 hw2; have hB2 := buf_snoc (n := 3) (by omega) rfl rfl ho2; have hN2 : some w.heap.size ≠ v2.ownBlock := own_ne2 hbuf hw2 (by first | (simp; done) | (simp at hsz ⊢; omega)); have hW2 := (Wrote.below v hP).trans hw2)
           | (refine step_append_mine _ rfl _ _ 22 rfl 5 i0 _ 1 1 Tryd.underlying22 hi hz0 hz1 hz2 rfl (by decide) v _ _ rfl (World.ownsRow.drew (World.ownsRow.alloc (buf_stays hbuf (Joins.below_alloc1 w (.cells #[.int .i64 3, .int .i64 n, .string s, .slice a len cap] 41))) (.cells #[.int .u8 3] 5))) ⟨w.heap.size + 1, 0, none⟩ 1 1 [.int .u8 3] rfl rfl (cell_new_at (w.alloc (.cells #[.int .i64 3, .int .i64 n, .string s, .slice a len cap] 41)) _ _ _ (size2 w _)) (one_oneCell _ _) ?_ ?_ ?_; (simp [maxLen]; omega); (simp; omega); intro v2 w2 ho2 hw2; have hB2 := buf_snoc (n := 3) (by omega) rfl rfl ho2; have hN2 : some w.heap.size ≠ v2.ownBlock := own_ne2 hbuf hw2 (by first | (simp; done) | (simp at hsz ⊢; omega)); have hW2 := ((Wrote.below v ((Joins.below_alloc1 w (.cells #[.int .i64 3, .int .i64 n, .string s, .slice a len cap] 41)))).alloc (.cells #[.int .u8 3] 5)).drew.trans hw2))
  all_goals
    go_wp2_with fail
    go_ret
    exact ⟨v3, rfl, by simpa using hb3, hW4⟩

end Go.Proofs.YtbcfmpohempkpaaDoor.Cod

/- Encode and Size, for every value: the error of Check, or the encoding and its length. -/
namespace Go.Proofs.YtbcfmpohempkpaaDoor.Cod
open Go.RowKit

set_option maxRecDepth 100000 in
theorem write_call (x : V) : WriteSaid x := by
  refine V.ind (P := fun x => WriteSaid x) ?_ x
  intro k n s l ih B v W b xs hx hB hown hbuf hf hlen
  have hx2 := hx
  obtain ⟨_, _, _, _, a, cap, _, _, _, _, _, _, _, hn, _, _, _, _⟩ := hx
  have hp := enc_pos (.mk k n s l)
  rcases formed_cases hf with ⟨rfl, rfl, rfl⟩ | ⟨rfl, rfl, rfl⟩ | ⟨rfl, rfl, rfl, hl⟩
  · rw [enc_1]
    exact write_1 n ⟨#[]⟩ a _ cap W b xs (digits (uns n)) hbuf (by omega) (Lib.hid fun W1 v1 _ hb1 => writeInt_call 1 n hn ⟨#[]⟩ a _ cap v1 (xs ++ [1]) W1 (by simp; omega) hb1)
  · rw [enc_2] at hlen ⊢
    have hs : s.data.toList.length = s.size := by rw [Array.length_toList]; rfl
    rw [List.length_cons, List.length_append, hs] at hlen
    exact write_2 0 s a _ cap W b xs (digits s.size ++ s.data.toList) hbuf (by omega) (Lib.hid fun W1 v1 _ hb1 => writeText_call 2 0 s (by omega) a _ cap v1 (xs ++ [2]) W1 (by simp; omega) hb1)
  · rw [enc_3] at hlen ⊢
    rw [List.length_cons, List.length_append] at hlen
    exact write_3 0 ⟨#[]⟩ a _ cap W b xs (digits l.length ++ encL l) hbuf (by omega) (Lib.hid fun W1 v1 hw1 hb1 =>
      writeList_call l a cap B W1 v1 (xs ++ [3]) (hx2.stays (hw1.toBelow hB hown)) (Nat.le_trans hB hw1.grown.size) (wrote_own hw1 hB hown) hb1 (Lib.hid hl) (by simp; omega) (Lib.hid ih))

set_option maxRecDepth 100000 in
/-- 'make([]byte, 0, n)', in every world -/
theorem make_fun (n : Nat) (hn : n ≤ 35184372088832) : ∃ mk : World → World, (∀ W : World, (Instr.makeSlice 22 (.int .i64 0) (.int .i64 (n : Int))).run Tryd.prog W = .ok (.slice (some ⟨W.heap.size, 0, none⟩) 0 n) (mk W)) ∧
    (∀ W : World, Buf (mk W) (.slice (some ⟨W.heap.size, 0, none⟩) 0 n) [] ∧ Below W.heap.size W (mk W)) := by
  obtain ⟨i0, hi, hz0, hz1, hz2⟩ := info_parts Tryd.info5
  have h : ∀ W : World, ∃ w3 : World, (Instr.makeSlice 22 (.int .i64 0) (.int .i64 (n : Int))).run Tryd.prog W = .ok (.slice (some ⟨W.heap.size, 0, none⟩) 0 n) w3 ∧ Buf w3 (.slice (some ⟨W.heap.size, 0, none⟩) 0 n) [] ∧ Below W.heap.size W w3 := by
    intro W
    obtain ⟨w3, hrun, ho, hg⟩ := run_make_own (P := Tryd.prog) W 0 22 5 i0 _ 1 Tryd.underlying22 hi hz0 hz1 .i64 .i64 n (by rw [hz2]; omega) (by simp [maxLen]; omega) (Nat.zero_le _)
    exact ⟨w3, hrun, ho, (Below.refl _ _).grown hg (Nat.le_refl _) (fun _ h => by cases h)⟩
  obtain ⟨mk, hmk⟩ := Classical.skolem.1 h
  exact ⟨mk, fun W => (hmk W).1, fun W => (hmk W).2⟩

set_option maxRecDepth 100000 in
theorem below_size {w w1 w2 : World} {o : Obj} (h : (w.alloc o).heap.size ≤ w1.heap.size) (hb : Below w1.drew.heap.size w1.drew w2) : w.heap.size < w2.heap.size := by
  have := hb.size
  simp at h this
  omega
set_option maxRecDepth 100000 in
theorem own_slice {n m c N : Nat} (h : N < n) : ∀ k, Value.ownBlock (.slice (some ⟨n, 0, none⟩) m c) = some k → N ≤ k := by
  intro k hk; simp [Value.ownBlock] at hk; omega
set_option maxRecDepth 100000 in
theorem own_slice_ne {n c N : Nat} (h : N < n) : some N ≠ Value.ownBlock (.slice (some ⟨n, 0, none⟩) 0 c) := by
  intro hk; simp [Value.ownBlock] at hk; omega

/-- what Encode leaves: with an error no bytes -/
def EncR (w w' : World) (x : V) (e : Ending) : Prop :=
  ∃ v, e = .returned (.tuple #[v, .int .i64 (code x)]) ∧ Below w.heap.size w w' ∧ (code x = 0 → Buf w' v (enc x) ∧ ∀ k, v.ownBlock = some k → w.heap.size ≤ k) ∧ (code x ≠ 0 → v = .slice none 0 0)

set_option maxRecDepth 100000 in
set_option maxHeartbeats 4000000 in
theorem encode_call (x : V) (v : Value) (w : World) (hx : Is w x v) (hlen : code x = 0 → (enc x).length ≤ 35184372088832) :
    Calls Tryd.prog 15 #[v] w fun e w' => EncR w w' x e := by
  have hx2 := hx
  obtain ⟨k, N, s, l, a, cap, _, _, _, _, _, _, _, _, _, _, _, _⟩ := hx
  have HX := Lib.hid hx2
  clear hx2
  obtain ⟨i0, hi, hz0, hz1, hz2⟩ := info_parts Tryd.info5
  go_enter Tryd.func15, Tryd.ntmps15
  go_wp2_with fail
  refine (check_call (.mk k N s l) _ _ (Is.stays HX.out (Joins.below_alloc1 w _))).mono ?_
  rintro e w1 ⟨rfl, hb⟩
  have hb1 := below_next (Joins.below_alloc1 w _) hb
  obtain ⟨hc, _⟩ := bcell hb
  by_cases h0 : code (.mk k N s l) = 0
  · have hne : (code (.mk k N s l) != 0) = false := by rw [h0]; rfl
    have HF : Hid (formed (.mk k N s l) = true) := by
      unfold Hid
      unfold code at h0
      cases hf : formed (.mk k N s l) with
      | true => rfl
      | false => rw [hf] at h0; simp at h0
    have hle := Lib.hid (hlen h0)
    have H0 := Lib.hid h0
    clear h0 hlen
    go_wp2_with fail
    have c0 := (hb.cell (p := ⟨w.heap.size, 0, none⟩) (by simp)).trans (show (w.alloc (.cells #[.int .i64 k, .int .i64 N, .string s, .slice a l.length cap] 41)).cell? ⟨w.heap.size, 0, none⟩ = some (.int .i64 k) by simp)
    have c1 := (hb.cell (p := ⟨w.heap.size, 1, none⟩) (by simp)).trans (show (w.alloc (.cells #[.int .i64 k, .int .i64 N, .string s, .slice a l.length cap] 41)).cell? ⟨w.heap.size, 1, none⟩ = some (.int .i64 N) by simp)
    have c2 := (hb.cell (p := ⟨w.heap.size, 2, none⟩) (by simp)).trans (show (w.alloc (.cells #[.int .i64 k, .int .i64 N, .string s, .slice a l.length cap] 41)).cell? ⟨w.heap.size, 2, none⟩ = some (.string s) by simp)
    have c3 := (hb.cell (p := ⟨w.heap.size, 3, none⟩) (by simp)).trans (show (w.alloc (.cells #[.int .i64 k, .int .i64 N, .string s, .slice a l.length cap] 41)).cell? ⟨w.heap.size, 3, none⟩ = some (.slice a l.length cap) by simp)
    have hsz1 := hb.size
    obtain ⟨mk, hmk, HM⟩ := make_fun (enc (.mk k N s l)).length (Nat.le_trans hle.out (by omega))
    have HM := Lib.hid HM
    go_region_held3 (fun w' => w'.cell? ⟨w.heap.size, 0, none⟩ = some (.int .i64 k) ∧ w'.cell? ⟨w.heap.size, 1, none⟩ = some (.int .i64 N) ∧ w'.cell? ⟨w.heap.size, 2, none⟩ = some (.string s) ∧ w'.cell? ⟨w.heap.size, 3, none⟩ = some (.slice a l.length cap))
      (first | go_keep | (exact wrote4 hw4 (by assumption) hN) | (exact keep4 (HM.out _).2 (by assumption)) | (exact keep4 hb2 (by assumption)))
      (first | (go_at_call 40; refine (size_call (.mk k N s l) _ _ (Is.stays HX.out hb1.drew) HF.out (Nat.le_trans hle.out (by omega))).mono ?_; rintro e w2 ⟨rfl, hb2⟩; have hb12 := below_next hb1.drew hb2)
             | (go_at_call 39; refine (write_call (.mk k N s l) w.heap.size _ _ _ [] (IsB.stays HX.out (below_next hb12 (HM.out w2).2)) (below_next hb12 (HM.out w2).2).size ?_ (HM.out w2).1 HF.out ?_).mono ?_; (exact own_slice (below_size hsz1 hb2)); (simpa using hle.out); rintro e w4 ⟨v4, rfl, hb4, hw4⟩; have hN := own_slice_ne (c := (enc (.mk k N s l)).length) (below_size hsz1 hb2)))
    go_wp2_with fail
    go_ret2
    exact ⟨v4, by rw [H0.out]; rfl, (below_next hb12 (HM.out w2).2).trans (hw4.toBelow (below_next hb12 (HM.out w2).2).size (own_slice (below_size hsz1 hb2))), fun _ => ⟨by simpa using hb4, wrote_own hw4 (below_next hb12 (HM.out w2).2).size (own_slice (below_size hsz1 hb2))⟩, fun h => absurd H0.out h⟩
  · have hne : (code (.mk k N s l) != 0) = true := by simpa using h0
    go_wp2_with fail
    go_ret2
    exact ⟨_, rfl, hb1, fun h => absurd h h0, fun _ => rfl⟩

end Go.Proofs.YtbcfmpohempkpaaDoor.Cod
