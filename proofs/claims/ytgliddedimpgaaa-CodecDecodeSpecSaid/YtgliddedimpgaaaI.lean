/- What write appends to a buffer, for every well-formed value: its encoding. -/
import Derived.Test.YtgliddedimpgaaaH
namespace Go.Proofs.Ytgliddedimpgaaa
open Go.RowKit

def WListHead (w : World) (v : Value) (xs : List UInt8) (l : List V) (s0 s16 : Value) (wr : World) : Prop :=
  ∃ i : Nat, i ≤ l.length ∧ s16 = .int .i64 i ∧ Buf wr s0 (xs ++ (digits l.length ++ encL (l.take i))) ∧ Wrote w wr v s0

theorem wrote_own {w w' : World} {v v' : Value} {B : Nat} (h : Wrote w w' v v') (hB : B ≤ w.heap.size) (hv : ∀ k, v.ownBlock = some k → B ≤ k) : ∀ k, v'.ownBlock = some k → B ≤ k := by
  intro k hk
  rcases h.own with h1 | h1
  · exact hv k (h1 ▸ hk)
  · have := h1 k hk; omega

/-- An element's four cells, in a later world, below a bound. -/
theorem elem_cellsB {B : Nat} {w wr : World} {b off : Nat} {c0 c1 c2 c3 : Value} (hb : Below B w wr) (hl : b < B)
    (h : w.cell? ⟨b, off, none⟩ = some c0 ∧ w.cell? ⟨b, off + 1, none⟩ = some c1 ∧ w.cell? ⟨b, off + 2, none⟩ = some c2 ∧ w.cell? ⟨b, off + 3, none⟩ = some c3) :
    wr.cell? ⟨b, off, none⟩ = some c0 ∧ wr.cell? ⟨b, off + 1, none⟩ = some c1 ∧ wr.cell? ⟨b, off + 2, none⟩ = some c2 ∧ wr.cell? ⟨b, off + 3, none⟩ = some c3 := by
  obtain ⟨h0, h1, h2, h3⟩ := h
  exact ⟨(hb.cell (p := ⟨b, off, none⟩) hl).trans h0, (hb.cell (p := ⟨b, off + 1, none⟩) hl).trans h1, (hb.cell (p := ⟨b, off + 2, none⟩) hl).trans h2, (hb.cell (p := ⟨b, off + 3, none⟩) hl).trans h3⟩

/-- the contract of write for one tree -/
def WriteSaid (x : V) : Prop := ∀ (B : Nat) (v : Value) (W : World) (b : Value) (xs : List UInt8), IsB B W x v → B ≤ W.heap.size → (∀ k, b.ownBlock = some k → B ≤ k) → Buf W b xs → formed x = true → xs.length + (enc x).length ≤ 35184372088832 →
  Calls Try.prog 26 #[b, v] W fun e w' => Wr W w' b (xs ++ enc x) e

set_option maxHeartbeats 1000000 in
theorem writeList_call (l : List V) (a : Option Addr) (cap : Nat) (B : Nat) (w : World) (v : Value) (xs : List UInt8) (hx : IsB B w (.mk 3 0 ⟨#[]⟩ l) (val 3 0 ⟨#[]⟩ a l.length cap)) (hB : B ≤ w.heap.size) (hv : ∀ k, v.ownBlock = some k → B ≤ k)
    (hbuf : Buf w v xs) (hf : Hid (∀ x ∈ l, formed x = true)) (hlen : xs.length + ((digits l.length).length + (encL l).length) ≤ 35184372088832) (ih : Hid (∀ x ∈ l, WriteSaid x)) :
    Calls Try.prog 55 #[v, val 3 0 ⟨#[]⟩ a l.length cap] w fun e w' => Wr w w' v (xs ++ (digits l.length ++ encL l)) e := by
  obtain ⟨_, _, _, _, _, _, fk, fn, fs, fa, fl, fc, hk, hn, hs, hl, hc, he⟩ := hx
  have hll := encL_len l
  have HB0 := Lib.hid (Joins.below_alloc1 w (.cells #[.int .i64 3, .int .i64 0, .string ⟨#[]⟩, .slice a l.length cap] 24))
  go_enter Try.func55, Try.ntmps55
  go_wp2_with fail
  refine (writeNumeral_call l.length v xs _ (by omega) (by omega) (buf_stays hbuf HB0.out)).mono ?_
  rintro e w0 ⟨v0, rfl, hb0, hw0⟩
  have HW0 := Lib.hid ((Wrote.below v HB0.out).trans hw0)
  have HC3 := hw0.cell (p := ⟨w.heap.size, 3, none⟩) (x := .slice a l.length cap) (by simp) (own_ne hbuf)
  clear hw0
  go_wp2_with fail
  go_loopw [0, 16] (fun s0 s16 wr => WListHead w v xs l s0 s16 wr) (fun _ s16 _ => l.length - (intOf s16).toNat)
  case atStart => exact ⟨0, by omega, rfl, by simpa [encL] using hb0, HW0.out⟩
  case round =>
    obtain ⟨i, hi, rfl, hbr, hwr⟩ := hrel
    rcases Nat.lt_or_ge i l.length with hlt | hge
    · rcases hc with h0 | ⟨b, off, rfl, hbl, hc⟩
      · omega
      have hbel := hwr.toBelow hB hv
      have hel := he i hlt
      obtain ⟨c0, c1, c2, c3⟩ := elem_cellsB hbel hbl (hc i hlt)
      clear hc he
      have hle := encL_le l i hlt
      have HT := Lib.hid (encL_take l i hlt)
      have HS := Lib.hid hwr.grown.size
      go_wp2_with fail
      refine ((ih.out l[i] (List.getElem_mem hlt)) B _ _ _ _ ((hel.stays hbel).stays ((Below.refl _ _).alloc (Nat.le_trans hB HS.out) _)) (by have := HS.out; simp; omega) (wrote_own hwr hB hv) (buf_stays hbr (Joins.below_alloc1 wr _)) (hf.out _ (List.getElem_mem hlt)) (by simp only [List.length_append]; omega)).mono ?_
      rintro e w1 ⟨v1, rfl, hb1, hw1⟩
      go_wp2_with fail
      go_roundw
      case rel => exact ⟨i + 1, by omega, by simp, by rw [HT.out]; simpa [List.append_assoc] using hb1, (hwr.alloc _).trans hw1⟩
      case measure => simp [intOf]; omega
    · obtain rfl : i = l.length := by omega
      rw [List.take_length] at hbr
      go_wp2_with fail
      go_ret
      exact ⟨_, rfl, hbr, hwr⟩
end Go.Proofs.Ytgliddedimpgaaa
