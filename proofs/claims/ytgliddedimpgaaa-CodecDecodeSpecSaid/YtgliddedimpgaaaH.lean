/- What the writing functions append to a buffer: the encoding of a well-formed value. -/
import Derived.Test.YtgliddedimpgaaaF
import Derived.Test.YtgliddedimpgaaaG
namespace Go.Proofs.Ytgliddedimpgaaa
open Go.RowKit

/-- what a writing function leaves -/
def Wr (w w' : World) (v : Value) (xs : List UInt8) (e : Ending) : Prop := ∃ v', e = .returned v' ∧ Buf w' v' xs ∧ Wrote w w' v v'

theorem buf_stays {w w' : World} {v : Value} {xs : List UInt8} (h : Buf w v xs) (hb : Below w.heap.size w w') : Buf w' v xs := owns_below h hb
theorem buf_lt {w : World} {v : Value} {xs : List UInt8} (h : Buf w v xs) : ∀ k, v.ownBlock = some k → k < w.heap.size := owns_lt h

theorem wrote4 {w1 w2 : World} {v v' : Value} {b : Nat} {c0 c1 c2 c3 : Value} (hw : Wrote w1 w2 v v') (h : w1.cell? ⟨b, 0, none⟩ = some c0 ∧ w1.cell? ⟨b, 1, none⟩ = some c1 ∧ w1.cell? ⟨b, 2, none⟩ = some c2 ∧ w1.cell? ⟨b, 3, none⟩ = some c3)
    (hne : some b ≠ v.ownBlock) :
    w2.cell? ⟨b, 0, none⟩ = some c0 ∧ w2.cell? ⟨b, 1, none⟩ = some c1 ∧ w2.cell? ⟨b, 2, none⟩ = some c2 ∧ w2.cell? ⟨b, 3, none⟩ = some c3 := by
  obtain ⟨h0, h1, h2, h3⟩ := h
  exact ⟨hw.cell h0 hne, hw.cell h1 hne, hw.cell h2 hne, hw.cell h3 hne⟩

theorem own_ne {w : World} {v : Value} {xs : List UInt8} (h : Buf w v xs) : some w.heap.size ≠ v.ownBlock := fun e => by have := buf_lt h _ e.symm; omega

theorem own_ne2 {w w1 w2 : World} {v v' : Value} {xs : List UInt8} (h : Buf w v xs) (hw : Wrote w1 w2 v v') (hl : w.heap.size < w1.heap.size) : some w.heap.size ≠ v'.ownBlock := fun e => by
  rcases hw.own with h1 | h1
  · exact own_ne h (e.trans h1)
  · have := h1 _ e.symm; omega

theorem buf_ne {w : World} {v : Value} {xs : List UInt8} (h : Buf w v xs) (hx : 0 < xs.length) : v ≠ .slice none 0 0 := by
  rintro rfl
  rcases h.2 with ⟨_, h0⟩ | ⟨g, cap, cur, h, _⟩
  · omega
  · cases h

theorem buf_app {w w1 : World} {v v1 : Value} {xs ys : List UInt8} {s : ByteArray} {n : Nat} (_h : Buf w1 v1 (xs ++ ys)) {w2 : World} {v2 : Value} (ho : w2.ownsRow 0 5 1 v2 n (cellsOf (xs ++ ys) ++ byteCells s)) (hn : n = (xs ++ ys).length + s.size) : Buf w2 v2 (xs ++ (ys ++ s.data.toList)) := by
  have e : cellsOf (xs ++ (ys ++ s.data.toList)) = cellsOf (xs ++ ys) ++ byteCells s := by
    rw [← List.append_assoc, cellsOf_append]; rfl
  unfold Buf
  rw [e]
  have e2 : (xs ++ (ys ++ s.data.toList)).length = n := by
    rw [hn, ← List.append_assoc, List.length_append, Array.length_toList]; rfl
  rw [e2]; exact ho

theorem writeInt_call (k n : Int) (hn : -9223372036854775808 ≤ n ∧ n ≤ 9223372036854775807) (s : ByteArray) (a : Option Addr) (len cap : Nat) (v : Value) (xs : List UInt8) (w : World) (hx : xs.length ≤ 70368744177664) (hb : Buf w v xs) :
    Calls Try.prog 49 #[v, val k n s a len cap] w fun e w' => Wr w w' v (xs ++ digits (uns n)) e := by
  have hu := uns_lt n hn.1 hn.2
  go_enter Try.func49, Try.ntmps49
  go_wp2_with (first | (go_at_call 57; refine (unsigned_call _ _ hn.1 hn.2).mono ?_; rintro e w' ⟨rfl, rfl⟩))
  refine (writeNumeral_call (uns n) v xs _ (by omega) hx (buf_stays hb (Joins.below_alloc1 w _))).mono ?_
  rintro e w1 ⟨v1, rfl, hb1, hw1⟩
  go_wp2_with fail
  go_ret
  exact ⟨v1, rfl, hb1, (Wrote.below v (Joins.below_alloc1 w _)).trans hw1⟩

set_option maxHeartbeats 4000000 in
theorem writeText_call (k n : Int) (s : ByteArray) (hs : s.size ≤ 35184372088832) (a : Option Addr) (len cap : Nat) (v : Value) (xs : List UInt8) (w : World) (hx : xs.length ≤ 35184372088832) (hb : Buf w v xs) :
    Calls Try.prog 52 #[v, val k n s a len cap] w fun e w' => Wr w w' v (xs ++ (digits s.size ++ s.data.toList)) e := by
  obtain ⟨i0, hi, hz0, hz1, hz2⟩ := info_parts Try.info5
  have hd := num_pos s.size
  have h10 := num_len s.size (by omega)
  have hwr : IntKind.u64.wrap ((s.size : Nat) : Int) = ((s.size : Nat) : Int) := by rw [IntKind.wrap_u64]; omega
  go_enter Try.func52, Try.ntmps52
  go_wp2_with fail
  go_region_held3 (fun w' => w'.cell? ⟨w.heap.size, 0, none⟩ = some (.int .i64 k) ∧ w'.cell? ⟨w.heap.size, 1, none⟩ = some (.int .i64 n) ∧ w'.cell? ⟨w.heap.size, 2, none⟩ = some (.string s) ∧ w'.cell? ⟨w.heap.size, 3, none⟩ = some (.slice a len cap))
    (first | go_keep | (exact wrote4 hw2 (by assumption) (own_ne2 hb hw1 (by simp))) | (exact wrote4 hw1 (by assumption) (own_ne hb)))
    (first | (go_at_call 58; refine (writeNumeral_call s.size v xs _ (by omega) (by omega) (buf_stays hb ((Joins.below_alloc1 w _).drew))).mono ?_; rintro e w1 ⟨v1, rfl, hb1, hw1⟩)
           | (refine step_append_src _ (by rfl) _ _ 27 9 (by rfl) 5 i0 _ 1 1 Try.underlying27 hi hz0 hz1 hz2 rfl v1 _ _ (by rfl) hb1 ?_ (.string s) (by rfl) s.size (byteCells s) (Src.ofString _ Try.underlying9 s) ?_ ?_ ?_; (exact buf_ne hb1 (by simp [digits]; omega)); (simp [maxLen, digits]; omega); (simp [digits]; omega); intro v2 w2 ho2 hw2))
  go_wp2_with fail
  go_ret
  exact ⟨v2, rfl, buf_app (w := w) (v := v) hb1 ho2 (by simp), ((Wrote.below v ((Joins.below_alloc1 w _).drew)).trans hw1).trans hw2⟩
end Go.Proofs.Ytgliddedimpgaaa
