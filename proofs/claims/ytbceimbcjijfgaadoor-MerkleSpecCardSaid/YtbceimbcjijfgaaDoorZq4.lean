/- One law on appending: bytes that are read are put behind a buffer of the call's own. -/
import Derived.Laws.AppendOwnNone
import Derived.Test.YtbceimbcjijfgaaDoorZq3
namespace Go.Proofs.YtbceimbcjijfgaaDoor.Dig
open Go.RowKit

theorem cellsOf_oneCell (l : List UInt8) : ∀ u ∈ cellsOf l, u.oneCell' = true := by
  intro u hu; simp [cellsOf] at hu; obtain ⟨c, _, rfl⟩ := hu; rfl

theorem wpList_buf {w : World} {ops : Array Oper} {rest : List Oper} {o : Oper} {a : Act} {Q : Exit → Act → World → Prop} (hgd : o.guard = none) (s x : Operand)
    (ho : o.op = .call { callee := .builtin .append, args := #[s, x], argTypes := #[34, 34] })
    (v : Value) (xs : List UInt8) (hs : a.eval s = v) (hb : Buf w v xs) (sv : Value) (B : Nat) (ys : List UInt8) (hx : a.eval x = sv) (hr : Rest B w ys sv) (hlen : xs.length + ys.length ≤ 70368744177664)
    (h : ∀ v' w', Buf w' v' (xs ++ ys) → Wrote w w' v v' → wpList Tryd.prog ops Q rest (a.put o.dst v') w') : wpList Tryd.prog ops Q (o :: rest) a w := by
  obtain ⟨i0, hi, hz0, hz1, hz2⟩ := info_parts Tryd.info5
  obtain ⟨ad, cap, rfl, hcap, hcm, hn, hc⟩ := hr
  have hown : w.ownsRow 0 5 1 v xs.length (cellsOf xs) := hb
  have hy : (cellsOf ys).length = ys.length * 1 := by rw [cellsOf_len, Nat.mul_one]
  cases ad with
  | none =>
    obtain ⟨h0, rfl⟩ := hn rfl
    obtain rfl : ys = [] := List.eq_nil_of_length_eq_zero h0
    refine wpList_append_own_none hgd s x 34 ho 0 5 i0 1 Tryd.underlying34 hi v xs.length (cellsOf xs) hs hown hx ?_
    exact h v w (by rw [List.append_nil]; exact hb) (Wrote.refl w v)
  | some ad =>
    refine wpList_append_mine w hgd s x 34 ho 5 i0 (.int .u8 0) 1 1 Tryd.underlying34 hi hz0 hz1 hz2 rfl (by decide) v xs.length (cellsOf xs) hs hown ad ys.length cap (cellsOf ys) hx hy ?_ (cellsOf_oneCell ys) (by unfold maxLen; omega) (by omega) ?_
    · intro j u hj
      rcases hc with h0 | ⟨b, off, he, _, hc⟩
      · obtain rfl : ys = [] := List.eq_nil_of_length_eq_zero h0
        simp [cellsOf] at hj
      · obtain rfl := Option.some.inj he
        have hjl : j < ys.length := by
          have := (List.getElem?_eq_some_iff.1 hj).1
          rwa [cellsOf_len] at this
        rw [cellsOf_get hjl] at hj
        rw [← hj, Addr.add_lit]
        exact hc j hjl
    · intro v' w' ho1 hw1
      refine h v' w' ?_ hw1
      unfold Buf
      rw [List.length_append, cellsOf_append]; exact ho1

/-- one byte in a new block -/
theorem rest_one (w : World) (c : UInt8) (n : Int) (hn : n = (c.toNat : Int)) : Rest (w.heap.size + 1) (w.alloc (.cells #[.int .u8 n] 5)) [c] (.slice (some ⟨w.heap.size, 0, none⟩) 1 1) := by
  subst hn
  refine ⟨some ⟨w.heap.size, 0, none⟩, 1, rfl, Nat.le_refl _, by simp [maxLen], (fun h => by cases h), .inr ⟨w.heap.size, 0, rfl, by omega, fun i hi => ?_⟩⟩
  simp at hi; subst hi
  exact (row_new w 5 [.int .u8 (c.toNat : Int)]).cell rfl
theorem buf_nil (w : World) : Buf w (.slice none 0 0) [] := World.ownsRow_nil w 0 5 1
theorem buf_alloc {w : World} {v : Value} {xs : List UInt8} (h : Buf w v xs) (o : Obj) : Buf (w.alloc o) v xs := buf_stays h (Joins.below_alloc1 w o)
theorem wrote_below {w w0 w1 : World} {v v' : Value} (hw : Wrote w w1 v v') (hb : Below w0.heap.size w0 w) (hv : ∀ k, v.ownBlock = some k → w0.heap.size ≤ k) :
    Below w0.heap.size w0 w1 ∧ ∀ k, v'.ownBlock = some k → w0.heap.size ≤ k := by
  refine ⟨hb.trans (hw.toBelow hb.size hv), fun k hk => ?_⟩
  rcases hw.own with h | h
  · exact hv k (h ▸ hk)
  · exact Nat.le_trans hb.size (h k hk)
end Go.Proofs.YtbceimbcjijfgaaDoor.Dig
