/- Bytes and pending writes appended to a slice of the call's own; the padding of a sector. -/
import Derived.Test.YtlaaolbdadempaaWr
import Derived.Laws.AppendOwnNone
namespace Go.Proofs.Ytlaaolbdadempaa
open Go.RowKit

theorem own_shape {w : World} {base e size n : Nat} {v : Value} {xs : List Value} (h : w.ownsRow base e size v n xs) : ∃ a cap, v = .slice a n cap ∧ n ≤ cap ∧ cap ≤ maxLen := by
  rcases h.2 with ⟨rfl, rfl⟩ | ⟨g, cap, cur, rfl, _, _, h1, h2, _⟩
  · exact ⟨none, 0, rfl, Nat.le_refl _, by unfold maxLen; omega⟩
  · exact ⟨_, cap, rfl, h1, h2⟩
set_option maxRecDepth 100000 in
theorem wpList_append_rest {w : World} {ops : Array Oper} {rest : List Oper} {o : Oper} {a : Act} {Q : Exit → Act → World → Prop} (hgd : o.guard = none) (s x : Operand) (ho : o.op = .call { callee := .builtin .append, args := #[s, x], argTypes := #[35, 35] })
    (base : Nat) (v : Value) (n : Nat) (xs : List UInt8) (hs : a.eval s = v) (hown : w.ownsRow base 5 1 v n (cellsOf xs)) (ys : List UInt8) (y : Value) (hx : a.eval x = y) {B : Nat} (hr : Rest B w ys y) (hlen : n + ys.length ≤ 1000000) (hbase : base ≤ w.heap.size)
    (h : ∀ v' w', w'.ownsRow base 5 1 v' (n + ys.length) (cellsOf (xs ++ ys)) → w.grownBy w' v.ownBlock → wpList Try.prog ops Q rest (a.put o.dst v') w') : wpList Try.prog ops Q (o :: rest) a w := by
  obtain ⟨ba, bc, rfl, h2, h3, h4, h5⟩ := hr
  obtain ⟨i0, hi, hz0, hz1, hz2⟩ := info_parts Try.info5
  cases ba with
  | none =>
    obtain ⟨h6, rfl⟩ := h4 rfl
    obtain rfl : ys = [] := List.eq_nil_of_length_eq_zero h6
    exact wpList_append_own_none hgd s x 35 ho base 5 i0 1 Try.underlying35 hi v n _ hs hown hx (h v w (by simpa using hown) ⟨rfl, rfl, rfl, Nat.le_refl _, fun _ _ _ => rfl⟩)
  | some ad =>
    refine wpList_append_own w hgd s x 35 ho base 5 i0 _ 1 1 Try.underlying35 hi hz0 hz1 hz2 rfl (by decide) v n _ hs hown ad ys.length bc (cellsOf ys) hx (by rw [cellsOf_len]; omega) (fun j u hj => ?_) (cells_one ys) (by unfold maxLen; omega) (by omega) hbase fun v' w' h6 h7 _ => ?_
    · have hjl : j < ys.length := by have := (List.getElem?_eq_some_iff.1 hj).1; rwa [cellsOf_len] at this
      rcases h5 with h5 | ⟨b, off, h5, h6, h7⟩
      · omega
      · injection h5 with h5
        subst h5
        rw [Addr.add_lit, h7 j hjl]
        rw [cellsOf_get hjl] at hj
        exact hj
    · rw [← cellsOf_append] at h6
      exact h v' w' h6 h7
set_option maxRecDepth 100000 in
theorem wpList_append_zero {w : World} {ops : Array Oper} {rest : List Oper} {o : Oper} {a : Act} {Q : Exit → Act → World → Prop} (hgd : o.guard = none) (s x : Operand) (ho : o.op = .call { callee := .builtin .append, args := #[s, x], argTypes := #[35, 35] })
    (base : Nat) (v : Value) (n : Nat) (xs : List UInt8) (hs : a.eval s = v) (hown : w.ownsRow base 5 1 v n (cellsOf xs)) (g : Nat) (hx : a.eval x = .slice (some ⟨g, 0, none⟩) 1 1) (hr : Row w g 5 [.int .u8 0]) (hlen : n + 1 ≤ 1000000) (hbase : base ≤ w.heap.size)
    (h : ∀ v' w', w'.ownsRow base 5 1 v' (n + 1) (cellsOf (xs ++ [0])) → w.grownBy w' v.ownBlock → wpList Try.prog ops Q rest (a.put o.dst v') w') : wpList Try.prog ops Q (o :: rest) a w := by
  have h1 : Rest w.heap.size w [0] (.slice (some ⟨g, 0, none⟩) 1 1) := ⟨_, 1, rfl, Nat.le_refl _, by unfold maxLen; omega, (fun h => by cases h), .inr ⟨g, 0, rfl, hr.lt, fun i hi => by
    have h0 : i = 0 := by simpa using hi
    subst h0
    exact hr.cell (i := 0) rfl⟩⟩
  exact wpList_append_rest hgd s x ho base v n xs hs hown [0] _ hx h1 hlen hbase h
def lenOf : Value → Nat
  | .slice _ n _ => n
  | _ => 0
/-- all pending writes appended to a slice of the call's own -/
theorem wpList_append_pend {w : World} {ops : Array Oper} {rest : List Oper} {o : Oper} {a : Act} {Q : Exit → Act → World → Prop} (hgd : o.guard = none) (s x : Operand) (ho : o.op = .call { callee := .builtin .append, args := #[s, x], argTypes := #[23, 23] })
    (base : Nat) (v : Value) (n : Nat) (old : List Value) (hs : a.eval s = v) (hown : w.ownsRow base 76 2 v n old) (ao : Option Addr) (m cap : Nat) (ps : List (Int × List UInt8)) (us : List Value) (hx : a.eval x = .slice ao m cap) (hm : m = ps.length) (hnone : ao = none → m = 0 ∧ cap = 0) (hul : us.length = ps.length)
    (hold : m = 0 ∨ ∃ b off, ao = some ⟨b, off, none⟩ ∧ ∀ (j : Nat) x, (pcells ps us)[j]? = some x → w.cell? ⟨b, off + j, none⟩ = some x ∧ x.oneCell' = true) (hlen : n + m ≤ 65536) (hbase : base ≤ w.heap.size)
    (h : ∀ v' w', w'.ownsRow base 76 2 v' (n + m) (old ++ pcells ps us) → w.grownBy w' v.ownBlock → wpList Try.prog ops Q rest (a.put o.dst v') w') : wpList Try.prog ops Q (o :: rest) a w := by
  obtain ⟨i0, hi, hz0, hz1, hz2⟩ := info_parts Try.info76
  have hlo := pcells_len ps us hul
  cases ao with
  | none =>
    obtain ⟨h6, rfl⟩ := hnone rfl
    subst h6
    have hp : pcells ps us = [] := List.eq_nil_of_length_eq_zero (by omega)
    exact wpList_append_own_none hgd s x 23 ho base 76 i0 2 Try.underlying23 hi v n _ hs hown hx (h v w (by rw [hp]; simpa using hown) ⟨rfl, rfl, rfl, Nat.le_refl _, fun _ _ _ => rfl⟩)
  | some ad =>
    have hcell : ∀ j u, (pcells ps us)[j]? = some u → w.cell? (ad.add j) = some u ∧ u.oneCell' = true := fun j u hj => by
      rcases hold with h0 | ⟨b, off, h5, h6⟩
      · have := (List.getElem?_eq_some_iff.1 hj).1; omega
      · injection h5 with h5
        subst h5
        rw [Addr.add_lit]
        exact h6 j u hj
    refine wpList_append_own w hgd s x 23 ho base 76 i0 _ 2 32 Try.underlying23 hi hz0 hz1 hz2 rfl (by decide) v n _ hs hown ad m cap (pcells ps us) hx (by rw [hlo, hm]) (fun j u hj => (hcell j u hj).1) (fun u hu => ?_) (by unfold maxLen; omega) (by omega) hbase fun v' w' h6 h7 _ => h v' w' h6 h7
    obtain ⟨j, hj⟩ := List.mem_iff_getElem?.1 hu
    exact (hcell j u hj).2
end Go.Proofs.Ytlaaolbdadempaa
