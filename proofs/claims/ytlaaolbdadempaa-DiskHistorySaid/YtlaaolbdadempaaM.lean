/- Pending writes: the cells of a slice of them, a slice that the call itself made. -/
import Derived.Test.YtlaaolbdadempaaK
import Derived.Deep.RegionLawGrows
import Derived.RangeFuncBox
namespace Go.Proofs.Ytlaaolbdadempaa
open Go.RowKit

/-- the cells of pending writes whose bytes lie at the values us -/
def pcells : List (Int × List UInt8) → List Value → List Value
  | p :: ps, u :: us => .int .i64 p.1 :: u :: pcells ps us
  | _, _ => []
theorem pcells_len : ∀ (ps : List (Int × List UInt8)) (us : List Value), us.length = ps.length → (pcells ps us).length = ps.length * 2
  | [], [], _ => rfl
  | p :: ps, u :: us, h => by
    have := pcells_len ps us (by simpa using h)
    simp [pcells, this]; omega
theorem pcells_get : ∀ {ps : List (Int × List UInt8)} {us : List Value} {i : Nat} {p u}, ps[i]? = some p → us[i]? = some u → (pcells ps us)[i * 2]? = some (.int .i64 p.1) ∧ (pcells ps us)[i * 2 + 1]? = some u
  | [], _, i, p, u, h, _ => by simp at h
  | q :: ps, [], i, p, u, _, h => by simp at h
  | q :: ps, v :: us, 0, p, u, h, k => by
    simp at h k
    subst h k
    exact ⟨rfl, rfl⟩
  | q :: ps, v :: us, i + 1, p, u, h, k => by
    have := pcells_get (ps := ps) (us := us) (i := i) (by simpa using h) (by simpa using k)
    rw [show (i + 1) * 2 = i * 2 + 1 + 1 by omega]
    exact this
theorem pcells_append : ∀ (ps qs : List (Int × List UInt8)) (us vs : List Value), us.length = ps.length → pcells (ps ++ qs) (us ++ vs) = pcells ps us ++ pcells qs vs
  | [], qs, [], vs, _ => rfl
  | p :: ps, qs, u :: us, vs, h => by
    simp only [List.cons_append, pcells]
    rw [pcells_append ps qs us vs (by simpa using h)]
theorem pcells_at : ∀ {ps : List (Int × List UInt8)} {us : List Value} {j : Nat} {x : Value}, us.length = ps.length → (pcells ps us)[j]? = some x → ∃ i p u, ps[i]? = some p ∧ us[i]? = some u ∧ ((j = i * 2 ∧ x = .int .i64 p.1) ∨ (j = i * 2 + 1 ∧ x = u))
  | [], [], j, x, _, h => by simp [pcells] at h
  | p :: ps, u :: us, 0, x, _, h => by
    simp [pcells] at h; exact ⟨0, p, u, rfl, rfl, .inl ⟨rfl, h.symm⟩⟩
  | p :: ps, u :: us, 1, x, _, h => by
    simp [pcells] at h; exact ⟨0, p, u, rfl, rfl, .inr ⟨rfl, h.symm⟩⟩
  | p :: ps, u :: us, j + 2, x, hl, h => by
    obtain ⟨i, q, v, h1, h2, h3⟩ := pcells_at (ps := ps) (us := us) (j := j) (x := x) (by simpa using hl) (by simpa [pcells] using h)
    refine ⟨i + 1, q, v, by simpa using h1, by simpa using h2, ?_⟩
    rcases h3 with ⟨rfl, h3⟩ | ⟨rfl, h3⟩
    · exact .inl ⟨by omega, h3⟩
    · exact .inr ⟨by omega, h3⟩
/-- the values at which the bytes of pending writes lie -/
theorem PRestS.vals {S : Nat → Prop} {w : World} {ps a n cap} (h : PRestS S w ps (.slice a n cap)) :
    ∃ (us : List Value), us.length = ps.length ∧ (∀ (i : Nat) p u, ps[i]? = some p → us[i]? = some u → RestS S w p.2 u) ∧ (n = 0 ∨ ∃ b off, a = some ⟨b, off, none⟩ ∧ b < w.heap.size ∧ ∀ (j : Nat) x, (pcells ps us)[j]? = some x → w.cell? ⟨b, off + j, none⟩ = some x ∧ x.oneCell' = true) := by
  obtain ⟨a2, cap2, he, h2, h3, h4, h5⟩ := h
  injection he with he1 he2 he3
  subst he1 he2 he3
  rcases Nat.eq_zero_or_pos ps.length with h0 | h0
  · obtain rfl : ps = [] := List.eq_nil_of_length_eq_zero h0
    exact ⟨[], rfl, fun i p u h => by simp at h, .inl rfl⟩
  rcases h5 with h5 | ⟨b, off, rfl, hb, hc⟩
  · omega
  · have hget : ∀ i, i < ps.length → ((List.range ps.length).map fun i => (w.cell? ⟨b, off + i * 2 + 1, none⟩).getD undef)[i]? = some ((w.cell? ⟨b, off + i * 2 + 1, none⟩).getD undef) := fun i hi => by
      rw [List.getElem?_map, List.getElem?_range hi]; rfl
    have hel : ∀ (i : Nat) p u, ps[i]? = some p → ((List.range ps.length).map fun i => (w.cell? ⟨b, off + i * 2 + 1, none⟩).getD undef)[i]? = some u → w.cell? ⟨b, off + i * 2, none⟩ = some (.int .i64 p.1) ∧ w.cell? ⟨b, off + i * 2 + 1, none⟩ = some u ∧ RestS S w p.2 u := fun i p u hp hu => by
      rw [hget i (List.getElem?_eq_some_iff.1 hp).1] at hu
      obtain ⟨v, h6, h7, h8⟩ := hc i p hp
      rw [h7] at hu
      injection hu with hu
      subst hu
      exact ⟨h6, h7, h8⟩
    refine ⟨(List.range ps.length).map fun i => (w.cell? ⟨b, off + i * 2 + 1, none⟩).getD undef, by simp, fun i p u hp hu => (hel i p u hp hu).2.2, .inr ⟨b, off, rfl, (by
      obtain ⟨v, k6, _⟩ := hc 0 _ (List.getElem?_eq_getElem h0)
      exact lt_of_cell k6), fun j x hj => ?_⟩⟩
    obtain ⟨i, p, u, k1, k2, k3⟩ := pcells_at (by simp) hj
    obtain ⟨k4, k5, k6⟩ := hel i p u k1 k2
    rcases k3 with ⟨rfl, rfl⟩ | ⟨rfl, rfl⟩
    · exact ⟨k4, rfl⟩
    · obtain ⟨a3, c3, rfl, _⟩ := k6
      exact ⟨k5, rfl⟩
theorem prests_of_owns {S : Nat → Prop} {B0 : Nat} {w : World} {v : Value} {n : Nat} {ps : List (Int × List UInt8)} {us : List Value} (h : w.ownsRow B0 76 2 v n (pcells ps us)) (hn : n = ps.length) (hl : us.length = ps.length)
    (hg : ∀ g, v.ownBlock = some g → S g) (hel : ∀ (i : Nat) p u, ps[i]? = some p → us[i]? = some u → RestS S w p.2 u) : PRestS S w ps v := by
  rcases h.2 with ⟨rfl, h1⟩ | ⟨g, cap, cur, rfl, hbg, hg2, hnc, hcm, hcs, htake⟩
  · obtain rfl : ps = [] := List.eq_nil_of_length_eq_zero (by omega)
    exact prests_nil _ _
  · subst hn
    refine ⟨_, cap, rfl, hnc, hcm, (fun h => by cases h), .inr ⟨g, 0, rfl, hg g rfl, fun i p hp => ?_⟩⟩
    have hil := (List.getElem?_eq_some_iff.1 hp).1
    have hu : us[i]? = some (us[i]'(by omega)) := List.getElem?_eq_getElem (by omega)
    obtain ⟨k1, k2⟩ := pcells_get hp hu
    have c1 := World.ownsRow.cells h (g := g) rfl _ _ k1
    have c2 := World.ownsRow.cells h (g := g) rfl _ _ k2
    rw [Addr.add_lit] at c1 c2
    exact ⟨_, c1, by rw [← c2, ← Nat.add_assoc], hel i p _ hp hu⟩
theorem below_grown {w w' : World} (h : w.grownBy w' none) : Below w.heap.size w w' := ⟨h.os, h.tape, h.output, h.size, fun k hk => h.block k hk (by simp)⟩
/-- a write more, at the end -/
theorem prests_more {S : Nat → Prop} {B0 : Nat} {w : World} {v : Value} {ps : List (Int × List UInt8)} {us : List Value} {p : Int × List UInt8} {u : Value} {n : Nat} (h : w.ownsRow B0 76 2 v n (pcells ps us ++ [.int .i64 p.1, u])) (hn : n = ps.length + 1) (hl : us.length = ps.length)
    (hg : ∀ g, v.ownBlock = some g → S g) (hel : ∀ (i : Nat) p u, ps[i]? = some p → us[i]? = some u → RestS S w p.2 u) (hu : RestS S w p.2 u) : PRestS S w (ps ++ [p]) v := by
  refine prests_of_owns (us := us ++ [u]) (n := n) (B0 := B0) (by rw [pcells_append _ _ _ _ hl]; exact h) (by simp [hn]) (by simp [hl]) hg (fun i q x hq hx => ?_)
  rcases Nat.lt_or_ge i ps.length with hi | hi
  · rw [List.getElem?_append_left hi] at hq
    rw [List.getElem?_append_left (by omega)] at hx
    exact hel i q x hq hx
  · rw [List.getElem?_append_right hi] at hq
    rw [List.getElem?_append_right (by omega), hl] at hx
    have h0 : i - ps.length = 0 := by
      have := (List.getElem?_eq_some_iff.1 hq).1; simp at this; omega
    rw [h0] at hq hx
    simp at hq hx
    subst hq hx
    exact hu
theorem owns_block {w w' : World} {B0 e size n m g cap : Nat} {xs : List Value} (h : w.ownsRow B0 e size (.slice (some ⟨g, 0, none⟩) n cap) m xs) (hb : w'.heap[g]? = w.heap[g]?) : w'.ownsRow B0 e size (.slice (some ⟨g, 0, none⟩) n cap) m xs := by
  refine ⟨h.1, ?_⟩
  rcases h.2 with ⟨he, _⟩ | ⟨g2, cap2, cur, he, hbg, hg, hr⟩
  · cases he
  · injection he with he1 he2 he3
    injection he1 with he1
    injection he1 with he1
    subst he1
    exact .inr ⟨g, cap2, cur, by rw [he2, he3], hbg, hb.trans hg, hr⟩
theorem owns_row {w : World} {B0 e size n m g cap : Nat} {xs : List Value} (h : w.ownsRow B0 e size (.slice (some ⟨g, 0, none⟩) n cap) m xs) : ∃ cs, Row w g e cs ∧ ∀ w', Row w' g e cs → w'.ownsRow B0 e size (.slice (some ⟨g, 0, none⟩) n cap) m xs := by
  rcases h.2 with ⟨he, _⟩ | ⟨g2, cap2, cur, he, hbg, hg, hr⟩
  · cases he
  · injection he with he1 he2 he3
    injection he1 with he1
    injection he1 with he1
    subst he1
    exact ⟨cur.toList, by unfold Row; rw [hg], fun w' hw' => owns_block h (by unfold Row at hw'; rw [hw', hg])⟩
theorem owns_ge {w : World} {B0 e size n m g cap : Nat} {xs : List Value} (h : w.ownsRow B0 e size (.slice (some ⟨g, 0, none⟩) n cap) m xs) : B0 ≤ g := (h.lt g rfl).1
theorem Try.info76 : (Try.prog.info? 76).map (fun i => (i.zero, i.size, i.bytes)) = some (some (.agg #[.int .i64 0, .slice none 0 0]), 2, 32) := by kernel_rfl
set_option maxRecDepth 100000 in
/-- a write is appended to pending writes without spare room -/
theorem wpList_append_wr {w : World} {ops : Array Oper} {rest : List Oper} {o : Oper} {a : Act} {Q : Exit → Act → World → Prop} (hgd : o.guard = none) (s x : Operand) (ho : o.op = .call { callee := .builtin .append, args := #[s, x], argTypes := #[23, 23] })
    (ao : Option Addr) (n : Nat) (ps : List (Int × List UInt8)) (us : List Value) (hs : a.eval s = .slice ao n n) (hn : n = ps.length) (hnone : ao = none → n = 0) (hul : us.length = ps.length)
    (hold : n = 0 ∨ ∃ b off, ao = some ⟨b, off, none⟩ ∧ ∀ (j : Nat) x, (pcells ps us)[j]? = some x → w.cell? ⟨b, off + j, none⟩ = some x)
    (g : Nat) (p : Int × List UInt8) (u : Value) (hx : a.eval x = .slice (some ⟨g, 0, none⟩) 1 1) (hr : Row w g 76 [.int .i64 p.1, u]) (hlen : n ≤ 65536) (hu : u.oneCell' = true)
    (h : ∀ g' cap' w', w'.ownsRow w.heap.size 76 2 (.slice (some ⟨g', 0, none⟩) (n + 1) cap') (n + 1) (pcells ps us ++ [.int .i64 p.1, u]) → Below w.heap.size w w' → wpList Try.prog ops Q rest (a.put o.dst (.slice (some ⟨g', 0, none⟩) (n + 1) cap')) w') : wpList Try.prog ops Q (o :: rest) a w := by
  obtain ⟨i0, hi, hz0, hz1, hz2⟩ := info_parts Try.info76
  have hlo := pcells_len ps us hul
  have holds : ∀ b, ao = some b → ∀ j y, (pcells ps us)[j]? = some y → w.cell? (b.add j) = some y := fun b hb j y hj => by
    rcases hold with h0 | ⟨b2, off, he, hc⟩
    · have := (List.getElem?_eq_some_iff.1 hj).1; omega
    · rw [he] at hb; injection hb with hb; subst hb; rw [Addr.add_lit]; exact hc j y hj
  refine wpList_append_grows w hgd s x 23 ho 76 i0 _ 2 32 Try.underlying23 hi hz0 hz1 hz2 rfl (by decide) ao n n (pcells ps us) hs (fun h => ⟨hnone h, hnone h⟩) (by rw [hlo, hn]) holds ⟨g, 0, none⟩ 1 1 [.int .i64 p.1, u] hx rfl
    (fun j y hj => by rw [Addr.add_lit, Nat.zero_add]; exact hr.cell hj) (fun y hy => by simp at hy; rcases hy with rfl | rfl <;> first | rfl | exact hu) (by omega) (by unfold maxLen; omega) (by omega) fun v' w' hown hgr => ?_
  obtain ⟨g', cap', rfl⟩ := ownsRow_succ hown
  exact h g' cap' w' hown (below_grown hgr)
set_option maxRecDepth 100000 in
/-- the same in a region that draws its order -/
theorem step_append_wr {w : World} {ops : Array Oper} {o : Oper} {a : Act} {K : Act → World → Prop} {Q : Exit → Act → World → Prop} {E : Prop} (hgd : o.guard = none) (s x : Operand) (ho : o.op = .call { callee := .builtin .append, args := #[s, x], argTypes := #[23, 23] })
    (ao : Option Addr) (n : Nat) (ps : List (Int × List UInt8)) (us : List Value) (hs : a.eval s = .slice ao n n) (hn : n = ps.length) (hnone : ao = none → n = 0) (hul : us.length = ps.length)
    (hold : n = 0 ∨ ∃ b off, ao = some ⟨b, off, none⟩ ∧ ∀ (j : Nat) x, (pcells ps us)[j]? = some x → w.cell? ⟨b, off + j, none⟩ = some x)
    (g : Nat) (p : Int × List UInt8) (u : Value) (hx : a.eval x = .slice (some ⟨g, 0, none⟩) 1 1) (hr : Row w g 76 [.int .i64 p.1, u]) (hlen : n ≤ 65536) (hu : u.oneCell' = true)
    (h : ∀ g' cap' w', w'.ownsRow w.heap.size 76 2 (.slice (some ⟨g', 0, none⟩) (n + 1) cap') (n + 1) (pcells ps us ++ [.int .i64 p.1, u]) → Below w.heap.size w w' → K (a.put o.dst (.slice (some ⟨g', 0, none⟩) (n + 1) cap')) w') :
    if Region.wanted o (yielded ops a.tmps) = true then Oper.wp Try.prog o a w K Q else E := by
  obtain ⟨i0, hi, hz0, hz1, hz2⟩ := info_parts Try.info76
  have hlo := pcells_len ps us hul
  have holds : ∀ b, ao = some b → ∀ j y, (pcells ps us)[j]? = some y → w.cell? (b.add j) = some y := fun b hb j y hj => by
    rcases hold with h0 | ⟨b2, off, he, hc⟩
    · have := (List.getElem?_eq_some_iff.1 hj).1; omega
    · rw [he] at hb; injection hb with hb; subst hb; rw [Addr.add_lit]; exact hc j y hj
  refine step_append_grows hgd s x 23 ho 76 i0 _ 2 32 Try.underlying23 hi hz0 hz1 hz2 rfl (by decide) ao n n (pcells ps us) hs (fun h => ⟨hnone h, hnone h⟩) (by rw [hlo, hn]) holds ⟨g, 0, none⟩ 1 1 [.int .i64 p.1, u] hx rfl
    (fun j y hj => by rw [Addr.add_lit, Nat.zero_add]; exact hr.cell hj) (fun y hy => by simp at hy; rcases hy with rfl | rfl <;> first | rfl | exact hu) (by omega) (by unfold maxLen; omega) (by omega) fun v' w' hown hgr => ?_
  obtain ⟨g', cap', rfl⟩ := ownsRow_succ hown
  exact h g' cap' w' hown (below_grown hgr)
end Go.Proofs.Ytlaaolbdadempaa
