/- Pending writes: the cells of a slice of them, a slice that the call itself made. -/
import Derived.Deep.RegionLawGrows
import Derived.RangeFuncBox
import Derived.Test.YtlaaolbdadempaaZe4
namespace Go.Proofs.Ytlaaolbdadempaa
open Go.RowKit

/-- the cells of pending writes whose bytes lie at the values us -/
def pcells : List (Int × List UInt8) → List Value → List Value
  | p :: ps, u :: us => .int .i64 p.1 :: u :: pcells ps us
  | _, _ => []
theorem pcells_len : ∀ (ps : List (Int × List UInt8)) (us : List Value), us.length = ps.length → (pcells ps us).length = ps.length * 2
  | [], [], _ => rfl
  | p :: ps, u :: us, h => by
    have := pcells_len ps us (by simpa using h)
    simp [pcells, this]; omega
theorem pcells_get : ∀ {ps : List (Int × List UInt8)} {us : List Value} {i : Nat} {p u}, ps[i]? = some p → us[i]? = some u → (pcells ps us)[i * 2]? = some (.int .i64 p.1) ∧ (pcells ps us)[i * 2 + 1]? = some u
  | [], _, i, p, u, h, _ => by simp at h
  | q :: ps, [], i, p, u, _, h => by simp at h
  | q :: ps, v :: us, 0, p, u, h, k => by
    simp at h k
    subst h k
    exact ⟨rfl, rfl⟩
  | q :: ps, v :: us, i + 1, p, u, h, k => by
    have := pcells_get (ps := ps) (us := us) (i := i) (by simpa using h) (by simpa using k)
    rw [show (i + 1) * 2 = i * 2 + 1 + 1 by omega]
    exact this
theorem pcells_append : ∀ (ps qs : List (Int × List UInt8)) (us vs : List Value), us.length = ps.length → pcells (ps ++ qs) (us ++ vs) = pcells ps us ++ pcells qs vs
  | [], qs, [], vs, _ => rfl
  | p :: ps, qs, u :: us, vs, h => by
    simp only [List.cons_append, pcells]
    rw [pcells_append ps qs us vs (by simpa using h)]
theorem pcells_at : ∀ {ps : List (Int × List UInt8)} {us : List Value} {j : Nat} {x : Value}, us.length = ps.length → (pcells ps us)[j]? = some x → ∃ i p u, ps[i]? = some p ∧ us[i]? = some u ∧ ((j = i * 2 ∧ x = .int .i64 p.1) ∨ (j = i * 2 + 1 ∧ x = u))
  | [], [], j, x, _, h => by simp [pcells] at h
  | p :: ps, u :: us, 0, x, _, h => by
    simp [pcells] at h; exact ⟨0, p, u, rfl, rfl, .inl ⟨rfl, h.symm⟩⟩
  | p :: ps, u :: us, 1, x, _, h => by
    simp [pcells] at h; exact ⟨0, p, u, rfl, rfl, .inr ⟨rfl, h.symm⟩⟩
  | p :: ps, u :: us, j + 2, x, hl, h => by
    obtain ⟨i, q, v, h1, h2, h3⟩ := pcells_at (ps := ps) (us := us) (j := j) (x := x) (by simpa using hl) (by simpa [pcells] using h)
    refine ⟨i + 1, q, v, by simpa using h1, by simpa using h2, ?_⟩
    rcases h3 with ⟨rfl, h3⟩ | ⟨rfl, h3⟩
    · exact .inl ⟨by omega, h3⟩
    · exact .inr ⟨by omega, h3⟩
/-- the values at which the bytes of pending writes lie -/
theorem PRestS.vals {S : Nat → Prop} {w : World} {ps a n cap} (h : PRestS S w ps (.slice a n cap)) :
    ∃ (us : List Value), us.length = ps.length ∧ (∀ (i : Nat) p u, ps[i]? = some p → us[i]? = some u → RestS S w p.2 u) ∧ (n = 0 ∨ ∃ b off, a = some ⟨b, off, none⟩ ∧ b < w.heap.size ∧ ∀ (j : Nat) x, (pcells ps us)[j]? = some x → w.cell? ⟨b, off + j, none⟩ = some x ∧ x.oneCell' = true) := by
  obtain ⟨a2, cap2, he, h2, h3, h4, h5⟩ := h
  injection he with he1 he2 he3
  subst he1 he2 he3
  rcases Nat.eq_zero_or_pos ps.length with h0 | h0
  · obtain rfl : ps = [] := List.eq_nil_of_length_eq_zero h0
    exact ⟨[], rfl, fun i p u h => by simp at h, .inl rfl⟩
  rcases h5 with h5 | ⟨b, off, rfl, hb, hc⟩
  · omega
  · have hget : ∀ i, i < ps.length → ((List.range ps.length).map fun i => (w.cell? ⟨b, off + i * 2 + 1, none⟩).getD undef)[i]? = some ((w.cell? ⟨b, off + i * 2 + 1, none⟩).getD undef) := fun i hi => by
      rw [List.getElem?_map, List.getElem?_range hi]; rfl
    have hel : ∀ (i : Nat) p u, ps[i]? = some p → ((List.range ps.length).map fun i => (w.cell? ⟨b, off + i * 2 + 1, none⟩).getD undef)[i]? = some u → w.cell? ⟨b, off + i * 2, none⟩ = some (.int .i64 p.1) ∧ w.cell? ⟨b, off + i * 2 + 1, none⟩ = some u ∧ RestS S w p.2 u := fun i p u hp hu => by
      rw [hget i (List.getElem?_eq_some_iff.1 hp).1] at hu
      obtain ⟨v, h6, h7, h8⟩ := hc i p hp
      rw [h7] at hu
      injection hu with hu
      subst hu
      exact ⟨h6, h7, h8⟩
    refine ⟨(List.range ps.length).map fun i => (w.cell? ⟨b, off + i * 2 + 1, none⟩).getD undef, by simp, fun i p u hp hu => (hel i p u hp hu).2.2, .inr ⟨b, off, rfl, (by
      obtain ⟨v, k6, _⟩ := hc 0 _ (List.getElem?_eq_getElem h0)
      exact lt_of_cell k6), fun j x hj => ?_⟩⟩
    obtain ⟨i, p, u, k1, k2, k3⟩ := pcells_at (by simp) hj
    obtain ⟨k4, k5, k6⟩ := hel i p u k1 k2
    rcases k3 with ⟨rfl, rfl⟩ | ⟨rfl, rfl⟩
    · exact ⟨k4, rfl⟩
    · obtain ⟨a3, c3, rfl, _⟩ := k6
      exact ⟨k5, rfl⟩
theorem prests_of_owns {S : Nat → Prop} {B0 : Nat} {w : World} {v : Value} {n : Nat} {ps : List (Int × List UInt8)} {us : List Value} (h : w.ownsRow B0 76 2 v n (pcells ps us)) (hn : n = ps.length) (hl : us.length = ps.length)
    (hg : ∀ g, v.ownBlock = some g → S g) (hel : ∀ (i : Nat) p u, ps[i]? = some p → us[i]? = some u → RestS S w p.2 u) : PRestS S w ps v := by
  rcases h.2 with ⟨rfl, h1⟩ | ⟨g, cap, cur, rfl, hbg, hg2, hnc, hcm, hcs, htake⟩
  · obtain rfl : ps = [] := List.eq_nil_of_length_eq_zero (by omega)
    exact prests_nil _ _
  · subst hn
    refine ⟨_, cap, rfl, hnc, hcm, (fun h => by cases h), .inr ⟨g, 0, rfl, hg g rfl, fun i p hp => ?_⟩⟩
    have hil := (List.getElem?_eq_some_iff.1 hp).1
    have hu : us[i]? = some (us[i]'(by omega)) := List.getElem?_eq_getElem (by omega)
    obtain ⟨k1, k2⟩ := pcells_get hp hu
    have c1 := World.ownsRow.cells h (g := g) rfl _ _ k1
    have c2 := World.ownsRow.cells h (g := g) rfl _ _ k2
    rw [Addr.add_lit] at c1 c2
    exact ⟨_, c1, by rw [← c2, ← Nat.add_assoc], hel i p _ hp hu⟩
theorem below_grown {w w' : World} (h : w.grownBy w' none) : Below w.heap.size w w' := ⟨h.os, h.tape, h.output, h.size, fun k hk => h.block k hk (by simp)⟩
/-- a write more, at the end -/
theorem prests_more {S : Nat → Prop} {B0 : Nat} {w : World} {v : Value} {ps : List (Int × List UInt8)} {us : List Value} {p : Int × List UInt8} {u : Value} {n : Nat} (h : w.ownsRow B0 76 2 v n (pcells ps us ++ [.int .i64 p.1, u])) (hn : n = ps.length + 1) (hl : us.length = ps.length)
    (hg : ∀ g, v.ownBlock = some g → S g) (hel : ∀ (i : Nat) p u, ps[i]? = some p → us[i]? = some u → RestS S w p.2 u) (hu : RestS S w p.2 u) : PRestS S w (ps ++ [p]) v := by
  refine prests_of_owns (us := us ++ [u]) (n := n) (B0 := B0) (by rw [pcells_append _ _ _ _ hl]; exact h) (by simp [hn]) (by simp [hl]) hg (fun i q x hq hx => ?_)
  rcases Nat.lt_or_ge i ps.length with hi | hi
  · rw [List.getElem?_append_left hi] at hq
    rw [List.getElem?_append_left (by omega)] at hx
    exact hel i q x hq hx
  · rw [List.getElem?_append_right hi] at hq
    rw [List.getElem?_append_right (by omega), hl] at hx
    have h0 : i - ps.length = 0 := by
      have := (List.getElem?_eq_some_iff.1 hq).1; simp at this; omega
    rw [h0] at hq hx
    simp at hq hx
    subst hq hx
    exact hu
theorem owns_block {w w' : World} {B0 e size n m g cap : Nat} {xs : List Value} (h : w.ownsRow B0 e size (.slice (some ⟨g, 0, none⟩) n cap) m xs) (hb : w'.heap[g]? = w.heap[g]?) : w'.ownsRow B0 e size (.slice (some ⟨g, 0, none⟩) n cap) m xs := by
  refine ⟨h.1, ?_⟩
  rcases h.2 with ⟨he, _⟩ | ⟨g2, cap2, cur, he, hbg, hg, hr⟩
  · cases he
  · injection he with he1 he2 he3
    injection he1 with he1
    injection he1 with he1
    subst he1
    exact .inr ⟨g, cap2, cur, by rw [he2, he3], hbg, hb.trans hg, hr⟩
theorem owns_row {w : World} {B0 e size n m g cap : Nat} {xs : List Value} (h : w.ownsRow B0 e size (.slice (some ⟨g, 0, none⟩) n cap) m xs) : ∃ cs, Row w g e cs ∧ ∀ w', Row w' g e cs → w'.ownsRow B0 e size (.slice (some ⟨g, 0, none⟩) n cap) m xs := by
  rcases h.2 with ⟨he, _⟩ | ⟨g2, cap2, cur, he, hbg, hg, hr⟩
  · cases he
  · injection he with he1 he2 he3
    injection he1 with he1
    injection he1 with he1
    subst he1
    exact ⟨cur.toList, by unfold Row; rw [hg], fun w' hw' => owns_block h (by unfold Row at hw'; rw [hw', hg])⟩
theorem owns_ge {w : World} {B0 e size n m g cap : Nat} {xs : List Value} (h : w.ownsRow B0 e size (.slice (some ⟨g, 0, none⟩) n cap) m xs) : B0 ≤ g := (h.lt g rfl).1
theorem Try.info76 : (Try.prog.info? 76).map (fun i => (i.zero, i.size, i.bytes)) = some (some (.agg #[.int .i64 0, .slice none 0 0]), 2, 32) := by kernel_rfl
set_option maxRecDepth 100000 in
/-- a write is appended to pending writes without spare room -/
theorem wpList_append_wr {w : World} {ops : Array Oper} {rest : List Oper} {o : Oper} {a : Act} {Q : Exit → Act → World → Prop} (hgd : o.guard = none) (s x : Operand) (ho : o.op = .call { callee := .builtin .append, args := #[s, x], argTypes := #[23, 23] })
    (ao : Option Addr) (n : Nat) (ps : List (Int × List UInt8)) (us : List Value) (hs : a.eval s = .slice ao n n) (hn : n = ps.length) (hnone : ao = none → n = 0) (hul : us.length = ps.length)
    (hold : n = 0 ∨ ∃ b off, ao = some ⟨b, off, none⟩ ∧ ∀ (j : Nat) x, (pcells ps us)[j]? = some x → w.cell? ⟨b, off + j, none⟩ = some x)
    (g : Nat) (p : Int × List UInt8) (u : Value) (hx : a.eval x = .slice (some ⟨g, 0, none⟩) 1 1) (hr : Row w g 76 [.int .i64 p.1, u]) (hlen : n ≤ 65536) (hu : u.oneCell' = true)
    (h : ∀ g' cap' w', w'.ownsRow w.heap.size 76 2 (.slice (some ⟨g', 0, none⟩) (n + 1) cap') (n + 1) (pcells ps us ++ [.int .i64 p.1, u]) → Below w.heap.size w w' → wpList Try.prog ops Q rest (a.put o.dst (.slice (some ⟨g', 0, none⟩) (n + 1) cap')) w') : wpList Try.prog ops Q (o :: rest) a w := by
  obtain ⟨i0, hi, hz0, hz1, hz2⟩ := info_parts Try.info76
  have hlo := pcells_len ps us hul
  have holds : ∀ b, ao = some b → ∀ j y, (pcells ps us)[j]? = some y → w.cell? (b.add j) = some y := fun b hb j y hj => by
    rcases hold with h0 | ⟨b2, off, he, hc⟩
    · have := (List.getElem?_eq_some_iff.1 hj).1; omega
    · rw [he] at hb; injection hb with hb; subst hb; rw [Addr.add_lit]; exact hc j y hj
  refine wpList_append_grows w hgd s x 23 ho 76 i0 _ 2 32 Try.underlying23 hi hz0 hz1 hz2 rfl (by decide) ao n n (pcells ps us) hs (fun h => ⟨hnone h, hnone h⟩) (by rw [hlo, hn]) holds ⟨g, 0, none⟩ 1 1 [.int .i64 p.1, u] hx rfl
    (fun j y hj => by rw [Addr.add_lit, Nat.zero_add]; exact hr.cell hj) (fun y hy => by simp at hy; rcases hy with rfl | rfl <;> first | rfl | exact hu) (by omega) (by unfold maxLen; omega) (by omega) fun v' w' hown hgr => ?_
  obtain ⟨g', cap', rfl⟩ := ownsRow_succ hown
  exact h g' cap' w' hown (below_grown hgr)
set_option maxRecDepth 100000 in
/-- the same in a region that draws its order -/
theorem step_append_wr {w : World} {ops : Array Oper} {o : Oper} {a : Act} {K : Act → World → Prop} {Q : Exit → Act → World → Prop} {E : Prop} (hgd : o.guard = none) (s x : Operand) (ho : o.op = .call { callee := .builtin .append, args := #[s, x], argTypes := #[23, 23] })
    (ao : Option Addr) (n : Nat) (ps : List (Int × List UInt8)) (us : List Value) (hs : a.eval s = .slice ao n n) (hn : n = ps.length) (hnone : ao = none → n = 0) (hul : us.length = ps.length)
    (hold : n = 0 ∨ ∃ b off, ao = some ⟨b, off, none⟩ ∧ ∀ (j : Nat) x, (pcells ps us)[j]? = some x → w.cell? ⟨b, off + j, none⟩ = some x)
    (g : Nat) (p : Int × List UInt8) (u : Value) (hx : a.eval x = .slice (some ⟨g, 0, none⟩) 1 1) (hr : Row w g 76 [.int .i64 p.1, u]) (hlen : n ≤ 65536) (hu : u.oneCell' = true)
    (h : ∀ g' cap' w', w'.ownsRow w.heap.size 76 2 (.slice (some ⟨g', 0, none⟩) (n + 1) cap') (n + 1) (pcells ps us ++ [.int .i64 p.1, u]) → Below w.heap.size w w' → K (a.put o.dst (.slice (some ⟨g', 0, none⟩) (n + 1) cap')) w') :
    if Region.wanted o (yielded ops a.tmps) = true then Oper.wp Try.prog o a w K Q else E := by
  obtain ⟨i0, hi, hz0, hz1, hz2⟩ := info_parts Try.info76
  have hlo := pcells_len ps us hul
  have holds : ∀ b, ao = some b → ∀ j y, (pcells ps us)[j]? = some y → w.cell? (b.add j) = some y := fun b hb j y hj => by
    rcases hold with h0 | ⟨b2, off, he, hc⟩
    · have := (List.getElem?_eq_some_iff.1 hj).1; omega
    · rw [he] at hb; injection hb with hb; subst hb; rw [Addr.add_lit]; exact hc j y hj
  refine step_append_grows hgd s x 23 ho 76 i0 _ 2 32 Try.underlying23 hi hz0 hz1 hz2 rfl (by decide) ao n n (pcells ps us) hs (fun h => ⟨hnone h, hnone h⟩) (by rw [hlo, hn]) holds ⟨g, 0, none⟩ 1 1 [.int .i64 p.1, u] hx rfl
    (fun j y hj => by rw [Addr.add_lit, Nat.zero_add]; exact hr.cell hj) (fun y hy => by simp at hy; rcases hy with rfl | rfl <;> first | rfl | exact hu) (by omega) (by unfold maxLen; omega) (by omega) fun v' w' hown hgr => ?_
  obtain ⟨g', cap', rfl⟩ := ownsRow_succ hown
  exact h g' cap' w' hown (below_grown hgr)
end Go.Proofs.Ytlaaolbdadempaa

/- Writes performed on sectors. -/
namespace Go.Proofs.Ytlaaolbdadempaa
open Go.RowKit

def put1 (s : List (List UInt8)) (p : Int × List UInt8) : List (List UInt8) := s.set p.1.toNat (sectorL [s.getD p.1.toNat [], p.2])
def performL (s : List (List UInt8)) (l : List (Int × List UInt8)) : List (List UInt8) := l.foldl put1 s
theorem put1_len (s p) : (put1 s p).length = s.length := by simp [put1]
theorem performL_len : ∀ (l : List (Int × List UInt8)) (s : List (List UInt8)), (performL s l).length = s.length
  | [], _ => rfl
  | p :: l, s => by rw [performL, List.foldl_cons]; exact (performL_len l _).trans (put1_len s p)
theorem performL_step {s : List (List UInt8)} {l : List (Int × List UInt8)} {k : Nat} {p} (h : l[k]? = some p) : performL s (l.take (k + 1)) = put1 (performL s (l.take k)) p := by
  obtain ⟨h1, h2⟩ := List.getElem?_eq_some_iff.1 h
  unfold performL
  rw [List.take_succ_eq_append_getElem h1, List.foldl_append, h2]; rfl
theorem nrest_two {W : World} {x y : List UInt8} {u v : Value} (hx : Rest W.heap.size W x u) (hy : Rest W.heap.size W y v) :
    NRest (W.alloc (.cells #[u, v] 35)).heap.size (W.alloc (.cells #[u, v] 35)) [x, y] (.slice (some ⟨W.heap.size, 0, none⟩) 2 2) := by
  have hr := row_new W 35 [u, v]
  have hb := Joins.below_alloc1 W (.cells #[u, v] 35)
  refine ⟨_, _, rfl, Nat.le_refl _, by simp [maxLen], (fun h => by cases h), .inr ⟨W.heap.size, 0, rfl, hr.lt, fun i z hi => ?_⟩⟩
  rw [Nat.zero_add]
  match i, hi with
  | 0, hi => injection hi with hi; subst hi; exact ⟨u, hr.cell rfl, (hx.stays hb).mono hb.size⟩
  | 1, hi => injection hi with hi; subst hi; exact ⟨v, hr.cell rfl, (hy.stays hb).mono hb.size⟩
theorem nrest_one {W : World} {x : List UInt8} {u : Value} (hx : Rest W.heap.size W x u) :
    NRest (W.alloc (.cells #[u] 35)).heap.size (W.alloc (.cells #[u] 35)) [x] (.slice (some ⟨W.heap.size, 0, none⟩) 1 1) := by
  have hr := row_new W 35 [u]
  have hb := Joins.below_alloc1 W (.cells #[u] 35)
  refine ⟨_, _, rfl, Nat.le_refl _, by simp [maxLen], (fun h => by cases h), .inr ⟨W.heap.size, 0, rfl, hr.lt, fun i z hi => ?_⟩⟩
  rw [Nat.zero_add]
  match i, hi with
  | 0, hi => injection hi with hi; subst hi; exact ⟨u, hr.cell rfl, (hx.stays hb).mono hb.size⟩
def Pf1 (S : Nat → Prop) (n g : Nat) : Nat → Prop := fun b => Ext (Cut S n) n b ∧ b ≠ g
def PfHead (S : Nat → Prop) (secs : List (List UInt8)) (l : List (Int × List UInt8)) (g cap : Nat) (w : World) (s11 : Value) (wr : World) : Prop := ∃ (k : Nat) (vs : List Value), k ≤ l.length ∧ s11 = .int .i64 (k : Int) ∧ Tab (Pf1 S w.heap.size g) g cap wr (performL secs (l.take k)) vs ∧ Below w.heap.size w wr
set_option maxHeartbeats 4000000 in
set_option maxRecDepth 100000 in
theorem perform_call (S : Nat → Prop) (secs : List (List UInt8)) (l : List (Int × List UInt8)) (sv pv : Value) (w : World) (hs : NRestS S w secs sv) (hp : PRest w.heap.size w l pv) (h0 : 0 < secs.length) (h1 : secs.length ≤ 4096)
    (hok : ∀ p ∈ l, hasB secs.length p.1 = true) :
    Calls Try.prog 58 #[sv, pv] w fun e w' => ∃ s', e = .returned s' ∧ NRestS (Ext S w.heap.size) w' (performL secs l) s' ∧ Below w.heap.size w w' := by
  have HCL := Lib.hid (clone_call S secs sv w hs h0 (by omega))
  have HV := Lib.hid hp
  obtain ⟨a, acap, rfl, hc1, hc2⟩ := hs.rest.shape
  obtain ⟨a2, acap2, rfl, hc3, hc4⟩ := hp.shape
  have HOK := Lib.hid hok
  clear hs hp hok
  obtain ⟨m, hm⟩ : ∃ m, m = l.length := ⟨_, rfl⟩
  obtain ⟨n, hn⟩ : ∃ n, n = secs.length := ⟨_, rfl⟩
  rw [← hm] at HV hc4 ⊢
  rw [← hn] at HCL HOK hc2 h0 h1 ⊢
  have HM := Lib.hid hm
  have HN := Lib.hid hn
  clear hm hn
  go_enter Try.func58, Try.ntmps58
  go_wp2_with (go_at_call 79; refine HCL.out.mono ?_; rintro e w1 ⟨g, cap, vs0, rfl, ht, hcm, hg, hb⟩; have HT := Lib.hid (ht.weak (S' := Pf1 S w.heap.size g) (fun b h1 _ => ⟨.inl h1, by have := h1.2; omega⟩)); have HB := Lib.hid hb; have HCM := Lib.hid hcm; clear ht hb hcm)
  go_loopw [11] (fun s11 wr => PfHead S secs l g cap w s11 wr) (fun s11 _ => m - (intOf s11).toNat)
  case atStart => exact ⟨0, vs0, Nat.zero_le _, rfl, HT.out, HB.out⟩
  case round =>
    obtain ⟨k, vs, hk, rfl, ht, hb⟩ := hrel
    rw [← HM.out] at hk
    have HT := Lib.hid ht
    have HB := Lib.hid hb
    clear ht hb
    rcases Nat.lt_or_ge k m with hlt | hge
    · obtain ⟨p, hp⟩ : ∃ p, l[k]? = some p := ⟨_, List.getElem?_eq_getElem (by rw [← HM.out]; exact hlt)⟩
      obtain ⟨b, off, u, rfl, hbl, hru, hcell⟩ := HV.out.at hp
      have HC := Lib.hid (hcell wr HB.out)
      have hru2 := (hru.stays HB.out).mono HB.out.size
      obtain ⟨ua, uc, rfl, hu1, hu2⟩ := hru.shape
      have HRU := Lib.hid hru2
      have HST := Lib.hid (performL_step (s := secs) hp)
      have hat := HOK.out p (List.mem_of_getElem? hp)
      have hat2 : 0 ≤ p.1 ∧ p.1 < (n : Int) := by simpa [hasB] using hat
      obtain ⟨at', data⟩ := p
      obtain ⟨i, rfl⟩ : ∃ i : Nat, at' = i := ⟨at'.toNat, by have := hat2.1; simp only at this; omega⟩
      simp only at hat2 HC HRU hu2 HST
      obtain ⟨xs, hxs⟩ : ∃ xs, xs = performL secs (l.take k) := ⟨_, rfl⟩
      have hxl : xs.length = n := by rw [hxs, performL_len, ← HN.out]
      rw [← hxs] at HT HST
      have hin : i < n := by omega
      obtain ⟨x, hx⟩ : ∃ x, xs[i]? = some x := ⟨_, List.getElem?_eq_getElem (by rw [hxl]; exact hin)⟩
      obtain ⟨xu, hxu, hxr0⟩ := HT.out.el i x hx
      have hxr := hxr0.rest
      obtain ⟨xa, xc, rfl, hx1, hx2⟩ := hxr.shape
      have hkm : (k : Int) < (m : Int) := by omega
      have hk0 : (0 : Int) ≤ (k : Int) := by omega
      have hin2 : (i : Int) < (n : Int) := by omega
      have HPT : Hid (performL secs (l.take (k + 1)) = xs.set i (sectorL [x, data])) := Lib.hid (by rw [HST.out]; unfold put1; simp [List.getD, hx])
      have HXU := Lib.hid hxu
      have HXR := Lib.hid hxr
      clear hru hru2 hcell hp hat hxs hxu hxr hxr0 hat2 hx
      go_wp2_with (refine wpList_load_wr rfl (.tmp 13) rfl b (off + k * 2) (i : Int) (.slice ua data.length uc) rfl HC.out ?_; unfold wrOf)
      obtain ⟨W0, hW0⟩ : ∃ W0, W0 = wr.alloc (.cells #[.int .i64 (i : Int), .slice ua data.length uc] 76) := ⟨_, rfl⟩
      have hb0 : Below wr.heap.size wr W0 := by rw [hW0]; exact Joins.below_alloc1 wr _
      have hrow0 : Row W0 wr.heap.size 76 [.int .i64 (i : Int), .slice ua data.length uc] := by rw [hW0]; exact row_new wr 76 _
      rw [← hW0]
      have HB0 := Lib.hid hb0
      have HR0 := Lib.hid hrow0
      have HT0 := Lib.hid (HT.out.keep hb0)
      have HX0 := Lib.hid ((HXR.out.stays hb0).mono hb0.size)
      have HD0 := Lib.hid ((HRU.out.stays hb0).mono hb0.size)
      have d0 := hrow0.cell (i := 0) rfl
      have d1 := hrow0.cell (i := 1) rfl
      have d2 := HT0.out.cell HXU.out
      have hg0 : g < W0.heap.size := HT0.out.lt
      have hw0 : wr.heap.size < W0.heap.size := hrow0.lt
      clear hW0 hb0 hrow0
      go_region_with (go_at_call 51; refine (sector_call [x, data] _ _ (nrest_two (W := W0.drew) HX0.out HD0.out)).mono ?_; rintro e w4 ⟨g4, rfl, hg4, hrow, hb'⟩; have hb : Below W0.heap.size W0 w4 := below_next (Joins.below_alloc1 W0 _) (below_undrew hb'); have e0 := HR0.out.later hb (i := 0) rfl; have e2 := (HT0.out.keep hb).cell HXU.out; have e3 := (HT0.out.keep hb).free i)
      all_goals
        have hgg : g ≠ g4 := by simp at hg4; omega
        have hset := (HT0.out.keep hb).set (i := i) (by rw [hxl]; exact hin) (rows_rest (S := Pf1 S w.heap.size g) (n := 128) hrow (sectorL_len _) (by omega) ⟨.inr (by have := HB.out.size; have := HB0.out.size; simp at hg4; omega), fun h => hgg h.symm⟩) (fun h => h.2 rfl)
        rw [← HPT.out] at hset
        have HSET := Lib.hid hset
        have HB4 := Lib.hid (below_setCell (below_next (below_next HB.out HB0.out) hb) g i (.slice (some ⟨g4, 0, none⟩) 128 128) hg)
        clear hset hb hb' hrow e0 e2 e3 d0 d1 d2
        go_wp2_with fail
        exact ⟨⟨k + 1, _, by rw [← HM.out]; exact hlt, by go_num, HSET.out, HB4.out⟩, by simp [intOf]; omega⟩
    · obtain rfl : k = m := by omega
      have hT := HT.out
      rw [HM.out, List.take_length] at hT
      have HNR := Lib.hid (hT.nrest (S' := Ext S w.heap.size) HCM.out (.inr hg) (fun b hb _ => by
        rcases hb.1 with h1 | h1
        · exact .inl h1.1
        · exact .inr h1))
      rw [performL_len, ← HN.out] at HNR
      clear hT
      go_wp2_with fail
      go_ret
      exact ⟨_, rfl, HNR.out, HB.out⟩
end Go.Proofs.Ytlaaolbdadempaa

/- Restart and Stop: what they return lies where it lay. -/
namespace Go.Proofs.Ytlaaolbdadempaa
open Go.RowKit

/-- a struct is stored into a block that is known whole; every other block stays -/
theorem wpList_store_ags {ops : Array Oper} {rest : List Oper} {o : Oper} {a : Act} {w : World} {Q : Exit → Act → World → Prop} (hgd : o.guard = none) (T : TypeId) (x y : Operand) (ho : o.op = .store T x y)
    (g : Nat) (new cs : List Value) (hT : (Try.prog.info? T).map (·.size) = some new.length) (hl : cs.length = new.length) (hx : a.eval x = .pointer (some ⟨g, 0, none⟩)) (hy : a.eval y = .agg new.toArray) (hg : Row w g T cs)
    (h1 : new.all (·.oneCell') = true) {B : Nat} {w0 : World} (hb : Below B w0 w) (hB : B ≤ g)
    (h : ∀ w', Row w' g T new → Below B w0 w' → (∀ b, b ≠ g → w'.heap[b]? = w.heap[b]?) → wpList Try.prog ops Q rest (a.put o.dst undef) w') : wpList Try.prog ops Q (o :: rest) a w :=
  wpList_plain hgd fun _ hK => wp_store_row T x y ho g new.toArray hx hy T cs.toArray hg (by rw [hT]; rfl) (by simp [hl]) (by simpa using h1) (hK _ _ (h _ (hg.setRow _) (below_setRow hb _ _ hB) fun b hne => setRow_other w g b _ hne))
set_option maxHeartbeats 2000000 in
set_option maxRecDepth 100000 in
theorem restarts_call (S : Nat → Prop) (d : Dsk) (v : Value) (w : World) (h : DRestS S w d v) :
    Calls Try.prog 24 #[v] w fun e w' => ∃ v', e = .returned v' ∧ DRestS (Ext S w.heap.size) w' (restartD d) v' ∧ Below w.heap.size w w' := by
  obtain ⟨s, p, rfl, hs, hp⟩ := h
  have HS := Lib.hid hs
  obtain ⟨a, cap, rfl, hc1, hc2⟩ := hs.rest.shape
  obtain ⟨a2, cap2, rfl, hc3, hc4⟩ := hp.rest.shape
  clear hs hp
  unfold dskOf dskCells
  go_enter Try.func24, Try.ntmps24
  go_wp2_with fail
  refine bodyPost_ret (v := .agg #[.slice a d.secs.length cap, .slice none 0 0, .int .i64 (-1), .bool false]) (by simp [results, Try.results24, go_sem]) rfl ⟨_, rfl, ?_, below_two w _ _⟩
  exact ⟨_, _, rfl, (HS.out.later (below_two w _ _)).weak (fun b h _ => .inl h.1), prests_nil _ _⟩
set_option maxHeartbeats 4000000 in
set_option maxRecDepth 100000 in
theorem stops_call (S : Nat → Prop) (d : Dsk) (v : Value) (left : Int) (w : World) (h : DRestS S w d v) :
    Calls Try.prog 32 #[v, .int .i64 left] w (AnswersS S w (stopD d left)) := by
  obtain ⟨s, p, rfl, hs, hp⟩ := h
  have HS := Lib.hid hs
  have HP := Lib.hid hp
  have HV : Hid (∀ W, Below w.heap.size w W → Calls Try.prog 53 #[dskOf s p d] W fun e w' => e = .returned (.bool (runsB d)) ∧ Below W.heap.size W w') := Lib.hid (fun W hW => runs_call d _ W ⟨s, p, rfl, hs.rest.keep hW, hp.rest.keep hW⟩)
  obtain ⟨a, cap, rfl, hc1, hc2⟩ := hs.rest.shape
  obtain ⟨a2, cap2, rfl, hc3, hc4⟩ := hp.rest.shape
  clear hs hp
  unfold stopD
  obtain ⟨r, hr⟩ : ∃ r, r = runsB d := ⟨_, rfl⟩
  rw [← hr] at HV ⊢
  clear hr
  unfold dskOf dskCells at *
  have HRB : Hid (Row ((w.alloc (.cells #[.slice a d.secs.length cap, .slice a2 d.pend.length cap2, .int .i64 d.left, .bool d.stop] 25)).alloc (.cells #[.slice none 0 0, .slice none 0 0, .int .i64 0, .bool false] 25)) w.heap.size 25 [.slice a d.secs.length cap, .slice a2 d.pend.length cap2, .int .i64 d.left, .bool d.stop]) := Lib.hid ((row_new w 25 _).keep (Joins.below_alloc1 _ _))
  have HRR := Lib.hid (row_new (w.alloc (.cells #[.slice a d.secs.length cap, .slice a2 d.pend.length cap2, .int .i64 d.left, .bool d.stop] 25)) 25 [.slice none 0 0, .slice none 0 0, .int .i64 0, .bool false])
  have HB0 := Lib.hid (below_two w (.cells #[.slice a d.secs.length cap, .slice a2 d.pend.length cap2, .int .i64 d.left, .bool d.stop] 25) (.cells #[.slice none 0 0, .slice none 0 0, .int .i64 0, .bool false] 25))
  rw [World.size_alloc] at HRR
  cases r
  · go_enter Try.func32, Try.ntmps32
    go_wp2_with fail
    refine (HV.out _ HB0.out).mono ?_
    rintro e w2 ⟨rfl, hb⟩
    have HB := Lib.hid (below_next HB0.out hb)
    have HR2 := Lib.hid (HRR.out.keep hb)
    clear hb HRB HRR HB0
    go_wp2_with (refine wpList_store_ag rfl 25 (.tmp 4) (.tmp 9) rfl (w.heap.size + 1) [.slice none 0 0, .slice none 0 0, .int .i64 0, .bool false] _ size25 (by rfl) rfl rfl HR2.out (by rfl) HB.out (by omega) ?_; intro w3 hr hb hf)
    exact bodyPost_ret (results_dsk Try.results32 _ w3 (w.heap.size + 1) _ rfl rfl _ rfl hr) rfl ⟨_, rfl, drests_zero _ _, hb⟩
  · by_cases hl : left < 0
    · rw [if_pos rfl, if_pos (.inl hl)]
      go_enter Try.func32, Try.ntmps32
      go_wp2_with fail
      refine (HV.out _ HB0.out).mono ?_
      rintro e w2 ⟨rfl, hb⟩
      have HB := Lib.hid (below_next HB0.out hb)
      have HR2 := Lib.hid (HRR.out.keep hb)
      clear hb HRB HRR HB0
      go_wp2_with (refine wpList_store_ag rfl 25 (.tmp 4) (.tmp 16) rfl (w.heap.size + 1) [.slice none 0 0, .slice none 0 0, .int .i64 0, .bool false] _ size25 (by rfl) rfl rfl HR2.out (by rfl) HB.out (by omega) ?_; intro w3 hr hb hf)
      exact bodyPost_ret (results_dsk Try.results32 _ w3 (w.heap.size + 1) _ rfl rfl _ rfl hr) rfl ⟨_, rfl, drests_zero _ _, hb⟩
    · by_cases hl2 : 65536 < left
      · rw [if_pos rfl, if_pos (.inr hl2)]
        go_enter Try.func32, Try.ntmps32
        go_wp2_with fail
        refine (HV.out _ HB0.out).mono ?_
        rintro e w2 ⟨rfl, hb⟩
        have HB := Lib.hid (below_next HB0.out hb)
        have HR2 := Lib.hid (HRR.out.keep hb)
        clear hb HRB HRR HB0
        go_wp2_with (refine wpList_store_ag rfl 25 (.tmp 4) (.tmp 16) rfl (w.heap.size + 1) [.slice none 0 0, .slice none 0 0, .int .i64 0, .bool false] _ size25 (by rfl) rfl rfl HR2.out (by rfl) HB.out (by omega) ?_; intro w3 hr hb hf)
        exact bodyPost_ret (results_dsk Try.results32 _ w3 (w.heap.size + 1) _ rfl rfl _ rfl hr) rfl ⟨_, rfl, drests_zero _ _, hb⟩
      · rw [if_pos rfl, if_neg (by omega)]
        go_enter Try.func32, Try.ntmps32
        go_wp2_with fail
        refine (HV.out _ HB0.out).mono ?_
        rintro e w2 ⟨rfl, hb⟩
        have HB := Lib.hid (below_next HB0.out hb)
        have HR2 := Lib.hid (HRR.out.keep hb)
        have HR1 := Lib.hid (HRB.out.keep hb)
        have hc2 := HR1.out.cell (i := 2) rfl
        have hf2 := HR1.out.free 2
        clear hb HRB HRR HB0
        have HRX := Lib.hid (HR1.out.set (cs' := [.slice a d.secs.length cap, .slice a2 d.pend.length cap2, .int .i64 left, .bool d.stop]) 2 (.int .i64 left) rfl)
        have HRY := Lib.hid (HR2.out.setFar (g' := w.heap.size) 2 (.int .i64 left) (by omega))
        have HBX := Lib.hid (below_setCell HB.out w.heap.size 2 (.int .i64 left) (Nat.le_refl _))
        go_wp2_with (first
          | (refine wpList_load_dsk rfl (.tmp 2) rfl w.heap.size _ (by rfl) rfl HRX.out ?_)
          | (refine wpList_store_ag rfl 25 (.tmp 4) (.tmp 19) rfl (w.heap.size + 1) [.slice a d.secs.length cap, .slice a2 d.pend.length cap2, .int .i64 left, .bool d.stop] _ size25 (by rfl) rfl rfl HRY.out (by rfl) HBX.out (by omega) ?_; intro w3 hr hb hf))
        exact bodyPost_ret (results_dsk Try.results32 _ w3 (w.heap.size + 1) _ rfl rfl _ rfl hr) rfl ⟨_, rfl, ⟨_, _, rfl, (HS.out.later hb).weak (fun b h _ => .inl h.1), (HP.out.later hb).weak (fun b h _ => .inl h.1)⟩, hb⟩
end Go.Proofs.Ytlaaolbdadempaa

/- A write. -/
namespace Go.Proofs.Ytlaaolbdadempaa
open Go.RowKit


set_option maxHeartbeats 1000000 in
set_option maxRecDepth 100000 in
theorem clip_call (a : Option Addr) (n cap : Nat) (w : World) (h : n ≤ cap) (hc : cap ≤ 9223372036854775807) (h0 : a = none → n = 0 ∧ cap = 0) :
    Calls Try.prog 55 #[.slice a n cap] w fun e w' => e = .returned (.slice a n n) ∧ w = w' := by
  cases a with
  | none =>
    obtain ⟨rfl, rfl⟩ := h0 rfl
    go_enter Try.func55, Try.ntmps55
    go_wp2
    go_ret
    exact ⟨rfl, rfl⟩
  | some p =>
    have hi : (n : Int) ≤ (cap : Int) := by omega
    clear h0
    go_enter Try.func55, Try.ntmps55
    go_wp2
    go_ret
    exact ⟨rfl, rfl⟩
def writeD (d : Dsk) (at' : Int) (b : List UInt8) : Dsk × Int :=
  if (runsB d && hasB d.secs.length at') = true then
    (if 128 < b.length then (zeroD, 1) else if 4096 ≤ d.pend.length then (zeroD, 2) else (⟨d.secs, d.pend ++ [(at', sectorL [b])], d.left, d.stop⟩, 0))
  else (zeroD, 40)
set_option maxHeartbeats 4000000 in
set_option maxRecDepth 100000 in
theorem write_call (S : Nat → Prop) (d : Dsk) (v : Value) (at' : Int) (b : List UInt8) (bv : Value) (w : World) (h : DRestS S w d v) (hbv : Rest w.heap.size w b bv) :
    Calls Try.prog 26 #[v, .int .i64 at', bv] w (AnswersS S w (writeD d at' b)) := by
  obtain ⟨s, p, rfl, hs, hp⟩ := h
  have HS := Lib.hid hs
  have HP := Lib.hid hp
  have HBV := Lib.hid hbv
  have HV : Hid (∀ W, Below w.heap.size w W → Calls Try.prog 53 #[dskOf s p d] W fun e w' => e = .returned (.bool (runsB d)) ∧ Below W.heap.size W w') := Lib.hid (fun W hW => runs_call d _ W ⟨s, p, rfl, hs.rest.keep hW, hp.rest.keep hW⟩)
  have HH : Hid (∀ W, Calls Try.prog 54 #[dskOf s p d, .int .i64 at'] W fun e w' => e = .returned (.bool (hasB d.secs.length at')) ∧ Below W.heap.size W w') := Lib.hid (fun W => has_call d _ at' _ W w ⟨s, p, rfl, hs.rest, hp.rest⟩)
  obtain ⟨a, cap, rfl, hc1, hc2⟩ := hs.rest.shape
  obtain ⟨a2, cap2, rfl, hc3, hc4⟩ := hp.rest.shape
  obtain ⟨ba, bc, rfl, hb1, hb2⟩ := hbv.shape
  obtain ⟨us, hul, huel, huc⟩ := hp.vals
  have hnone : a2 = none → d.pend.length = 0 ∧ cap2 = 0 := by
    obtain ⟨a3, c3, he, _, _, h4, _⟩ := hp
    injection he with he1 he2 he3
    subst he1 he3
    exact h4
  have HNONE := Lib.hid hnone
  have HUL := Lib.hid hul
  have HUEL := Lib.hid huel
  have HUC := Lib.hid huc
  clear hs hp hbv hnone hul huel huc
  unfold writeD
  obtain ⟨r, hr⟩ : ∃ r, r = runsB d := ⟨_, rfl⟩
  obtain ⟨r2, hr2⟩ : ∃ r, r = hasB d.secs.length at' := ⟨_, rfl⟩
  rw [← hr] at HV ⊢
  rw [← hr2] at HH ⊢
  clear hr hr2
  unfold dskOf dskCells at *
  have HRB : Hid (Row ((w.alloc (.cells #[.slice a d.secs.length cap, .slice a2 d.pend.length cap2, .int .i64 d.left, .bool d.stop] 25)).alloc (.cells #[.slice none 0 0, .slice none 0 0, .int .i64 0, .bool false] 25)) w.heap.size 25 [.slice a d.secs.length cap, .slice a2 d.pend.length cap2, .int .i64 d.left, .bool d.stop]) := Lib.hid ((row_new w 25 _).keep (Joins.below_alloc1 _ _))
  have HRR := Lib.hid (row_new (w.alloc (.cells #[.slice a d.secs.length cap, .slice a2 d.pend.length cap2, .int .i64 d.left, .bool d.stop] 25)) 25 [.slice none 0 0, .slice none 0 0, .int .i64 0, .bool false])
  have HB0 := Lib.hid (below_two w (.cells #[.slice a d.secs.length cap, .slice a2 d.pend.length cap2, .int .i64 d.left, .bool d.stop] 25) (.cells #[.slice none 0 0, .slice none 0 0, .int .i64 0, .bool false] 25))
  rw [World.size_alloc] at HRR
  cases r
  · rw [Bool.false_and, if_neg (by decide)]
    go_enter Try.func26, Try.ntmps26
    go_wp2_with fail
    refine (HV.out _ HB0.out).mono ?_
    rintro e w2 ⟨rfl, hb⟩
    have HB2 := Lib.hid (below_next HB0.out hb)
    have HRB2 := Lib.hid (HRB.out.keep hb)
    have HRR2 := Lib.hid (HRR.out.keep hb)
    clear hb HRB HRR HB0
    go_wp2_with (refine wpList_store_ag rfl 25 (.tmp 6) (.tmp 18) rfl (w.heap.size + 1) [.slice none 0 0, .slice none 0 0, .int .i64 0, .bool false] _ size25 (by rfl) rfl rfl HRR2.out (by rfl) HB2.out (by omega) ?_; intro w9 hr hb hf)
    exact bodyPost_ret (results_dsk Try.results26 _ w9 (w.heap.size + 1) _ rfl rfl _ rfl hr) rfl ⟨_, rfl, drests_zero _ _, hb⟩
  · cases r2
    · rw [Bool.and_false, if_neg (by decide)]
      go_enter Try.func26, Try.ntmps26
      go_wp2_with fail
      refine (HV.out _ HB0.out).mono ?_
      rintro e w2 ⟨rfl, hb⟩
      have HB2 := Lib.hid (below_next HB0.out hb)
      have HRB2 := Lib.hid (HRB.out.keep hb)
      have HRR2 := Lib.hid (HRR.out.keep hb)
      clear hb HRB HRR HB0
      have c0 := HRB2.out.cell (i := 0) rfl
      have c1 := HRB2.out.cell (i := 1) rfl
      have c2 := HRB2.out.cell (i := 2) rfl
      have c3 := HRB2.out.cell (i := 3) rfl
      go_wp2_with fail
      refine (HH.out w2).mono ?_
      rintro e w3 ⟨rfl, hb⟩
      have HB3 := Lib.hid (below_next HB2.out hb)
      have HRB3 := Lib.hid (HRB2.out.keep hb)
      have HRR3 := Lib.hid (HRR2.out.keep hb)
      have e1 := HRB3.out.cell (i := 1) rfl
      clear hb HRB2 HRR2 HB2 c0 c1 c2 c3
      go_wp2_with (refine wpList_store_ag rfl 25 (.tmp 6) (.tmp 18) rfl (w.heap.size + 1) [.slice none 0 0, .slice none 0 0, .int .i64 0, .bool false] _ size25 (by rfl) rfl rfl HRR3.out (by rfl) HB3.out (by omega) ?_; intro w9 hr hb hf)
      exact bodyPost_ret (results_dsk Try.results26 _ w9 (w.heap.size + 1) _ rfl rfl _ rfl hr) rfl ⟨_, rfl, drests_zero _ _, hb⟩
    · rw [Bool.and_self, if_pos rfl]
      by_cases h128 : 128 < b.length
      · rw [if_pos h128]
        have i128 : (128 : Int) < (b.length : Int) := by omega
        go_enter Try.func26, Try.ntmps26
        go_wp2_with fail
        refine (HV.out _ HB0.out).mono ?_
        rintro e w2 ⟨rfl, hb⟩
        have HB2 := Lib.hid (below_next HB0.out hb)
        have HRB2 := Lib.hid (HRB.out.keep hb)
        have HRR2 := Lib.hid (HRR.out.keep hb)
        clear hb HRB HRR HB0
        have c0 := HRB2.out.cell (i := 0) rfl
        have c1 := HRB2.out.cell (i := 1) rfl
        have c2 := HRB2.out.cell (i := 2) rfl
        have c3 := HRB2.out.cell (i := 3) rfl
        go_wp2_with fail
        refine (HH.out w2).mono ?_
        rintro e w3 ⟨rfl, hb⟩
        have HB3 := Lib.hid (below_next HB2.out hb)
        have HRB3 := Lib.hid (HRB2.out.keep hb)
        have HRR3 := Lib.hid (HRR2.out.keep hb)
        have e1 := HRB3.out.cell (i := 1) rfl
        clear hb HRB2 HRR2 HB2 c0 c1 c2 c3
        go_wp2_with (refine wpList_store_ag rfl 25 (.tmp 6) (.tmp 23) rfl (w.heap.size + 1) [.slice none 0 0, .slice none 0 0, .int .i64 0, .bool false] _ size25 (by rfl) rfl rfl HRR3.out (by rfl) HB3.out (by omega) ?_; intro w9 hr hb hf)
        exact bodyPost_ret (results_dsk Try.results26 _ w9 (w.heap.size + 1) _ rfl rfl _ rfl hr) rfl ⟨_, rfl, drests_zero _ _, hb⟩
      · rw [if_neg h128]
        have i128 : ¬ (128 : Int) < (b.length : Int) := by omega
        by_cases h4 : 4096 ≤ d.pend.length
        · rw [if_pos h4]
          have i4 : (4096 : Int) ≤ (d.pend.length : Int) := by omega
          go_enter Try.func26, Try.ntmps26
          go_wp2_with fail
          refine (HV.out _ HB0.out).mono ?_
          rintro e w2 ⟨rfl, hb⟩
          have HB2 := Lib.hid (below_next HB0.out hb)
          have HRB2 := Lib.hid (HRB.out.keep hb)
          have HRR2 := Lib.hid (HRR.out.keep hb)
          clear hb HRB HRR HB0
          have c0 := HRB2.out.cell (i := 0) rfl
          have c1 := HRB2.out.cell (i := 1) rfl
          have c2 := HRB2.out.cell (i := 2) rfl
          have c3 := HRB2.out.cell (i := 3) rfl
          go_wp2_with fail
          refine (HH.out w2).mono ?_
          rintro e w3 ⟨rfl, hb⟩
          have HB3 := Lib.hid (below_next HB2.out hb)
          have HRB3 := Lib.hid (HRB2.out.keep hb)
          have HRR3 := Lib.hid (HRR2.out.keep hb)
          have e1 := HRB3.out.cell (i := 1) rfl
          clear hb HRB2 HRR2 HB2 c0 c1 c2 c3
          go_wp2_with (refine wpList_store_ag rfl 25 (.tmp 6) (.tmp 29) rfl (w.heap.size + 1) [.slice none 0 0, .slice none 0 0, .int .i64 0, .bool false] _ size25 (by rfl) rfl rfl HRR3.out (by rfl) HB3.out (by omega) ?_; intro w9 hr hb hf)
          exact bodyPost_ret (results_dsk Try.results26 _ w9 (w.heap.size + 1) _ rfl rfl _ rfl hr) rfl ⟨_, rfl, drests_zero _ _, hb⟩
        · rw [if_neg h4]
          have i4 : ¬ (4096 : Int) ≤ (d.pend.length : Int) := by omega
          go_enter Try.func26, Try.ntmps26
          go_wp2_with fail
          refine (HV.out _ HB0.out).mono ?_
          rintro e w2 ⟨rfl, hb⟩
          have HB2 := Lib.hid (below_next HB0.out hb)
          have HRB2 := Lib.hid (HRB.out.keep hb)
          have HRR2 := Lib.hid (HRR.out.keep hb)
          clear hb HRB HRR HB0
          have c0 := HRB2.out.cell (i := 0) rfl
          have c1 := HRB2.out.cell (i := 1) rfl
          have c2 := HRB2.out.cell (i := 2) rfl
          have c3 := HRB2.out.cell (i := 3) rfl
          go_wp2_with fail
          refine (HH.out w2).mono ?_
          rintro e w3 ⟨rfl, hb⟩
          have HB3 := Lib.hid (below_next HB2.out hb)
          have HRB3 := Lib.hid (HRB2.out.keep hb)
          have HRR3 := Lib.hid (HRR2.out.keep hb)
          have e1 := HRB3.out.cell (i := 1) rfl
          clear hb HRB2 HRR2 HB2 c0 c1 c2 c3
          have HOLD3 : Hid (d.pend.length = 0 ∨ ∃ b off, a2 = some ⟨b, off, none⟩ ∧ ∀ W, Below w.heap.size w W → ∀ (j : Nat) x, (pcells d.pend us)[j]? = some x → W.cell? ⟨b, off + j, none⟩ = some x) := Lib.hid (by
            rcases HUC.out with h0 | ⟨b1, o1, h1, h2, h3⟩
            · exact .inl h0
            · exact .inr ⟨b1, o1, h1, fun W hW j x hj => (hW.cell (p := ⟨b1, o1 + j, none⟩) h2).trans (h3 j x hj).1⟩)
          go_wp2_with (first
            | (go_at_call 55; refine (clip_call a2 d.pend.length cap2 _ hc4 hc3 HNONE.out).mono ?_; rintro e w4 ⟨rfl, rfl⟩)
            | (go_at_call 51; refine (sector_call [b] _ _ (nrest_one (W := w3) ((HBV.out.stays HB3.out).mono HB3.out.size))).mono ?_; rintro e w5 ⟨g5, rfl, hg5, hrow5, hb5⟩; have HR5 := Lib.hid hrow5; have HB5 := Lib.hid (below_next (Joins.below_alloc1 w3 _) hb5); clear hrow5 hb5; have HB6 := Lib.hid (below_next HB5.out (Joins.below_alloc1 w5 (.cells #[.int .i64 at', .slice (some ⟨g5, 0, none⟩) 128 128] 76))))
            | (refine wpList_append_wr rfl (.tmp 32) (.tmp 38) rfl a2 d.pend.length d.pend us rfl rfl (fun h => (HNONE.out h).1) HUL.out (HOLD3.out.imp id (fun ⟨b1, o1, h1, h2⟩ => ⟨b1, o1, h1, h2 _ (below_next HB3.out HB6.out)⟩)) w5.heap.size (at', sectorL [b]) (.slice (some ⟨g5, 0, none⟩) 128 128) rfl (row_new w5 76 _) (by omega) rfl ?_; intro g7 cap7 w7 hown hb7; have HOWN := Lib.hid hown; have HB7 := Lib.hid (below_next HB6.out hb7); have HG7 := Lib.hid (owns_ge hown); have c71 := (HRB3.out.keep HB7.out).cell (i := 1) rfl; have f71 := (HRB3.out.keep HB7.out).free 1; have HR7 := Lib.hid ((HR5.out.keep (Joins.below_alloc1 w5 _)).keep hb7); have HRX := Lib.hid ((HRB3.out.keep HB7.out).set (cs' := [.slice a d.secs.length cap, .slice (some ⟨g7, 0, none⟩) (d.pend.length + 1) cap7, .int .i64 d.left, .bool d.stop]) 1 (.slice (some ⟨g7, 0, none⟩) (d.pend.length + 1) cap7) rfl); have HRY := Lib.hid ((HRR3.out.keep HB7.out).setFar (g' := w.heap.size) 1 (.slice (some ⟨g7, 0, none⟩) (d.pend.length + 1) cap7) (by omega)); have HBX := Lib.hid (below_setCell (below_next HB3.out HB7.out) w.heap.size 1 (.slice (some ⟨g7, 0, none⟩) (d.pend.length + 1) cap7) (Nat.le_refl _)); clear hown hb7)
            | (refine wpList_load_dsk rfl (.tmp 3) rfl w.heap.size _ (by rfl) rfl HRX.out ?_)
            | (refine wpList_store_ag rfl 25 (.tmp 6) (.tmp 41) rfl (w.heap.size + 1) [.slice a d.secs.length cap, .slice (some ⟨g7, 0, none⟩) (d.pend.length + 1) cap7, .int .i64 d.left, .bool d.stop] _ size25 (by rfl) rfl rfl HRY.out (by rfl) HBX.out (by omega) ?_; intro w9 hr hb hf))
          have hw3 : w.heap.size + 1 < w3.heap.size := HRR3.out.lt
          have h59 : Row w9 g5 5 (cellsOf (sectorL [b])) := hf g5 5 _ (by have := hg5; simp at this; omega) (HR7.out.setFar 1 _ (by have := hg5; simp at this; omega))
          obtain ⟨cs7, r7, k7⟩ := owns_row HOWN.out
          have h79 := k7 w9 (hf g7 76 cs7 (by have := HG7.out; have := HB5.out.size; simp at *; omega) (r7.setFar 1 _ (by have := HG7.out; have := HB5.out.size; simp at *; omega)))
          have hp9 : PRestS (Ext S w.heap.size) w9 (d.pend ++ [(at', sectorL [b])]) (.slice (some ⟨g7, 0, none⟩) (d.pend.length + 1) cap7) := prests_more h79 rfl HUL.out (fun g h => .inr (by cases h; have := HG7.out; have := HB5.out.size; simp at *; omega)) (fun i q x hq hx => ((HUEL.out i q x hq hx).later hb).weak (fun b h _ => .inl h.1)) (rows_rest (n := 128) h59 (sectorL_len _) (by omega) (.inr (by have := hg5; simp at this; omega)))
          exact bodyPost_ret (results_dsk Try.results26 _ w9 (w.heap.size + 1) _ rfl rfl _ rfl hr) rfl ⟨_, rfl, ⟨_, _, rfl, (HS.out.later hb).weak (fun b h _ => .inl h.1), hp9⟩, hb⟩
end Go.Proofs.Ytlaaolbdadempaa

/- A disk that stops in a sync. -/
namespace Go.Proofs.Ytlaaolbdadempaa
open Go.RowKit

theorem cut3 {A B C : Type} {F : A → B → C → Prop} (G : A → B → C → Prop) {R : Prop} (rest : (∀ a b c, F a b c → G a b c) → R) (kk : ∀ a b c, F a b c → G a b c) : R := rest kk
/-- the write that is torn -/
def torn (p : Int × List UInt8) : Int × List UInt8 := (p.1, p.2.take 64)
def haltL (d : Dsk) (k : Nat) (p : Int × List UInt8) : List (Int × List UInt8) := d.pend.take k ++ [torn p]
def haltD (d : Dsk) (k : Nat) (p : Int × List UInt8) : Dsk := ⟨performL d.secs (haltL d k p), [], 0, true⟩
theorem row_set0 {w : World} {g T : Nat} {x y z : Value} (h : Row w g T [x, y]) : Row (w.setCell ⟨g, 1, none⟩ z) g T [x, z] := h.set 1 z rfl
theorem below_drew {B : Nat} {w w' : World} (h : Below B w w') : Below B w w'.drew := ⟨h.os, h.tape, h.output, h.size, h.block⟩
theorem take_get {α} {xs : List α} {k i : Nat} {x : α} (h : (xs.take k)[i]? = some x) : xs[i]? = some x := by
  rw [List.getElem?_take] at h; split at h
  · exact h
  · cases h
theorem pcells_take : ∀ (ps : List (Int × List UInt8)) (us : List Value) (k : Nat), us.length = ps.length → pcells (ps.take k) (us.take k) = (pcells ps us).take (k * 2)
  | [], [], k, _ => by simp [pcells]
  | p :: ps, u :: us, 0, _ => by simp [pcells]
  | p :: ps, u :: us, k + 1, h => by
    have := pcells_take ps us k (by simpa using h)
    rw [show (k + 1) * 2 = k * 2 + 1 + 1 by omega]
    simp [pcells, this]
set_option maxHeartbeats 4000000 in
set_option maxRecDepth 100000 in
theorem halt_call (S : Nat → Prop) (d : Dsk) (v : Value) (k : Nat) (p : Int × List UInt8) (w : World) (h : DRestS S w d v) (hk : d.left = (k : Int)) (hp : d.pend[k]? = some p) (hp128 : p.2.length = 128) (h0 : 0 < d.secs.length) (h1 : d.secs.length ≤ 4096)
    (hpl : d.pend.length ≤ 4096) (hok : ∀ q ∈ d.pend, hasB d.secs.length q.1 = true) :
    Calls Try.prog 57 #[v] w fun e w' => ∃ v', e = .returned v' ∧ DRestS (Ext S w.heap.size) w' (haltD d k p) v' ∧ Below w.heap.size w w' := by
  obtain ⟨s, pv, rfl, hs, hpr⟩ := h
  have HS := Lib.hid hs
  obtain ⟨a, cap, rfl, hc1, hc2⟩ := hs.rest.shape
  obtain ⟨a2, cap2, rfl, hc3, hc4⟩ := hpr.rest.shape
  obtain ⟨us, hul, huel, huc⟩ := hpr.vals
  obtain ⟨b, off, u, rfl, hbl, hru, hcell⟩ := hpr.rest.at hp
  obtain ⟨ua, uc, rfl, hu1, hu2⟩ := hru.shape
  obtain ⟨ub, uo, rfl, hul2⟩ : ∃ ub uo, ua = some ⟨ub, uo, none⟩ ∧ 0 < p.2.length := by
    obtain ⟨a3, c3, he, _, _, _, h5⟩ := hru
    injection he with he1 he2 he3
    subst he1
    rcases h5 with h5 | ⟨b3, o3, rfl, _⟩
    · omega
    · exact ⟨b3, o3, rfl, by omega⟩
  have hkl : k < d.pend.length := (List.getElem?_eq_some_iff.1 hp).1
  have HPERF : Hid (∀ S' W sv lv, NRestS S' W d.secs sv → PRest W.heap.size W (haltL d k p) lv → Calls Try.prog 58 #[sv, lv] W fun e w' => ∃ s', e = .returned s' ∧ NRestS (Ext S' W.heap.size) w' (performL d.secs (haltL d k p)) s' ∧ Below W.heap.size W w') :=
    Lib.hid (fun S' W sv lv h2 h3 => perform_call S' d.secs _ sv lv W h2 h3 h0 h1 (fun q hq => by
      unfold haltL at hq
      rcases List.mem_append.1 hq with hq | hq
      · exact hok q (List.mem_of_mem_take hq)
      · simp at hq; subst hq; exact hok p (List.mem_of_getElem? hp)))
  have HRU := Lib.hid hru
  have HUL := Lib.hid hul
  have HUEL := Lib.hid huel
  have HC := Lib.hid hcell
  have HP := Lib.hid hp
  obtain ⟨n, hn⟩ : ∃ n, n = d.pend.length := ⟨_, rfl⟩
  have HOLD : Hid (∀ W, Below w.heap.size w W → ∀ (j : Nat) x, (pcells (d.pend.take k) (us.take k))[j]? = some x → W.cell? ⟨b, off + j, none⟩ = some x) := Lib.hid (fun W hW j x hj => by
    rw [pcells_take _ _ _ hul] at hj
    have hj := take_get hj
    rcases huc with h2 | ⟨b3, o3, he, h3, h4⟩
    · omega
    · injection he with he; injection he with he1 he2; subst he1 he2
      exact (hW.cell (p := ⟨b, off + j, none⟩) h3).trans (h4 j x hj).1)
  rw [← hn] at hpl hkl hc4 ⊢
  have HN := Lib.hid hn
  unfold dskOf dskCells
  rw [hk]
  have hkn : (k : Int) < (n : Int) := by omega
  have hk0 : (0 : Int) ≤ (k : Int) := by omega
  clear hs hpr hul huel huc hru hcell hp hn hok hk
  obtain ⟨at', data⟩ := p
  simp only at hp128 hu2 HRU HC
  rw [hp128] at HC hu2 HRU
  go_enter Try.func57, Try.ntmps57
  go_wp2_with (refine wpList_load_wr rfl (.tmp 9) rfl b (off + k * 2) at' (.slice (some ⟨ub, uo, none⟩) 128 uc) rfl (HC.out _ (below_two w _ _)) ?_; unfold wrOf)
  have hw0 : Row (((w.alloc (.cells #[.slice a d.secs.length cap, .slice (some ⟨b, off, none⟩) n cap2, .int .i64 (k : Int), .bool d.stop] 25)).alloc (.cells #[.slice none 0 0, .slice none 0 0, .int .i64 0, .bool false] 25)).alloc (.cells #[.int .i64 at', .slice (some ⟨ub, uo, none⟩) 64 uc] 76)) w.heap.size 25 [.slice a d.secs.length cap, .slice (some ⟨b, off, none⟩) n cap2, .int .i64 (k : Int), .bool d.stop] := ((row_new w 25 _).keep (Joins.below_alloc1 _ _)).keep (Joins.below_alloc1 _ _)
  have hw1 : Row (((w.alloc (.cells #[.slice a d.secs.length cap, .slice (some ⟨b, off, none⟩) n cap2, .int .i64 (k : Int), .bool d.stop] 25)).alloc (.cells #[.slice none 0 0, .slice none 0 0, .int .i64 0, .bool false] 25)).alloc (.cells #[.int .i64 at', .slice (some ⟨ub, uo, none⟩) 64 uc] 76)) (w.heap.size + 1) 25 [.slice none 0 0, .slice none 0 0, .int .i64 0, .bool false] := by
    have := (row_new (w.alloc (.cells #[.slice a d.secs.length cap, .slice (some ⟨b, off, none⟩) n cap2, .int .i64 (k : Int), .bool d.stop] 25)) 25 [.slice none 0 0, .slice none 0 0, .int .i64 0, .bool false]).keep (Joins.below_alloc1 _ (.cells #[.int .i64 at', .slice (some ⟨ub, uo, none⟩) 64 uc] 76))
    rwa [World.size_alloc] at this
  have hw2 : Row (((w.alloc (.cells #[.slice a d.secs.length cap, .slice (some ⟨b, off, none⟩) n cap2, .int .i64 (k : Int), .bool d.stop] 25)).alloc (.cells #[.slice none 0 0, .slice none 0 0, .int .i64 0, .bool false] 25)).alloc (.cells #[.int .i64 at', .slice (some ⟨ub, uo, none⟩) 64 uc] 76)) (w.heap.size + 1 + 1) 76 [.int .i64 at', .slice (some ⟨ub, uo, none⟩) 64 uc] := by
    have := row_new ((w.alloc (.cells #[.slice a d.secs.length cap, .slice (some ⟨b, off, none⟩) n cap2, .int .i64 (k : Int), .bool d.stop] 25)).alloc (.cells #[.slice none 0 0, .slice none 0 0, .int .i64 0, .bool false] 25)) 76 [.int .i64 at', .slice (some ⟨ub, uo, none⟩) 64 uc]
    rwa [World.size_alloc, World.size_alloc] at this
  have hbw := below_next (below_two w (.cells #[.slice a d.secs.length cap, .slice (some ⟨b, off, none⟩) n cap2, .int .i64 (k : Int), .bool d.stop] 25) (.cells #[.slice none 0 0, .slice none 0 0, .int .i64 0, .bool false] 25)) (Joins.below_alloc1 _ (.cells #[.int .i64 at', .slice (some ⟨ub, uo, none⟩) 64 uc] 76))
  generalize ((w.alloc (.cells #[.slice a d.secs.length cap, .slice (some ⟨b, off, none⟩) n cap2, .int .i64 (k : Int), .bool d.stop] 25)).alloc (.cells #[.slice none 0 0, .slice none 0 0, .int .i64 0, .bool false] 25)).alloc (.cells #[.int .i64 at', .slice (some ⟨ub, uo, none⟩) 64 uc] 76) = W0 at hw0 hw1 hw2 hbw ⊢
  have HR0 := Lib.hid hw0
  have HR1 := Lib.hid hw1
  have HR2 := Lib.hid hw2
  have HB0 := Lib.hid hbw
  have d1 := hw0.cell (i := 1) rfl
  have d2 := hw0.cell (i := 2) rfl
  have d3 := hw2.cell (i := 0) rfl
  have d4 := hw2.cell (i := 1) rfl
  have hsz := hw2.lt
  have hkc : k ≤ cap2 := by omega
  have hs1 : w.heap.size < W0.heap.size := by omega
  have hs2 : w.heap.size + 1 < W0.heap.size := by omega
  clear hw0 hw1 hw2 hbw
  refine' cut3 (F := fun (g7 cap7 : Nat) (w7 : World) => w7.ownsRow W0.heap.size 76 2 (.slice (some ⟨g7, 0, none⟩) (k + 1) cap7) (k + 1) (pcells (d.pend.take k) (us.take k) ++ [.int .i64 at', .slice (some ⟨ub, uo, none⟩) 64 uc]) ∧ Below W0.heap.size W0 w7) _ ?rest ?kk
  case rest =>
    intro K
    go_region_law (refine step_append_wr rfl (.tmp 21) (.tmp 23) rfl (some ⟨b, off, none⟩) k (d.pend.take k) (us.take k) (by simp [Act.eval, Act.put]) (by rw [List.length_take, ← HN.out]; omega) (fun h => by cases h) (by rw [List.length_take, List.length_take, HUL.out]) (.inr ⟨b, off, rfl, HOLD.out _ (below_next (below_drew HB0.out) (Joins.below_alloc1 _ _))⟩) W0.heap.size (at', data.take 64) (.slice (some ⟨ub, uo, none⟩) 64 uc) (by simp [Act.eval, Act.put]) (row_new W0.drew 76 _) (by omega) rfl ?_; intro g7 cap7 w7 hown hb7)
    all_goals exact K g7 cap7 w7 ⟨Joins.ownsRow_le hown (by simp), below_next (Joins.below_alloc1 W0 _) (below_undrew hb7)⟩
  case kk =>
    rintro g7 cap7 w7 ⟨hown, hb7⟩
    have HB7 := Lib.hid (below_next HB0.out hb7)
    have hg7 := owns_ge hown
    have h7 : Rest w7.heap.size w7 data (.slice (some ⟨ub, uo, none⟩) data.length uc) := by rw [hp128]; exact (HRU.out.stays HB7.out).mono HB7.out.size
    have hpr : PRest w7.heap.size w7 (haltL d k (at', data)) (.slice (some ⟨g7, 0, none⟩) (k + 1) cap7) := by
      have := prests_more (S := fun b => b < w7.heap.size) (p := torn (at', data)) hown (by rw [List.length_take, ← HN.out]; omega) (by rw [List.length_take, List.length_take, HUL.out]) (fun g h => by cases h; exact (hown.lt g7 rfl).2)
        (fun i q x hq hx => (((HUEL.out i q x (take_get hq) (take_get hx)).later HB7.out).rest))
        (rest_part h7 0 64 uc (by omega) (by omega) (Nat.le_refl _))
      exact this
    have HPR := Lib.hid hpr
    have HSL := Lib.hid (HS.out.later HB7.out)
    have e0 := (HR0.out.keep hb7).cell (i := 0) rfl
    have HRR := Lib.hid (HR1.out.keep hb7)
    clear hpr hown hb7 d1 d2 d3 d4
    go_wp2_with (first
      | (go_at_call 58; refine (HPERF.out _ w7 _ _ HSL.out HPR.out).mono ?_; rintro e w8 ⟨s', rfl, hns, hb⟩; obtain ⟨sa, sc, rfl, -, -⟩ := hns.rest.shape; have HNS := Lib.hid hns; have HB8 := Lib.hid (below_next HB7.out hb); have HRR8 := Lib.hid (HRR.out.keep hb); clear hns hb)
      | (refine wpList_store_ags rfl 25 (.tmp 2) (.tmp 29) rfl (w.heap.size + 1) [.slice sa (performL d.secs (haltL d k (at', data))).length sc, .slice none 0 0, .int .i64 0, .bool true] _ size25 (by rfl) rfl rfl HRR8.out (by rfl) HB8.out (by omega) ?_; intro w9 hr hb hf))
    have hns9 : NRestS (Ext S w.heap.size) w9 (performL d.secs (haltL d k (at', data))) (.slice sa (performL d.secs (haltL d k (at', data))).length sc) :=
      (HNS.out.keep (.far (w.heap.size + 1) (fun hh => by
        rcases hh with h1 | h1
        · have := h1.2; omega
        · have := HB7.out.size; have := HRR.out.lt; omega) hf)).weak (fun b hh _ => by
        rcases hh with h1 | h1
        · exact .inl h1.1
        · exact .inr (by have := HB7.out.size; omega))
    exact bodyPost_ret (results_cell_row Try.results57 _ w9 (w.heap.size + 1) 25 _ (0, 0) _ rfl hr Try.underlying25 rfl (by rw [size25]; rfl)) rfl ⟨_, rfl, ⟨_, _, rfl, hns9, prests_nil _ _⟩, hb⟩
end Go.Proofs.Ytlaaolbdadempaa
