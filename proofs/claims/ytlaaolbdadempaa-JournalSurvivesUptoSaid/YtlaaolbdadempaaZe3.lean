/- Arguments that are numbers, bytes, disks, opened. -/
import Derived.ProofKit
import Derived.OpenShut
import Derived.Lib.SmallJoins
import Derived.Carry
import Derived.Test.YtlaaolbdadempaaZe2
namespace Go.Proofs.Ytlaaolbdadempaa
open Go.RowKit Go.ChangeShapes Go.WideShapes Go.ChangeAt

theorem cells3 : Try.prog.cellsOf 3 = 1 := by kernel_rfl
theorem cells4 : Try.prog.cellsOf 4 = 1 := by kernel_rfl
theorem cells5 : Try.prog.cellsOf 5 = 1 := by kernel_rfl
theorem cells22 : Try.prog.cellsOf 22 = 1 := by kernel_rfl
theorem cells23 : Try.prog.cellsOf 23 = 1 := by kernel_rfl
theorem cells35 : Try.prog.cellsOf 35 = 1 := by kernel_rfl
theorem cells76 : Try.prog.cellsOf 76 = 2 := by kernel_rfl
theorem cells25 : Try.prog.cellsOf 25 = 4 := by kernel_rfl
theorem Try.laidOut : laidOutB Try.prog = true := by kernel_rfl
theorem Try.own : ownKnob Try.prog.godebug = none := by kernel_rfl
theorem Try.read25 : Try.prog.readableRec 25 = true := by kernel_rfl
theorem Try.read35 : Try.prog.readableRec 35 = true := by kernel_rfl
theorem spot_none {w : World} {a : Addr} {v : Value} (h : w.cell? a = some v) : a.spot = none := by
  cases hs : a.spot with
  | none => rfl
  | some x =>
    unfold World.cell? at h
    split at h
    · rw [hs] at h; simp at h
    · cases h
theorem addr_eta {a : Addr} (h : a.spot = none) : a = ⟨a.block, a.off, none⟩ := by
  obtain ⟨b, o, s⟩ := a
  simp at h; subst h; rfl

section
variable {H : Type} {enc : TypeId × Value → H} {W : World}
set_option maxRecDepth 100000 in
/-- a slice, opened: each element is read by itself -/
theorem open_slice {t e : TypeId} {k : Nat} (ht : Try.prog.underlying t = some (.slice e)) (hk : Try.prog.cellsOf e = k) {fuel : Nat} {cs : List Value} {x : DataW H × List MemPlace}
    (h : DataW.trod enc Try.prog W 0 (fun _ => true) true fuel t cs = some x) :
    cs = [.slice none 0 0] ∨ ∃ (a : Addr) (len cap n2 : Nat), fuel = n2 + 1 ∧ cs = [.slice (some a) len cap] ∧ len ≤ cap ∧ cap ≤ maxLen ∧
      ∀ i, i < len → ∃ cs2 y, cs2.length = k ∧ (∀ j, j < k → W.cell? (a.add (i * k + j)) = cs2[j]?) ∧ DataW.trod enc Try.prog W 0 (fun _ => true) true n2 e cs2 = some y := by
  rcases DataW.trod_slice ht h with ⟨e3, _⟩ | ⟨a, len, cap, elems, rest, n2, hfu, e3, _, _, hl, hcm, hel, hbind, _, _⟩
  · exact .inl e3
  · refine .inr ⟨a, len, cap, n2, hfu, e3, hl, hcm, fun i hi => ?_⟩
    have hb := hbind i hi
    rw [hk] at hb
    have hsome : elems[i]? = some (elems[i]'(by omega)) := List.getElem?_eq_getElem (by omega)
    rw [hsome] at hb
    cases hcs : W.cells? 0 (a.add (i * k)) k with
    | none => rw [hcs] at hb; cases hb
    | some cs2 =>
      rw [hcs] at hb
      obtain ⟨_, hlen, hat⟩ := World.cells?_some hcs
      refine ⟨cs2, _, hlen, fun j hj => ?_, hb⟩
      have h0 := hat j hj
      rw [Go.Deep.add_add] at h0
      exact h0
set_option maxRecDepth 100000 in
theorem open_bytes {fuel : Nat} {cs : List Value} {x : DataW H × List MemPlace} (h : DataW.trod enc Try.prog W 0 (fun _ => true) true fuel 35 cs = some x) :
    ∃ bs u, cs = [u] ∧ Rest W.heap.size W bs u := by
  rcases open_slice Try.underlying35 cells5 h with rfl | ⟨a, len, cap, n2, _, rfl, hl, hcm, hel⟩
  · exact ⟨[], _, rfl, rest_nil _ _⟩
  · have hex : ∀ i, ∃ n : Nat, i < len → n < 256 ∧ W.cell? (a.add i) = some (.int .u8 (n : Int)) := by
      intro i
      by_cases hi : i < len
      · obtain ⟨cs2, y, hlen, hat, hb⟩ := hel i hi
        obtain ⟨k, e0, _, wk⟩ := DataW.trod_int Try.underlying5 hb
        have hk := bounds_u8 wk
        have h0 := hat 0 (by omega)
        refine ⟨k.toNat, fun _ => ⟨by omega, ?_⟩⟩
        rw [show a.add i = a.add (i * 1 + 0) by rw [Nat.mul_one, Nat.add_zero], h0, e0, Int.toNat_of_nonneg hk.1]; rfl
      · exact ⟨0, fun h => absurd h hi⟩
    obtain ⟨f, hf2⟩ := Classical.skolem.1 hex
    have hlen : ((List.range len).map fun i => UInt8.ofNat (f i)).length = len := by simp
    refine ⟨(List.range len).map fun i => UInt8.ofNat (f i), _, rfl, some a, cap, by rw [hlen], by rw [hlen]; omega, hcm, (fun h => by cases h), ?_⟩
    rcases Nat.eq_zero_or_pos len with h0 | h0
    · exact .inl (by rw [hlen, h0])
    · right
      have hc0 := (hf2 0 h0).2
      have hsp2 : a.spot = none := by have := spot_none hc0; simpa [Addr.add] using this
      have ha := addr_eta hsp2
      have hblt : a.block < W.heap.size := by
        rw [ha, Addr.add_lit] at hc0
        exact World.block_lt_of_cell? W ⟨a.block, a.off + 0, none⟩ hc0
      refine ⟨a.block, a.off, by rw [← ha], hblt, fun i hi => ?_⟩
      rw [hlen] at hi
      have h1 := (hf2 i hi).2
      rw [ha, Addr.add_lit] at h1
      rw [h1]
      simp [Nat.mod_eq_of_lt (hf2 i hi).1]
set_option maxRecDepth 100000 in
theorem open_nested {fuel : Nat} {cs : List Value} {x : DataW H × List MemPlace} (h : DataW.trod enc Try.prog W 0 (fun _ => true) true fuel 22 cs = some x) :
    ∃ xs u, cs = [u] ∧ NRest W.heap.size W xs u := by
  rcases open_slice Try.underlying22 cells35 h with rfl | ⟨a, len, cap, n2, _, rfl, hl, hcm, hel⟩
  · exact ⟨[], _, rfl, nrest_nil _ _⟩
  · have hex : ∀ i, ∃ p : List UInt8 × Value, i < len → W.cell? (a.add i) = some p.2 ∧ Rest W.heap.size W p.1 p.2 := by
      intro i
      by_cases hi : i < len
      · obtain ⟨cs2, y, hlen, hat, hb⟩ := hel i hi
        obtain ⟨bs, u, rfl, hr⟩ := open_bytes hb
        have h0 := hat 0 (by omega)
        exact ⟨(bs, u), fun _ => ⟨by rw [show a.add i = a.add (i * 1 + 0) by rw [Nat.mul_one, Nat.add_zero], h0]; rfl, hr⟩⟩
      · exact ⟨([], undef), fun h => absurd h hi⟩
    obtain ⟨f, hf2⟩ := Classical.skolem.1 hex
    have hlen : ((List.range len).map fun i => (f i).1).length = len := by simp
    refine ⟨(List.range len).map fun i => (f i).1, _, rfl, some a, cap, by rw [hlen], by rw [hlen]; omega, hcm, (fun h => by cases h), ?_⟩
    rcases Nat.eq_zero_or_pos len with h0 | h0
    · exact .inl (by rw [hlen, h0])
    · right
      have hc0 := (hf2 0 h0).1
      have hsp2 : a.spot = none := by have := spot_none hc0; simpa [Addr.add] using this
      have ha := addr_eta hsp2
      have hblt : a.block < W.heap.size := by
        rw [ha, Addr.add_lit] at hc0
        exact World.block_lt_of_cell? W ⟨a.block, a.off + 0, none⟩ hc0
      refine ⟨a.block, a.off, by rw [← ha], hblt, fun i y hi => ?_⟩
      simp only [List.getElem?_map, Option.map_eq_some_iff] at hi
      obtain ⟨i', hi', rfl⟩ := hi
      obtain ⟨hi1, hi2⟩ := List.getElem?_eq_some_iff.1 hi'
      simp at hi1 hi2
      subst hi2
      obtain ⟨h1, h2⟩ := hf2 i hi1
      rw [ha, Addr.add_lit] at h1
      exact ⟨_, h1, h2⟩
set_option maxRecDepth 100000 in
theorem open_pend {fuel : Nat} {cs : List Value} {x : DataW H × List MemPlace} (h : DataW.trod enc Try.prog W 0 (fun _ => true) true fuel 23 cs = some x) :
    ∃ ps u, cs = [u] ∧ PRest W.heap.size W ps u := by
  rcases open_slice Try.underlying23 cells76 h with rfl | ⟨a, len, cap, n2, _, rfl, hl, hcm, hel⟩
  · exact ⟨[], _, rfl, prest_nil _ _⟩
  · have hex : ∀ i, ∃ p : (Int × List UInt8) × Value, i < len → W.cell? (a.add (i * 2)) = some (.int .i64 p.1.1) ∧ W.cell? (a.add (i * 2 + 1)) = some p.2 ∧ Rest W.heap.size W p.1.2 p.2 := by
      intro i
      by_cases hi : i < len
      · obtain ⟨cs2, y, hlen, hat, hb⟩ := hel i hi
        obtain ⟨y0, y1, m, rfl, _, h0, h1⟩ := trod_struct2 Try.underlying76 hb
        match cs2, hlen with
        | [c0, c1], _ =>
          simp only [cells3, cells35, List.drop_zero, List.drop_succ_cons, List.take_succ_cons, List.take_zero] at h0 h1
          obtain ⟨k, e0, _, wk⟩ := DataW.trod_int Try.underlying3 h0
          obtain ⟨bs, u, e1, hr⟩ := open_bytes h1
          injection e0 with e0
          injection e1 with e1
          subst e0 e1
          have q0 := hat 0 (by omega)
          have q1 := hat 1 (by omega)
          exact ⟨((k, bs), c1), fun _ => ⟨by rw [show a.add (i * 2) = a.add (i * 2 + 0) by rfl, q0]; rfl, by rw [q1]; rfl, hr⟩⟩
      · exact ⟨((0, []), undef), fun h => absurd h hi⟩
    obtain ⟨f, hf2⟩ := Classical.skolem.1 hex
    have hlen : ((List.range len).map fun i => (f i).1).length = len := by simp
    refine ⟨(List.range len).map fun i => (f i).1, _, rfl, some a, cap, by rw [hlen], by rw [hlen]; omega, hcm, (fun h => by cases h), ?_⟩
    rcases Nat.eq_zero_or_pos len with h0 | h0
    · exact .inl (by rw [hlen, h0])
    · right
      have hc0 := (hf2 0 h0).1
      have hsp2 : a.spot = none := by have := spot_none hc0; simpa [Addr.add] using this
      have ha := addr_eta hsp2
      have hblt : a.block < W.heap.size := by
        rw [ha, Addr.add_lit] at hc0
        exact World.block_lt_of_cell? W ⟨a.block, a.off + 0 * 2, none⟩ hc0
      refine ⟨a.block, a.off, by rw [← ha], hblt, fun i y hi => ?_⟩
      simp only [List.getElem?_map, Option.map_eq_some_iff] at hi
      obtain ⟨i', hi', rfl⟩ := hi
      obtain ⟨hi1, hi2⟩ := List.getElem?_eq_some_iff.1 hi'
      simp at hi1 hi2
      subst hi2
      obtain ⟨h1, h2, h3⟩ := hf2 i hi1
      rw [ha, Addr.add_lit] at h1 h2
      exact ⟨_, h1, by rw [Nat.add_assoc]; exact h2, h3⟩
set_option maxRecDepth 100000 in
theorem open_disk {fuel : Nat} {cs : List Value} {x : DataW H × List MemPlace} (h : DataW.trod enc Try.prog W 0 (fun _ => true) true fuel 25 cs = some x) :
    ∃ (d : Dsk) (s p : Value), cs = dskCells s p d ∧ NRest W.heap.size W d.secs s ∧ PRest W.heap.size W d.pend p ∧ (-9223372036854775808 ≤ d.left ∧ d.left ≤ 9223372036854775807) := by
  obtain ⟨y0, y1, y2, y3, m, rfl, hl, h0, h1, h2, h3⟩ := Joins.trod_struct4 Try.underlying25 h
  rw [cells25] at hl
  match cs, hl with
  | [c0, c1, c2, c3], _ =>
    simp only [cells3, cells4, cells22, cells23, List.drop_zero, List.drop_succ_cons, List.take_succ_cons, List.take_zero] at h0 h1 h2 h3
    obtain ⟨xs, u, e0, r0⟩ := open_nested h0
    obtain ⟨ps, v, e1, r1⟩ := open_pend h1
    obtain ⟨k, e2, _, wk⟩ := DataW.trod_int Try.underlying3 h2
    obtain ⟨b, e3, _⟩ := DataW.trod_bool Try.underlying4 h3
    injection e0 with e0
    injection e1 with e1
    injection e2 with e2
    injection e3 with e3
    subst e0 e1 e2 e3
    exact ⟨⟨xs, ps, k, b⟩, c0, c1, rfl, r0, r1, bounds_i64 wk⟩
set_option maxRecDepth 100000 in
theorem open_disk_arg {base : Nat} {v : Value} {d : DataW H} {p : List MemPlace} (hv : Value.okWide Try.prog W .any base 25 v) (h : DataW.Trod enc Try.prog W 0 (fun _ => true) true 25 v d p) :
    ∃ t : Dsk, DRest W.heap.size W t v ∧ (-9223372036854775808 ≤ t.left ∧ t.left ≤ 9223372036854775807) := by
  obtain ⟨cs, rfl, hsz⟩ := okWide_struct Try.underlying25 hv
  obtain ⟨fuel, hf⟩ := h
  obtain ⟨t, s, q, hc, r0, r1, hb⟩ := open_disk hf
  have h1 : cs = (dskCells s q t).toArray := by
    have h2 : cs.toList = dskCells s q t := by simpa [Value.cells] using hc
    rw [← h2]
  subst h1
  exact ⟨t, ⟨s, q, rfl, r0, r1⟩, hb⟩
set_option maxRecDepth 100000 in
theorem open_bytes_arg {base : Nat} {v : Value} {d : DataW H} {p : List MemPlace} (hv : Value.okWide Try.prog W .any base 35 v) (h : DataW.Trod enc Try.prog W 0 (fun _ => true) true 35 v d p) :
    ∃ bs : List UInt8, Rest W.heap.size W bs v := by
  obtain ⟨a, len, cap, rfl⟩ := okWide_slice Try.underlying35 hv
  obtain ⟨fuel, hf⟩ := h
  obtain ⟨bs, u, hc, hr⟩ := open_bytes hf
  have h1 : u = .slice a len cap := by simp [Value.cells] at hc; exact hc.symm
  subst h1
  exact ⟨bs, hr⟩
end
end Go.Proofs.Ytlaaolbdadempaa

/- A block of byte slices that the call itself made: read, stored into. -/
namespace Go.Proofs.Ytlaaolbdadempaa
open Go.RowKit

/-- Block g, of cap cells, holds the slices vs, which read as xs and lie in S. -/
structure Tab (S : Nat → Prop) (g cap : Nat) (w : World) (xs : List (List UInt8)) (vs : List Value) : Prop where
  row : ∃ ex, Row w g 35 (vs ++ ex) ∧ (vs ++ ex).length = cap
  len : vs.length = xs.length
  el : ∀ (i : Nat) x, xs[i]? = some x → ∃ u, vs[i]? = some u ∧ RestS S w x u
section
variable {S : Nat → Prop} {g cap : Nat} {w w' : World} {xs : List (List UInt8)} {vs : List Value}
theorem Tab.keep (h : Tab S g cap w xs vs) (hb : Below w.heap.size w w') : Tab S g cap w' xs vs := by
  obtain ⟨ex, h1, h2⟩ := h.row
  refine ⟨⟨ex, h1.keep hb, h2⟩, h.len, fun i x hi => ?_⟩
  obtain ⟨u, h3, h4⟩ := h.el i x hi
  exact ⟨u, h3, h4.keep (.below hb)⟩
theorem Tab.lt (h : Tab S g cap w xs vs) : g < w.heap.size := by obtain ⟨ex, h1, _⟩ := h.row; exact h1.lt
theorem Tab.cap_le (h : Tab S g cap w xs vs) : xs.length ≤ cap := by obtain ⟨ex, _, h2⟩ := h.row; rw [List.length_append, h.len] at h2; omega
theorem Tab.cell (h : Tab S g cap w xs vs) {i : Nat} {u : Value} (hi : vs[i]? = some u) : w.cell? ⟨g, i, none⟩ = some u := by
  obtain ⟨ex, h1, _⟩ := h.row
  exact h1.cell (by rw [List.getElem?_append_left (List.getElem?_eq_some_iff.1 hi).1]; exact hi)
theorem Tab.free (h : Tab S g cap w xs vs) (i : Nat) : w.frozen? ⟨g, i, none⟩ = false := by obtain ⟨ex, h1, _⟩ := h.row; exact h1.free i
theorem Tab.set (h : Tab S g cap w xs vs) {i : Nat} (hi : i < xs.length) {x : List UInt8} {u : Value} (hu : RestS S w x u) (hg : ¬ S g) :
    Tab S g cap (w.setCell ⟨g, i, none⟩ u) (xs.set i x) (vs.set i u) := by
  obtain ⟨ex, h1, h2⟩ := h.row
  have hl := h.len
  refine ⟨⟨ex, h1.set i u (by rw [List.set_append_left _ _ (by omega)]), by rw [← h2]; simp⟩, by simp [hl], fun j y hj => ?_⟩
  by_cases hij : i = j
  · subst hij
    rw [List.getElem?_set_self hi] at hj
    injection hj with hj
    subst hj
    exact ⟨u, List.getElem?_set_self (by omega), hu.keep (.setCell w g i u hg)⟩
  · rw [List.getElem?_set_ne hij] at hj ⊢
    obtain ⟨v, h3, h4⟩ := h.el j y hj
    exact ⟨v, h3, h4.keep (.setCell w g i u hg)⟩
theorem Tab.nrest {S' : Nat → Prop} (h : Tab S g cap w xs vs) (hc : cap ≤ maxLen) (hg : S' g) (hs : ∀ b, S b → b < w.heap.size → S' b) : NRestS S' w xs (.slice (some ⟨g, 0, none⟩) xs.length cap) := by
  refine ⟨_, _, rfl, h.cap_le, hc, (fun h => by cases h), .inr ⟨g, 0, rfl, hg, fun i x hi => ?_⟩⟩
  obtain ⟨u, h1, h2⟩ := h.el i x hi
  rw [Nat.zero_add]
  exact ⟨u, h.cell h1, h2.weak hs⟩
theorem Tab.weak {S' : Nat → Prop} (h : Tab S g cap w xs vs) (hs : ∀ b, S b → b < w.heap.size → S' b) : Tab S' g cap w xs vs :=
  ⟨h.row, h.len, fun i x hi => by obtain ⟨u, h1, h2⟩ := h.el i x hi; exact ⟨u, h1, h2.weak hs⟩⟩
end
/-- the values of a slice of slices -/
theorem NRestS.vals {S : Nat → Prop} {w : World} {xs a n cap} (h : NRestS S w xs (.slice a n cap)) (h0 : 0 < n) :
    ∃ (b off : Nat) (vs : List Value), a = some ⟨b, off, none⟩ ∧ S b ∧ b < w.heap.size ∧ vs.length = xs.length ∧ (∀ (j : Nat) u, vs[j]? = some u → w.cell? ⟨b, off + j, none⟩ = some u ∧ u.oneCell' = true) ∧ ∀ (i : Nat) x, xs[i]? = some x → ∃ u, vs[i]? = some u ∧ RestS S w x u := by
  obtain ⟨a2, cap2, he, h2, h3, h4, h5⟩ := h
  injection he with he1 he2 he3
  subst he1 he2 he3
  rcases h5 with h5 | ⟨b, off, rfl, hb, hc⟩
  · omega
  · have hget : ∀ i, i < xs.length → ((List.range xs.length).map fun i => (w.cell? ⟨b, off + i, none⟩).getD undef)[i]? = some ((w.cell? ⟨b, off + i, none⟩).getD undef) := fun i hi => by
      rw [List.getElem?_map, List.getElem?_range hi]; rfl
    obtain ⟨u0, k6, _⟩ := hc 0 _ (List.getElem?_eq_getElem h0)
    refine ⟨b, off, (List.range xs.length).map fun i => (w.cell? ⟨b, off + i, none⟩).getD undef, rfl, hb, lt_of_cell k6, by simp, fun j u hj => ?_, fun i x hi => ?_⟩
    · have hjl : j < xs.length := by have := (List.getElem?_eq_some_iff.1 hj).1; simpa using this
      rw [hget j hjl] at hj
      obtain ⟨v, h6, h7⟩ := hc j _ (List.getElem?_eq_getElem hjl)
      rw [h6] at hj
      injection hj with hj
      subst hj
      obtain ⟨a3, c3, rfl, _⟩ := h7
      exact ⟨h6, rfl⟩
    · have hil := (List.getElem?_eq_some_iff.1 hi).1
      obtain ⟨v, h6, h7⟩ := hc i x hi
      exact ⟨v, by rw [hget i hil, h6]; rfl, h7⟩
end Go.Proofs.Ytlaaolbdadempaa
