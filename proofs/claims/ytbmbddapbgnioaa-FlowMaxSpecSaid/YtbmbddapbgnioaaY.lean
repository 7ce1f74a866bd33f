/- flow and reached: what a rest says. -/
import Derived.Test.YtbmbddapbgnioaaX
namespace Go.Proofs.Ytbmbddapbgnioaa
open Go.RowKit Go.Shelf

theorem take_snoc (X : List Int) {k : Nat} (h : k < X.length) : X.take k ++ [X.getD k 0] = X.take (k + 1) := by
  rw [List.take_succ_eq_append_getElem h]; simp [h]
/-- a new value in a world that keeps the blocks below -/
def Own (B : Nat) (v : Value) : Prop := ∀ k, v.ownBlock = some k → B ≤ k
theorem own_wrote {w W W' : World} {v v' : Value} (hb : Below w.heap.size w W) (ho : Own w.heap.size v) (h : Wrote W W' v v') : Below w.heap.size w W' ∧ Own w.heap.size v' := by
  refine ⟨hb.trans (h.toBelow hb.size ho), fun k hk => ?_⟩
  rcases h.own with h1 | h1
  · exact ho k (h1 ▸ hk)
  · have := h1 k hk; have := hb.size; omega
set_option maxRecDepth 100000 in
set_option maxHeartbeats 4000000 in
theorem flow_call {g K N s t : Nat} {A : List Ar} {sb : Nat → Option Addr} {sc : Nat → Nat} {X : List Int} (w : World) (a : Option Addr) (c : Nat) (h : Net w g K N s t A (.slice a A.length c) sb sc X) (hX : X.length = A.length) :
    Calls Try.prog 35 #[.pointer (some ⟨g, 0, none⟩)] w fun e w' => ∃ v, e = .returned v ∧ IBuf w' v X ∧ Below w.heap.size w w' ∧ Own w.heap.size v := by
  obtain ⟨n, hn⟩ : ∃ n, n = A.length := ⟨_, rfl⟩
  have HH := Lib.hid h
  have d3 := h.gm.a
  rw [← hn] at d3 hX
  have hn5 : n ≤ 512 := by have := h.few; omega
  have HNL := Lib.hid hn
  have HXL := Lib.hid hX
  clear h hn hX
  go_enter Try.func35, Try.ntmps35
  go_wp2_with fail
  go_loopw [2, 10] (fun s2 s10 wr => ∃ (k : Nat), k ≤ n ∧ s10 = .int .i64 (k : Int) ∧ IBuf wr s2 (X.take k) ∧ Below w.heap.size w wr ∧ Own w.heap.size s2) (fun _ s10 _ => n - (intOf s10).toNat)
  case atStart => exact ⟨0, by omega, rfl, ibuf_nil _, Below.refl _ _, fun b hb => by cases hb⟩
  case round =>
    obtain ⟨k, hk, rfl, hI, hb, ho⟩ := hrel
    have HI := Lib.hid hI
    have HB := Lib.hid hb
    have HO := Lib.hid ho
    have HK := Lib.hid hk
    clear hI hb ho hk d3
    by_cases hlt : k < n
    · have hki : (k : Int) < (n : Int) := by omega
      have hk5 : (k : Int) < 512 := by omega
      have HLT := Lib.hid hlt
      have c1 : wr.cell? ⟨g, 4 + k * 2 + 1, none⟩ = some (.int .i64 (X.getD k 0)) := (HB.out.cell (p := ⟨g, 4 + k * 2 + 1, none⟩) HH.out.gm.lt).trans (HH.out.gm.lf k 1 (by omega) (by omega))
      obtain ⟨x, hx⟩ : ∃ x, x = X.getD k 0 := ⟨_, rfl⟩
      rw [← hx] at c1
      have HT : Hid (X.take k ++ [x] = X.take (k + 1)) := Lib.hid (by rw [hx]; exact take_snoc X (by have := HXL.out; omega))
      have HL : Hid ((X.take k).length + 1 ≤ 1000000) := Lib.hid (by rw [List.length_take]; omega)
      have HBA := Lib.hid (Joins.below_alloc1 wr (.cells #[.int .i64 x] 3))
      have HQA : Hid (Row (wr.alloc (.cells #[.int .i64 x] 3)) wr.heap.size 3 [.int .i64 x]) := Lib.hid (row_new wr 3 _)
      clear hx hlt
      go_wp2_with (at_builtin; refine wpList_ints rfl (.tmp 13) (.tmp 21) rfl _ (X.take k) rfl (HI.out.keep HBA.out) _ [x] rfl HQA.out HL.out ?_; intro v' w' hp hw; have HAP := Lib.hid (And.intro hp hw); clear hp hw)
      have h9 := own_wrote (below_next HB.out HBA.out) HO.out HAP.out.2
      exact ⟨⟨k + 1, by have := HLT.out; omega, by go_num, by rw [← HT.out]; exact HAP.out.1, h9.1, h9.2⟩, by have := HLT.out; simp [intOf]; omega⟩
    · obtain rfl : k = n := by have := HK.out; omega
      have HT : Hid (X.take k = X) := Lib.hid (List.take_of_length_le (by have := HXL.out; omega))
      go_wp2_with fail
      go_ret
      exact ⟨_, rfl, by rw [← HT.out]; exact HI.out, HB.out, HO.out⟩

theorem Try.infoB : (Try.prog.info? 4).map (fun i => (i.zero, i.size, i.bytes)) = some (some (.bool false), 1, 1) := by kernel_rfl
/-- a list of truth values of the call's own -/
def BBuf (w : World) (v : Value) (zs : List Bool) : Prop := w.ownsRow 0 4 1 v zs.length (zs.map (.bool ·))
theorem BBuf.keep {w w' : World} {v : Value} {zs : List Bool} (h : BBuf w v zs) (hb : Below w.heap.size w w') : BBuf w' v zs := owns_below h hb
theorem BBuf.rest {w : World} {v : Value} {zs : List Bool} (h : BBuf w v zs) : BRest w.heap.size w zs v := by
  rcases h.2 with ⟨rfl, h0⟩ | ⟨g, cap, cur, rfl, _, hg, h1, h2, h3, h4⟩
  · obtain rfl := List.eq_nil_of_length_eq_zero h0
    exact brest_nil _ _
  · refine ⟨_, cap, rfl, h1, h2, ?_⟩
    rcases Nat.eq_zero_or_pos zs.length with h0 | h0
    · exact .inl h0
    · have hc : ∀ i, i < zs.length → w.cell? ⟨g, 0 + i, none⟩ = some (.bool (zs.getD i false)) := fun i hi => by
        have := World.ownsRow.cells h (g := g) rfl i (.bool (zs.getD i false)) (by simp [hi])
        rw [Addr.add_lit] at this
        exact this
      refine .inr ⟨g, 0, rfl, lt_of_cell (hc 0 h0), fun i hi => ?_⟩
      rw [hc i hi]; simp [hi]
theorem bbuf_nil (w : World) : BBuf w (.slice none 0 0) [] := World.ownsRow_nil _ _ _ _
theorem wpList_bool {w : World} {ops : Array Oper} {rest : List Oper} {o : Oper} {a : Act} {Q : Exit → Act → World → Prop} (hgd : o.guard = none) (s x : Operand)
    (ho : o.op = .call { callee := .builtin .append, args := #[s, x], argTypes := #[26, 26] })
    (v : Value) (zs : List Bool) (hs : a.eval s = v) (hb : BBuf w v zs) (g : Nat) (y : Bool) (hx : a.eval x = .slice (some ⟨g, 0, none⟩) 1 1) (hr : Row w g 4 [.bool y]) (hlen : zs.length + 1 ≤ 1000000)
    (h : ∀ v' w', BBuf w' v' (zs ++ [y]) → Wrote w w' v v' → wpList Try.prog ops Q rest (a.put o.dst v') w') : wpList Try.prog ops Q (o :: rest) a w := by
  obtain ⟨i0, hi, hz⟩ := info_parts Try.infoB
  simp only [Prod.mk.injEq] at hz
  obtain ⟨hz0, hz1, hz2⟩ := hz
  refine wpList_append_mine w hgd s x 26 ho 4 i0 _ 1 1 Try.underlying26 hi hz0 hz1 hz2 rfl (by decide) v zs.length _ hs hb ⟨g, 0, none⟩ 1 1 [.bool y] hx rfl (fun j u hj => ?_) (fun u hu => ?_) (by unfold maxLen; omega) (by omega) fun v' w' h1 h2 => h v' w' ?_ h2
  · rw [Addr.add_lit, Nat.zero_add]; exact hr.cell hj
  · simp at hu; subst hu; rfl
  · unfold BBuf; simpa using h1
def rchL (L : List Int) : List Bool := L.map (fun x => decide (x ≠ 0))
theorem rch_snoc (L : List Int) {k : Nat} (h : k < L.length) : rchL (L.take k) ++ [decide (L.getD k 0 ≠ 0)] = rchL (L.take (k + 1)) := by
  unfold rchL
  rw [← take_snoc L h, List.map_append]; rfl
set_option maxRecDepth 100000 in
set_option maxHeartbeats 4000000 in
theorem reached_call {l N : Nat} {L : List Int} (w : World) (hl : Row w l 3 (nums L)) (hN : L.length = N) (hN64 : N ≤ 64) :
    Calls Try.prog 36 #[.slice (some ⟨l, 0, none⟩) N N] w fun e w' => ∃ v, e = .returned v ∧ BBuf w' v (rchL L) ∧ Below w.heap.size w w' ∧ Own w.heap.size v := by
  have HROW := Lib.hid hl
  have HNL := Lib.hid hN
  clear hl hN
  go_enter Try.func36, Try.ntmps36
  go_wp2_with fail
  go_loopw [2, 7] (fun s2 s7 wr => ∃ (k : Nat), k ≤ N ∧ s7 = .int .i64 (k : Int) ∧ BBuf wr s2 (rchL (L.take k)) ∧ Below w.heap.size w wr ∧ Own w.heap.size s2) (fun _ s7 _ => N - (intOf s7).toNat)
  case atStart => exact ⟨0, by omega, rfl, bbuf_nil _, Below.refl _ _, fun b hb => by cases hb⟩
  case round =>
    obtain ⟨k, hk, rfl, hI, hb, ho⟩ := hrel
    have HI := Lib.hid hI
    have HB := Lib.hid hb
    have HO := Lib.hid ho
    have HK := Lib.hid hk
    clear hI hb ho hk
    by_cases hlt : k < N
    · have hki : (k : Int) < (N : Int) := by omega
      have hk5 : (k : Int) < 64 := by omega
      have HLT := Lib.hid hlt
      have c1 : wr.cell? ⟨l, k, none⟩ = some (.int .i64 (L.getD k 0)) := (HB.out.cell (p := ⟨l, k, none⟩) HROW.out.lt).trans (nrow_cell HROW.out (by have := HNL.out; omega))
      obtain ⟨x, hx⟩ : ∃ x, x = L.getD k 0 := ⟨_, rfl⟩
      rw [← hx] at c1
      have HT : Hid (rchL (L.take k) ++ [x != 0] = rchL (L.take (k + 1))) := Lib.hid (by
        have e : (x != 0) = decide (x ≠ 0) := by by_cases h0 : x = 0 <;> simp [h0]
        rw [e, hx]; exact rch_snoc L (by have := HNL.out; omega))
      have HL : Hid ((rchL (L.take k)).length + 1 ≤ 1000000) := Lib.hid (by unfold rchL; rw [List.length_map, List.length_take]; omega)
      have HBA := Lib.hid (Joins.below_alloc1 wr (.cells #[.bool (x != 0)] 4))
      have HQA : Hid (Row (wr.alloc (.cells #[.bool (x != 0)] 4)) wr.heap.size 4 [.bool (x != 0)]) := Lib.hid (row_new wr 4 _)
      clear hx hlt
      go_wp2_with (at_builtin; refine wpList_bool rfl (.tmp 11) (.tmp 14) rfl _ (rchL (L.take k)) rfl (HI.out.keep HBA.out) _ (x != 0) rfl HQA.out HL.out ?_; intro v' w' hp hw; have HAP := Lib.hid (And.intro hp hw); clear hp hw)
      have h9 := own_wrote (below_next HB.out HBA.out) HO.out HAP.out.2
      exact ⟨⟨k + 1, by have := HLT.out; omega, by go_num, by rw [← HT.out]; exact HAP.out.1, h9.1, h9.2⟩, by have := HLT.out; simp [intOf]; omega⟩
    · obtain rfl : k = N := by have := HK.out; omega
      have HT : Hid (rchL (L.take k) = rchL L) := Lib.hid (by rw [List.take_of_length_le (by have := HNL.out; omega)])
      go_wp2_with fail
      go_ret
      exact ⟨_, rfl, by rw [← HT.out]; exact HI.out, HB.out, HO.out⟩
end Go.Proofs.Ytbmbddapbgnioaa
