/- A list of rows of the call's own; slices.Clone of rows. -/
import Derived.Test.YthkmbbgcadfilaaNf
import Derived.Test.YthkmbbgcadfilaaMc
import Derived.Test.YthkmbbgcadfilaaLd
import Derived.WalkSpells
namespace Go.Proofs.Ythkmbbgcadfilaa
open Go.RowKit Go.Shelf

theorem Try.infoR : (Try.prog.info? 23).map (fun i => (i.zero, i.size, i.bytes)) = some (some (.slice none 0 0), 1, 24) := by kernel_rfl
/-- in world W the slice v holds the numbers L, in no cell of the block g -/
def RowOff (g : Nat) (W : World) (L : List Int) (v : Value) : Prop := IRest W.heap.size W L v ∧ ∀ b off n c, v = .slice (some ⟨b, off, none⟩) n c → 0 < L.length → b ≠ g
theorem irest_cells {B B' : Nat} {W W' : World} {L : List Int} {v : Value} (h : IRest B W L v) (hB : B ≤ B') (hc : ∀ b off n c k, v = .slice (some ⟨b, off, none⟩) n c → k < L.length → b < B → W'.cell? ⟨b, off + k, none⟩ = W.cell? ⟨b, off + k, none⟩) : IRest B' W' L v := by
  obtain ⟨a, cap, rfl, h2, h3, h4, h5⟩ := h
  refine ⟨a, cap, rfl, h2, h3, h4, ?_⟩
  rcases h5 with h0 | ⟨b, off, ha, hl, hcc⟩
  · exact .inl h0
  · refine .inr ⟨b, off, ha, by omega, fun i hi => ?_⟩
    rw [hc b off L.length cap i (by rw [ha]) hi hl]
    exact hcc i hi
theorem RowOff.to {g : Nat} {W W' : World} {L : List Int} {v : Value} (h : RowOff g W L v) (hs : W.heap.size ≤ W'.heap.size) (hk : ∀ b, b < W.heap.size → b ≠ g → W'.heap[b]? = W.heap[b]?) : RowOff g W' L v :=
  ⟨irest_cells h.1 hs (fun b off n c k hv hk2 hb => cell_same (hk b hb (h.2 b off n c hv (by omega)))), h.2⟩
/-- in world W the block gl holds the rows C, none of them in it -/
def LMem (gl cap n : Nat) (C : List (List Int)) (W : World) : Prop :=
  ∃ rvs : List Value, W.ownsRow 0 23 1 (.slice (some ⟨gl, 0, none⟩) n cap) n rvs ∧ ∀ i, i < n → ∃ rv, rvs[i]? = some rv ∧ RowOff gl W (C.getD i []) rv
section
variable {gl cap n : Nat} {C : List (List Int)} {W W' : World}
theorem LMem.parts (h : LMem gl cap n C W) : n ≤ cap ∧ cap ≤ maxLen ∧ gl < W.heap.size := by
  obtain ⟨rvs, h1, -⟩ := h
  have hl := owns_lt h1 gl rfl
  rcases h1.2 with ⟨h0, _⟩ | ⟨g, cap2, cur, he, _, _, h5, h6, _⟩
  · cases h0
  · injection he with e1 e2 e3
    subst e3
    exact ⟨h5, h6, hl⟩
theorem LMem.at (h : LMem gl cap n C W) {i : Nat} (hi : i < n) : ∃ rv, W.cell? ⟨gl, i, none⟩ = some rv ∧ RowOff gl W (C.getD i []) rv := by
  obtain ⟨rvs, h1, h2⟩ := h
  obtain ⟨rv, h3, h4⟩ := h2 i hi
  refine ⟨rv, ?_, h4⟩
  have := World.ownsRow.cells h1 (g := gl) rfl i rv h3
  rwa [Addr.add_lit, Nat.zero_add] at this
theorem LMem.nrest (h : LMem gl cap n C W) (hn : C.length = n) : NRest W.heap.size W C (.slice (some ⟨gl, 0, none⟩) n cap) := by
  obtain ⟨h1, h2, h3⟩ := h.parts
  refine ⟨some ⟨gl, 0, none⟩, cap, by rw [hn], by omega, h2, ?_⟩
  rcases Nat.eq_zero_or_pos C.length with h0 | h0
  · exact .inl h0
  · refine .inr ⟨gl, 0, rfl, h3, fun i hi => ?_⟩
    obtain ⟨rv, h4, h5⟩ := h.at (i := i) (by omega)
    have e : C.getD i [] = C[i] := by simp [hi]
    rw [e] at h5
    exact ⟨rv, by rw [Nat.zero_add]; exact h4, h5.1⟩
theorem LMem.free (h : LMem gl cap n C W) (j : Nat) : W.frozen? ⟨gl, j, none⟩ = false := by
  obtain ⟨rvs, h1, -⟩ := h
  rcases h1.2 with ⟨h0, _⟩ | ⟨g, cap2, cur, he, _, hg, _⟩
  · cases h0
  · injection he with e1 e2 e3
    injection e1 with e1
    injection e1 with e1
    subst e1
    exact frozen_of_row W gl _ _ _ hg
theorem LMem.keep (h : LMem gl cap n C W) (hb : Below W.heap.size W W') : LMem gl cap n C W' := by
  obtain ⟨rvs, h1, h2⟩ := h
  refine ⟨rvs, owns_below h1 hb, fun i hi => ?_⟩
  obtain ⟨rv, h3, h4⟩ := h2 i hi
  exact ⟨rv, h3, h4.to hb.size (fun b hl _ => hb.block b hl)⟩
theorem LMem.turn (h : LMem gl cap n C W) {i : Nat} (hi : i < n) (hn : C.length = n) {L : List Int} {rv : Value} (hs : W.heap.size ≤ W'.heap.size) (hk : ∀ b, b < W.heap.size → b ≠ gl → W'.heap[b]? = W.heap[b]?)
    (hg : W'.heap[gl]? = (W.setCell ⟨gl, i, none⟩ rv).heap[gl]?) (hrv : RowOff gl W' L rv) : LMem gl cap n (C.set i L) W' := by
  obtain ⟨rvs, h1, h2⟩ := h
  have hl0 : rvs.length = n := by have := h1.1; omega
  refine ⟨rvs.set i rv, ⟨by rw [List.length_set]; exact h1.1, ?_⟩, fun i' hi' => ?_⟩
  · rcases h1.2 with ⟨h0, _⟩ | ⟨g, cap2, cur, he, h9, hcur, h5, h6, h7, h8⟩
    · cases h0
    · injection he with e1 e2 e3
      injection e1 with e1
      injection e1 with e1
      subst e1 e3
      refine .inr ⟨gl, cap, cur.setIfInBounds i rv, rfl, h9, ?_, h5, h6, by simp [h7], ?_⟩
      · rw [hg]; exact heap_setCell_same W gl i cur _ rv hcur
      · rw [Array.toList_setIfInBounds, ← h8, List.take_set]
  · by_cases e : i' = i
    · subst e
      refine ⟨rv, by rw [List.getElem?_set_self (by omega)], ?_⟩
      have e2 : (C.set i' L).getD i' [] = L := by
        rw [List.getD_eq_getElem?_getD, List.getElem?_set_self (by omega)]; rfl
      rw [e2]; exact hrv
    · obtain ⟨rv', h3, h4⟩ := h2 i' hi'
      refine ⟨rv', by rw [List.getElem?_set_ne (Ne.symm e)]; exact h3, ?_⟩
      have e2 : (C.set i L).getD i' [] = C.getD i' [] := by
        rw [List.getD_eq_getElem?_getD, List.getElem?_set_ne (Ne.symm e), ← List.getD_eq_getElem?_getD]
      rw [e2]; exact h4.to hs hk
end
theorem src_rows {w : World} {B : Nat} {C : List (List Int)} {v : Value} (h : NRest B w C v) : ∃ rvs : List Value, rvs.length = C.length ∧ Src Try.prog 1 22 v C.length rvs w ∧ ∀ i, i < C.length → ∃ rv, rvs[i]? = some rv ∧ IRest B w (C.getD i []) rv := by
  obtain ⟨a, cap, rfl, -, -, h5⟩ := h
  rcases h5 with h0 | ⟨b, off, rfl, -, hc⟩
  · refine ⟨[], by simp [h0], ?_, fun i hi => by omega⟩
    rw [h0]
    cases a with
    | none => exact Src.ofNil w Try.underlying22 cap
    | some ad => exact Src.ofSlice w Try.underlying22 ad 0 cap [] rfl (fun j u h => by simp at h) (fun u h => by cases h)
  · let rvs : List Value := (List.range C.length).map (fun i => (w.cell? ⟨b, off + i, none⟩).getD undef)
    have hat : ∀ i, i < C.length → ∃ rv, rvs[i]? = some rv ∧ w.cell? ⟨b, off + i, none⟩ = some rv ∧ IRest B w (C.getD i []) rv := fun i hi => by
      obtain ⟨rv, k1, k2⟩ := hc i hi
      have e : C.getD i [] = C[i] := by simp [hi]
      refine ⟨rv, ?_, k1, by rw [e]; exact k2⟩
      show ((List.range C.length).map _)[i]? = _
      rw [List.getElem?_map, List.getElem?_range hi]
      simp [k1]
    have hrl : rvs.length = C.length := by simp [rvs]
    refine ⟨rvs, hrl, ?_, fun i hi => by obtain ⟨rv, k1, -, k3⟩ := hat i hi; exact ⟨rv, k1, k3⟩⟩
    refine Src.ofSlice w Try.underlying22 _ C.length cap _ (by rw [hrl]; omega) (fun i u hi => ?_) (fun u hu => ?_)
    · rw [Addr.add_lit]
      have hl := (List.getElem?_eq_some_iff.1 hi).1
      obtain ⟨rv, k1, k2, -⟩ := hat i (by omega)
      rw [hi] at k1
      cases k1
      exact k2
    · obtain ⟨i, hi, rfl⟩ := List.getElem_of_mem hu
      obtain ⟨rv, k1, -, k3⟩ := hat i (by omega)
      obtain ⟨ra, rc, rfl⟩ := irest_shape k3
      rw [List.getElem?_eq_getElem hi] at k1
      cases h9 : rvs[i] with
      | slice _ _ _ => rfl
      | _ => rw [h9] at k1; cases k1
theorem wpList_copy_rows {w : World} {ops : Array Oper} {rest : List Oper} {o : Oper} {a : Act} {Q : Exit → Act → World → Prop} (hgd : o.guard = none) (s x : Operand)
    (ho : o.op = .call { callee := .builtin .append, args := #[s, x], argTypes := #[22, 22] })
    (b : Nat) (hs : a.eval s = .slice (some ⟨b, 0, none⟩) 0 0) (hb : Row w b 23 []) (C : List (List Int)) (vx : Value) (hx : a.eval x = vx) {B : Nat} (hX : NRest B w C vx) (hlen : C.length ≤ 1000)
    (h : ∀ v' w' rvs, w'.ownsRow 0 23 1 v' C.length rvs → (∀ i, i < C.length → ∃ rv, rvs[i]? = some rv ∧ IRest B w (C.getD i []) rv) → Wrote w w' (.slice (some ⟨b, 0, none⟩) 0 0) v' → wpList Try.prog ops Q rest (a.put o.dst v') w') : wpList Try.prog ops Q (o :: rest) a w :=
  wpList_plain hgd fun _ hK => by
    obtain ⟨i0, hi, hz⟩ := info_parts Try.infoR
    simp only [Prod.mk.injEq] at hz
    obtain ⟨hz0, hz1, hz2⟩ := hz
    obtain ⟨rvs, hrl, hsrc, hat⟩ := src_rows hX
    refine wp_append_src w s x 22 22 ho 23 i0 _ 1 24 Try.underlying22 hi hz0 hz1 hz2 rfl _ 0 [] hs ⟨rfl, .inr ⟨b, 0, #[], rfl, Nat.zero_le _, hb, Nat.le_refl _, by unfold maxLen; omega, rfl, rfl⟩⟩ (by simp) vx hx C.length rvs hsrc (by unfold maxLen; omega) (by omega) fun v' w' h1 h2 => hK _ _ (h v' w' rvs ?_ hat h2)
    simpa using h1
/-- what Clone of rows answers -/
def ClnP (w : World) (C : List (List Int)) (e : Ending) (w' : World) : Prop :=
  Below w.heap.size w w' ∧ ∃ a cap, e = .returned (.slice a C.length cap) ∧ (0 < C.length → ∃ gl, a = some ⟨gl, 0, none⟩ ∧ w.heap.size ≤ gl ∧ LMem gl cap C.length C w')
set_option maxRecDepth 100000 in
set_option maxHeartbeats 4000000 in
theorem cloneR_call (C : List (List Int)) (vc : Value) (w : World) (hC : NRest w.heap.size w C vc) (hlen : C.length ≤ 1000) :
    Calls Try.prog 49 #[vc] w (ClnP w C) := by
  obtain ⟨a, c, rfl⟩ := nrest_shape hC
  have HC0 := Lib.hid hC
  have hz : C.length = 0 ∨ ∃ b off, a = some ⟨b, off, none⟩ := by
    rcases Nat.eq_zero_or_pos C.length with h0 | h0
    · exact .inl h0
    · obtain ⟨-, -, -, hat⟩ := rows_at hC
      obtain ⟨b, off, -, -, h1, -⟩ := hat 0 h0
      exact .inr ⟨b, off, h1⟩
  have HZ := Lib.hid hz
  obtain ⟨n, hn⟩ : ∃ n, n = C.length := ⟨_, rfl⟩
  rw [← hn] at HC0 ⊢
  have HN := Lib.hid hn
  clear hC hz hn
  go_enter Try.func49, Try.ntmps49
  cases a with
  | none =>
    have HN0 : Hid (n = 0) := Lib.hid (by
      rcases HZ.out with h0 | ⟨b, off, h0⟩
      · have := HN.out; omega
      · cases h0)
    have hq : ∀ W : World, (binOp .eql 22 (.slice none n c) (.slice none 0 0)).run Try.prog W = .ok (.bool true) W := fun W => run_eql_nil_slice W 22 23 none n c 0 0 Try.underlying22
    go_wp2_with fail
    go_ret
    exact ⟨Below.refl _ _, none, 0, by rw [← HN.out, HN0.out]; rfl, fun h => by have := HN.out; have := HN0.out; omega⟩
  | some ad =>
    have hq : ∀ W : World, (binOp .eql 22 (.slice (some ad) n c) (.slice none 0 0)).run Try.prog W = .ok (.bool false) W := fun W => run_eql_nil_slice W 22 23 (some ad) n c 0 0 Try.underlying22
    go_upto_region 3 with (fail)
    go_wp2_with (at_builtin; refine wpList_copy_rows rfl (.tmp 5) (.tmp 6) rfl w.heap.size rfl (row_new w 23 []) C (.slice (some ad) n c) rfl ((HC0.out.stays (Joins.below_alloc1 w (.cells #[] 23)))) hlen ?_; intro v' w' rvs hp hat hw; have HP := Lib.hid (And.intro hp (And.intro hat hw)); clear hp hat hw)
    go_ret
    obtain ⟨hp, hat, hw⟩ := HP.out
    have hb0 := Joins.below_alloc1 w (.cells #[] 23)
    have hbw : Below w.heap.size w w' := hb0.trans (hw.toBelow (by simp) (fun k hk => by simp [Value.ownBlock] at hk; omega))
    refine ⟨hbw, ?_⟩
    rcases hp.2 with ⟨rfl, h0⟩ | ⟨g, cap, cur, rfl, h9, hg, h1, h2, h3, h4⟩
    · exact ⟨none, 0, by rw [h0]; rfl, fun h => by omega⟩
    · have hge : w.heap.size ≤ g := by
        rcases hw.own with h8 | h8
        · simp [Value.ownBlock] at h8; omega
        · have := h8 g rfl; simp at this; omega
      refine ⟨some ⟨g, 0, none⟩, cap, rfl, fun _ => ⟨g, rfl, hge, rvs, hp, fun i hi => ?_⟩⟩
      obtain ⟨rv, k1, k2⟩ := hat i hi
      refine ⟨rv, k1, ?_, fun b off n' c' hv hpos => ?_⟩
      · refine irest_cells k2 hbw.size (fun b off n' c' k hv hk hb => ?_)
        refine (cell_same (hbw.block b hb)).trans (cell_same ?_).symm
        exact hb0.block b hb
      · obtain ⟨a2, c2, e2, -, -, -, h7⟩ := k2
        rcases h7 with h7 | ⟨b2, off2, e3, hb2, -⟩
        · omega
        · rw [e2, e3] at hv
          injection hv with hv
          injection hv with hv
          injection hv with hv
          omega
end Go.Proofs.Ythkmbbgcadfilaa
