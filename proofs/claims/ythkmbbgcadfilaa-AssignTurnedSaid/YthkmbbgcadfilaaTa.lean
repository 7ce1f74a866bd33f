/- Copy. -/
import Derived.Test.YthkmbbgcadfilaaRd
namespace Go.Proofs.Ythkmbbgcadfilaa
open Go.RowKit Go.Shelf

/-- k lists of numbers of the call's own, in a list of the call's own; all blocks different, and from b0 on -/
structure CpR (b0 : Nat) (W : World) (v : Value) (C : List (List Int)) (k : Nat) (rvs : List Value) : Prop where
  len : rvs.length = k
  own : W.ownsRow 0 23 1 v k rvs
  row : ∀ i, i < k → IBuf W (rvs.getD i nilV) (C.getD i [])
  off : ∀ i, i < k → ∀ b, (rvs.getD i nilV).ownBlock = some b → b0 ≤ b ∧ v.ownBlock ≠ some b
  dif : ∀ i j, i < k → j < k → i ≠ j → ∀ b, (rvs.getD i nilV).ownBlock = some b → (rvs.getD j nilV).ownBlock ≠ some b
  out : ∀ b, v.ownBlock = some b → b0 ≤ b
theorem CpR.zero {W : World} {g : Nat} {b0 : Nat} (h : Row W g 23 []) (hg : b0 ≤ g) (C : List (List Int)) : CpR b0 W (.slice (some ⟨g, 0, none⟩) 0 0) C 0 [] :=
  ⟨rfl, ⟨rfl, .inr ⟨g, 0, #[], rfl, Nat.zero_le _, h, Nat.le_refl _, by unfold maxLen; omega, rfl, rfl⟩⟩, fun i hi => by omega, fun i hi => by omega, fun i j hi => by omega, fun b hb => by simp [Value.ownBlock] at hb; omega⟩
theorem CpR.keep {b0 : Nat} {W W' : World} {v : Value} {C : List (List Int)} {k : Nat} {rvs : List Value} (h : CpR b0 W v C k rvs) (hb : Below W.heap.size W W') : CpR b0 W' v C k rvs :=
  ⟨h.len, owns_below h.own hb, fun i hi => (h.row i hi).keep hb, h.off, h.dif, h.out⟩
theorem CpR.lt {b0 : Nat} {W : World} {v : Value} {C : List (List Int)} {k : Nat} {rvs : List Value} (h : CpR b0 W v C k rvs) {i : Nat} (hi : i < k) : ∀ b, (rvs.getD i nilV).ownBlock = some b → b < W.heap.size := fun b hb => owns_lt (h.row i hi) b hb
/-- one row more: rv is new, and the list is written behind it -/
theorem CpR.step {b0 : Nat} {W W1 W2 : World} {v v' rv : Value} {C : List (List Int)} {k : Nat} {rvs : List Value} (h : CpR b0 W v C k rvs) (hb : Below W.heap.size W W1) (hge : b0 ≤ W.heap.size) (hr : IBuf W1 rv (C.getD k []))
    (hn : ∀ b, rv.ownBlock = some b → W.heap.size ≤ b) (ho : W2.ownsRow 0 23 1 v' (k + 1) (rvs ++ [rv])) (hw : Wrote W1 W2 v v') : CpR b0 W2 v' C (k + 1) (rvs ++ [rv]) := by
  have hs := hb.size
  have hvl : ∀ b, v.ownBlock = some b → b < W.heap.size := owns_lt h.own
  have hg1 : ∀ i, i < k → (rvs ++ [rv]).getD i nilV = rvs.getD i nilV := fun i hi => by
    rw [List.getD_eq_getElem?_getD, List.getElem?_append_left (by rw [h.len]; exact hi), ← List.getD_eq_getElem?_getD]
  have hg2 : (rvs ++ [rv]).getD k nilV = rv := by
    rw [List.getD_eq_getElem?_getD, List.getElem?_append_right (by rw [h.len]; exact Nat.le_refl _), h.len, Nat.sub_self]; rfl
  have hvo : ∀ b, v'.ownBlock = some b → v.ownBlock = some b ∨ W1.heap.size ≤ b := fun b hb' => by
    rcases hw.own with e | e
    · rw [e] at hb'; exact .inl hb'
    · exact .inr (e b hb')
  have hkeep : ∀ u : Value, (∀ b, u.ownBlock = some b → b < W1.heap.size ∧ v.ownBlock ≠ some b) → ∀ L, IBuf W1 u L → IBuf W2 u L := fun u hu L hL => hL.same fun b hbb => hw.grown.block b (hu b hbb).1 (fun e => (hu b hbb).2 e.symm)
  have hnew : ∀ b, rv.ownBlock = some b → b < W1.heap.size ∧ v.ownBlock ≠ some b := fun b hbb => ⟨owns_lt hr b hbb, fun e => by have := hn b hbb; have := hvl b e; omega⟩
  refine ⟨by rw [List.length_append, h.len]; rfl, ho, fun i hi => ?_, fun i hi b hbb => ?_, fun i j hi hj hij b hbb => ?_, fun b hbb => ?_⟩
  · rcases Nat.lt_or_ge i k with h1 | h1
    · rw [hg1 i h1]
      exact hkeep _ (fun b hbb => ⟨by have := h.lt h1 b hbb; omega, (h.off i h1 b hbb).2⟩) _ ((h.row i h1).keep hb)
    · obtain rfl : i = k := by omega
      rw [hg2]
      exact hkeep _ hnew _ hr
  · rcases Nat.lt_or_ge i k with h1 | h1
    · rw [hg1 i h1] at hbb
      refine ⟨(h.off i h1 b hbb).1, fun e => ?_⟩
      rcases hvo b e with e | e
      · exact (h.off i h1 b hbb).2 e
      · have := h.lt h1 b hbb; omega
    · obtain rfl : i = k := by omega
      rw [hg2] at hbb
      refine ⟨by have := hn b hbb; omega, fun e => ?_⟩
      rcases hvo b e with e | e
      · exact (hnew b hbb).2 e
      · have := (hnew b hbb).1; omega
  · rcases Nat.lt_or_ge i k with h1 | h1
    · rw [hg1 i h1] at hbb
      rcases Nat.lt_or_ge j k with h2 | h2
      · rw [hg1 j h2]; exact h.dif i j h1 h2 hij b hbb
      · obtain rfl : j = k := by omega
        rw [hg2]
        intro e
        have := hn b e; have := h.lt h1 b hbb; omega
    · obtain rfl : i = k := by omega
      rw [hg2] at hbb
      rw [hg1 j (by omega)]
      intro e
      have := hn b hbb; have := h.lt (by omega : j < i) b e; omega
  · rcases hvo b hbb with e | e
    · exact h.out b e
    · omega
def CpP (C : List (List Int)) (w : World) (e : Ending) (w' : World) : Prop := ∃ v rvs, e = .returned v ∧ CpR w.heap.size w' v C C.length rvs ∧ Below w.heap.size w w'
/-- one row appended to a list of rows of the call's own -/
theorem wpList_row {w : World} {ops : Array Oper} {rest : List Oper} {o : Oper} {a : Act} {Q : Exit → Act → World → Prop} (hgd : o.guard = none) (s x : Operand)
    (ho : o.op = .call { callee := .builtin .append, args := #[s, x], argTypes := #[22, 22] })
    (v : Value) (k : Nat) (rvs : List Value) (hs : a.eval s = v) (hb : w.ownsRow 0 23 1 v k rvs) (g : Nat) (rv : Value) (hx : a.eval x = .slice (some ⟨g, 0, none⟩) 1 1) (hr : Row w g 23 [rv]) (h1 : rv.oneCell' = true) (hlen : k ≤ 1000000)
    (h : ∀ v' w', w'.ownsRow 0 23 1 v' (k + 1) (rvs ++ [rv]) → Wrote w w' v v' → wpList Try.prog ops Q rest (a.put o.dst v') w') : wpList Try.prog ops Q (o :: rest) a w := by
  obtain ⟨i0, hi, hz⟩ := info_parts Try.infoR
  simp only [Prod.mk.injEq] at hz
  obtain ⟨hz0, hz1, hz2⟩ := hz
  refine wpList_append_mine w hgd s x 22 ho 23 i0 _ 1 24 Try.underlying22 hi hz0 hz1 hz2 rfl (by decide) v k _ hs hb ⟨g, 0, none⟩ 1 1 [rv] hx (by simp) (fun j u hj => ?_) (fun u hu => by simp at hu; rw [hu]; exact h1) (by unfold maxLen; omega) (by omega) fun v' w' h1 h2 => h v' w' h1 h2
  rw [Addr.add_lit, Nat.zero_add]; exact hr.cell hj
theorem IBuf.one {w : World} {v : Value} {zs : List Int} (h : IBuf w v zs) : v.oneCell' = true := by
  obtain ⟨a, c, rfl, -⟩ := h.shape; rfl
set_option maxRecDepth 100000 in
set_option maxHeartbeats 8000000 in
theorem copy_call (C : List (List Int)) (vc : Value) (w : World) (hC : NRest w.heap.size w C vc) (hn : C.length ≤ 20) (hm : ∀ i, i < C.length → (C.getD i []).length ≤ 20) :
    Calls Try.prog 28 #[vc] w (CpP C w) := by
  obtain ⟨a, c, rfl⟩ := nrest_shape hC
  obtain ⟨-, hac, ham, hat⟩ := rows_at hC
  have HAT := Lib.hid hat
  obtain ⟨n, hn'⟩ : ∃ n, n = C.length := ⟨_, rfl⟩
  have hCP : ∀ e w', CpP C w e w' = ∃ v rvs, e = .returned v ∧ CpR w.heap.size w' v C n rvs ∧ Below w.heap.size w w' := fun e w' => by rw [hn']; rfl
  rw [← hn'] at hac hn ⊢
  have HN := Lib.hid hn'
  have HM := Lib.hid hm
  have HCP := Lib.hid hCP
  clear hat hm hn' hC hCP
  go_enter Try.func28, Try.ntmps28
  go_upto_region 3 with (fail)
  go_loopw [3, 4] (fun s3 s4 wr => ∃ (k : Nat) (rvs : List Value), k ≤ n ∧ s4 = .int .i64 (k : Int) ∧ CpR w.heap.size wr s3 C k rvs ∧ Below w.heap.size w wr) (fun _ s4 _ => n - (intOf s4).toNat)
  case atStart => exact ⟨0, [], by omega, rfl, CpR.zero (row_new w _ _) (Nat.le_refl _) C, Joins.below_alloc1 w _⟩
  case round =>
    obtain ⟨k, rvs, hk, rfl, hcp, hb⟩ := hrel
    have HK := Lib.hid hk
    have HCPR := Lib.hid hcp
    have HB := Lib.hid hb
    clear hk hcp hb
    by_cases hlt : k < n
    · have hki : (k : Int) < (n : Int) := by omega
      have HLT := Lib.hid hlt
      have HWK := Lib.hid (wrap_succ hlt (show n ≤ maxLen by unfold maxLen; omega))
      obtain ⟨b, off, ra, rc, q1, hbl, f1, hrow⟩ := HAT.out k (by have := HN.out; omega)
      subst q1
      have d1 : ∀ W, Below w.heap.size w W → W.cell? ⟨b, off + k, none⟩ = some (.slice ra (C.getD k []).length rc) := fun W hW => (hW.cell (p := ⟨b, off + k, none⟩) hbl).trans f1
      have hba := Joins.below_alloc1 wr (.cells #[] 3)
      have d3 := d1 _ (below_next HB.out hba)
      have HBA := Lib.hid hba
      have hX := hrow.stays (below_next HB.out hba)
      obtain ⟨X, hXe⟩ : ∃ X, X = C.getD k [] := ⟨_, rfl⟩
      have hxle := HM.out k (by have := HN.out; omega)
      rw [← hXe] at hX hxle d3
      obtain ⟨lx, hlx⟩ : ∃ l, l = X.length := ⟨_, rfl⟩
      rw [← hlx] at hX d3 hxle
      have HX := Lib.hid hX
      have HXE := Lib.hid hXe
      have HLX := Lib.hid (And.intro hlx hxle)
      have HBA := Lib.hid hba
      have HE : Hid (Row (wr.alloc (.cells #[] 3)) wr.heap.size 3 []) := Lib.hid (row_new wr _ _)
      have HOK := Lib.hid HB.out.size
      clear hlt hbl f1 hrow d1 hba hX hxle hlx hXe
      go_wp2_with (first
        | (refine wpList_copy_ints rfl (.tmp 13) (.tmp 17) rfl wr.heap.size rfl HE.out X _ rfl HX.out (by have := HLX.out; omega) ?_; intro v5 w5 hb5 hw5; have HB5 := Lib.hid hb5; have HW5 := Lib.hid hw5; have HB9 : Hid (Below wr.heap.size wr w5) := Lib.hid (HBA.out.trans (hw5.toBelow (by simp) (fun k hk => by simp [Value.ownBlock] at hk; omega))); have HO5 : Hid ((w5.alloc (.cells #[v5] 23)).ownsRow 0 23 1 u3 k rvs) := Lib.hid (owns_below HCPR.out.own (below_next HB9.out (Joins.below_alloc1 w5 _))); obtain ⟨a5, c5, rfl, -⟩ := hb5.shape; clear hb5 hw5)
        | (refine wpList_row rfl (.tmp 12) (.tmp 19) rfl _ k rvs rfl HO5.out _ _ rfl (row_new w5 _ _) rfl (by omega) ?_; intro v6 w6 ho6 hw6; have HO6 := Lib.hid ho6; have HW6 := Lib.hid hw6; clear ho6 hw6))
      have hst : Below wr.heap.size wr (w5.alloc (.cells #[.slice a5 X.length c5] 23)) := below_next HB9.out (Joins.below_alloc1 w5 _)
      have hw6 : Below w.heap.size w w6 := (below_next HB.out hst).trans (HW6.out.toBelow (by have := hst.size; have := HOK.out; omega) (fun b hb => HCPR.out.out b hb))
      refine ⟨⟨k + 1, rvs ++ [.slice a5 X.length c5], HLT.out, rfl, ?_, hw6⟩, by have := HLT.out; simp [intOf]; omega⟩
      exact HCPR.out.step hst HOK.out (by rw [← HXE.out]; exact HB5.out.keep (Joins.below_alloc1 w5 _)) (fun b hb => by
        rcases HW5.out.own with e | e
        · rw [e] at hb; simp [Value.ownBlock] at hb; omega
        · have := e b hb; simp at this; omega) HO6.out HW6.out
    · obtain rfl : k = n := by have := HK.out; omega
      go_wp2_with fail
      refine bodyPost_ret (results_tmp rfl _ _ _) rfl ?_
      rw [HCP.out]
      exact ⟨u3, rvs, rfl, HCPR.out, HB.out⟩
end Go.Proofs.Ythkmbbgcadfilaa
