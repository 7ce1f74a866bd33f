/- Steps of a walk that make and append lists of digests; each names what it leaves. -/
import Derived.Test.YtjibhelahagliaaDoorHa
import Derived.Deep.MidRow
import Derived.Deep.RegionHeld3
namespace Go.Proofs.YtjibhelahagliaaDoor
open Go.RowKit

theorem wp_dapp {w : World} {o : Oper} {a : Act} {K : Act → World → Prop} {Q : Exit → Act → World → Prop} (hgd : o.guard = none) (s x : Operand)
    (ho : o.op = .call { callee := .builtin .append, args := #[s, x], argTypes := #[30, 30] })
    (v : Value) (xs : List (List UInt8)) (hs : a.eval s = v) (hb : DBuf w v xs) (sv : Value) (B : Nat) (ys : List (List UInt8)) (hx : a.eval x = sv) (hr : DRest B w ys sv) (hlen : xs.length + ys.length ≤ 1099511627776)
    (h : ∀ v' w', DBuf w' v' (xs ++ ys) → Wrote w w' v v' → K (a.put o.dst v') w') : o.wp Tryd.prog a w K Q := by
  obtain ⟨i0, hi, hz0, hz1, hz2⟩ := info_parts Tryd.info26
  obtain ⟨hdy, ad, cap, rfl, hcap, hcm, hn, hc⟩ := hr
  have hown := hb.2
  have hdg : Digs (xs ++ ys) := fun e he => by
    rcases List.mem_append.1 he with h1 | h1
    · exact hb.1 e h1
    · exact hdy e h1
  have hy : (cellsD ys).length = ys.length * 32 := cellsD_len hdy
  cases ad with
  | none =>
    obtain ⟨h0, rfl⟩ := hn rfl
    obtain rfl : ys = [] := List.eq_nil_of_length_eq_zero h0
    have hrun := run_append_owned_none (P := Tryd.prog) (w := w) 0 30 o.type 26 i0 32 Tryd.underlying30 hi v xs.length (cellsD xs) hown
    have := h v w (by rw [List.append_nil]; exact hb) (Wrote.refl w v)
    simp only [List.length_nil] at hx
    unfold Oper.wp
    simp [execOp, ho, resolve, invoke, builtin, hs, hx, hrun, Result.andThen]
    exact this
  | some ad =>
    have hw : Region.wanted o (yielded #[] a.tmps) = true := by simp [Region.wanted, hgd]
    have := step_append_mine (ops := #[]) (E := True) (Q := Q) w hgd s x 30 ho 26 i0 (.agg z32) 32 32 Tryd.underlying30 hi hz0 hz1 hz2 rfl (by decide) v xs.length (cellsD xs) hs hown ad ys.length cap (cellsD ys) hx hy (fun j u hj => by
      rcases hc with h0 | ⟨b, off, he, _, hc⟩
      · obtain rfl : ys = [] := List.eq_nil_of_length_eq_zero h0
        simp [cellsD] at hj
      · obtain rfl := Option.some.inj he
        have hjl : j < ys.length * 32 := by
          have := (List.getElem?_eq_some_iff.1 hj).1
          rwa [hy] at this
        obtain ⟨i, r, hr32, rfl⟩ : ∃ i r, r < 32 ∧ j = i * 32 + r := ⟨j / 32, j % 32, by omega, by omega⟩
        rw [cellsD_get hdy i (by omega) r hr32] at hj
        injection hj with hj
        rw [← hj, Addr.add_lit, ← Nat.add_assoc]
        exact hc i (by omega) r hr32) (cellsD_one ys) (by unfold maxLen; omega) (by omega) (K := K) (fun v' w' ho1 hw1 => h v' w' ⟨hdg, by rw [List.length_append, cellsD_append]; exact ho1⟩ hw1)
    rwa [if_pos hw] at this

theorem dnew_lt {w0 w : World} {v : Value} {xs : List (List UInt8)} (h : DNew w0 w v xs) : ∀ k, v.ownBlock = some k → k < w.heap.size := owns_lt h.1.2
theorem dnew_ne {w0 w : World} {v : Value} {xs : List (List UInt8)} (h : DNew w0 w v xs) {g : Nat} (hg : w.heap.size ≤ g) : ∀ k, v.ownBlock = some k → k ≠ g := fun k hk => by have := dnew_lt h k hk; omega
theorem own_ne {w : World} {g T : Nat} {cs : List Value} {v : Value} (hr : Row w g T cs) (h : ∀ k, v.ownBlock = some k → w.heap.size ≤ k) : ∀ k, v.ownBlock = some k → k ≠ g := fun k hk => by have := h k hk; have := hr.lt; omega
theorem wp_dnone' {o : Oper} {a : Act} {w w0 : World} {K : Act → World → Prop} {Q : Exit → Act → World → Prop} (ho : o.op = .buildSlice 30 0 #[]) (hb : Below w0.heap.size w0 w)
    (h : ∀ v' w', DNew w0 w' v' [] → (∀ k, v'.ownBlock = some k → w.heap.size ≤ k) → Below w.heap.size w w' → K (a.put o.dst v') w') : o.wp Tryd.prog a w K Q := by
  obtain ⟨i0, hi, -, -, -⟩ := info_parts Tryd.info26
  have hd := dnew_none w
  exact wp_build_none 30 26 ho i0 Tryd.underlying30 hi (h _ _ (hd.from hb) hd.2.2 hd.2.1)
theorem wp_one' {o : Oper} {a : Act} {w : World} {K : Act → World → Prop} {Q : Exit → Act → World → Prop} (x : Operand) (ho : o.op = .buildSlice 30 1 #[(0, x)])
    (d : List UInt8) (hd : d.length = 32) (hx : a.eval x = dg d)
    (h : ∀ g w', Row w' g 26 (cellsOf d) → w.heap.size ≤ g → Below w.heap.size w w' → K (a.put o.dst (.slice (some ⟨g, 0, none⟩) 1 1)) w') : o.wp Tryd.prog a w K Q :=
  wp_build_one x ho d hd hx (h _ _ (row_new w 26 _) (Nat.le_refl _) (Joins.below_alloc1 w _))
theorem wp_dapp' {w w0 : World} {o : Oper} {a : Act} {K : Act → World → Prop} {Q : Exit → Act → World → Prop} (hgd : o.guard = none) (s x : Operand)
    (ho : o.op = .call { callee := .builtin .append, args := #[s, x], argTypes := #[30, 30] })
    (v : Value) (xs : List (List UInt8)) (hs : a.eval s = v) (hn : DNew w0 w v xs) (sv : Value) (B : Nat) (ys : List (List UInt8)) (hx : a.eval x = sv) (hr : DRest B w ys sv) (hlen : xs.length + ys.length ≤ 1099511627776)
    (h : ∀ v' w', DNew w0 w' v' (xs ++ ys) → (∀ g T cs, Row w g T cs → (∀ k, v.ownBlock = some k → k ≠ g) → Row w' g T cs ∧ ∀ k, v'.ownBlock = some k → k ≠ g) → K (a.put o.dst v') w') : o.wp Tryd.prog a w K Q :=
  wp_dapp hgd s x ho v xs hs hn.1 sv B ys hx hr hlen fun v' w' hb hw => h v' w' (hn.app hb hw) fun g T cs hrow hne => by
    refine ⟨(hw.grown.block g hrow.lt fun e => hne g e.symm rfl).trans hrow, fun k hk => ?_⟩
    rcases hw.own with he | he
    · exact hne k (he ▸ hk)
    · have := he k hk; have := hrow.lt; omega
theorem drest_one' {w : World} {g : Nat} {d : List UInt8} (h : Row w g 26 (cellsOf d)) (hd : d.length = 32) : DRest w.heap.size w [d] (.slice (some ⟨g, 0, none⟩) 1 1) :=
  ⟨(fun e he => by simp at he; subst he; exact hd), some ⟨g, 0, none⟩, 1, rfl, by simp, by simp [maxLen], (fun h => by cases h), .inr ⟨g, 0, rfl, h.lt, fun i hi j hj => by
    have hi0 : i = 0 := by simpa using hi
    subst hi0
    have := row_cells h hd j hj
    simpa using this⟩⟩
theorem wpList_alloc_dig {ops : Array Oper} {rest : List Oper} {o : Oper} {a : Act} {w : World} {Q : Exit → Act → World → Prop} (hgd : o.guard = none) (t : Nat) (hd : o.dst = some t) (ho : o.op = .alloc 26)
    (h : ∀ g w', g = w.heap.size → Row w' g 26 zb → Below w.heap.size w w' → wpList Tryd.prog ops Q rest (a.put (some t) (.pointer (some ⟨g, 0, none⟩))) w') : wpList Tryd.prog ops Q (o :: rest) a w :=
  wpList_plain hgd fun _ hK => wp_alloc_dig t hd ho fun g w' h1 h2 h3 => hd ▸ hK _ _ (hd ▸ h g w' h1 h2 h3)
theorem wpList_store_dig {ops : Array Oper} {rest : List Oper} {o : Oper} {a : Act} {w : World} {Q : Exit → Act → World → Prop} (hgd : o.guard = none) (x y : Operand) (ho : o.op = .store 26 x y)
    (g : Nat) (d : List UInt8) (hd : d.length = 32) (hx : a.eval x = .pointer (some ⟨g, 0, none⟩)) (hy : a.eval y = dg d) (hg : Row w g 26 zb) {B : Nat} {w0 : World} (hb : Below B w0 w) (hB : B ≤ g)
    (h : ∀ w', Row w' g 26 (cellsOf d) → Below B w0 w' → (∀ g' T cs, g' ≠ g → Row w g' T cs → Row w' g' T cs) → wpList Tryd.prog ops Q rest (a.put o.dst undef) w') : wpList Tryd.prog ops Q (o :: rest) a w :=
  wpList_plain hgd fun _ hK => wp_store_dig' x y ho g d hd hx hy hg hb hB fun w' h1 h2 h3 => hK _ _ (h w' h1 h2 h3)
theorem wpList_row_dig {ops : Array Oper} {rest : List Oper} {o : Oper} {a : Act} {w : World} {Q : Exit → Act → World → Prop} (hgd : o.guard = none) (x : Operand) (ho : o.op = .load 26 x)
    (g : Nat) (d : List UInt8) (hd : d.length = 32) (hx : a.eval x = .pointer (some ⟨g, 0, none⟩)) (hg : Row w g 26 (cellsOf d))
    (h : wpList Tryd.prog ops Q rest (a.put o.dst (dg d)) w) : wpList Tryd.prog ops Q (o :: rest) a w :=
  wpList_load_row hgd 26 x ho g hx 26 (cellsOf d).toArray (0, 0) _ hg Tryd.underlying26 rfl (size32' hd) h
theorem yields_dig {ops : Array Oper} {S : World → Prop} {op : Oper} {a : Act} {x : Operand} {g : Nat} {d : List UInt8} (hd : d.length = 32) (hS : ∀ w, S w → w.rangeAt g 0 (cellsOf d)) (ho : op.op = .load 26 x)
    (hx : a.eval x = .pointer (some ⟨g, 0, none⟩)) (hw : Region.wanted op (yielded ops a.tmps) = true) : YieldsIf Tryd.prog ops S op (dg d) a :=
  yieldsIf_load_mid hw 26 x ho g 0 hx (cellsOf d) _ hS Tryd.underlying26 rfl (by rw [cellsOf_len, hd]; exact info26)
def DigAt (S : World → Prop) (g : Nat) (d : List UInt8) : Prop := d.length = 32 ∧ ∀ w, S w → w.rangeAt g 0 (cellsOf d)
theorem take_dig {md : Region.Mode} {ops : Array Oper} {Q : Exit → Act → World → Prop} {S : World → Prop} {i : Nat} {oi : Oper} {fuel : Nat} {listed : Array Bool} {a : Act} {w : World} {x : Operand} {g : Nat} {d : List UInt8}
    (hd : DigAt S g d) (hi : ops[i]? = some oi)
    (hs : Region.noSelect ops = true) (hf : Region.free md ops listed i = true) (hr : (Region.ready md ops listed).contains i = true)
    (hQ : ∀ c a w, Q (.panic c) (a.put oi.dst (dg d)) w → Q (.panic c) a w) (hSw : S w) (ho : oi.op = .load 26 x) (hx : a.eval x = .pointer (some ⟨g, 0, none⟩)) (hw : Region.wanted oi (yielded ops a.tmps) = true)
    (h : wpAnyH Tryd.prog md ops Q S fuel (listed.setIfInBounds i true) (a.put oi.dst (dg d)) w) : wpAnyH Tryd.prog md ops Q S (fuel + 1) listed a w :=
  wpAnyH_take hi hs hf hr hQ (yields_dig hd.1 hd.2 ho hx hw) hSw h
theorem wp_neq_dig {o : Oper} {a : Act} {w : World} {K : Act → World → Prop} {Q : Exit → Act → World → Prop} (x y : Operand) (ho : o.op = .binOp .neq 26 x y 26)
    (c d : List UInt8) (hc : c.length = 32) (hd : d.length = 32) (hx : a.eval x = dg c) (hy : a.eval y = dg d)
    (h : K (a.put o.dst (.bool (!(c == d)))) w) : o.wp Tryd.prog a w K Q := by
  have he := run_eq_dig c d hc hd w
  unfold dg at he hx hy
  unfold Oper.wp execOp
  simp [ho, hx, hy, Sem.run_bind, run_eqGuard_agg, run_neq_struct, he]
  exact h
theorem wpList_wanted {ops : Array Oper} {rest : List Oper} {o : Oper} {a : Act} {w : World} {Q : Exit → Act → World → Prop} (hw : Region.wanted o (yielded ops a.tmps) = true)
    (h : ∀ K : Act → World → Prop, (∀ a w, wpList Tryd.prog ops Q rest a w → K a w) → o.wp Tryd.prog a w K Q) : wpList Tryd.prog ops Q (o :: rest) a w :=
  wpList_step fun K hK => by simp only [hw, if_true]; exact h K hK
theorem wpList_neq_dig {ops : Array Oper} {rest : List Oper} {o : Oper} {a : Act} {w : World} {Q : Exit → Act → World → Prop} (x y : Operand) (ho : o.op = .binOp .neq 26 x y 26)
    (c d : List UInt8) (hc : c.length = 32) (hd : d.length = 32) (hx : a.eval x = dg c) (hy : a.eval y = dg d) (hw : Region.wanted o (yielded ops a.tmps) = true)
    (h : wpList Tryd.prog ops Q rest (a.put o.dst (.bool (!(c == d)))) w) : wpList Tryd.prog ops Q (o :: rest) a w :=
  wpList_wanted hw fun _ hK => wp_neq_dig x y ho c d hc hd hx hy (hK _ _ h)
theorem wpList_row_want {ops : Array Oper} {rest : List Oper} {o : Oper} {a : Act} {w : World} {Q : Exit → Act → World → Prop} (x : Operand) (ho : o.op = .load 26 x)
    (g : Nat) (d : List UInt8) (hd : d.length = 32) (hx : a.eval x = .pointer (some ⟨g, 0, none⟩)) (hg : Row w g 26 (cellsOf d)) (hw : Region.wanted o (yielded ops a.tmps) = true)
    (h : wpList Tryd.prog ops Q rest (a.put o.dst (dg d)) w) : wpList Tryd.prog ops Q (o :: rest) a w :=
  wpList_wanted hw fun _ hK => by
    refine wp_load_dig x ho g 0 hx d hd (row_cells hg hd) (hK _ _ ?_)
    exact h
end Go.Proofs.YtjibhelahagliaaDoor
