/- Digests compared. -/
import Derived.ChangeKeysEq
import Derived.LoopNIn
import Derived.Deep.RegionLaw
import Derived.Deep.RegionHeld
import Derived.BigRegion
import Derived.Deep.MidRow
import Derived.Deep.RegionHeld3
import Derived.RangeFuncNested
import Derived.RangeFuncBound
import Derived.RangeFuncCalls
import Derived.RangeFuncLeaves
import Derived.Shelf.Abstract
import Derived.Shelf.RegionOpen
import Derived.OwnWalkIn
import Derived.TacticsInMore
import Derived.LoopIn
import Derived.Test.YtbceimbcjijfgaaDoorZq16
import Derived.Test.YtbceimbcjijfgaaDoorZq11
namespace Go.Proofs.YtbceimbcjijfgaaDoor.Dig
open Go.RowKit

theorem Tryd.cells5 : Tryd.prog.cellsOf 5 = 1 := by kernel_rfl
theorem Tryd.under5 : Tryd.prog.underlying 5 = some (.int .u8) := by kernel_rfl
theorem run_part_u8 (l : List UInt8) (i : Nat) (hi : i < l.length) (w : World) : (part 5 (cellsOf l).toArray i).run Tryd.prog w = .ok (.int .u8 ((l.getD i 0).toNat : Int)) w := by
  have hg : ((cellsOf l).toArray)[i]? = some (.int .u8 ((l.getD i 0).toNat : Int)) := by
    rw [List.getElem?_toArray, cellsOf_get hi]; simp [hi]
  have hagg : (isAgg 5).run Tryd.prog w = .ok false w := by
    unfold isAgg
    rw [Sem.run_bind, run_underlying Tryd.under5 w]
    rfl
  unfold part
  rw [Sem.run_bind, hagg]
  simp [hg]
theorem run_items (a b : List UInt8) (w : World) : ∀ (is : List Nat), (∀ i ∈ is, i < a.length ∧ i < b.length) →
    (Op.eqItems 9999 5 1 (cellsOf a).toArray (cellsOf b).toArray is).run Tryd.prog w = .ok (is.all fun i => a.getD i 0 == b.getD i 0) w
  | [], _ => by simp [Op.eqItems]
  | i :: is, h => by
    have h1 := h i (by simp)
    have ih := run_items a b w is (fun j hj => h j (by simp [hj]))
    have he : (Op.equalIn 9999 5 (.int .u8 ((a.getD i 0).toNat : Int)) (.int .u8 ((b.getD i 0).toNat : Int))).run Tryd.prog w = .ok (((a.getD i 0).toNat : Int) == ((b.getD i 0).toNat : Int)) w := run_equalIn_int w 9998 5 .u8 .u8 _ _ Tryd.under5
    have hbb : (((a.getD i 0).toNat : Int) == ((b.getD i 0).toNat : Int)) = (a.getD i 0 == b.getD i 0) := by
      rw [Bool.eq_iff_iff]; simp [UInt8.toNat_inj, Int.ofNat_inj]
    simp only [Op.eqItems, Nat.mul_one, Sem.run_bind, run_part_u8 a i h1.1 w, run_part_u8 b i h1.2 w, Result.andThen_ok, he, hbb, List.all_cons]
    cases h2 : (a.getD i 0 == b.getD i 0)
    · simp
    · simp [ih]
theorem eq_bytes {a b : List UInt8} (ha : a.length = 32) (hb : b.length = 32) : ((List.range 32).all fun i => a.getD i 0 == b.getD i 0) = (a == b) := by
  rw [Bool.eq_iff_iff, List.all_eq_true, beq_iff_eq]
  constructor
  · intro h
    apply List.ext_getElem (by omega)
    intro i h1 h2
    have := h i (by rw [List.mem_range]; omega)
    rw [beq_iff_eq] at this
    simpa [h1, h2] using this
  · rintro rfl i _
    simp
theorem run_eq_dig (a b : List UInt8) (ha : a.length = 32) (hb : b.length = 32) (w : World) : (Op.equalIn 10000 30 (dg a) (dg b)).run Tryd.prog w = .ok (a == b) w := by
  obtain ⟨i, hi⟩ : ∃ i, Tryd.prog.info? 5 = some i := by
    cases h : Tryd.prog.info? 5 with
    | none => exact absurd h (by decide +kernel)
    | some i => exact ⟨i, rfl⟩
  unfold dg
  rw [run_equalIn_array w 9999 _ _ Tryd.underlying30 hi, Tryd.cells5, run_items a b w _ (fun i hi => by rw [List.mem_range] at hi; omega), eq_bytes ha hb]
theorem wp_eq_dig {o : Oper} {a : Act} {w : World} {K : Act → World → Prop} {Q : Exit → Act → World → Prop} (x y : Operand) (ho : o.op = .binOp .eql 30 x y 30)
    (c d : List UInt8) (hc : c.length = 32) (hd : d.length = 32) (hx : a.eval x = dg c) (hy : a.eval y = dg d)
    (h : K (a.put o.dst (.bool (c == d))) w) : o.wp Tryd.prog a w K Q := by
  have he := run_eq_dig c d hc hd w
  unfold dg at he hx hy
  unfold Oper.wp execOp
  simp [ho, hx, hy, Sem.run_bind, run_eqGuard_agg, run_eql_struct, he]
  exact h
end Go.Proofs.YtbceimbcjijfgaaDoor.Dig

/- The path of an element: the program's functions. -/
namespace Go.Proofs.YtbceimbcjijfgaaDoor.Dig
open Go.RowKit

theorem DNew.app {w0 w w1 : World} {v v' : Value} {xs ys : List (List UInt8)} (h : DNew w0 w v xs) (hb : DBuf w1 v' ys) (hw : Wrote w w1 v v') : DNew w0 w1 v' ys := by
  have := wrote_below hw h.2.1 h.2.2
  exact ⟨hb, this.1, this.2⟩
end Go.Proofs.YtbceimbcjijfgaaDoor.Dig

/- More of a walk's steps: bytes and digests appended, slices made of nothing. -/
namespace Go.Proofs.YtbceimbcjijfgaaDoor.Dig
open Go.RowKit

theorem wp_buf {w : World} {o : Oper} {a : Act} {K : Act → World → Prop} {Q : Exit → Act → World → Prop} (hgd : o.guard = none) (s x : Operand)
    (ho : o.op = .call { callee := .builtin .append, args := #[s, x], argTypes := #[34, 34] })
    (v : Value) (xs : List UInt8) (hs : a.eval s = v) (hb : Buf w v xs) (sv : Value) (B : Nat) (ys : List UInt8) (hx : a.eval x = sv) (hr : Rest B w ys sv) (hlen : xs.length + ys.length ≤ 70368744177664)
    (h : ∀ v' w', Buf w' v' (xs ++ ys) → Wrote w w' v v' → K (a.put o.dst v') w') : o.wp Tryd.prog a w K Q := by
  obtain ⟨i0, hi, hz0, hz1, hz2⟩ := info_parts Tryd.info5
  obtain ⟨ad, cap, rfl, hcap, hcm, hn, hc⟩ := hr
  have hown : w.ownsRow 0 5 1 v xs.length (cellsOf xs) := hb
  have hy : (cellsOf ys).length = ys.length * 1 := by rw [cellsOf_len, Nat.mul_one]
  cases ad with
  | none =>
    obtain ⟨h0, rfl⟩ := hn rfl
    obtain rfl : ys = [] := List.eq_nil_of_length_eq_zero h0
    have hrun := run_append_owned_none (P := Tryd.prog) (w := w) 0 34 o.type 5 i0 1 Tryd.underlying34 hi v xs.length (cellsOf xs) hown
    have := h v w (by rw [List.append_nil]; exact hb) (Wrote.refl w v)
    simp only [List.length_nil] at hx
    unfold Oper.wp
    simp [execOp, ho, resolve, invoke, builtin, hs, hx, hrun, Result.andThen]
    exact this
  | some ad =>
    have hw : Region.wanted o (yielded #[] a.tmps) = true := by simp [Region.wanted, hgd]
    have := step_append_mine (ops := #[]) (E := True) (Q := Q) w hgd s x 34 ho 5 i0 (.int .u8 0) 1 1 Tryd.underlying34 hi hz0 hz1 hz2 rfl (by decide) v xs.length (cellsOf xs) hs hown ad ys.length cap (cellsOf ys) hx hy (fun j u hj => by
      rcases hc with h0 | ⟨b, off, he, _, hc⟩
      · obtain rfl : ys = [] := List.eq_nil_of_length_eq_zero h0
        simp [cellsOf] at hj
      · obtain rfl := Option.some.inj he
        have hjl : j < ys.length := by
          have := (List.getElem?_eq_some_iff.1 hj).1
          rwa [cellsOf_len] at this
        rw [cellsOf_get hjl] at hj
        rw [← hj, Addr.add_lit]
        exact hc j hjl) (cellsOf_oneCell ys) (by unfold maxLen; omega) (by omega) (K := K) (fun v' w' ho1 hw1 => h v' w' (by unfold Buf; rw [List.length_append, cellsOf_append]; exact ho1) hw1)
    rwa [if_pos hw] at this

theorem run_build_none (t e : TypeId) (i0 : TypeInfo) (ht : Tryd.prog.underlying t = some (.slice e)) (hi : Tryd.prog.info? e = some i0) (w : World) :
    (Instr.buildSlice t 0 #[]).run Tryd.prog w = .ok (.slice (some ⟨w.heap.size, 0, none⟩) 0 0) (w.alloc (.cells #[] e)) := by
  unfold Instr.buildSlice
  simp [Sem.run_bind, run_underlying ht w, sizeOf, typeInfo, hi, Instr.fill, newRow, Array.range_zero']
theorem buf_none (w : World) : Buf (w.alloc (.cells #[] 5)) (.slice (some ⟨w.heap.size, 0, none⟩) 0 0) [] :=
  ⟨rfl, .inr ⟨w.heap.size, 0, #[], rfl, Nat.zero_le _, heap_alloc_new w _, Nat.le_refl _, Nat.zero_le _, rfl, rfl⟩⟩
theorem new_none (w : World) : New w (w.alloc (.cells #[] 5)) (.slice (some ⟨w.heap.size, 0, none⟩) 0 0) [] :=
  ⟨buf_none w, Joins.below_alloc1 w _, fun k hk => by simp [Value.ownBlock] at hk; omega⟩
theorem dnew_none (w : World) : DNew w (w.alloc (.cells #[] 30)) (.slice (some ⟨w.heap.size, 0, none⟩) 0 0) [] :=
  ⟨⟨(fun d hd => by cases hd), rfl, .inr ⟨w.heap.size, 0, #[], rfl, Nat.zero_le _, heap_alloc_new w _, Nat.le_refl _, Nat.zero_le _, rfl, rfl⟩⟩, Joins.below_alloc1 w _, fun k hk => by simp [Value.ownBlock] at hk; omega⟩
theorem New.keep {w0 w w' : World} {v : Value} {xs : List UInt8} (h : New w0 w v xs) (hb : Below w.heap.size w w') : New w0 w' v xs := ⟨buf_stays h.1 hb, below_next h.2.1 hb, h.2.2⟩
end Go.Proofs.YtbceimbcjijfgaaDoor.Dig

/- DigestTags: the law's walk. -/
namespace Go.Proofs.YtbceimbcjijfgaaDoor.Dig
open Go.RowKit

theorem New.since {w0 w1 w : World} {v : Value} {xs : List UInt8} (h : New w1 w v xs) (hb : Below w0.heap.size w0 w1) : New w0 w v xs := ⟨h.1, below_next hb h.2.1, fun k hk => Nat.le_trans hb.size (h.2.2 k hk)⟩
theorem buf_rest' {w : World} {v : Value} {xs : List UInt8} (h : Buf w v xs) : Rest w.heap.size w xs v := by obtain ⟨a, cap, rfl, hr⟩ := buf_rest h; exact hr
theorem wp_build_none {o : Oper} {a : Act} {w : World} {K : Act → World → Prop} {Q : Exit → Act → World → Prop} (t e : TypeId) (ho : o.op = .buildSlice t 0 #[]) (i0 : TypeInfo) (ht : Tryd.prog.underlying t = some (.slice e)) (hi : Tryd.prog.info? e = some i0)
    (h : K (a.put o.dst (.slice (some ⟨w.heap.size, 0, none⟩) 0 0)) (w.alloc (.cells #[] e))) : o.wp Tryd.prog a w K Q := by
  have hr := run_build_none t e i0 ht hi w
  unfold Oper.wp execOp
  simp [ho, hr, Sem.run_bind]
  exact h

end Go.Proofs.YtbceimbcjijfgaaDoor.Dig

/- The list of digests that bytes determine: the laws' function. -/
namespace Go.Proofs.YtbceimbcjijfgaaDoor.Dig
open Go.RowKit

theorem DNew.shape {w0 w : World} {v : Value} {xs : List (List UInt8)} (h : DNew w0 w v xs) : ∃ a c, v = .slice a xs.length c := by
  obtain ⟨_, a, c, h1, _⟩ := dbuf_rest h.1; exact ⟨a, c, h1⟩

end Go.Proofs.YtbceimbcjijfgaaDoor.Dig

/- DigestHalves: the law's walk. -/
namespace Go.Proofs.YtbceimbcjijfgaaDoor.Dig
open Go.RowKit

theorem wpList_eq_dig {ops : Array Oper} {rest : List Oper} {o : Oper} {a : Act} {w : World} {Q : Exit → Act → World → Prop} (hgd : o.guard = none) (x y : Operand) (ho : o.op = .binOp .eql 30 x y 30)
    (c d : List UInt8) (hc : c.length = 32) (hd : d.length = 32) (hx : a.eval x = dg c) (hy : a.eval y = dg d)
    (h : wpList Tryd.prog ops Q rest (a.put o.dst (.bool (c == d))) w) : wpList Tryd.prog ops Q (o :: rest) a w :=
  wpList_plain hgd fun _ hK => wp_eq_dig x y ho c d hc hd hx hy (hK _ _ h)
theorem drest_bytes {B : Nat} {w : World} {b off n cap : Nat} {ds : List (List UInt8)} (h : DRest B w ds (.slice (some ⟨b, off, none⟩) n cap)) (i : Nat) (hi : i < ds.length) : Rest B w (ds.getD i []) (.slice (some ⟨b, off + i * 32, none⟩) 32 32) := by
  have hl := h.1.get hi
  obtain ⟨b', off', cap', he, _, _, hb, hc⟩ := h.some (by omega)
  injection he with h1 _ _
  injection h1 with h1
  injection h1 with h1 h2 _
  subst h1 h2
  exact ⟨some ⟨b, off + i * 32, none⟩, 32, by rw [hl], by omega, by simp [maxLen], (fun h => by cases h), .inr ⟨b, off + i * 32, rfl, hb, fun j hj => by
    have := hc i hi j (by omega)
    rw [this]
    generalize ds.getD i [] = x at hj ⊢
    simp [hj]⟩⟩
theorem row_far {w : World} {g g' T : Nat} {cs : List Value} (h : Row w g T cs) (cs' : Array Value) (hne : g ≠ g') : Row (w.setRow g' cs') g T cs := (setRow_other w g' g cs' (by omega)).trans h
theorem wp_alloc_dig {o : Oper} {a : Act} {w : World} {K : Act → World → Prop} {Q : Exit → Act → World → Prop} (t : Nat) (hd : o.dst = some t) (ho : o.op = .alloc 30)
    (h : ∀ g w', g = w.heap.size → Row w' g 30 zb → Below w.heap.size w w' → K (a.put (some t) (.pointer (some ⟨g, 0, none⟩))) w') : o.wp Tryd.prog a w K Q := by
  have h1 := h w.heap.size (w.alloc (.cells z32 30)) rfl (row_new w 30 zb) (Joins.below_alloc1 w _)
  obtain ⟨i0, hi, hz0, -, -⟩ := info_parts Tryd.info30
  rw [← hd] at h1
  unfold Oper.wp
  simp [execOp, ho, newObj, newVar, zeroValue, typeInfo, hi, hz0, Sem.run_bind]
  exact h1
theorem wp_store_dig' {o : Oper} {a : Act} {w : World} {K : Act → World → Prop} {Q : Exit → Act → World → Prop} (x y : Operand) (ho : o.op = .store 30 x y)
    (g : Nat) (d : List UInt8) (hd : d.length = 32) (hx : a.eval x = .pointer (some ⟨g, 0, none⟩)) (hy : a.eval y = dg d) (hg : Row w g 30 zb) {B : Nat} {w0 : World} (hb : Below B w0 w) (hB : B ≤ g)
    (h : ∀ w', Row w' g 30 (cellsOf d) → Below B w0 w' → (∀ g' T cs, g' ≠ g → Row w g' T cs → Row w' g' T cs) → K (a.put o.dst undef) w') : o.wp Tryd.prog a w K Q :=
  wp_store_dig x y ho g d hd hx hy hg (h _ (hg.setRow _) (below_setRow hb _ _ hB) fun g' T cs hne hr => row_far hr _ hne)

theorem wp_none' {o : Oper} {a : Act} {w w0 : World} {K : Act → World → Prop} {Q : Exit → Act → World → Prop} (ho : o.op = .buildSlice 34 0 #[]) (hb : Below w0.heap.size w0 w)
    (h : ∀ v' w', New w0 w' v' [] → K (a.put o.dst v') w') : o.wp Tryd.prog a w K Q := by
  obtain ⟨i0, hi, -, -, -⟩ := info_parts Tryd.info5
  exact wp_build_none 34 5 ho i0 Tryd.underlying34 hi (h _ _ ((new_none w).since hb))
theorem wp_buf' {w w0 : World} {o : Oper} {a : Act} {K : Act → World → Prop} {Q : Exit → Act → World → Prop} (hgd : o.guard = none) (s x : Operand)
    (ho : o.op = .call { callee := .builtin .append, args := #[s, x], argTypes := #[34, 34] })
    (v : Value) (xs : List UInt8) (hs : a.eval s = v) (hn : New w0 w v xs) (sv : Value) (B : Nat) (ys : List UInt8) (hx : a.eval x = sv) (hr : Rest B w ys sv) (hlen : xs.length + ys.length ≤ 70368744177664)
    (h : ∀ v' w', New w0 w' v' (xs ++ ys) → K (a.put o.dst v') w') : o.wp Tryd.prog a w K Q :=
  wp_buf hgd s x ho v xs hs hn.1 sv B ys hx hr hlen fun v' w' hb hw => h v' w' (hn.app hb hw)
theorem cut3 {A B C : Type} {F : A → B → C → Prop} (G : A → B → C → Prop) {R : Prop} (rest : (∀ a b c, F a b c → G a b c) → R) (kk : ∀ a b c, F a b c → G a b c) : R := rest kk
end Go.Proofs.YtbceimbcjijfgaaDoor.Dig

/- Steps of a walk that make and append lists of digests; each names what it leaves. -/
namespace Go.Proofs.YtbceimbcjijfgaaDoor.Dig
open Go.RowKit

theorem wp_dapp {w : World} {o : Oper} {a : Act} {K : Act → World → Prop} {Q : Exit → Act → World → Prop} (hgd : o.guard = none) (s x : Operand)
    (ho : o.op = .call { callee := .builtin .append, args := #[s, x], argTypes := #[25, 25] })
    (v : Value) (xs : List (List UInt8)) (hs : a.eval s = v) (hb : DBuf w v xs) (sv : Value) (B : Nat) (ys : List (List UInt8)) (hx : a.eval x = sv) (hr : DRest B w ys sv) (hlen : xs.length + ys.length ≤ 1099511627776)
    (h : ∀ v' w', DBuf w' v' (xs ++ ys) → Wrote w w' v v' → K (a.put o.dst v') w') : o.wp Tryd.prog a w K Q := by
  obtain ⟨i0, hi, hz0, hz1, hz2⟩ := info_parts Tryd.info30
  obtain ⟨hdy, ad, cap, rfl, hcap, hcm, hn, hc⟩ := hr
  have hown := hb.2
  have hdg : Digs (xs ++ ys) := fun e he => by
    rcases List.mem_append.1 he with h1 | h1
    · exact hb.1 e h1
    · exact hdy e h1
  have hy : (cellsD ys).length = ys.length * 32 := cellsD_len hdy
  cases ad with
  | none =>
    obtain ⟨h0, rfl⟩ := hn rfl
    obtain rfl : ys = [] := List.eq_nil_of_length_eq_zero h0
    have hrun := run_append_owned_none (P := Tryd.prog) (w := w) 0 25 o.type 30 i0 32 Tryd.underlying25 hi v xs.length (cellsD xs) hown
    have := h v w (by rw [List.append_nil]; exact hb) (Wrote.refl w v)
    simp only [List.length_nil] at hx
    unfold Oper.wp
    simp [execOp, ho, resolve, invoke, builtin, hs, hx, hrun, Result.andThen]
    exact this
  | some ad =>
    have hw : Region.wanted o (yielded #[] a.tmps) = true := by simp [Region.wanted, hgd]
    have := step_append_mine (ops := #[]) (E := True) (Q := Q) w hgd s x 25 ho 30 i0 (.agg z32) 32 32 Tryd.underlying25 hi hz0 hz1 hz2 rfl (by decide) v xs.length (cellsD xs) hs hown ad ys.length cap (cellsD ys) hx hy (fun j u hj => by
      rcases hc with h0 | ⟨b, off, he, _, hc⟩
      · obtain rfl : ys = [] := List.eq_nil_of_length_eq_zero h0
        simp [cellsD] at hj
      · obtain rfl := Option.some.inj he
        have hjl : j < ys.length * 32 := by
          have := (List.getElem?_eq_some_iff.1 hj).1
          rwa [hy] at this
        obtain ⟨i, r, hr32, rfl⟩ : ∃ i r, r < 32 ∧ j = i * 32 + r := ⟨j / 32, j % 32, by omega, by omega⟩
        rw [cellsD_get hdy i (by omega) r hr32] at hj
        injection hj with hj
        rw [← hj, Addr.add_lit, ← Nat.add_assoc]
        exact hc i (by omega) r hr32) (cellsD_one ys) (by unfold maxLen; omega) (by omega) (K := K) (fun v' w' ho1 hw1 => h v' w' ⟨hdg, by rw [List.length_append, cellsD_append]; exact ho1⟩ hw1)
    rwa [if_pos hw] at this

theorem dnew_lt {w0 w : World} {v : Value} {xs : List (List UInt8)} (h : DNew w0 w v xs) : ∀ k, v.ownBlock = some k → k < w.heap.size := owns_lt h.1.2
theorem dnew_ne {w0 w : World} {v : Value} {xs : List (List UInt8)} (h : DNew w0 w v xs) {g : Nat} (hg : w.heap.size ≤ g) : ∀ k, v.ownBlock = some k → k ≠ g := fun k hk => by have := dnew_lt h k hk; omega
theorem own_ne {w : World} {g T : Nat} {cs : List Value} {v : Value} (hr : Row w g T cs) (h : ∀ k, v.ownBlock = some k → w.heap.size ≤ k) : ∀ k, v.ownBlock = some k → k ≠ g := fun k hk => by have := h k hk; have := hr.lt; omega
theorem wp_dnone' {o : Oper} {a : Act} {w w0 : World} {K : Act → World → Prop} {Q : Exit → Act → World → Prop} (ho : o.op = .buildSlice 25 0 #[]) (hb : Below w0.heap.size w0 w)
    (h : ∀ v' w', DNew w0 w' v' [] → (∀ k, v'.ownBlock = some k → w.heap.size ≤ k) → Below w.heap.size w w' → K (a.put o.dst v') w') : o.wp Tryd.prog a w K Q := by
  obtain ⟨i0, hi, -, -, -⟩ := info_parts Tryd.info30
  have hd := dnew_none w
  exact wp_build_none 25 30 ho i0 Tryd.underlying25 hi (h _ _ (hd.from hb) hd.2.2 hd.2.1)
theorem wp_one' {o : Oper} {a : Act} {w : World} {K : Act → World → Prop} {Q : Exit → Act → World → Prop} (x : Operand) (ho : o.op = .buildSlice 25 1 #[(0, x)])
    (d : List UInt8) (hd : d.length = 32) (hx : a.eval x = dg d)
    (h : ∀ g w', Row w' g 30 (cellsOf d) → w.heap.size ≤ g → Below w.heap.size w w' → K (a.put o.dst (.slice (some ⟨g, 0, none⟩) 1 1)) w') : o.wp Tryd.prog a w K Q :=
  wp_build_one x ho d hd hx (h _ _ (row_new w 30 _) (Nat.le_refl _) (Joins.below_alloc1 w _))
theorem wp_dapp' {w w0 : World} {o : Oper} {a : Act} {K : Act → World → Prop} {Q : Exit → Act → World → Prop} (hgd : o.guard = none) (s x : Operand)
    (ho : o.op = .call { callee := .builtin .append, args := #[s, x], argTypes := #[25, 25] })
    (v : Value) (xs : List (List UInt8)) (hs : a.eval s = v) (hn : DNew w0 w v xs) (sv : Value) (B : Nat) (ys : List (List UInt8)) (hx : a.eval x = sv) (hr : DRest B w ys sv) (hlen : xs.length + ys.length ≤ 1099511627776)
    (h : ∀ v' w', DNew w0 w' v' (xs ++ ys) → (∀ g T cs, Row w g T cs → (∀ k, v.ownBlock = some k → k ≠ g) → Row w' g T cs ∧ ∀ k, v'.ownBlock = some k → k ≠ g) → K (a.put o.dst v') w') : o.wp Tryd.prog a w K Q :=
  wp_dapp hgd s x ho v xs hs hn.1 sv B ys hx hr hlen fun v' w' hb hw => h v' w' (hn.app hb hw) fun g T cs hrow hne => by
    refine ⟨(hw.grown.block g hrow.lt fun e => hne g e.symm rfl).trans hrow, fun k hk => ?_⟩
    rcases hw.own with he | he
    · exact hne k (he ▸ hk)
    · have := he k hk; have := hrow.lt; omega
theorem wpList_alloc_dig {ops : Array Oper} {rest : List Oper} {o : Oper} {a : Act} {w : World} {Q : Exit → Act → World → Prop} (hgd : o.guard = none) (t : Nat) (hd : o.dst = some t) (ho : o.op = .alloc 30)
    (h : ∀ g w', g = w.heap.size → Row w' g 30 zb → Below w.heap.size w w' → wpList Tryd.prog ops Q rest (a.put (some t) (.pointer (some ⟨g, 0, none⟩))) w') : wpList Tryd.prog ops Q (o :: rest) a w :=
  wpList_plain hgd fun _ hK => wp_alloc_dig t hd ho fun g w' h1 h2 h3 => hd ▸ hK _ _ (hd ▸ h g w' h1 h2 h3)
theorem wpList_store_dig {ops : Array Oper} {rest : List Oper} {o : Oper} {a : Act} {w : World} {Q : Exit → Act → World → Prop} (hgd : o.guard = none) (x y : Operand) (ho : o.op = .store 30 x y)
    (g : Nat) (d : List UInt8) (hd : d.length = 32) (hx : a.eval x = .pointer (some ⟨g, 0, none⟩)) (hy : a.eval y = dg d) (hg : Row w g 30 zb) {B : Nat} {w0 : World} (hb : Below B w0 w) (hB : B ≤ g)
    (h : ∀ w', Row w' g 30 (cellsOf d) → Below B w0 w' → (∀ g' T cs, g' ≠ g → Row w g' T cs → Row w' g' T cs) → wpList Tryd.prog ops Q rest (a.put o.dst undef) w') : wpList Tryd.prog ops Q (o :: rest) a w :=
  wpList_plain hgd fun _ hK => wp_store_dig' x y ho g d hd hx hy hg hb hB fun w' h1 h2 h3 => hK _ _ (h w' h1 h2 h3)
theorem wpList_row_dig {ops : Array Oper} {rest : List Oper} {o : Oper} {a : Act} {w : World} {Q : Exit → Act → World → Prop} (hgd : o.guard = none) (x : Operand) (ho : o.op = .load 30 x)
    (g : Nat) (d : List UInt8) (hd : d.length = 32) (hx : a.eval x = .pointer (some ⟨g, 0, none⟩)) (hg : Row w g 30 (cellsOf d))
    (h : wpList Tryd.prog ops Q rest (a.put o.dst (dg d)) w) : wpList Tryd.prog ops Q (o :: rest) a w :=
  wpList_load_row hgd 30 x ho g hx 30 (cellsOf d).toArray (0, 0) _ hg Tryd.underlying30 rfl (size32' hd) h
theorem yields_dig {ops : Array Oper} {S : World → Prop} {op : Oper} {a : Act} {x : Operand} {g : Nat} {d : List UInt8} (hd : d.length = 32) (hS : ∀ w, S w → w.rangeAt g 0 (cellsOf d)) (ho : op.op = .load 30 x)
    (hx : a.eval x = .pointer (some ⟨g, 0, none⟩)) (hw : Region.wanted op (yielded ops a.tmps) = true) : YieldsIf Tryd.prog ops S op (dg d) a :=
  yieldsIf_load_mid hw 30 x ho g 0 hx (cellsOf d) _ hS Tryd.underlying30 rfl (by rw [cellsOf_len, hd]; exact info30)
def DigAt (S : World → Prop) (g : Nat) (d : List UInt8) : Prop := d.length = 32 ∧ ∀ w, S w → w.rangeAt g 0 (cellsOf d)
theorem take_dig {md : Region.Mode} {ops : Array Oper} {Q : Exit → Act → World → Prop} {S : World → Prop} {i : Nat} {oi : Oper} {fuel : Nat} {listed : Array Bool} {a : Act} {w : World} {x : Operand} {g : Nat} {d : List UInt8}
    (hd : DigAt S g d) (hi : ops[i]? = some oi)
    (hs : Region.noSelect ops = true) (hf : Region.free md ops listed i = true) (hr : (Region.ready md ops listed).contains i = true)
    (hQ : ∀ c a w, Q (.panic c) (a.put oi.dst (dg d)) w → Q (.panic c) a w) (hSw : S w) (ho : oi.op = .load 30 x) (hx : a.eval x = .pointer (some ⟨g, 0, none⟩)) (hw : Region.wanted oi (yielded ops a.tmps) = true)
    (h : wpAnyH Tryd.prog md ops Q S fuel (listed.setIfInBounds i true) (a.put oi.dst (dg d)) w) : wpAnyH Tryd.prog md ops Q S (fuel + 1) listed a w :=
  wpAnyH_take hi hs hf hr hQ (yields_dig hd.1 hd.2 ho hx hw) hSw h
theorem wp_neq_dig {o : Oper} {a : Act} {w : World} {K : Act → World → Prop} {Q : Exit → Act → World → Prop} (x y : Operand) (ho : o.op = .binOp .neq 30 x y 30)
    (c d : List UInt8) (hc : c.length = 32) (hd : d.length = 32) (hx : a.eval x = dg c) (hy : a.eval y = dg d)
    (h : K (a.put o.dst (.bool (!(c == d)))) w) : o.wp Tryd.prog a w K Q := by
  have he := run_eq_dig c d hc hd w
  unfold dg at he hx hy
  unfold Oper.wp execOp
  simp [ho, hx, hy, Sem.run_bind, run_eqGuard_agg, run_neq_struct, he]
  exact h
theorem wpList_wanted {ops : Array Oper} {rest : List Oper} {o : Oper} {a : Act} {w : World} {Q : Exit → Act → World → Prop} (hw : Region.wanted o (yielded ops a.tmps) = true)
    (h : ∀ K : Act → World → Prop, (∀ a w, wpList Tryd.prog ops Q rest a w → K a w) → o.wp Tryd.prog a w K Q) : wpList Tryd.prog ops Q (o :: rest) a w :=
  wpList_step fun K hK => by simp only [hw, if_true]; exact h K hK
theorem wpList_neq_dig {ops : Array Oper} {rest : List Oper} {o : Oper} {a : Act} {w : World} {Q : Exit → Act → World → Prop} (x y : Operand) (ho : o.op = .binOp .neq 30 x y 30)
    (c d : List UInt8) (hc : c.length = 32) (hd : d.length = 32) (hx : a.eval x = dg c) (hy : a.eval y = dg d) (hw : Region.wanted o (yielded ops a.tmps) = true)
    (h : wpList Tryd.prog ops Q rest (a.put o.dst (.bool (!(c == d)))) w) : wpList Tryd.prog ops Q (o :: rest) a w :=
  wpList_wanted hw fun _ hK => wp_neq_dig x y ho c d hc hd hx hy (hK _ _ h)
theorem wpList_row_want {ops : Array Oper} {rest : List Oper} {o : Oper} {a : Act} {w : World} {Q : Exit → Act → World → Prop} (x : Operand) (ho : o.op = .load 30 x)
    (g : Nat) (d : List UInt8) (hd : d.length = 32) (hx : a.eval x = .pointer (some ⟨g, 0, none⟩)) (hg : Row w g 30 (cellsOf d)) (hw : Region.wanted o (yielded ops a.tmps) = true)
    (h : wpList Tryd.prog ops Q rest (a.put o.dst (dg d)) w) : wpList Tryd.prog ops Q (o :: rest) a w :=
  wpList_wanted hw fun _ hK => by
    refine wp_load_dig x ho g 0 hx d hd (row_cells hg hd) (hK _ _ ?_)
    exact h
end Go.Proofs.YtbceimbcjijfgaaDoor.Dig

/- Blocks known whole, blocks that stay, a range over a function whose rounds are told. -/
namespace Go.Proofs.YtbceimbcjijfgaaDoor.Dig
open Go.RowKit Go.Shelf

def KeepS (S : Nat → Prop) (w w' : World) : Prop := ∀ b, S b → b < w.heap.size → w'.heap[b]? = w.heap[b]?
theorem lt_of_cell {w : World} {b o : Nat} {v : Value} (h : w.cell? ⟨b, o, none⟩ = some v) : b < w.heap.size := World.block_lt_of_cell? w ⟨b, o, none⟩ h
theorem KeepS.cell {S : Nat → Prop} {w w' : World} (h : KeepS S w w') {b o : Nat} {v : Value} (hb : S b) (hc : w.cell? ⟨b, o, none⟩ = some v) : w'.cell? ⟨b, o, none⟩ = some v := by
  have := h b hb (lt_of_cell hc)
  unfold World.cell? at hc ⊢
  simp only at hc ⊢
  rw [this]; exact hc
theorem KeepS.trans {S : Nat → Prop} {a b c : World} (h : KeepS S a b) (hs : a.heap.size ≤ b.heap.size) (k : KeepS S b c) : KeepS S a c := fun i hi hl => (k i hi (by omega)).trans (h i hi hl)
theorem KeepS.far {S : Nat → Prop} {w w' : World} (g : Nat) (hg : ¬ S g) (h : ∀ b, b ≠ g → w'.heap[b]? = w.heap[b]?) : KeepS S w w' := fun b hb _ => h b (fun e => hg (e ▸ hb))
theorem KeepS.weak {S S' : Nat → Prop} {w w' : World} (h : KeepS S w w') (hs : ∀ b, S' b → S b) : KeepS S' w w' := fun b hb hl => h b (hs b hb) hl
theorem KeepS.setCell {S : Nat → Prop} (w : World) (g i : Nat) (v : Value) (hg : ¬ S g) : KeepS S w (w.setCell ⟨g, i, none⟩ v) := .far g hg fun b hb => heap_setCell_other w ⟨g, i, none⟩ b v hb
theorem KeepS.below {S : Nat → Prop} {w w' : World} (h : Below w.heap.size w w') : KeepS S w w' := fun b _ hl => h.block b hl
theorem below_setCell {B : Nat} {a w : World} (h : Below B a w) (g i : Nat) (v : Value) (hg : B ≤ g) : Below B a (w.setCell ⟨g, i, none⟩ v) :=
  ⟨h.os, h.tape, h.output, by have := h.size; simpa using this, fun k hk => (heap_setCell_other w ⟨g, i, none⟩ k v (by simp; omega)).trans (h.block k hk)⟩
theorem Row.setFar {w : World} {g g' T : Nat} {cs : List Value} (h : Row w g T cs) (i : Nat) (v : Value) (hne : g ≠ g') : Row (w.setCell ⟨g', i, none⟩ v) g T cs := (heap_setCell_other w ⟨g', i, none⟩ g v hne).trans h
theorem others_below {W W' : World} (h : Below W.heap.size W W') : KeepsOthers W W' := ⟨h.size, fun k o hk _ => (h.block k (Array.getElem?_eq_some_iff.1 hk).1).trans hk⟩
/-- the blocks of S stay -/
def KpS (S : Nat → Prop) (W W' : World) : Prop := W.heap.size ≤ W'.heap.size ∧ KeepS S W W'
theorem KpS.refl (S : Nat → Prop) (W : World) : KpS S W W := ⟨Nat.le_refl _, fun _ _ _ => rfl⟩
theorem KpS.trans {S : Nat → Prop} {A B C : World} (h : KpS S A B) (k : KpS S B C) : KpS S A C := ⟨Nat.le_trans h.1 k.1, h.2.trans h.1 k.2⟩
theorem KpS.below {S : Nat → Prop} {A B : World} (h : Below A.heap.size A B) : KpS S A B := ⟨h.size, .below h⟩
theorem KpS.put {S : Nat → Prop} (W : World) (l : Nat) (o : Obj) (h : ¬ S l) : KpS S W (W.putObj l o) :=
  ⟨Nat.le_of_eq (by simp [World.putObj]), .far l h fun b hb => World.putObj_heap_other (fun e => hb e)⟩
/-- an iterator that tells T of each x that it yields; no round stops it -/
def Tells {α : Type} (F : Fence) (n : Nat) (P : Program) (g : Nat) (lb : Array Value) (encs : α → Array Value) (T : α → World → Prop) (B : Nat → Prop) (S : List α → Prop) (G : List α → α → Prop) (w : World) : Prop :=
  ∀ (l : Nat) (J : List α → World → Prop) (W : World), Below w.heap.size w W → AbidesFrom W.heap.size J →
    (∀ pre x W1, J pre W1 → T x W1 → G pre x → YieldAt F (n - 1) P l (encs x) W1 fun e W' => e = .returned (.bool true) ∧ J (pre ++ [x]) W' ∧ KpS B W1 W') →
    J [] W → CallsIn F n P g (#[.func (.yield l) #[] #[]] ++ lb) W fun e W' => (∃ v, e = .returned v) ∧ ∃ xs, S xs ∧ J xs W'
/-- how a round ends -/
def toldPost {α : Type} (C : Nat) (B : Nat → Prop) (I : List α → World → Prop) (xs : List α) (W : World) : Exit → Act → World → Prop
  | .normal, _, W' => KeepsFrom C W W' ∧ KpS B W W' ∧ I xs W'
  | _, _, _ => False
set_option maxHeartbeats 4000000 in
theorem range_told {F : Fence} {n : Nat} {P : Program} {α : Type} {g : Operand} {ps : Array Tmp} {assign body : Code} {Q : Exit → Act → World → Prop} {a : Act} {w : World}
    (hro : F.round = none) (h1 : 1 ≤ n) {gf : Nat} {lb : Array Value} (hg : a.eval g = .func (.func gf) #[] lb) (hFg : F.fn gf) (eg : ∀ args w, (callFunc gf args).run P w = .ok (.enter gf args) w)
    {encs : α → Array Value} {T : α → World → Prop} (hT : ∀ x, OwnFrom w.heap.size (fun (_ : Unit) W => T x W)) {B : Nat → Prop} (hB : ∀ b, B b → b < w.heap.size) {S : List α → Prop} {G : List α → α → Prop} (hseq : ∀ W, Below w.heap.size w W → Tells F (n - 1) P gf lb encs T B S G W)
    (hps : ∀ x, (encs x).size = ps.size) (I : List α → World → Prop) (hI : OwnFrom w.heap.size I) (h0 : I [] w) (a₁ : α → Act)
    (hassign : ∀ (l : Nat) (x : α) (W : World) (K : Act → World → Prop), K (a₁ x) W →
      assign.wpIn (F.inRound l) (n - 1 - 1) P (Exit.then K (fun _ _ _ => False)) { tmps := (ps.zip (encs x)).foldl (fun t (p, v) => t.setIfInBounds p v) a.tmps, defers := [] } W)
    (hbody : ∀ (l : Nat) (pre : List α) (x : α) (W : World), I pre W → T x W → G pre x → body.wpIn (F.inRound l) (n - 1 - 1) P (toldPost w.heap.size B I (pre ++ [x]) W) (a₁ x) W)
    (hdone : ∀ (D : Nat) (xs : List α) (W : World), w.heap.size ≤ D → S xs → I xs W → W.heap[D]? = some (.deferred (some [])) → Q .normal { a with defers := { target := .collected D, args := #[] } :: a.defers } W) :
    (Code.rangeFunc g ps assign body).wpIn F n P Q a w := by
  refine wpIn_rangeFunc (fun fn hfn => ?_)
  rw [hro]
  -- the loop's record in each of its states
  let st : LoopState → Loop := fun s => { state := s, pending := none, fn := fn, tmps := a.tmps, params := ps, assign := assign, body := body, defers := w.heap.size }
  let D := w.heap.size
  let L := w.heap.size + 1
  let Book : LoopState → World → Prop := fun s W => W.heap[L]? = some (.loop (st s)) ∧ W.heap[D]? = some (.deferred (some []))
  obtain ⟨V, hV⟩ : ∃ V, V = (w.alloc (.deferred (some []))).alloc (.loop (st .ready)) := ⟨_, rfl⟩
  have bV : Book .ready V := by
    constructor
    · have h9 := World.alloc_heap_new (w.alloc (.deferred (some []))) (.loop (st .ready)); rw [World.size_alloc] at h9; rw [hV]; exact h9
    · rw [hV]; exact (Below.heap_alloc _ _ _ (by simp [D])).trans (World.alloc_heap_new w _)
  have iV : I [] V := by rw [hV]; exact hI.alloc _ (hI.alloc _ h0)
  have wV : Below w.heap.size w V := by rw [hV]; exact below_next (Joins.below_alloc1 w _) (Joins.below_alloc1 _ _)
  have turn : ∀ (s : LoopState) (W : World), Book .busy W ∨ Book .ready W → Book s (W.putObj L (.loop (st s))) := fun s W hW => by
    have h3 : W.heap[L]? ≠ none ∧ W.heap[D]? = some (.deferred (some [])) := by rcases hW with h | h <;> exact ⟨by rw [h.1]; exact fun e => (by cases e), h.2⟩
    have h4 : L < W.heap.size := by
      rcases Nat.lt_or_ge L W.heap.size with h | h
      · exact h
      · exact absurd (Array.getElem?_eq_none h) h3.1
    exact ⟨World.putObj_heap_same h4, (World.putObj_heap_other (by simp [L, D])).trans h3.2⟩
  refine ⟨L, [{ target := .collected D, args := #[] }], V, { target := .fn (.func gf) lb, args := #[.func (.yield L) #[] #[]] }, V, gf, #[.func (.yield L) #[] #[]] ++ lb, V, ?_, ?_, ?_, ?_, fun _ => h1, ?_⟩
  · rw [hV]; exact run_enterLoop_outer _ _ _ _ _
  · simp only [resolve, hg]; simp [go_sem]
  · intro f' hf'; simp [Target.leads] at hf'; subst hf'; exact hFg
  · simp [invoke, go_sem, eg]
  refine (hseq V wV L (fun pre W => I pre W ∧ Book .ready W) V (Below.refl _ _) ?_ ?_ ⟨iV, bV⟩).mono ?_
  · -- what the iterator does between two rounds
    intro s X Y row hs hgr hr
    have hnc : ∀ r, row = some r → ∃ o : Obj, X.heap[r]? = some o ∧ o.isWalk = true := fun r e => (hr r e).2
    refine ⟨hI s X Y row hs.1 hgr (fun r e => ?_), (grownBy_keeps hgr hnc hs.2.1 rfl).trans hs.2.1, (grownBy_keeps hgr hnc hs.2.2 rfl).trans hs.2.2⟩
    obtain ⟨h2, o, h3, h4⟩ := hr r e
    exact ⟨by have := wV.size; omega, o, h3, Obj.not_cells_of_walk h4⟩
  · -- a round
    rintro pre x W ⟨hi, hbk⟩ ht hlen
    have hy := run_yield (P := P) (args := encs x) hbk.1 (hps x)
    refine ⟨fn, _, assign, body, hy, roundIn_of_wpIn hfn (hassign L x W _ ?_)⟩
    refine ⟨_, run_beginRound hbk.1 rfl, ?_⟩
    have b2 : Book .busy (W.putObj L (.loop (st .busy))) := turn .busy W (.inr hbk)
    refine wpIn_mono (hbody L pre x _ (hI.putObj _ hi (by simp [L]) hbk.1 rfl) ((hT x).putObj (s := ()) _ ht (by simp [L]) hbk.1 rfl) hlen) ?_
    rintro e a3 W3 hp
    cases e with
    | normal =>
      obtain ⟨k3, l3, i3⟩ := hp
      have b3 : Book .busy W3 := ⟨k3.same _ _ (by simp [L]) b2.1 rfl, k3.same _ _ (by simp [D]) b2.2 rfl⟩
      have b4 : Book .ready (W3.putObj L (.loop (st .ready))) := turn .ready W3 (.inl b3)
      have hr := run_endRound (P := P) none b3.1
      exact ⟨_, _, hr, rfl, ⟨hI.putObj _ i3 (by simp [L]) b3.1 rfl, b4⟩, (KpS.put W L _ (fun h => by have h9 : w.heap.size + 1 < w.heap.size := hB _ h; omega)).trans (l3.trans (KpS.put W3 L _ (fun h => by have h9 : w.heap.size + 1 < w.heap.size := hB _ h; omega)))⟩
    | ret => exact hp.elim
    | exit id => exact hp.elim
    | goto t => exact hp.elim
    | panic c => exact hp.elim
    | outgrown => exact hp.elim
  · rintro e W2 ⟨⟨v, rfl⟩, xs, hS, hi, hbk⟩
    exact ⟨none, _, run_endLoop (P := P) hbk.1 (by simp [st]), hdone D xs _ (Nat.le_refl _) hS (hI.putObj _ hi (by simp [L]) hbk.1 rfl) ((World.putObj_heap_other (by simp [L, D])).trans hbk.2)⟩
set_option maxHeartbeats 4000000 in
theorem range_toldA {F : Fence} {n : Nat} {P : Program} {α : Type} {g : Operand} {ps : Array Tmp} {assign body : Code} {Q : Exit → Act → World → Prop} {a : Act} {w : World}
    (hro : F.round = none) (h1 : 1 ≤ n) {gf : Nat} {lb : Array Value} (hg : a.eval g = .func (.func gf) #[] lb) (hFg : F.fn gf) (eg : ∀ args w, (callFunc gf args).run P w = .ok (.enter gf args) w)
    {encs : α → Array Value} {T : α → World → Prop} (hT : ∀ x, OwnFrom w.heap.size (fun (_ : Unit) W => T x W)) {B : Nat → Prop} (hB : ∀ b, B b → b < w.heap.size) {S : List α → Prop} {G : List α → α → Prop} (hseq : ∀ W, Below w.heap.size w W → Tells F (n - 1) P gf lb encs T B S G W)
    (hps : ∀ x, (encs x).size = ps.size) (I : List α → World → Prop) (hI : OwnFrom w.heap.size I) (h0 : I [] w) (A : α → Act → World → Prop) (hA : ∀ x a', OwnFrom w.heap.size (fun (_ : Unit) W => A x a' W))
    (hassign : ∀ (l : Nat) (pre : List α) (x : α) (W : World) (K : Act → World → Prop), I pre W → T x W → G pre x → (∀ a' W', KeepsFrom w.heap.size W W' → KpS B W W' → I pre W' → A x a' W' → K a' W') →
      assign.wpIn (F.inRound l) (n - 1 - 1) P (Exit.then K (fun _ _ _ => False)) { tmps := (ps.zip (encs x)).foldl (fun t (p, v) => t.setIfInBounds p v) a.tmps, defers := [] } W)
    (hbody : ∀ (l : Nat) (pre : List α) (x : α) (a' : Act) (W : World), I pre W → A x a' W → G pre x → body.wpIn (F.inRound l) (n - 1 - 1) P (toldPost w.heap.size B I (pre ++ [x]) W) a' W)
    (hdone : ∀ (D : Nat) (xs : List α) (W : World), w.heap.size ≤ D → S xs → I xs W → W.heap[D]? = some (.deferred (some [])) → Q .normal { a with defers := { target := .collected D, args := #[] } :: a.defers } W) :
    (Code.rangeFunc g ps assign body).wpIn F n P Q a w := by
  refine wpIn_rangeFunc (fun fn hfn => ?_)
  rw [hro]
  -- the loop's record in each of its states
  let st : LoopState → Loop := fun s => { state := s, pending := none, fn := fn, tmps := a.tmps, params := ps, assign := assign, body := body, defers := w.heap.size }
  let D := w.heap.size
  let L := w.heap.size + 1
  let Book : LoopState → World → Prop := fun s W => W.heap[L]? = some (.loop (st s)) ∧ W.heap[D]? = some (.deferred (some []))
  obtain ⟨V, hV⟩ : ∃ V, V = (w.alloc (.deferred (some []))).alloc (.loop (st .ready)) := ⟨_, rfl⟩
  have bV : Book .ready V := by
    constructor
    · have h9 := World.alloc_heap_new (w.alloc (.deferred (some []))) (.loop (st .ready)); rw [World.size_alloc] at h9; rw [hV]; exact h9
    · rw [hV]; exact (Below.heap_alloc _ _ _ (by simp [D])).trans (World.alloc_heap_new w _)
  have iV : I [] V := by rw [hV]; exact hI.alloc _ (hI.alloc _ h0)
  have wV : Below w.heap.size w V := by rw [hV]; exact below_next (Joins.below_alloc1 w _) (Joins.below_alloc1 _ _)
  have turn : ∀ (s : LoopState) (W : World), Book .busy W ∨ Book .ready W → Book s (W.putObj L (.loop (st s))) := fun s W hW => by
    have h3 : W.heap[L]? ≠ none ∧ W.heap[D]? = some (.deferred (some [])) := by rcases hW with h | h <;> exact ⟨by rw [h.1]; exact fun e => (by cases e), h.2⟩
    have h4 : L < W.heap.size := by
      rcases Nat.lt_or_ge L W.heap.size with h | h
      · exact h
      · exact absurd (Array.getElem?_eq_none h) h3.1
    exact ⟨World.putObj_heap_same h4, (World.putObj_heap_other (by simp [L, D])).trans h3.2⟩
  refine ⟨L, [{ target := .collected D, args := #[] }], V, { target := .fn (.func gf) lb, args := #[.func (.yield L) #[] #[]] }, V, gf, #[.func (.yield L) #[] #[]] ++ lb, V, ?_, ?_, ?_, ?_, fun _ => h1, ?_⟩
  · rw [hV]; exact run_enterLoop_outer _ _ _ _ _
  · simp only [resolve, hg]; simp [go_sem]
  · intro f' hf'; simp [Target.leads] at hf'; subst hf'; exact hFg
  · simp [invoke, go_sem, eg]
  refine (hseq V wV L (fun pre W => I pre W ∧ Book .ready W) V (Below.refl _ _) ?_ ?_ ⟨iV, bV⟩).mono ?_
  · -- what the iterator does between two rounds
    intro s X Y row hs hgr hr
    have hnc : ∀ r, row = some r → ∃ o : Obj, X.heap[r]? = some o ∧ o.isWalk = true := fun r e => (hr r e).2
    refine ⟨hI s X Y row hs.1 hgr (fun r e => ?_), (grownBy_keeps hgr hnc hs.2.1 rfl).trans hs.2.1, (grownBy_keeps hgr hnc hs.2.2 rfl).trans hs.2.2⟩
    obtain ⟨h2, o, h3, h4⟩ := hr r e
    exact ⟨by have := wV.size; omega, o, h3, Obj.not_cells_of_walk h4⟩
  · -- a round
    rintro pre x W ⟨hi, hbk⟩ ht hlen
    have hy := run_yield (P := P) (args := encs x) hbk.1 (hps x)
    refine ⟨fn, _, assign, body, hy, roundIn_of_wpIn hfn (hassign L pre x W _ hi ht hlen fun a1 W1 kf kp i1 ha1 => ?_)⟩
    have hbk1 : Book .ready W1 := ⟨kf.same _ _ (by simp [L]) hbk.1 rfl, kf.same _ _ (by simp [D]) hbk.2 rfl⟩
    refine ⟨_, run_beginRound hbk1.1 rfl, ?_⟩
    have b2 : Book .busy (W1.putObj L (.loop (st .busy))) := turn .busy W1 (.inr hbk1)
    refine wpIn_mono (hbody L pre x a1 _ (hI.putObj _ i1 (by simp [L]) hbk1.1 rfl) ((hA x a1).putObj (s := ()) _ ha1 (by simp [L]) hbk1.1 rfl) hlen) ?_
    rintro e a3 W3 hp
    cases e with
    | normal =>
      obtain ⟨k3, l3, i3⟩ := hp
      have b3 : Book .busy W3 := ⟨k3.same _ _ (by simp [L]) b2.1 rfl, k3.same _ _ (by simp [D]) b2.2 rfl⟩
      have b4 : Book .ready (W3.putObj L (.loop (st .ready))) := turn .ready W3 (.inl b3)
      have hr := run_endRound (P := P) none b3.1
      exact ⟨_, _, hr, rfl, ⟨hI.putObj _ i3 (by simp [L]) b3.1 rfl, b4⟩, kp.trans ((KpS.put W1 L _ (fun h => by have h9 : w.heap.size + 1 < w.heap.size := hB _ h; omega)).trans (l3.trans (KpS.put W3 L _ (fun h => by have h9 : w.heap.size + 1 < w.heap.size := hB _ h; omega))))⟩
    | ret => exact hp.elim
    | exit id => exact hp.elim
    | goto t => exact hp.elim
    | panic c => exact hp.elim
    | outgrown => exact hp.elim
  · rintro e W2 ⟨⟨v, rfl⟩, xs, hS, hi, hbk⟩
    exact ⟨none, _, run_endLoop (P := P) hbk.1 (by simp [st]), hdone D xs _ (Nat.le_refl _) hS (hI.putObj _ hi (by simp [L]) hbk.1 rfl) ((World.putObj_heap_other (by simp [L, D])).trans hbk.2)⟩
end Go.Proofs.YtbceimbcjijfgaaDoor.Dig
