/- Digests compared. -/
import Derived.ChangeKeysEq
import Derived.LoopNIn
import Derived.Deep.RegionLaw
import Derived.Deep.RegionHeld
import Derived.BigRegion
import Derived.Deep.MidRow
import Derived.Deep.RegionHeld3
import Derived.Test.YtbcfmpohempkpaaDoorZc20
namespace Go.Proofs.YtbcfmpohempkpaaDoor.Dig
open Go.RowKit

theorem Tryd.cells5 : Tryd.prog.cellsOf 5 = 1 := by kernel_rfl
end Go.Proofs.YtbcfmpohempkpaaDoor.Dig

/- The path of an element: the program's functions. -/
namespace Go.Proofs.YtbcfmpohempkpaaDoor.Dig
open Go.RowKit

theorem DNew.app {w0 w w1 : World} {v v' : Value} {xs ys : List (List UInt8)} (h : DNew w0 w v xs) (hb : DBuf w1 v' ys) (hw : Wrote w w1 v v') : DNew w0 w1 v' ys := by
  have := wrote_below hw h.2.1 h.2.2
  exact ⟨hb, this.1, this.2⟩
end Go.Proofs.YtbcfmpohempkpaaDoor.Dig

/- More of a walk's steps: bytes and digests appended, slices made of nothing. -/
namespace Go.Proofs.YtbcfmpohempkpaaDoor.Dig
open Go.RowKit

theorem wp_buf {w : World} {o : Oper} {a : Act} {K : Act → World → Prop} {Q : Exit → Act → World → Prop} (hgd : o.guard = none) (s x : Operand)
    (ho : o.op = .call { callee := .builtin .append, args := #[s, x], argTypes := #[22, 22] })
    (v : Value) (xs : List UInt8) (hs : a.eval s = v) (hb : Buf w v xs) (sv : Value) (B : Nat) (ys : List UInt8) (hx : a.eval x = sv) (hr : Rest B w ys sv) (hlen : xs.length + ys.length ≤ 70368744177664)
    (h : ∀ v' w', Buf w' v' (xs ++ ys) → Wrote w w' v v' → K (a.put o.dst v') w') : o.wp Tryd.prog a w K Q := by
  obtain ⟨i0, hi, hz0, hz1, hz2⟩ := info_parts Tryd.info5
  obtain ⟨ad, cap, rfl, hcap, hcm, hn, hc⟩ := hr
  have hown : w.ownsRow 0 5 1 v xs.length (cellsOf xs) := hb
  have hy : (cellsOf ys).length = ys.length * 1 := by rw [cellsOf_len, Nat.mul_one]
  cases ad with
  | none =>
    obtain ⟨h0, rfl⟩ := hn rfl
    obtain rfl : ys = [] := List.eq_nil_of_length_eq_zero h0
    have hrun := run_append_owned_none (P := Tryd.prog) (w := w) 0 22 o.type 5 i0 1 Tryd.underlying22 hi v xs.length (cellsOf xs) hown
    have := h v w (by rw [List.append_nil]; exact hb) (Wrote.refl w v)
    simp only [List.length_nil] at hx
    unfold Oper.wp
    simp [execOp, ho, resolve, invoke, builtin, hs, hx, hrun, Result.andThen]
    exact this
  | some ad =>
    have hw : Region.wanted o (yielded #[] a.tmps) = true := by simp [Region.wanted, hgd]
    have := step_append_mine (ops := #[]) (E := True) (Q := Q) w hgd s x 22 ho 5 i0 (.int .u8 0) 1 1 Tryd.underlying22 hi hz0 hz1 hz2 rfl (by decide) v xs.length (cellsOf xs) hs hown ad ys.length cap (cellsOf ys) hx hy (fun j u hj => by
      rcases hc with h0 | ⟨b, off, he, _, hc⟩
      · obtain rfl : ys = [] := List.eq_nil_of_length_eq_zero h0
        simp [cellsOf] at hj
      · obtain rfl := Option.some.inj he
        have hjl : j < ys.length := by
          have := (List.getElem?_eq_some_iff.1 hj).1
          rwa [cellsOf_len] at this
        rw [cellsOf_get hjl] at hj
        rw [← hj, Addr.add_lit]
        exact hc j hjl) (cellsOf_oneCell ys) (by unfold maxLen; omega) (by omega) (K := K) (fun v' w' ho1 hw1 => h v' w' (by unfold Buf; rw [List.length_append, cellsOf_append]; exact ho1) hw1)
    rwa [if_pos hw] at this

theorem run_build_none (t e : TypeId) (i0 : TypeInfo) (ht : Tryd.prog.underlying t = some (.slice e)) (hi : Tryd.prog.info? e = some i0) (w : World) :
    (Instr.buildSlice t 0 #[]).run Tryd.prog w = .ok (.slice (some ⟨w.heap.size, 0, none⟩) 0 0) (w.alloc (.cells #[] e)) := by
  unfold Instr.buildSlice
  simp [Sem.run_bind, run_underlying ht w, sizeOf, typeInfo, hi, Instr.fill, newRow, Array.range_zero']
theorem buf_none (w : World) : Buf (w.alloc (.cells #[] 5)) (.slice (some ⟨w.heap.size, 0, none⟩) 0 0) [] :=
  ⟨rfl, .inr ⟨w.heap.size, 0, #[], rfl, Nat.zero_le _, heap_alloc_new w _, Nat.le_refl _, Nat.zero_le _, rfl, rfl⟩⟩
theorem new_none (w : World) : New w (w.alloc (.cells #[] 5)) (.slice (some ⟨w.heap.size, 0, none⟩) 0 0) [] :=
  ⟨buf_none w, Joins.below_alloc1 w _, fun k hk => by simp [Value.ownBlock] at hk; omega⟩
theorem New.keep {w0 w w' : World} {v : Value} {xs : List UInt8} (h : New w0 w v xs) (hb : Below w.heap.size w w') : New w0 w' v xs := ⟨buf_stays h.1 hb, below_next h.2.1 hb, h.2.2⟩
end Go.Proofs.YtbcfmpohempkpaaDoor.Dig

/- DigestTags: the law's walk. -/
namespace Go.Proofs.YtbcfmpohempkpaaDoor.Dig
open Go.RowKit

theorem New.since {w0 w1 w : World} {v : Value} {xs : List UInt8} (h : New w1 w v xs) (hb : Below w0.heap.size w0 w1) : New w0 w v xs := ⟨h.1, below_next hb h.2.1, fun k hk => Nat.le_trans hb.size (h.2.2 k hk)⟩
theorem buf_rest' {w : World} {v : Value} {xs : List UInt8} (h : Buf w v xs) : Rest w.heap.size w xs v := by obtain ⟨a, cap, rfl, hr⟩ := buf_rest h; exact hr
theorem wp_build_none {o : Oper} {a : Act} {w : World} {K : Act → World → Prop} {Q : Exit → Act → World → Prop} (t e : TypeId) (ho : o.op = .buildSlice t 0 #[]) (i0 : TypeInfo) (ht : Tryd.prog.underlying t = some (.slice e)) (hi : Tryd.prog.info? e = some i0)
    (h : K (a.put o.dst (.slice (some ⟨w.heap.size, 0, none⟩) 0 0)) (w.alloc (.cells #[] e))) : o.wp Tryd.prog a w K Q := by
  have hr := run_build_none t e i0 ht hi w
  unfold Oper.wp execOp
  simp [ho, hr, Sem.run_bind]
  exact h

end Go.Proofs.YtbcfmpohempkpaaDoor.Dig

/- The list of digests that bytes determine: the laws' function. -/
namespace Go.Proofs.YtbcfmpohempkpaaDoor.Dig
open Go.RowKit

theorem DNew.shape {w0 w : World} {v : Value} {xs : List (List UInt8)} (h : DNew w0 w v xs) : ∃ a c, v = .slice a xs.length c := by
  obtain ⟨_, a, c, h1, _⟩ := dbuf_rest h.1; exact ⟨a, c, h1⟩

end Go.Proofs.YtbcfmpohempkpaaDoor.Dig

/- DigestHalves: the law's walk. -/
namespace Go.Proofs.YtbcfmpohempkpaaDoor.Dig
open Go.RowKit

set_option maxRecDepth 100000 in
theorem row_far {w : World} {g g' T : Nat} {cs : List Value} (h : Row w g T cs) (cs' : Array Value) (hne : g ≠ g') : Row (w.setRow g' cs') g T cs := (setRow_other w g' g cs' (by omega)).trans h
set_option maxRecDepth 100000 in
theorem wp_alloc_dig {o : Oper} {a : Act} {w : World} {K : Act → World → Prop} {Q : Exit → Act → World → Prop} (t : Nat) (hd : o.dst = some t) (ho : o.op = .alloc 59)
    (h : ∀ g w', g = w.heap.size → Row w' g 59 zb → Below w.heap.size w w' → K (a.put (some t) (.pointer (some ⟨g, 0, none⟩))) w') : o.wp Tryd.prog a w K Q := by
  have h1 := h w.heap.size (w.alloc (.cells z32 59)) rfl (row_new w 59 zb) (Joins.below_alloc1 w _)
  obtain ⟨i0, hi, hz0, -, -⟩ := info_parts Tryd.info59
  rw [← hd] at h1
  unfold Oper.wp
  simp [execOp, ho, newObj, newVar, zeroValue, typeInfo, hi, hz0, Sem.run_bind]
  exact h1
set_option maxRecDepth 100000 in
theorem wp_store_dig' {o : Oper} {a : Act} {w : World} {K : Act → World → Prop} {Q : Exit → Act → World → Prop} (x y : Operand) (ho : o.op = .store 59 x y)
    (g : Nat) (d : List UInt8) (hd : d.length = 32) (hx : a.eval x = .pointer (some ⟨g, 0, none⟩)) (hy : a.eval y = dg d) (hg : Row w g 59 zb) {B : Nat} {w0 : World} (hb : Below B w0 w) (hB : B ≤ g)
    (h : ∀ w', Row w' g 59 (cellsOf d) → Below B w0 w' → (∀ g' T cs, g' ≠ g → Row w g' T cs → Row w' g' T cs) → K (a.put o.dst undef) w') : o.wp Tryd.prog a w K Q :=
  wp_store_dig x y ho g d hd hx hy hg (h _ (hg.setRow _) (below_setRow hb _ _ hB) fun g' T cs hne hr => row_far hr _ hne)

set_option maxRecDepth 100000 in
theorem wp_none' {o : Oper} {a : Act} {w w0 : World} {K : Act → World → Prop} {Q : Exit → Act → World → Prop} (ho : o.op = .buildSlice 22 0 #[]) (hb : Below w0.heap.size w0 w)
    (h : ∀ v' w', New w0 w' v' [] → K (a.put o.dst v') w') : o.wp Tryd.prog a w K Q := by
  obtain ⟨i0, hi, -, -, -⟩ := info_parts Tryd.info5
  exact wp_build_none 22 5 ho i0 Tryd.underlying22 hi (h _ _ ((new_none w).since hb))
set_option maxRecDepth 100000 in
theorem wp_buf' {w w0 : World} {o : Oper} {a : Act} {K : Act → World → Prop} {Q : Exit → Act → World → Prop} (hgd : o.guard = none) (s x : Operand)
    (ho : o.op = .call { callee := .builtin .append, args := #[s, x], argTypes := #[22, 22] })
    (v : Value) (xs : List UInt8) (hs : a.eval s = v) (hn : New w0 w v xs) (sv : Value) (B : Nat) (ys : List UInt8) (hx : a.eval x = sv) (hr : Rest B w ys sv) (hlen : xs.length + ys.length ≤ 70368744177664)
    (h : ∀ v' w', New w0 w' v' (xs ++ ys) → K (a.put o.dst v') w') : o.wp Tryd.prog a w K Q :=
  wp_buf hgd s x ho v xs hs hn.1 sv B ys hx hr hlen fun v' w' hb hw => h v' w' (hn.app hb hw)
end Go.Proofs.YtbcfmpohempkpaaDoor.Dig

/- Steps of a walk that make and append lists of digests; each names what it leaves. -/
namespace Go.Proofs.YtbcfmpohempkpaaDoor.Dig
open Go.RowKit

set_option maxRecDepth 100000 in
theorem wpList_alloc_dig {ops : Array Oper} {rest : List Oper} {o : Oper} {a : Act} {w : World} {Q : Exit → Act → World → Prop} (hgd : o.guard = none) (t : Nat) (hd : o.dst = some t) (ho : o.op = .alloc 59)
    (h : ∀ g w', g = w.heap.size → Row w' g 59 zb → Below w.heap.size w w' → wpList Tryd.prog ops Q rest (a.put (some t) (.pointer (some ⟨g, 0, none⟩))) w') : wpList Tryd.prog ops Q (o :: rest) a w :=
  wpList_plain hgd fun _ hK => wp_alloc_dig t hd ho fun g w' h1 h2 h3 => hd ▸ hK _ _ (hd ▸ h g w' h1 h2 h3)
set_option maxRecDepth 100000 in
theorem wpList_store_dig {ops : Array Oper} {rest : List Oper} {o : Oper} {a : Act} {w : World} {Q : Exit → Act → World → Prop} (hgd : o.guard = none) (x y : Operand) (ho : o.op = .store 59 x y)
    (g : Nat) (d : List UInt8) (hd : d.length = 32) (hx : a.eval x = .pointer (some ⟨g, 0, none⟩)) (hy : a.eval y = dg d) (hg : Row w g 59 zb) {B : Nat} {w0 : World} (hb : Below B w0 w) (hB : B ≤ g)
    (h : ∀ w', Row w' g 59 (cellsOf d) → Below B w0 w' → (∀ g' T cs, g' ≠ g → Row w g' T cs → Row w' g' T cs) → wpList Tryd.prog ops Q rest (a.put o.dst undef) w') : wpList Tryd.prog ops Q (o :: rest) a w :=
  wpList_plain hgd fun _ hK => wp_store_dig' x y ho g d hd hx hy hg hb hB fun w' h1 h2 h3 => hK _ _ (h w' h1 h2 h3)
set_option maxRecDepth 100000 in
theorem wpList_row_dig {ops : Array Oper} {rest : List Oper} {o : Oper} {a : Act} {w : World} {Q : Exit → Act → World → Prop} (hgd : o.guard = none) (x : Operand) (ho : o.op = .load 59 x)
    (g : Nat) (d : List UInt8) (hd : d.length = 32) (hx : a.eval x = .pointer (some ⟨g, 0, none⟩)) (hg : Row w g 59 (cellsOf d))
    (h : wpList Tryd.prog ops Q rest (a.put o.dst (dg d)) w) : wpList Tryd.prog ops Q (o :: rest) a w :=
  wpList_load_row hgd 59 x ho g hx 59 (cellsOf d).toArray (0, 0) _ hg Tryd.underlying59 rfl (size32' hd) h
end Go.Proofs.YtbcfmpohempkpaaDoor.Dig
