/- Digests compared. -/
import Derived.Test.YtjibhelahagliaaDoorV
import Derived.ChangeKeysEq
namespace Go.Proofs.YtjibhelahagliaaDoor
open Go.RowKit

theorem Tryd.cells5 : Tryd.prog.cellsOf 5 = 1 := by kernel_rfl
theorem Tryd.under5 : Tryd.prog.underlying 5 = some (.int .u8) := by kernel_rfl
theorem run_part_u8 (l : List UInt8) (i : Nat) (hi : i < l.length) (w : World) : (part 5 (cellsOf l).toArray i).run Tryd.prog w = .ok (.int .u8 ((l.getD i 0).toNat : Int)) w := by
  have hg : ((cellsOf l).toArray)[i]? = some (.int .u8 ((l.getD i 0).toNat : Int)) := by
    rw [List.getElem?_toArray, cellsOf_get hi]; simp [hi]
  have hagg : (isAgg 5).run Tryd.prog w = .ok false w := by
    unfold isAgg
    rw [Sem.run_bind, run_underlying Tryd.under5 w]
    rfl
  unfold part
  rw [Sem.run_bind, hagg]
  simp [hg]
theorem run_items (a b : List UInt8) (w : World) : ∀ (is : List Nat), (∀ i ∈ is, i < a.length ∧ i < b.length) →
    (Op.eqItems 9999 5 1 (cellsOf a).toArray (cellsOf b).toArray is).run Tryd.prog w = .ok (is.all fun i => a.getD i 0 == b.getD i 0) w
  | [], _ => by simp [Op.eqItems]
  | i :: is, h => by
    have h1 := h i (by simp)
    have ih := run_items a b w is (fun j hj => h j (by simp [hj]))
    have he : (Op.equalIn 9999 5 (.int .u8 ((a.getD i 0).toNat : Int)) (.int .u8 ((b.getD i 0).toNat : Int))).run Tryd.prog w = .ok (((a.getD i 0).toNat : Int) == ((b.getD i 0).toNat : Int)) w := run_equalIn_int w 9998 5 .u8 .u8 _ _ Tryd.under5
    have hbb : (((a.getD i 0).toNat : Int) == ((b.getD i 0).toNat : Int)) = (a.getD i 0 == b.getD i 0) := by
      rw [Bool.eq_iff_iff]; simp [UInt8.toNat_inj, Int.ofNat_inj]
    simp only [Op.eqItems, Nat.mul_one, Sem.run_bind, run_part_u8 a i h1.1 w, run_part_u8 b i h1.2 w, Result.andThen_ok, he, hbb, List.all_cons]
    cases h2 : (a.getD i 0 == b.getD i 0)
    · simp
    · simp [ih]
theorem eq_bytes {a b : List UInt8} (ha : a.length = 32) (hb : b.length = 32) : ((List.range 32).all fun i => a.getD i 0 == b.getD i 0) = (a == b) := by
  rw [Bool.eq_iff_iff, List.all_eq_true, beq_iff_eq]
  constructor
  · intro h
    apply List.ext_getElem (by omega)
    intro i h1 h2
    have := h i (by rw [List.mem_range]; omega)
    rw [beq_iff_eq] at this
    simpa [h1, h2] using this
  · rintro rfl i _
    simp
theorem run_eq_dig (a b : List UInt8) (ha : a.length = 32) (hb : b.length = 32) (w : World) : (Op.equalIn 10000 26 (dg a) (dg b)).run Tryd.prog w = .ok (a == b) w := by
  obtain ⟨i, hi⟩ : ∃ i, Tryd.prog.info? 5 = some i := by
    cases h : Tryd.prog.info? 5 with
    | none => exact absurd h (by decide +kernel)
    | some i => exact ⟨i, rfl⟩
  unfold dg
  rw [run_equalIn_array w 9999 _ _ Tryd.underlying26 hi, Tryd.cells5, run_items a b w _ (fun i hi => by rw [List.mem_range] at hi; omega), eq_bytes ha hb]
theorem wp_eq_dig {o : Oper} {a : Act} {w : World} {K : Act → World → Prop} {Q : Exit → Act → World → Prop} (x y : Operand) (ho : o.op = .binOp .eql 26 x y 26)
    (c d : List UInt8) (hc : c.length = 32) (hd : d.length = 32) (hx : a.eval x = dg c) (hy : a.eval y = dg d)
    (h : K (a.put o.dst (.bool (c == d))) w) : o.wp Tryd.prog a w K Q := by
  have he := run_eq_dig c d hc hd w
  unfold dg at he hx hy
  unfold Oper.wp execOp
  simp [ho, hx, hy, Sem.run_bind, run_eqGuard_agg, run_eql_struct, he]
  exact h
end Go.Proofs.YtjibhelahagliaaDoor
