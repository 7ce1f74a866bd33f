/- More of a walk's steps: bytes and digests appended, slices made of nothing. -/
import Derived.Test.YtcoboacjcnjdoaaDoorXX
import Derived.Test.YtcoboacjcnjdoaaDoorXU
namespace Go.Proofs.YtcoboacjcnjdoaaDoor.Dig
open Go.RowKit

theorem wp_buf {w : World} {o : Oper} {a : Act} {K : Act → World → Prop} {Q : Exit → Act → World → Prop} (hgd : o.guard = none) (s x : Operand)
    (ho : o.op = .call { callee := .builtin .append, args := #[s, x], argTypes := #[22, 22] })
    (v : Value) (xs : List UInt8) (hs : a.eval s = v) (hb : Buf w v xs) (sv : Value) (B : Nat) (ys : List UInt8) (hx : a.eval x = sv) (hr : Rest B w ys sv) (hlen : xs.length + ys.length ≤ 70368744177664)
    (h : ∀ v' w', Buf w' v' (xs ++ ys) → Wrote w w' v v' → K (a.put o.dst v') w') : o.wp Tryd.prog a w K Q := by
  obtain ⟨i0, hi, hz0, hz1, hz2⟩ := info_parts Tryd.info5
  obtain ⟨ad, cap, rfl, hcap, hcm, hn, hc⟩ := hr
  have hown : w.ownsRow 0 5 1 v xs.length (cellsOf xs) := hb
  have hy : (cellsOf ys).length = ys.length * 1 := by rw [cellsOf_len, Nat.mul_one]
  cases ad with
  | none =>
    obtain ⟨h0, rfl⟩ := hn rfl
    obtain rfl : ys = [] := List.eq_nil_of_length_eq_zero h0
    have hrun := run_append_owned_none (P := Tryd.prog) (w := w) 0 22 o.type 5 i0 1 Tryd.underlying22 hi v xs.length (cellsOf xs) hown
    have := h v w (by rw [List.append_nil]; exact hb) (Wrote.refl w v)
    simp only [List.length_nil] at hx
    unfold Oper.wp
    simp [execOp, ho, resolve, invoke, builtin, hs, hx, hrun, Result.andThen]
    exact this
  | some ad =>
    have hw : Region.wanted o (yielded #[] a.tmps) = true := by simp [Region.wanted, hgd]
    have := step_append_mine (ops := #[]) (E := True) (Q := Q) w hgd s x 22 ho 5 i0 (.int .u8 0) 1 1 Tryd.underlying22 hi hz0 hz1 hz2 rfl (by decide) v xs.length (cellsOf xs) hs hown ad ys.length cap (cellsOf ys) hx hy (fun j u hj => by
      rcases hc with h0 | ⟨b, off, he, _, hc⟩
      · obtain rfl : ys = [] := List.eq_nil_of_length_eq_zero h0
        simp [cellsOf] at hj
      · obtain rfl := Option.some.inj he
        have hjl : j < ys.length := by
          have := (List.getElem?_eq_some_iff.1 hj).1
          rwa [cellsOf_len] at this
        rw [cellsOf_get hjl] at hj
        rw [← hj, Addr.add_lit]
        exact hc j hjl) (cellsOf_oneCell ys) (by unfold maxLen; omega) (by omega) (K := K) (fun v' w' ho1 hw1 => h v' w' (by unfold Buf; rw [List.length_append, cellsOf_append]; exact ho1) hw1)
    rwa [if_pos hw] at this

theorem run_build_none (t e : TypeId) (i0 : TypeInfo) (ht : Tryd.prog.underlying t = some (.slice e)) (hi : Tryd.prog.info? e = some i0) (w : World) :
    (Instr.buildSlice t 0 #[]).run Tryd.prog w = .ok (.slice (some ⟨w.heap.size, 0, none⟩) 0 0) (w.alloc (.cells #[] e)) := by
  unfold Instr.buildSlice
  simp [Sem.run_bind, run_underlying ht w, sizeOf, typeInfo, hi, Instr.fill, newRow, Array.range_zero']
theorem buf_none (w : World) : Buf (w.alloc (.cells #[] 5)) (.slice (some ⟨w.heap.size, 0, none⟩) 0 0) [] :=
  ⟨rfl, .inr ⟨w.heap.size, 0, #[], rfl, Nat.zero_le _, heap_alloc_new w _, Nat.le_refl _, Nat.zero_le _, rfl, rfl⟩⟩
theorem new_none (w : World) : New w (w.alloc (.cells #[] 5)) (.slice (some ⟨w.heap.size, 0, none⟩) 0 0) [] :=
  ⟨buf_none w, Joins.below_alloc1 w _, fun k hk => by simp [Value.ownBlock] at hk; omega⟩
theorem New.keep {w0 w w' : World} {v : Value} {xs : List UInt8} (h : New w0 w v xs) (hb : Below w.heap.size w w') : New w0 w' v xs := ⟨buf_stays h.1 hb, below_next h.2.1 hb, h.2.2⟩
end Go.Proofs.YtcoboacjcnjdoaaDoor.Dig
