/- DigestTags: the law's walk. -/
import Derived.Test.YtcoboacjcnjdoaaDoorXZ
namespace Go.Proofs.YtcoboacjcnjdoaaDoor.Dig
open Go.RowKit

theorem New.since {w0 w1 w : World} {v : Value} {xs : List UInt8} (h : New w1 w v xs) (hb : Below w0.heap.size w0 w1) : New w0 w v xs := ⟨h.1, below_next hb h.2.1, fun k hk => Nat.le_trans hb.size (h.2.2 k hk)⟩
theorem buf_rest' {w : World} {v : Value} {xs : List UInt8} (h : Buf w v xs) : Rest w.heap.size w xs v := by obtain ⟨a, cap, rfl, hr⟩ := buf_rest h; exact hr
theorem wp_build_none {o : Oper} {a : Act} {w : World} {K : Act → World → Prop} {Q : Exit → Act → World → Prop} (t e : TypeId) (ho : o.op = .buildSlice t 0 #[]) (i0 : TypeInfo) (ht : Tryd.prog.underlying t = some (.slice e)) (hi : Tryd.prog.info? e = some i0)
    (h : K (a.put o.dst (.slice (some ⟨w.heap.size, 0, none⟩) 0 0)) (w.alloc (.cells #[] e))) : o.wp Tryd.prog a w K Q := by
  have hr := run_build_none t e i0 ht hi w
  unfold Oper.wp execOp
  simp [ho, hr, Sem.run_bind]
  exact h

end Go.Proofs.YtcoboacjcnjdoaaDoor.Dig
