/- A number loaded ahead of all else in a region; a number stored. -/
import Derived.Test.YtbcfmpohempkpaaDoorXRaZ
import Derived.Deep.MidRow
import Derived.Deep.RegionHeld3
namespace Go.Proofs.YtbcfmpohempkpaaDoor.Dig
open Go.RowKit

def CellAt (S : World → Prop) (g i : Nat) (n : Nat) : Prop := ∀ w, S w → w.cell? ⟨g, i, none⟩ = some (.int .u32 (n : Int))
theorem run_load_u (w : World) (g i n : Nat) (hc : w.cell? ⟨g, i, none⟩ = some (.int .u32 (n : Int))) : (Instr.loadAt 89 (.pointer (some ⟨g, i, none⟩))).run Tryd.prog w = .ok (.int .u32 (n : Int)) w := by
  have h57 : Tryd.prog.underlying 89 = some (.int .u32) := by kernel_rfl
  have hl : (loadVar 89 ⟨g, i, none⟩).run Tryd.prog w = .ok (.int .u32 (n : Int)) w := by
    unfold loadVar
    simp [Sem.run_bind, run_underlying h57 w, hc]
  simp [Instr.loadAt, Instr.sureAddr, Sem.run_bind, hl]
theorem yields_u {ops : Array Oper} {S : World → Prop} {op : Oper} {a : Act} {x : Operand} {g i n : Nat} (hS : CellAt S g i n) (ho : op.op = .load 89 x)
    (hx : a.eval x = .pointer (some ⟨g, i, none⟩)) (hw : Region.wanted op (yielded ops a.tmps) = true) : YieldsIf Tryd.prog ops S op (.int .u32 (n : Int)) a :=
  .inl ⟨hw, fun w hw' => by
    unfold execOp
    simp only [ho, hx, Sem.run_bind, Sem.run_pure, run_load_u w g i n (hS w hw'), Result.andThen_ok]⟩
theorem take_u {md : Region.Mode} {ops : Array Oper} {Q : Exit → Act → World → Prop} {S : World → Prop} {i : Nat} {oi : Oper} {fuel : Nat} {listed : Array Bool} {a : Act} {w : World} {x : Operand} {g j n : Nat}
    (hd : CellAt S g j n) (hi : ops[i]? = some oi)
    (hs : Region.noSelect ops = true) (hf : Region.free md ops listed i = true) (hr : (Region.ready md ops listed).contains i = true)
    (hQ : ∀ c a w, Q (.panic c) (a.put oi.dst (.int .u32 (n : Int))) w → Q (.panic c) a w) (hSw : S w) (ho : oi.op = .load 89 x) (hx : a.eval x = .pointer (some ⟨g, j, none⟩)) (hw : Region.wanted oi (yielded ops a.tmps) = true)
    (h : wpAnyH Tryd.prog md ops Q S fuel (listed.setIfInBounds i true) (a.put oi.dst (.int .u32 (n : Int))) w) : wpAnyH Tryd.prog md ops Q S (fuel + 1) listed a w :=
  wpAnyH_take hi hs hf hr hQ (yields_u hd ho hx hw) hSw h
theorem wp_store_u {o : Oper} {a : Act} {w : World} {K : Act → World → Prop} {Q : Exit → Act → World → Prop} (x y : Operand) (ho : o.op = .store 89 x y) (g i : Nat) (v : Int)
    (hx : a.eval x = .pointer (some ⟨g, i, none⟩)) (hy : a.eval y = .int .u32 v) (hc : ∃ q, w.cell? ⟨g, i, none⟩ = some q) (hf : w.frozen? ⟨g, i, none⟩ = false)
    (h : ∀ w', w' = w.setCell ⟨g, i, none⟩ (.int .u32 v) → K (a.put o.dst undef) w') : o.wp Tryd.prog a w K Q := by
  have h57 : (Tryd.prog.info? 89).map (·.size) = some 1 := by kernel_rfl
  obtain ⟨q, hq⟩ := hc
  have h' := h _ rfl
  cases hi : Tryd.prog.info? 89 with
  | none => rw [hi] at h57; cases h57
  | some i0 =>
    rw [hi] at h57
    have hs : i0.size = 1 := by simpa using h57
    have hst : (storeCells ⟨g, i, none⟩ [Value.int .u32 v] 0).run Tryd.prog w = .ok () (w.setCell ⟨g, i, none⟩ (.int .u32 v)) := by
      have := run_storeCells_cells (P := Tryd.prog) g i [Value.int .u32 v] 0 w (fun j hj => by obtain rfl : j = 0 := (by simpa using hj); simp [hq]) (fun j hj => by obtain rfl : j = 0 := (by simpa using hj); simp [hf]) (fun u hu => by simp at hu; subst hu; rfl)
      simpa [World.setCells] using this
    unfold Oper.wp execOp
    simp [ho, hx, hy, hst, Instr.storeAt, Instr.sureAddr, storeVar, sizeOf, typeInfo, hi, hs, Sem.run_bind, Value.cells, hq, hf, Value.oneCell']
    exact h'
theorem like_draw {wr w w' : World} (h : Like wr w) (hk : ∃ k, w' = w.drewN k) : Like wr w' := by
  obtain ⟨k, rfl⟩ := hk
  exact h.drewN k
theorem cut1 {A : Type} {F : A → Prop} (G : A → Prop) {R : Prop} (rest : (∀ a, F a → G a) → R) (kk : ∀ a, F a → G a) : R := rest kk
end Go.Proofs.YtbcfmpohempkpaaDoor.Dig
