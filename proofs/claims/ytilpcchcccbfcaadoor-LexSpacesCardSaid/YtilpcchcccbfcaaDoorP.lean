/- The text of tokens: the program's function. -/
import Derived.Test.YtilpcchcccbfcaaDoorL
import Derived.IntWalk
namespace Go.Proofs.YtilpcchcccbfcaaDoor
open Go.RowKit

/-- what a token's numbers and lengths permit -/
def TokOk (t : Tok) : Prop := t.text.length ≤ 281474976710656 ∧ -9223372036854775808 ≤ t.n ∧ t.n ≤ 9223372036854775807
theorem valid_call (t : Tok) (w : World) (hk : TokOk t) (hT : Laid w) :
    Calls Tryd.prog 31 #[tokOf t] w fun e w' => e = .returned (.bool (validT t)) ∧ Below w.heap.size w w' := by
  by_cases h1 : t.kind = 1
  · have hv : validT t = fitsName t := by unfold validT; rw [if_pos h1]
    rw [hv]; exact valid_1 t w h1 hk.1 hT
  · by_cases h2 : t.kind = 2
    · have hv : validT t = fitsNumber t := by unfold validT; rw [if_neg h1, if_pos h2]
      rw [hv]; exact valid_2 t w h2
    · by_cases h3 : t.kind = 3
      · have hv : validT t = fitsSign t := by unfold validT; rw [if_neg h1, if_neg h2, if_pos h3]
        rw [hv]; exact valid_3 t w h3 hT
      · exact valid_low t w (by omega)
theorem valid_kind {t : Tok} (h : validT t = true) : t.kind = 1 ∨ t.kind = 2 ∨ t.kind = 3 := by
  unfold validT at h
  split at h
  · exact .inl (by assumption)
  · split at h
    · exact .inr (.inl (by assumption))
    · split at h
      · exact .inr (.inr (by assumption))
      · cases h
/-- the word of a token -/
def wordT (t : Tok) : List UInt8 := if t.kind = 2 then Lib.itoa t.n else t.text
theorem word_kind (t : Tok) (h : t.kind = 1 ∨ t.kind = 3) : (∃ y z, ∀ W : World, (Instr.index 51 kindsV (.int .i64 t.kind)).run Tryd.prog W = .ok (.agg #[y, z, .func (.func 45) #[] #[]]) W) ∧ wordT t = t.text := by
  rcases h with h | h
  · exact ⟨⟨_, _, by rw [h]; exact kinds_at1 .i64⟩, by unfold wordT; rw [if_neg (by omega)]⟩
  · exact ⟨⟨_, _, by rw [h]; exact kinds_at3 .i64⟩, by unfold wordT; rw [if_neg (by omega)]⟩
theorem word_kind2 (t : Tok) (h : t.kind = 2) : (∃ y z, ∀ W : World, (Instr.index 51 kindsV (.int .i64 t.kind)).run Tryd.prog W = .ok (.agg #[y, z, .func (.func 48) #[] #[]]) W) ∧ wordT t = Lib.itoa t.n :=
  ⟨⟨_, _, by rw [h]; exact kinds_at2 .i64⟩, by unfold wordT; rw [if_pos h]⟩

theorem run_load_tokAt (w : World) (b o : Nat) (t : Tok) (hc : ∀ j u, (tokCells t)[j]? = some u → w.cell? ⟨b, o + j, none⟩ = some u) : (loadVar 35 ⟨b, o, none⟩).run Tryd.prog w = .ok (tokOf t) w := by
  have hl : (loadCells ⟨b, o, none⟩ (tokCells t).length).run Tryd.prog w = .ok (tokCells t).toArray w :=
    run_loadCells_list (P := Tryd.prog) w ⟨b, o, none⟩ (tokCells t) (fun j v hv => by rw [Addr.add_lit]; exact hc j v hv)
  rw [tokCells_len] at hl
  have hagg : (isAgg 35).run Tryd.prog w = .ok true w := by
    unfold isAgg
    rw [Sem.run_bind, run_underlying Tryd.underlying35 w]
    rfl
  obtain ⟨i0, hi, hz0, hz1, hz2⟩ := info_parts Tryd.info35
  simp [loadVar, Sem.run_bind, hagg, sizeOf, typeInfo, hi, hz1, hl, tokOf]
theorem wpList_load_tokAt {ops : Array Oper} {rest : List Oper} {o : Oper} {a : Act} {w : World} {Q : Exit → Act → World → Prop} (hgd : o.guard = none) (x : Operand) (ho : o.op = .load 35 x)
    (b q : Nat) (t : Tok) (hx : a.eval x = .pointer (some ⟨b, q, none⟩)) (hc : ∀ j u, (tokCells t)[j]? = some u → w.cell? ⟨b, q + j, none⟩ = some u)
    (h : wpList Tryd.prog ops Q rest (a.put o.dst (tokOf t)) w) : wpList Tryd.prog ops Q (o :: rest) a w :=
  wpList_plain hgd fun _ hK => by
    unfold Oper.wp execOp
    simp only [ho, hx, Instr.loadAt, Instr.sureAddr, Sem.run_bind, Sem.run_pure, Result.andThen_ok, run_load_tokAt w b q t hc]
    exact hK _ _ h
theorem wpList_alloc_tok {ops : Array Oper} {rest : List Oper} {o : Oper} {a : Act} {w : World} {Q : Exit → Act → World → Prop} (hgd : o.guard = none) (t : Nat) (hd : o.dst = some t) (ho : o.op = .alloc 35)
    (h : ∀ g w', g = w.heap.size → Row w' g 35 tok0 → Below w.heap.size w w' → wpList Tryd.prog ops Q rest (a.put (some t) (.pointer (some ⟨g, 0, none⟩))) w') : wpList Tryd.prog ops Q (o :: rest) a w :=
  wpList_plain hgd fun _ hK => wp_alloc_tok t hd ho fun g w' h1 h2 h3 => hd ▸ hK _ _ (hd ▸ h g w' h1 h2 h3)
theorem wpList_store_tok {ops : Array Oper} {rest : List Oper} {o : Oper} {a : Act} {w : World} {Q : Exit → Act → World → Prop} (hgd : o.guard = none) (x y : Operand) (ho : o.op = .store 35 x y)
    (g : Nat) (t : Tok) (cs : List Value) (hl : cs.length = 4) (hx : a.eval x = .pointer (some ⟨g, 0, none⟩)) (hy : a.eval y = tokOf t) (hg : Row w g 35 cs) {B : Nat} {w0 : World} (hb : Below B w0 w) (hB : B ≤ g)
    (h : ∀ w', Row w' g 35 (tokCells t) → Below B w0 w' → (∀ g' T cs, g' ≠ g → Row w g' T cs → Row w' g' T cs) → wpList Tryd.prog ops Q rest (a.put o.dst undef) w') : wpList Tryd.prog ops Q (o :: rest) a w :=
  wpList_plain hgd fun _ hK => wp_store_row 35 x y ho g (tokCells t).toArray hx hy 35 cs.toArray hg (by rw [size35]; rfl) (by simp [hl, tokCells_len]) (tokArr_one t) (hK _ _ (h _ (hg.setRow _) (below_setRow hb _ _ hB) fun g' T cs hne hr => row_far hr _ hne))

/-- the cells of strings -/
def strs (ws : List (List UInt8)) : List Value := ws.map str
theorem Tryd.info9 : (Tryd.prog.info? 9).map (fun i => (i.zero, i.size, i.bytes)) = some (some (.string ⟨#[]⟩), 1, 16) := by kernel_rfl
theorem made_strs (n : Nat) : madeCells (Value.string ⟨#[]⟩).cells (n * 1) = (strs (List.replicate n [])).toArray := by
  apply Array.ext'
  rw [Nat.mul_one, show (Value.string ⟨#[]⟩).cells = #[Value.string ⟨#[]⟩] from rfl, toList_madeCells_one]
  simp [strs, str]
theorem wpList_make_str {ops : Array Oper} {rest : List Oper} {o : Oper} {a : Act} {w : World} {Q : Exit → Act → World → Prop} (hgd : o.guard = none) (x : Operand) (ho : o.op = .makeSlice 40 x x) (n : Nat) (hn : n ≤ 1000000) (hx : a.eval x = .int .i64 (n : Int))
    (h : ∀ g w', Row w' g 9 (strs (List.replicate n [])) → w.heap.size ≤ g → Below w.heap.size w w' → wpList Tryd.prog ops Q rest (a.put o.dst (.slice (some ⟨g, 0, none⟩) n n)) w') : wpList Tryd.prog ops Q (o :: rest) a w :=
  wpList_plain hgd fun _ hK => by
    obtain ⟨i0, hi, hz0, hz1, hz2⟩ := info_parts Tryd.info9
    have hr := run_makeSlice (P := Tryd.prog) w 40 9 i0 (.string ⟨#[]⟩) Tryd.underlying40 hi hz0 .i64 .i64 (n : Int) (n : Int) (by omega) (by omega) (by rw [hz1, Int.toNat_natCast]; omega) (by rw [hz2]; omega) (by omega)
    rw [hz1, Int.toNat_natCast, made_strs] at hr
    have h1 := hK _ _ (h _ _ (row_new w 9 _) (Nat.le_refl _) (Joins.below_alloc1 w _))
    unfold Oper.wp execOp
    simp [ho, hx, hr]
    exact h1
theorem wp_store_str {o : Oper} {a : Act} {w : World} {K : Act → World → Prop} {Q : Exit → Act → World → Prop} (x y : Operand) (ho : o.op = .store 9 x y)
    (g i : Nat) (l : List UInt8) (cs cs' : List Value) (hx : a.eval x = .pointer (some ⟨g, i, none⟩)) (hy : a.eval y = str l) (hg : Row w g 9 cs) (hi : i < cs.length) (he : cs.set i (str l) = cs') {B : Nat} {w0 : World} (hb : Below B w0 w) (hB : B ≤ g)
    (h : ∀ w', Row w' g 9 cs' → Below B w0 w' → K (a.put o.dst undef) w') : o.wp Tryd.prog a w K Q := by
  have hc := hg.cell (i := i) (List.getElem?_eq_getElem hi)
  have hf := hg.free i
  have h1 := h _ (hg.set i (str l) he) ⟨hb.os, hb.tape, hb.output, by have := hb.size; simpa using this, fun k hk => (heap_setCell_other w ⟨g, i, none⟩ k _ (by simp; omega)).trans (hb.block k hk)⟩
  unfold str at hy h1
  unfold Oper.wp execOp
  simp only [ho, hx, hy]
  go_simp
  exact h1
end Go.Proofs.YtilpcchcccbfcaaDoor
