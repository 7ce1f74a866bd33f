/- Lists of digests in memory: read, owned, loaded, appended to; and one law for each of a walk's steps on whole digests. -/
import Derived.Deep.RegionLaw
import Derived.Test.YtbceimbcjijfgaaDoorZq11
import Derived.Test.YtbceimbcjijfgaaDoorZq12
import Derived.Test.YtbceimbcjijfgaaDoorZq13
namespace Go.Proofs.YtbceimbcjijfgaaDoor.Dig
open Go.RowKit

/-- every element is a digest -/
def Digs (ds : List (List UInt8)) : Prop := ∀ d ∈ ds, d.length = 32
theorem Digs.get {ds : List (List UInt8)} (h : Digs ds) {i : Nat} (hi : i < ds.length) : (ds.getD i []).length = 32 := by
  rw [List.getD_eq_getElem?_getD, List.getElem?_eq_getElem hi]; exact h _ (List.getElem_mem hi)
theorem Digs.take {ds : List (List UInt8)} (h : Digs ds) (k : Nat) : Digs (ds.take k) := fun d hd => h d (List.mem_of_mem_take hd)
theorem Digs.drop {ds : List (List UInt8)} (h : Digs ds) (k : Nat) : Digs (ds.drop k) := fun d hd => h d (List.mem_of_mem_drop hd)

/-- In world w the slice v holds the digests ds, in a block below B. -/
def DRest (B : Nat) (w : World) (ds : List (List UInt8)) (v : Value) : Prop :=
  Digs ds ∧ ∃ (a : Option Addr) (cap : Nat), v = .slice a ds.length cap ∧ ds.length ≤ cap ∧ cap ≤ maxLen ∧ (a = none → ds.length = 0 ∧ cap = 0) ∧
    (ds.length = 0 ∨ ∃ b off, a = some ⟨b, off, none⟩ ∧ b < B ∧ ∀ i, i < ds.length → ∀ j, j < 32 → w.cell? ⟨b, off + i * 32 + j, none⟩ = some (.int .u8 (((ds.getD i []).getD j 0).toNat : Int)))
theorem DRest.stays {B : Nat} {w w' : World} {ds : List (List UInt8)} {v : Value} (h : DRest B w ds v) (hb : Below B w w') : DRest B w' ds v := by
  obtain ⟨h0, a, cap, h1, h2, h3, h4, h5⟩ := h
  refine ⟨h0, a, cap, h1, h2, h3, h4, ?_⟩
  rcases h5 with h6 | ⟨b, off, ha, hl, hc⟩
  · exact .inl h6
  · exact .inr ⟨b, off, ha, hl, fun i hi j hj => (hb.cell (p := ⟨b, off + i * 32 + j, none⟩) hl).trans (hc i hi j hj)⟩
theorem DRest.mono {B B' : Nat} {w : World} {ds : List (List UInt8)} {v : Value} (h : DRest B w ds v) (hb : B ≤ B') : DRest B' w ds v := by
  obtain ⟨h0, a, cap, h1, h2, h3, h4, h5⟩ := h
  refine ⟨h0, a, cap, h1, h2, h3, h4, ?_⟩
  rcases h5 with h6 | ⟨b, off, ha, hl, hc⟩
  · exact .inl h6
  · exact .inr ⟨b, off, ha, by omega, hc⟩
theorem DRest.keep {w w' : World} {ds : List (List UInt8)} {v : Value} (h : DRest w.heap.size w ds v) (hb : Below w.heap.size w w') : DRest w'.heap.size w' ds v := (h.stays hb).mono hb.size
theorem drest_nil (B : Nat) (w : World) : DRest B w [] (.slice none 0 0) := ⟨(fun d hd => by cases hd), none, 0, rfl, by simp, by simp [maxLen], fun _ => ⟨rfl, rfl⟩, .inl rfl⟩
/-- the shape of a list that is not empty -/
theorem DRest.some {B : Nat} {w : World} {ds : List (List UInt8)} {v : Value} (h : DRest B w ds v) (h0 : 0 < ds.length) : ∃ b off cap, v = .slice (.some ⟨b, off, none⟩) ds.length cap ∧ ds.length ≤ cap ∧ cap ≤ 9223372036854775807 ∧ b < B ∧
    ∀ i, i < ds.length → ∀ j, j < 32 → w.cell? ⟨b, off + i * 32 + j, none⟩ = Option.some (.int .u8 (((ds.getD i []).getD j 0).toNat : Int)) := by
  obtain ⟨_, a, cap, rfl, h2, h3, h4, h5⟩ := h
  rcases h5 with h5 | ⟨b, off, rfl, hb, hc⟩
  · omega
  · exact ⟨b, off, cap, rfl, h2, h3, hb, hc⟩
theorem drest_part {B : Nat} {w : World} {b off n cap : Nat} {ds : List (List UInt8)} (h : DRest B w ds (.slice (some ⟨b, off, none⟩) n cap)) (q u c : Nat) (hq : q + u ≤ ds.length) (hc : u ≤ c) (hc2 : c ≤ cap) : DRest B w ((ds.drop q).take u) (.slice (some ⟨b, off + q * 32, none⟩) u c) := by
  obtain ⟨hds, a2, cap2, he, hl, hm, ha, hcl⟩ := h
  injection he with he1 he2 he3
  subst he1 he3
  have hlen : ((ds.drop q).take u).length = u := by rw [List.length_take, List.length_drop]; omega
  refine ⟨(hds.drop q).take u, some ⟨b, off + q * 32, none⟩, c, by rw [hlen], by omega, by omega, (fun h => by cases h), ?_⟩
  rcases hcl with h0 | ⟨b2, off2, he4, hb, hcl⟩
  · exact .inl (by omega)
  · injection he4 with he4
    injection he4 with he5 he6
    subst he5 he6
    refine .inr ⟨b, off + q * 32, rfl, hb, fun i hi j hj => ?_⟩
    rw [hlen] at hi
    have h3 := hcl (q + i) (by omega) j hj
    rw [show off + q * 32 + i * 32 + j = off + (q + i) * 32 + j by omega, h3]
    congr 4
    simp [List.getElem?_take, List.getElem?_drop, hi]

/-- the cells of digests -/
def cellsD (ds : List (List UInt8)) : List Value := ds.flatMap cellsOf
theorem cellsD_append (a b : List (List UInt8)) : cellsD (a ++ b) = cellsD a ++ cellsD b := by simp [cellsD]
theorem cellsD_len : ∀ {ds : List (List UInt8)}, Digs ds → (cellsD ds).length = ds.length * 32
  | [], _ => rfl
  | d :: ds, h => by
    have h1 : d.length = 32 := h d (by simp)
    have h2 := cellsD_len (ds := ds) (fun x hx => h x (by simp [hx]))
    unfold cellsD at h2 ⊢
    rw [List.flatMap_cons, List.length_append, cellsOf_len, h1, h2, List.length_cons]; omega
theorem cellsD_get : ∀ {ds : List (List UInt8)}, Digs ds → ∀ i, i < ds.length → ∀ j, j < 32 → (cellsD ds)[i * 32 + j]? = some (.int .u8 (((ds.getD i []).getD j 0).toNat : Int))
  | [], _, i, hi, _, _ => by simp at hi
  | d :: ds, h, i, hi, j, hj => by
    have h1 : d.length = 32 := h d (by simp)
    have hl : (cellsOf d).length = 32 := by rw [cellsOf_len, h1]
    unfold cellsD
    rw [List.flatMap_cons]
    cases i with
    | zero =>
      rw [List.getElem?_append_left (by omega), Nat.zero_mul, Nat.zero_add, cellsOf_get (by omega)]
      simp [show j < d.length by omega]
    | succ i =>
      rw [List.getElem?_append_right (by omega), hl, show (i + 1) * 32 + j - 32 = i * 32 + j by omega]
      have h2 := cellsD_get (ds := ds) (fun x hx => h x (by simp [hx])) i (by simpa using hi) j hj
      unfold cellsD at h2
      rw [h2]; simp
theorem cellsD_one (ds : List (List UInt8)) : ∀ u ∈ cellsD ds, u.oneCell' = true := by
  intro u hu
  simp only [cellsD, List.mem_flatMap] at hu
  obtain ⟨d, _, hd⟩ := hu
  simp [cellsOf] at hd; obtain ⟨c, _, rfl⟩ := hd; rfl

/-- a buffer of the call's own that holds the digests ds -/
def DBuf (w : World) (v : Value) (ds : List (List UInt8)) : Prop := Digs ds ∧ w.ownsRow 0 30 32 v ds.length (cellsD ds)
def DNew (w0 w : World) (v : Value) (ds : List (List UInt8)) : Prop := DBuf w v ds ∧ Below w0.heap.size w0 w ∧ ∀ k, v.ownBlock = some k → w0.heap.size ≤ k
theorem dbuf_nil (w : World) : DBuf w (.slice none 0 0) [] := ⟨(fun d hd => by cases hd), World.ownsRow_nil w 0 30 32⟩
theorem dnew_nil (w : World) : DNew w w (.slice none 0 0) [] := ⟨dbuf_nil w, Below.refl _ _, fun k hk => by cases hk⟩
theorem dbuf_stays {w w' : World} {v : Value} {ds : List (List UInt8)} (h : DBuf w v ds) (hb : Below w.heap.size w w') : DBuf w' v ds := ⟨h.1, owns_below h.2 hb⟩
theorem dbuf_rest {w : World} {v : Value} {ds : List (List UInt8)} (h : DBuf w v ds) : DRest w.heap.size w ds v := by
  refine ⟨h.1, ?_⟩
  have hown := h.2
  rcases h.2.2 with ⟨rfl, h0⟩ | ⟨g, cap, cur, rfl, _, hg, hnc, hcm, hcs, htake⟩
  · exact ⟨none, 0, by rw [h0], by omega, by simp [maxLen], fun _ => ⟨h0, rfl⟩, .inl h0⟩
  · refine ⟨some ⟨g, 0, none⟩, cap, rfl, hnc, hcm, (fun h => by cases h), .inr ⟨g, 0, rfl, (Array.getElem?_eq_some_iff.1 hg).1, fun i hi j hj => ?_⟩⟩
    have hc := World.ownsRow.cells hown (g := g) rfl (i * 32 + j) _ (cellsD_get h.1 i hi j hj)
    rw [Addr.add_lit] at hc
    rw [← hc]
    congr 2; omega
theorem DNew.keep {w0 w w' : World} {v : Value} {ds : List (List UInt8)} (h : DNew w0 w v ds) (hb : Below w.heap.size w w') : DNew w0 w' v ds := ⟨dbuf_stays h.1 hb, below_next h.2.1 hb, h.2.2⟩
theorem DNew.from {w0 w1 w : World} {v : Value} {ds : List (List UInt8)} (h : DNew w1 w v ds) (hb : Below w0.heap.size w0 w1) : DNew w0 w v ds := ⟨h.1, below_next hb h.2.1, fun k hk => Nat.le_trans hb.size (h.2.2 k hk)⟩

theorem Tryd.info30 : (Tryd.prog.info? 30).map (fun i => (i.zero, i.size, i.bytes)) = some (some (.agg z32), 32, 32) := by kernel_rfl

/-- a digest loaded out of 32 cells -/
theorem run_load_dig (w : World) (b o : Nat) (d : List UInt8) (hd : d.length = 32) (hc : ∀ j, j < 32 → w.cell? ⟨b, o + j, none⟩ = some (.int .u8 ((d.getD j 0).toNat : Int))) :
    (loadVar 30 ⟨b, o, none⟩).run Tryd.prog w = .ok (dg d) w := by
  have hl : (loadCells ⟨b, o, none⟩ (cellsOf d).length).run Tryd.prog w = .ok (cellsOf d).toArray w :=
    run_loadCells_list (P := Tryd.prog) w ⟨b, o, none⟩ (cellsOf d) (fun j v hv => by
      have hj : j < d.length := by have := (List.getElem?_eq_some_iff.1 hv).1; rwa [cellsOf_len] at this
      rw [Addr.add_lit, hc j (by omega), ← hv, cellsOf_get hj]
      simp [hj])
  rw [cellsOf_len, hd] at hl
  have hagg : (isAgg 30).run Tryd.prog w = .ok true w := by
    unfold isAgg
    rw [Sem.run_bind, run_underlying Tryd.underlying30 w]
    rfl
  obtain ⟨i0, hi, hz0, hz1, hz2⟩ := info_parts Tryd.info30
  simp [loadVar, Sem.run_bind, hagg, sizeOf, typeInfo, hi, hz1, hl, dg]

theorem wp_load_dig {o : Oper} {a : Act} {w : World} {K : Act → World → Prop} {Q : Exit → Act → World → Prop} (x : Operand) (ho : o.op = .load 30 x)
    (b q : Nat) (hx : a.eval x = .pointer (some ⟨b, q, none⟩)) (d : List UInt8) (hd : d.length = 32) (hc : ∀ j, j < 32 → w.cell? ⟨b, q + j, none⟩ = some (.int .u8 ((d.getD j 0).toNat : Int)))
    (h : K (a.put o.dst (dg d)) w) : o.wp Tryd.prog a w K Q := by
  unfold Oper.wp execOp
  simp only [ho, hx, Instr.loadAt, Instr.sureAddr, Sem.run_bind, Sem.run_pure, Result.andThen_ok, run_load_dig w b q d hd hc]
  exact h
theorem wpList_load_dig {ops : Array Oper} {rest : List Oper} {o : Oper} {a : Act} {w : World} {Q : Exit → Act → World → Prop} (hgd : o.guard = none) (x : Operand) (ho : o.op = .load 30 x)
    (b q : Nat) (hx : a.eval x = .pointer (some ⟨b, q, none⟩)) (d : List UInt8) (hd : d.length = 32) (hc : ∀ j, j < 32 → w.cell? ⟨b, q + j, none⟩ = some (.int .u8 ((d.getD j 0).toNat : Int)))
    (h : wpList Tryd.prog ops Q rest (a.put o.dst (dg d)) w) : wpList Tryd.prog ops Q (o :: rest) a w :=
  wpList_plain hgd fun _ hK => wp_load_dig x ho b q hx d hd hc (hK _ _ h)

section
variable {ops : Array Oper} {o : Oper} {a : Act} {w : World} {K : Act → World → Prop} {Q : Exit → Act → World → Prop} {E : Prop}
theorem step_load_dig (hgd : o.guard = none) (x : Operand) (ho : o.op = .load 30 x)
    (b q : Nat) (hx : a.eval x = .pointer (some ⟨b, q, none⟩)) (d : List UInt8) (hd : d.length = 32) (hc : ∀ j, j < 32 → w.cell? ⟨b, q + j, none⟩ = some (.int .u8 ((d.getD j 0).toNat : Int)))
    (h : K (a.put o.dst (dg d)) w) : if Region.wanted o (yielded ops a.tmps) = true then Oper.wp Tryd.prog o a w K Q else E := by
  rw [if_pos (by simp [Region.wanted, hgd])]; exact wp_load_dig x ho b q hx d hd hc h
theorem step_store_dig (hgd : o.guard = none) (x y : Operand) (ho : o.op = .store 30 x y)
    (g : Nat) (d : List UInt8) (hd : d.length = 32) (hx : a.eval x = .pointer (some ⟨g, 0, none⟩)) (hy : a.eval y = dg d) (hg : Row w g 30 zb)
    (h : K (a.put o.dst undef) (w.setRow g (cellsOf d).toArray)) : if Region.wanted o (yielded ops a.tmps) = true then Oper.wp Tryd.prog o a w K Q else E := by
  rw [if_pos (by simp [Region.wanted, hgd])]
  exact wp_store_row 30 x y ho g (cellsOf d).toArray hx hy 30 zb.toArray hg (size32' hd) (by rw [size32 hd]; rfl) (cellsOf_one _) h
theorem step_append_dig (hgd : o.guard = none) (s x : Operand) (ho : o.op = .call { callee := .builtin .append, args := #[s, x], argTypes := #[25, 25] })
    (v : Value) (xs : List (List UInt8)) (hs : a.eval s = v) (hb : DBuf w v xs) (g : Nat) (d : List UInt8) (hd : d.length = 32) (hx : a.eval x = .slice (some ⟨g, 0, none⟩) 1 1) (hr : Row w g 30 (cellsOf d)) (hlen : xs.length ≤ 1099511627776)
    (h : ∀ v' w', DBuf w' v' (xs ++ [d]) → Wrote w w' v v' → K (a.put o.dst v') w') : if Region.wanted o (yielded ops a.tmps) = true then Oper.wp Tryd.prog o a w K Q else E := by
  obtain ⟨i0, hi, hz0, hz1, hz2⟩ := info_parts Tryd.info30
  have hl32 : (cellsOf d).length = 1 * 32 := by rw [cellsOf_len, hd]
  have hlx := cellsD_len hb.1
  have hdg : Digs (xs ++ [d]) := fun e he => by
    rcases List.mem_append.1 he with h1 | h1
    · exact hb.1 e h1
    · simp at h1; subst h1; exact hd
  refine step_append_mine w hgd s x 25 ho 30 i0 (.agg z32) 32 32 Tryd.underlying25 hi hz0 hz1 hz2 rfl (by decide) v xs.length (cellsD xs) hs hb.2 ⟨g, 0, none⟩ 1 1 (cellsOf d) hx hl32 ?_ (cellsOf_oneCell d) (by unfold maxLen; omega) (by omega) ?_
  · intro j u hj
    rw [Addr.add_lit, Nat.zero_add]; exact hr.cell hj
  · intro v' w' h1 h2
    refine h v' w' ⟨hdg, ?_⟩ h2
    rw [List.length_append, cellsD_append, show cellsD [d] = cellsOf d by simp [cellsD]]; exact h1
end
end Go.Proofs.YtbceimbcjijfgaaDoor.Dig
