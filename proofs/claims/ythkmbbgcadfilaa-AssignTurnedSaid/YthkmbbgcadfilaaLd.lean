/- settle: the first deal, and its columns for all rows. -/
import Derived.Test.YthkmbbgcadfilaaLc
import Derived.Test.YthkmbbgcadfilaaJ
namespace Go.Proofs.Ythkmbbgcadfilaa
open Go.RowKit Go.Shelf

/-- a new block of numbers, as it lies at w -/
def NB (w0 w : World) (g : Nat) (L : List Int) : Prop := w0.heap.size ≤ g ∧ Row w g 3 (nums L)
theorem NB.keep {w0 w w' : World} {g : Nat} {L : List Int} (h : NB w0 w g L) (hb : Below w.heap.size w w') : NB w0 w' g L := ⟨h.1, h.2.keep hb⟩
theorem NB.new {w0 w w' : World} {g : Nat} {L : List Int} (hb : Below w0.heap.size w0 w) (h : NewI w w' g L) : NB w0 w' g L := ⟨by rw [h.1]; exact hb.size, h.2.1⟩
theorem NB.rep {w0 w w' : World} {g k : Nat} {c : Int} (hb : Below w0.heap.size w0 w) (h : w.heap.size ≤ g ∧ Row w' g 3 (nums (List.replicate k c)) ∧ Below w.heap.size w w') : NB w0 w' g (List.replicate k c) := ⟨Nat.le_trans hb.size h.1, h.2.1⟩
theorem NB.ne {w0 w w' : World} {g g' : Nat} {L M : List Int} (h : NB w0 w g L) (hz : NewI w w' g' M) : g ≠ g' := by have := h.2.lt; have := hz.1; omega
theorem NB.ner {w0 w w' : World} {g g' k : Nat} {c : Int} {L : List Int} (h : NB w0 w g L) (hz : w.heap.size ≤ g' ∧ Row w' g' 3 (nums (List.replicate k c)) ∧ Below w.heap.size w w') : g ≠ g' := by have := h.2.lt; have := hz.1; omega
theorem z1 {l : List Value} {i : Nat} {v : Value} : l.toArray.setIfInBounds i v = (l.set i v).toArray := List.setIfInBounds_toArray ..
theorem z2 {a b : Value} {bs : List Value} : (a :: bs).set 0 b = b :: bs := rfl
theorem z3 {a b : Value} {bs : List Value} {n : Nat} : (a :: bs).set (n + 1) b = a :: bs.set n b := rfl
abbrev dl (a : Option Addr) (c n m gU gV gT gR : Nat) : Array Value := #[.slice a n c, .slice (some ⟨gU, 0, none⟩) n n, .slice (some ⟨gV, 0, none⟩) m m, .slice (some ⟨gT, 0, none⟩) n n, .slice (some ⟨gR, 0, none⟩) m m]
/-- new blocks of numbers, all different -/
def NBs (w0 w : World) (l : List (Nat × List Int)) : Prop := Below w0.heap.size w0 w ∧ (∀ p, p ∈ l → NB w0 w p.1 p.2) ∧ (l.map Prod.fst).Nodup
theorem NBs.nil (w0 : World) {w : World} (h : Below w0.heap.size w0 w) : NBs w0 w [] := ⟨h, fun p hp => (by cases hp), by simp⟩
theorem NBs.add {w0 w w' : World} {l : List (Nat × List Int)} {g : Nat} {L : List Int} (h : NBs w0 w l) (hb : Below w.heap.size w w') (hg : w.heap.size ≤ g) (hr : Row w' g 3 (nums L)) : NBs w0 w' ((g, L) :: l) := by
  refine ⟨below_next h.1 hb, fun p hp => ?_, ?_⟩
  · rcases List.mem_cons.1 hp with rfl | hp
    · exact ⟨Nat.le_trans h.1.size hg, hr⟩
    · exact (h.2.1 p hp).keep hb
  · rw [List.map_cons, List.nodup_cons]
    refine ⟨fun hm => ?_, h.2.2⟩
    obtain ⟨p, hp, he⟩ := List.mem_map.1 hm
    have := (h.2.1 p hp).2.lt
    have he2 : p.1 = g := he
    omega
theorem NBs.new {w0 w w' : World} {l : List (Nat × List Int)} {g : Nat} {L : List Int} (h : NBs w0 w l) (hz : NewI w w' g L) : NBs w0 w' ((g, L) :: l) := h.add hz.2.2.2 (by rw [hz.1]; exact Nat.le_refl _) hz.2.1
theorem NBs.rep {w0 w w' : World} {l : List (Nat × List Int)} {g k : Nat} {c : Int} (h : NBs w0 w l) (hz : w.heap.size ≤ g ∧ Row w' g 3 (nums (List.replicate k c)) ∧ Below w.heap.size w w') : NBs w0 w' ((g, List.replicate k c) :: l) := h.add hz.2.2 hz.1 hz.2.1
theorem NBs.at {w0 w : World} {l : List (Nat × List Int)} {g : Nat} (h : NBs w0 w l) (hm : (g, [-1]) ∈ l) : Row w g 3 [.int .i64 (-1)] := (h.2.1 _ hm).2
/-- the newest block, set behind k others -/
theorem NBs.ins {w0 w : World} {l : List (Nat × List Int)} {p : Nat × List Int} (k : Nat) (h : NBs w0 w (p :: l)) : NBs w0 w (l.take k ++ p :: l.drop k) := by
  have hp : (l.take k ++ p :: l.drop k).Perm (p :: l) := by
    have := List.perm_middle (l₁ := l.take k) (l₂ := l.drop k) (a := p)
    rwa [List.take_append_drop] at this
  exact ⟨h.1, fun q hq => h.2.1 q (hp.mem_iff.1 hq), ((hp.map Prod.fst).nodup_iff).2 h.2.2⟩
theorem gI_rep' (k : Nat) (c : Int) : gI (List.replicate k c) c = fun _ => c := by
  funext j
  unfold gI
  rw [List.getD_eq_getElem?_getD, List.getElem?_replicate]
  split <;> rfl
theorem Mat.any {C : List (List Int)} {n m : Nat} (h : Mat C n m) (i j : Nat) (hc : cst C i j ≠ -1) : 0 ≤ cst C i j ∧ cst C i j ≤ 1073741824 := by
  rcases Nat.lt_or_ge i n with hi | hi
  · rcases Nat.lt_or_ge j m with hj | hj
    · have := h.el i j hi hj
      omega
    · exact absurd (by unfold cst; rw [List.getD_eq_getElem?_getD (l := C.getD i []), List.getElem?_eq_none (by rw [h.row i hi]; exact hj)]; rfl) hc
  · exact absurd (by unfold cst; rw [List.getD_eq_getElem?_getD (l := C), List.getElem?_eq_none (by rw [h.len]; exact hi)]; rfl) hc
theorem Dis.to {g gu gv gt gr gp gq : Nat} (h : Dis g gu gv gt gr gp) (hl : g < gq ∧ gu < gq ∧ gv < gq ∧ gt < gq ∧ gr < gq) : Dis g gu gv gt gr gq := by
  unfold Dis at h ⊢
  omega
/-- what settle answers -/
def SetP (n m : Nat) (C : List (List Int)) (vc : Value) (w : World) (e : Ending) (w' : World) : Prop :=
  (∃ g gu gv gt gr U V TO RW, e = .returned (.tuple #[.pointer (some ⟨g, 0, none⟩), .bool true]) ∧ DMem g gu gv gt gr n m vc U V TO RW w' ∧ (w.heap.size ≤ g ∧ w.heap.size ≤ gu ∧ w.heap.size ≤ gv ∧ w.heap.size ≤ gt ∧ w.heap.size ≤ gr) ∧
    Dis g gu gv gt gr w'.heap.size ∧ Deal n m (cst C) (gI U 0) (gI V 0) (gI TO (-1)) (gI RW (-1)) n) ∨
  (e = .returned (.tuple #[.pointer none, .bool false]) ∧ ∃ R S, Crowd n m (cst C) R S)
def RelS (n m : Nat) (vc : Value) (w0 : World) (s2 : Value) (wr : World) : Prop :=
  ∃ g gu gv gt gr, s2 = .pointer (some ⟨g, 0, none⟩) ∧ DMem g gu gv gt gr n m vc (List.replicate n 0) (List.replicate m 0) (List.replicate n (-1)) (List.replicate m (-1)) wr ∧ (w0.heap.size ≤ g ∧ w0.heap.size ≤ gu ∧ w0.heap.size ≤ gv ∧ w0.heap.size ≤ gt ∧ w0.heap.size ≤ gr) ∧ Dis g gu gv gt gr wr.heap.size ∧ Below w0.heap.size w0 wr
theorem set_rel {n m gU gV gT gR : Nat} {vc : Value} {w0 w : World} {l : List (Nat × List Int)} (h : NBs w0 w l) (hU : (gU, List.replicate n 0) ∈ l) (hV : (gV, List.replicate m 0) ∈ l) (hT : (gT, List.replicate n (-1)) ∈ l) (hR : (gR, List.replicate m (-1)) ∈ l)
    (hne : gU ≠ gV ∧ gU ≠ gT ∧ gU ≠ gR ∧ gV ≠ gT ∧ gV ≠ gR ∧ gT ≠ gR)
    (hb : Below w0.heap.size w0 (w.alloc (.cells #[vc, .slice (some ⟨gU, 0, none⟩) n n, .slice (some ⟨gV, 0, none⟩) m m, .slice (some ⟨gT, 0, none⟩) n n, .slice (some ⟨gR, 0, none⟩) m m] 66))) :
    RelS n m vc w0 (.pointer (some ⟨w.heap.size, 0, none⟩)) (w.alloc (.cells #[vc, .slice (some ⟨gU, 0, none⟩) n n, .slice (some ⟨gV, 0, none⟩) m m, .slice (some ⟨gT, 0, none⟩) n n, .slice (some ⟨gR, 0, none⟩) m m] 66)) := by
  have hb0 := h.1
  replace hU := h.2.1 _ hU
  replace hV := h.2.1 _ hV
  replace hT := h.2.1 _ hT
  replace hR := h.2.1 _ hR
  have ka := fun o => Joins.below_alloc1 w o
  have hu := hU.2.lt
  have hv := hV.2.lt
  have ht := hT.2.lt
  have hr := hR.2.lt
  refine ⟨w.heap.size, gU, gV, gT, gR, rfl, ⟨row_new w _ _, hU.2.keep (ka _), hV.2.keep (ka _), hT.2.keep (ka _), hR.2.keep (ka _), by simp, by simp, by simp, by simp⟩, ⟨hb0.size, hU.1, hV.1, hT.1, hR.1⟩, ?_, hb⟩
  rw [World.size_alloc]
  unfold Dis
  omega
abbrev so0 : Oper := { dst := some 11, op := Op.move (Operand.tmp 0), type := 22, pos := "deals.go:26", after := #[], guard := none }
abbrev so1 : Oper := { dst := some 12, op := Op.move (Operand.tmp 4), type := 3, pos := "deals.go:26", after := #[], guard := none }
abbrev so2 : Oper := { dst := some 13, op := Op.makeSlice 23 (Operand.tmp 12) (Operand.tmp 12), type := 23, pos := "deals.go:26", after := #[{ on := 1, ground := Ground.data }, { on := 1, ground := Ground.data }], guard := none }
abbrev so3 : Oper := { dst := some 14, op := Op.move (Operand.tmp 5), type := 3, pos := "deals.go:26", after := #[], guard := none }
abbrev so4 : Oper := { dst := some 15, op := Op.makeSlice 23 (Operand.tmp 14) (Operand.tmp 14), type := 23, pos := "deals.go:26", after := #[{ on := 3, ground := Ground.data }, { on := 3, ground := Ground.data }], guard := none }
abbrev so5 : Oper := { dst := some 16, op := Op.buildSlice 23 1 #[(0, Operand.const (Value.int IntKind.i64 (-1)))], type := 23, pos := "deals.go:26", after := #[], guard := none }
abbrev so6 : Oper := { dst := some 17, op := Op.move (Operand.tmp 4), type := 3, pos := "deals.go:26", after := #[], guard := none }
abbrev so7 : Oper := { dst := some 18, op := Op.call { callee := Callee.value (Operand.func 47), args := #[Operand.tmp 16, Operand.tmp 17], argTypes := #[23, 3] }, type := 23, pos := "deals.go:26", after := #[{ on := 5, ground := Ground.data }, { on := 6, ground := Ground.data }], guard := none }
abbrev so8 : Oper := { dst := some 19, op := Op.buildSlice 23 1 #[(0, Operand.const (Value.int IntKind.i64 (-1)))], type := 23, pos := "deals.go:26", after := #[], guard := none }
abbrev so9 : Oper := { dst := some 20, op := Op.move (Operand.tmp 5), type := 3, pos := "deals.go:26", after := #[], guard := none }
abbrev so10 : Oper := { dst := some 21, op := Op.call { callee := Callee.value (Operand.func 47), args := #[Operand.tmp 19, Operand.tmp 20], argTypes := #[23, 3] }, type := 23, pos := "deals.go:26", after := #[{ on := 8, ground := Ground.data }, { on := 9, ground := Ground.data }, { on := 7, ground := Ground.chain }], guard := none }
abbrev so11 : Oper := { dst := some 22, op := Op.build 66 #[(0, Operand.tmp 11), (1, Operand.tmp 13), (2, Operand.tmp 15), (3, Operand.tmp 18), (4, Operand.tmp 21)], type := 66, pos := "deals.go:26", after := #[{ on := 0, ground := Ground.data }, { on := 2, ground := Ground.data }, { on := 4, ground := Ground.data }, { on := 7, ground := Ground.data }, { on := 10, ground := Ground.data }], guard := none }
abbrev so12 : Oper := { dst := some 23, op := Op.box 66 (Operand.tmp 22), type := 47, pos := "deals.go:26", after := #[{ on := 11, ground := Ground.data }], guard := none }
abbrev so13 : Oper := { dst := some 2, op := Op.assign (Operand.tmp 23), type := 47, pos := "deals.go:26", after := #[{ on := 12, ground := Ground.data }, { on := 10, ground := Ground.chain }, { on := 0, ground := Ground.phase }, { on := 1, ground := Ground.phase }, { on := 2, ground := Ground.phase }, { on := 3, ground := Ground.phase }, { on := 4, ground := Ground.phase }, { on := 5, ground := Ground.phase }, { on := 6, ground := Ground.phase }, { on := 7, ground := Ground.phase }, { on := 8, ground := Ground.phase }, { on := 9, ground := Ground.phase }, { on := 10, ground := Ground.phase }, { on := 11, ground := Ground.phase }, { on := 12, ground := Ground.phase }], guard := none }
/-- the end of the region that builds a deal -/
def Fin9 (n m c : Nat) (a : Option Addr) (w5 : World) (Q : Exit → Act → World → Prop) : Prop := ∀ (gU gV gA gT gC gR : Nat) (w : World), NBs w5 w [(gU, List.replicate n 0), (gV, List.replicate m 0), (gA, [-1]), (gT, List.replicate n (-1)), (gC, [-1]), (gR, List.replicate m (-1))] → Below w5.heap.size w5 (w.alloc (.cells (dl a c n m gU gV gT gR) 66)) → Q .normal ⟨#[.slice a n c, undef, .pointer (some ⟨w.heap.size, 0, none⟩), .bool false, .int .i64 (n : Int), .int .i64 (m : Int), undef, .slice a n c, .int .i64 (n : Int), .slice a n c, .int .i64 (m : Int), .slice a n c, .int .i64 (n : Int), .slice (some ⟨gU, 0, none⟩) n n, .int .i64 (m : Int), .slice (some ⟨gV, 0, none⟩) m m, .slice (some ⟨gA, 0, none⟩) 1 1, .int .i64 (n : Int), .slice (some ⟨gT, 0, none⟩) n n, .slice (some ⟨gC, 0, none⟩) 1 1, .int .i64 (m : Int), .slice (some ⟨gR, 0, none⟩) m m, .agg (dl a c n m gU gV gT gR), .pointer (some ⟨w.heap.size, 0, none⟩), undef, undef, undef, undef, undef, undef, undef, undef, undef, undef, undef], []⟩ (w.alloc (.cells (dl a c n m gU gV gT gR) 66))
set_option maxRecDepth 100000 in
set_option maxHeartbeats 4000000 in
theorem st_UVATCR {n m c : Nat} {a : Option Addr} {w5 : World} {Q : Exit → Act → World → Prop} (hn16 : n ≤ 16) (hm16 : m ≤ 16) (hp : ∀ c a w (t : Tmp) v, Q (.panic c) (a.put (some t) v) w → Q (.panic c) a w) (fin : Fin9 n m c a w5 Q) {gU gV gA gT gC gR : Nat} (w : World) (HS : Hid (NBs w5 w [(gU, List.replicate n 0), (gV, List.replicate m 0), (gA, [-1]), (gT, List.replicate n (-1)), (gC, [-1]), (gR, List.replicate m (-1))])) :
    wpAnyH Try.prog .any #[so0, so1, so2, so3, so4, so5, so6, so7, so8, so9, so10, so11, so12, so13] Q (fun W => Below w5.heap.size w5 W) 3 #[true, true, true, true, true, true, true, true, true, true, true, false, false, false] ⟨#[.slice a n c, undef, .pointer none, .bool false, .int .i64 (n : Int), .int .i64 (m : Int), undef, .slice a n c, .int .i64 (n : Int), .slice a n c, .int .i64 (m : Int), .slice a n c, .int .i64 (n : Int), .slice (some ⟨gU, 0, none⟩) n n, .int .i64 (m : Int), .slice (some ⟨gV, 0, none⟩) m m, .slice (some ⟨gA, 0, none⟩) 1 1, .int .i64 (n : Int), .slice (some ⟨gT, 0, none⟩) n n, .slice (some ⟨gC, 0, none⟩) 1 1, .int .i64 (m : Int), .slice (some ⟨gR, 0, none⟩) m m, undef, undef, undef, undef, undef, undef, undef, undef, undef, undef, undef, undef, undef], []⟩ w := by
  refine wpAnyH_take (i := 11) (oi := so11) (v := ?_) rfl (by kernel_rfl) (by kernel_rfl) (by kernel_rfl) (fun _ _ _ h => hp _ _ _ _ _ h) (Or.inl ⟨by rfl, ?_⟩) HS.out.1 ?_
  rotate_left
  · (intro w hSw; (try dsimp only at hSw); go_simp; first | done | with_reducible rfl)
  try simp only [Act.put, z1, z2, z3]
  refine wpAnyH_ready (rs := [12]) (by kernel_rfl) (by simp) ?_
  refine AllReadyH.cons (o := so12) rfl (fun K hK => ?_) AllReadyH.nil
  rw [if_pos (by rfl)]
  go_simp
  have HB := Lib.hid (below_next HS.out.1 (Joins.below_alloc1 _ (.cells (dl a c n m gU gV gT gR) 66)))
  refine hK.out _ _ HB.out (fun _ => ?_)
  clear hK K
  try simp only [Act.put, z1, z2, z3]
  refine wpAnyH_take (i := 13) (oi := so13) (v := ?_) rfl (by kernel_rfl) (by kernel_rfl) (by kernel_rfl) (fun _ _ _ h => hp _ _ _ _ _ h) (Or.inl ⟨by rfl, ?_⟩) HB.out ?_
  rotate_left
  · (intro w hSw; (try dsimp only at hSw); go_simp; first | done | with_reducible rfl)
  try simp only [Act.put, z1, z2, z3]
  refine wpAnyH_done (by kernel_rfl) ?_ _
  exact fin _ _ _ _ _ _ w HS.out HB.out
set_option maxRecDepth 100000 in
set_option maxHeartbeats 4000000 in
theorem st_UVATC {n m c : Nat} {a : Option Addr} {w5 : World} {Q : Exit → Act → World → Prop} (hn16 : n ≤ 16) (hm16 : m ≤ 16) (hp : ∀ c a w (t : Tmp) v, Q (.panic c) (a.put (some t) v) w → Q (.panic c) a w) (fin : Fin9 n m c a w5 Q) {gU gV gA gT gC : Nat} (w : World) (HS : Hid (NBs w5 w [(gU, List.replicate n 0), (gV, List.replicate m 0), (gA, [-1]), (gT, List.replicate n (-1)), (gC, [-1])])) :
    wpAnyH Try.prog .any #[so0, so1, so2, so3, so4, so5, so6, so7, so8, so9, so10, so11, so12, so13] Q (fun W => Below w5.heap.size w5 W) 4 #[true, true, true, true, true, true, true, true, true, true, false, false, false, false] ⟨#[.slice a n c, undef, .pointer none, .bool false, .int .i64 (n : Int), .int .i64 (m : Int), undef, .slice a n c, .int .i64 (n : Int), .slice a n c, .int .i64 (m : Int), .slice a n c, .int .i64 (n : Int), .slice (some ⟨gU, 0, none⟩) n n, .int .i64 (m : Int), .slice (some ⟨gV, 0, none⟩) m m, .slice (some ⟨gA, 0, none⟩) 1 1, .int .i64 (n : Int), .slice (some ⟨gT, 0, none⟩) n n, .slice (some ⟨gC, 0, none⟩) 1 1, .int .i64 (m : Int), undef, undef, undef, undef, undef, undef, undef, undef, undef, undef, undef, undef, undef, undef], []⟩ w := by
  refine wpAnyH_ready (rs := [10]) (by kernel_rfl) (by simp) ?_
  refine AllReadyH.cons (o := so10) rfl (fun K hK => ?_) AllReadyH.nil
  rw [if_pos (by rfl)]
  go_simp
  go_at_call 47
  refine (repeat_call (-1) m gC hm16 _ (HS.out.at (g := gC) (by simp))).mono ?_
  rintro e w1 ⟨gR, rfl, hz⟩
  have HT := Lib.hid ((HS.out.rep hz).ins 5)
  try dsimp only
  refine hK.out _ _ HT.out.1 (fun _ => ?_)
  clear hK K hz
  try simp only [Act.put, z1, z2, z3]
  exact st_UVATCR hn16 hm16 hp fin w1 HT
set_option maxRecDepth 100000 in
set_option maxHeartbeats 4000000 in
theorem st_UATCR {n m c : Nat} {a : Option Addr} {w5 : World} {Q : Exit → Act → World → Prop} (hn16 : n ≤ 16) (hm16 : m ≤ 16) (hp : ∀ c a w (t : Tmp) v, Q (.panic c) (a.put (some t) v) w → Q (.panic c) a w) (fin : Fin9 n m c a w5 Q) {gU gA gT gC gR : Nat} (w : World) (HS : Hid (NBs w5 w [(gU, List.replicate n 0), (gA, [-1]), (gT, List.replicate n (-1)), (gC, [-1]), (gR, List.replicate m (-1))])) :
    wpAnyH Try.prog .any #[so0, so1, so2, so3, so4, so5, so6, so7, so8, so9, so10, so11, so12, so13] Q (fun W => Below w5.heap.size w5 W) 4 #[true, true, true, true, false, true, true, true, true, true, true, false, false, false] ⟨#[.slice a n c, undef, .pointer none, .bool false, .int .i64 (n : Int), .int .i64 (m : Int), undef, .slice a n c, .int .i64 (n : Int), .slice a n c, .int .i64 (m : Int), .slice a n c, .int .i64 (n : Int), .slice (some ⟨gU, 0, none⟩) n n, .int .i64 (m : Int), undef, .slice (some ⟨gA, 0, none⟩) 1 1, .int .i64 (n : Int), .slice (some ⟨gT, 0, none⟩) n n, .slice (some ⟨gC, 0, none⟩) 1 1, .int .i64 (m : Int), .slice (some ⟨gR, 0, none⟩) m m, undef, undef, undef, undef, undef, undef, undef, undef, undef, undef, undef, undef, undef], []⟩ w := by
  refine wpAnyH_ready (rs := [4]) (by kernel_rfl) (by simp) ?_
  refine AllReadyH.cons (o := so4) rfl (fun K hK => ?_) AllReadyH.nil
  refine step_make rfl (.tmp 14) rfl m (by omega) rfl ?_
  intro gV w1 hz
  have HT := Lib.hid ((HS.out.new hz.out).ins 1)
  refine hK.out _ _ HT.out.1 (fun _ => ?_)
  clear hK K hz
  try simp only [Act.put, z1, z2, z3]
  exact st_UVATCR hn16 hm16 hp fin w1 HT
set_option maxRecDepth 100000 in
set_option maxHeartbeats 4000000 in
theorem st_VATCR {n m c : Nat} {a : Option Addr} {w5 : World} {Q : Exit → Act → World → Prop} (hn16 : n ≤ 16) (hm16 : m ≤ 16) (hp : ∀ c a w (t : Tmp) v, Q (.panic c) (a.put (some t) v) w → Q (.panic c) a w) (fin : Fin9 n m c a w5 Q) {gV gA gT gC gR : Nat} (w : World) (HS : Hid (NBs w5 w [(gV, List.replicate m 0), (gA, [-1]), (gT, List.replicate n (-1)), (gC, [-1]), (gR, List.replicate m (-1))])) :
    wpAnyH Try.prog .any #[so0, so1, so2, so3, so4, so5, so6, so7, so8, so9, so10, so11, so12, so13] Q (fun W => Below w5.heap.size w5 W) 4 #[true, true, false, true, true, true, true, true, true, true, true, false, false, false] ⟨#[.slice a n c, undef, .pointer none, .bool false, .int .i64 (n : Int), .int .i64 (m : Int), undef, .slice a n c, .int .i64 (n : Int), .slice a n c, .int .i64 (m : Int), .slice a n c, .int .i64 (n : Int), undef, .int .i64 (m : Int), .slice (some ⟨gV, 0, none⟩) m m, .slice (some ⟨gA, 0, none⟩) 1 1, .int .i64 (n : Int), .slice (some ⟨gT, 0, none⟩) n n, .slice (some ⟨gC, 0, none⟩) 1 1, .int .i64 (m : Int), .slice (some ⟨gR, 0, none⟩) m m, undef, undef, undef, undef, undef, undef, undef, undef, undef, undef, undef, undef, undef], []⟩ w := by
  refine wpAnyH_ready (rs := [2]) (by kernel_rfl) (by simp) ?_
  refine AllReadyH.cons (o := so2) rfl (fun K hK => ?_) AllReadyH.nil
  refine step_make rfl (.tmp 12) rfl n (by omega) rfl ?_
  intro gU w1 hz
  have HT := Lib.hid ((HS.out.new hz.out).ins 0)
  refine hK.out _ _ HT.out.1 (fun _ => ?_)
  clear hK K hz
  try simp only [Act.put, z1, z2, z3]
  exact st_UVATCR hn16 hm16 hp fin w1 HT
set_option maxRecDepth 100000 in
set_option maxHeartbeats 4000000 in
theorem st_UVAT {n m c : Nat} {a : Option Addr} {w5 : World} {Q : Exit → Act → World → Prop} (hn16 : n ≤ 16) (hm16 : m ≤ 16) (hp : ∀ c a w (t : Tmp) v, Q (.panic c) (a.put (some t) v) w → Q (.panic c) a w) (fin : Fin9 n m c a w5 Q) {gU gV gA gT : Nat} (w : World) (HS : Hid (NBs w5 w [(gU, List.replicate n 0), (gV, List.replicate m 0), (gA, [-1]), (gT, List.replicate n (-1))])) :
    wpAnyH Try.prog .any #[so0, so1, so2, so3, so4, so5, so6, so7, so8, so9, so10, so11, so12, so13] Q (fun W => Below w5.heap.size w5 W) 5 #[true, true, true, true, true, true, true, true, false, true, false, false, false, false] ⟨#[.slice a n c, undef, .pointer none, .bool false, .int .i64 (n : Int), .int .i64 (m : Int), undef, .slice a n c, .int .i64 (n : Int), .slice a n c, .int .i64 (m : Int), .slice a n c, .int .i64 (n : Int), .slice (some ⟨gU, 0, none⟩) n n, .int .i64 (m : Int), .slice (some ⟨gV, 0, none⟩) m m, .slice (some ⟨gA, 0, none⟩) 1 1, .int .i64 (n : Int), .slice (some ⟨gT, 0, none⟩) n n, undef, .int .i64 (m : Int), undef, undef, undef, undef, undef, undef, undef, undef, undef, undef, undef, undef, undef, undef], []⟩ w := by
  refine wpAnyH_ready (rs := [8]) (by kernel_rfl) (by simp) ?_
  refine AllReadyH.cons (o := so8) rfl (fun K hK => ?_) AllReadyH.nil
  refine step_one rfl (-1) rfl ?_
  intro gC w1 hz
  have HT := Lib.hid ((HS.out.new hz.out).ins 4)
  refine hK.out _ _ HT.out.1 (fun _ => ?_)
  clear hK K hz
  try simp only [Act.put, z1, z2, z3]
  exact st_UVATC hn16 hm16 hp fin w1 HT
set_option maxRecDepth 100000 in
set_option maxHeartbeats 4000000 in
theorem st_UVAC {n m c : Nat} {a : Option Addr} {w5 : World} {Q : Exit → Act → World → Prop} (hn16 : n ≤ 16) (hm16 : m ≤ 16) (hp : ∀ c a w (t : Tmp) v, Q (.panic c) (a.put (some t) v) w → Q (.panic c) a w) (fin : Fin9 n m c a w5 Q) {gU gV gA gC : Nat} (w : World) (HS : Hid (NBs w5 w [(gU, List.replicate n 0), (gV, List.replicate m 0), (gA, [-1]), (gC, [-1])])) :
    wpAnyH Try.prog .any #[so0, so1, so2, so3, so4, so5, so6, so7, so8, so9, so10, so11, so12, so13] Q (fun W => Below w5.heap.size w5 W) 5 #[true, true, true, true, true, true, true, false, true, true, false, false, false, false] ⟨#[.slice a n c, undef, .pointer none, .bool false, .int .i64 (n : Int), .int .i64 (m : Int), undef, .slice a n c, .int .i64 (n : Int), .slice a n c, .int .i64 (m : Int), .slice a n c, .int .i64 (n : Int), .slice (some ⟨gU, 0, none⟩) n n, .int .i64 (m : Int), .slice (some ⟨gV, 0, none⟩) m m, .slice (some ⟨gA, 0, none⟩) 1 1, .int .i64 (n : Int), undef, .slice (some ⟨gC, 0, none⟩) 1 1, .int .i64 (m : Int), undef, undef, undef, undef, undef, undef, undef, undef, undef, undef, undef, undef, undef, undef], []⟩ w := by
  refine wpAnyH_ready (rs := [7]) (by kernel_rfl) (by simp) ?_
  refine AllReadyH.cons (o := so7) rfl (fun K hK => ?_) AllReadyH.nil
  rw [if_pos (by rfl)]
  go_simp
  go_at_call 47
  refine (repeat_call (-1) n gA hn16 _ (HS.out.at (g := gA) (by simp))).mono ?_
  rintro e w1 ⟨gT, rfl, hz⟩
  have HT := Lib.hid ((HS.out.rep hz).ins 3)
  try dsimp only
  refine hK.out _ _ HT.out.1 (fun _ => ?_)
  clear hK K hz
  try simp only [Act.put, z1, z2, z3]
  exact st_UVATC hn16 hm16 hp fin w1 HT
set_option maxRecDepth 100000 in
set_option maxHeartbeats 4000000 in
theorem st_UATC {n m c : Nat} {a : Option Addr} {w5 : World} {Q : Exit → Act → World → Prop} (hn16 : n ≤ 16) (hm16 : m ≤ 16) (hp : ∀ c a w (t : Tmp) v, Q (.panic c) (a.put (some t) v) w → Q (.panic c) a w) (fin : Fin9 n m c a w5 Q) {gU gA gT gC : Nat} (w : World) (HS : Hid (NBs w5 w [(gU, List.replicate n 0), (gA, [-1]), (gT, List.replicate n (-1)), (gC, [-1])])) :
    wpAnyH Try.prog .any #[so0, so1, so2, so3, so4, so5, so6, so7, so8, so9, so10, so11, so12, so13] Q (fun W => Below w5.heap.size w5 W) 5 #[true, true, true, true, false, true, true, true, true, true, false, false, false, false] ⟨#[.slice a n c, undef, .pointer none, .bool false, .int .i64 (n : Int), .int .i64 (m : Int), undef, .slice a n c, .int .i64 (n : Int), .slice a n c, .int .i64 (m : Int), .slice a n c, .int .i64 (n : Int), .slice (some ⟨gU, 0, none⟩) n n, .int .i64 (m : Int), undef, .slice (some ⟨gA, 0, none⟩) 1 1, .int .i64 (n : Int), .slice (some ⟨gT, 0, none⟩) n n, .slice (some ⟨gC, 0, none⟩) 1 1, .int .i64 (m : Int), undef, undef, undef, undef, undef, undef, undef, undef, undef, undef, undef, undef, undef, undef], []⟩ w := by
  refine wpAnyH_ready (rs := [4, 10]) (by kernel_rfl) (by simp) ?_
  refine AllReadyH.cons (o := so4) rfl (fun K hK => ?_) ?_
  · refine step_make rfl (.tmp 14) rfl m (by omega) rfl ?_
    intro gV w1 hz
    have HT := Lib.hid ((HS.out.new hz.out).ins 1)
    refine hK.out _ _ HT.out.1 (fun _ => ?_)
    clear hK K hz
    try simp only [Act.put, z1, z2, z3]
    exact st_UVATC hn16 hm16 hp fin w1 HT
  refine AllReadyH.cons (o := so10) rfl (fun K hK => ?_) AllReadyH.nil
  rw [if_pos (by rfl)]
  go_simp
  go_at_call 47
  refine (repeat_call (-1) m gC hm16 _ (HS.out.at (g := gC) (by simp))).mono ?_
  rintro e w1 ⟨gR, rfl, hz⟩
  have HT := Lib.hid ((HS.out.rep hz).ins 4)
  try dsimp only
  refine hK.out _ _ HT.out.1 (fun _ => ?_)
  clear hK K hz
  try simp only [Act.put, z1, z2, z3]
  exact st_UATCR hn16 hm16 hp fin w1 HT
set_option maxRecDepth 100000 in
set_option maxHeartbeats 4000000 in
theorem st_VATC {n m c : Nat} {a : Option Addr} {w5 : World} {Q : Exit → Act → World → Prop} (hn16 : n ≤ 16) (hm16 : m ≤ 16) (hp : ∀ c a w (t : Tmp) v, Q (.panic c) (a.put (some t) v) w → Q (.panic c) a w) (fin : Fin9 n m c a w5 Q) {gV gA gT gC : Nat} (w : World) (HS : Hid (NBs w5 w [(gV, List.replicate m 0), (gA, [-1]), (gT, List.replicate n (-1)), (gC, [-1])])) :
    wpAnyH Try.prog .any #[so0, so1, so2, so3, so4, so5, so6, so7, so8, so9, so10, so11, so12, so13] Q (fun W => Below w5.heap.size w5 W) 5 #[true, true, false, true, true, true, true, true, true, true, false, false, false, false] ⟨#[.slice a n c, undef, .pointer none, .bool false, .int .i64 (n : Int), .int .i64 (m : Int), undef, .slice a n c, .int .i64 (n : Int), .slice a n c, .int .i64 (m : Int), .slice a n c, .int .i64 (n : Int), undef, .int .i64 (m : Int), .slice (some ⟨gV, 0, none⟩) m m, .slice (some ⟨gA, 0, none⟩) 1 1, .int .i64 (n : Int), .slice (some ⟨gT, 0, none⟩) n n, .slice (some ⟨gC, 0, none⟩) 1 1, .int .i64 (m : Int), undef, undef, undef, undef, undef, undef, undef, undef, undef, undef, undef, undef, undef, undef], []⟩ w := by
  refine wpAnyH_ready (rs := [2, 10]) (by kernel_rfl) (by simp) ?_
  refine AllReadyH.cons (o := so2) rfl (fun K hK => ?_) ?_
  · refine step_make rfl (.tmp 12) rfl n (by omega) rfl ?_
    intro gU w1 hz
    have HT := Lib.hid ((HS.out.new hz.out).ins 0)
    refine hK.out _ _ HT.out.1 (fun _ => ?_)
    clear hK K hz
    try simp only [Act.put, z1, z2, z3]
    exact st_UVATC hn16 hm16 hp fin w1 HT
  refine AllReadyH.cons (o := so10) rfl (fun K hK => ?_) AllReadyH.nil
  rw [if_pos (by rfl)]
  go_simp
  go_at_call 47
  refine (repeat_call (-1) m gC hm16 _ (HS.out.at (g := gC) (by simp))).mono ?_
  rintro e w1 ⟨gR, rfl, hz⟩
  have HT := Lib.hid ((HS.out.rep hz).ins 4)
  try dsimp only
  refine hK.out _ _ HT.out.1 (fun _ => ?_)
  clear hK K hz
  try simp only [Act.put, z1, z2, z3]
  exact st_VATCR hn16 hm16 hp fin w1 HT
set_option maxRecDepth 100000 in
set_option maxHeartbeats 4000000 in
theorem st_ATCR {n m c : Nat} {a : Option Addr} {w5 : World} {Q : Exit → Act → World → Prop} (hn16 : n ≤ 16) (hm16 : m ≤ 16) (hp : ∀ c a w (t : Tmp) v, Q (.panic c) (a.put (some t) v) w → Q (.panic c) a w) (fin : Fin9 n m c a w5 Q) {gA gT gC gR : Nat} (w : World) (HS : Hid (NBs w5 w [(gA, [-1]), (gT, List.replicate n (-1)), (gC, [-1]), (gR, List.replicate m (-1))])) :
    wpAnyH Try.prog .any #[so0, so1, so2, so3, so4, so5, so6, so7, so8, so9, so10, so11, so12, so13] Q (fun W => Below w5.heap.size w5 W) 5 #[true, true, false, true, false, true, true, true, true, true, true, false, false, false] ⟨#[.slice a n c, undef, .pointer none, .bool false, .int .i64 (n : Int), .int .i64 (m : Int), undef, .slice a n c, .int .i64 (n : Int), .slice a n c, .int .i64 (m : Int), .slice a n c, .int .i64 (n : Int), undef, .int .i64 (m : Int), undef, .slice (some ⟨gA, 0, none⟩) 1 1, .int .i64 (n : Int), .slice (some ⟨gT, 0, none⟩) n n, .slice (some ⟨gC, 0, none⟩) 1 1, .int .i64 (m : Int), .slice (some ⟨gR, 0, none⟩) m m, undef, undef, undef, undef, undef, undef, undef, undef, undef, undef, undef, undef, undef], []⟩ w := by
  refine wpAnyH_ready (rs := [2, 4]) (by kernel_rfl) (by simp) ?_
  refine AllReadyH.cons (o := so2) rfl (fun K hK => ?_) ?_
  · refine step_make rfl (.tmp 12) rfl n (by omega) rfl ?_
    intro gU w1 hz
    have HT := Lib.hid ((HS.out.new hz.out).ins 0)
    refine hK.out _ _ HT.out.1 (fun _ => ?_)
    clear hK K hz
    try simp only [Act.put, z1, z2, z3]
    exact st_UATCR hn16 hm16 hp fin w1 HT
  refine AllReadyH.cons (o := so4) rfl (fun K hK => ?_) AllReadyH.nil
  refine step_make rfl (.tmp 14) rfl m (by omega) rfl ?_
  intro gV w1 hz
  have HT := Lib.hid ((HS.out.new hz.out).ins 0)
  refine hK.out _ _ HT.out.1 (fun _ => ?_)
  clear hK K hz
  try simp only [Act.put, z1, z2, z3]
  exact st_VATCR hn16 hm16 hp fin w1 HT
set_option maxRecDepth 100000 in
set_option maxHeartbeats 4000000 in
theorem st_UVA {n m c : Nat} {a : Option Addr} {w5 : World} {Q : Exit → Act → World → Prop} (hn16 : n ≤ 16) (hm16 : m ≤ 16) (hp : ∀ c a w (t : Tmp) v, Q (.panic c) (a.put (some t) v) w → Q (.panic c) a w) (fin : Fin9 n m c a w5 Q) {gU gV gA : Nat} (w : World) (HS : Hid (NBs w5 w [(gU, List.replicate n 0), (gV, List.replicate m 0), (gA, [-1])])) :
    wpAnyH Try.prog .any #[so0, so1, so2, so3, so4, so5, so6, so7, so8, so9, so10, so11, so12, so13] Q (fun W => Below w5.heap.size w5 W) 6 #[true, true, true, true, true, true, true, false, false, true, false, false, false, false] ⟨#[.slice a n c, undef, .pointer none, .bool false, .int .i64 (n : Int), .int .i64 (m : Int), undef, .slice a n c, .int .i64 (n : Int), .slice a n c, .int .i64 (m : Int), .slice a n c, .int .i64 (n : Int), .slice (some ⟨gU, 0, none⟩) n n, .int .i64 (m : Int), .slice (some ⟨gV, 0, none⟩) m m, .slice (some ⟨gA, 0, none⟩) 1 1, .int .i64 (n : Int), undef, undef, .int .i64 (m : Int), undef, undef, undef, undef, undef, undef, undef, undef, undef, undef, undef, undef, undef, undef], []⟩ w := by
  refine wpAnyH_ready (rs := [7, 8]) (by kernel_rfl) (by simp) ?_
  refine AllReadyH.cons (o := so7) rfl (fun K hK => ?_) ?_
  · rw [if_pos (by rfl)]
    go_simp
    go_at_call 47
    refine (repeat_call (-1) n gA hn16 _ (HS.out.at (g := gA) (by simp))).mono ?_
    rintro e w1 ⟨gT, rfl, hz⟩
    have HT := Lib.hid ((HS.out.rep hz).ins 3)
    try dsimp only
    refine hK.out _ _ HT.out.1 (fun _ => ?_)
    clear hK K hz
    try simp only [Act.put, z1, z2, z3]
    exact st_UVAT hn16 hm16 hp fin w1 HT
  refine AllReadyH.cons (o := so8) rfl (fun K hK => ?_) AllReadyH.nil
  refine step_one rfl (-1) rfl ?_
  intro gC w1 hz
  have HT := Lib.hid ((HS.out.new hz.out).ins 3)
  refine hK.out _ _ HT.out.1 (fun _ => ?_)
  clear hK K hz
  try simp only [Act.put, z1, z2, z3]
  exact st_UVAC hn16 hm16 hp fin w1 HT
set_option maxRecDepth 100000 in
set_option maxHeartbeats 4000000 in
theorem st_UVC {n m c : Nat} {a : Option Addr} {w5 : World} {Q : Exit → Act → World → Prop} (hn16 : n ≤ 16) (hm16 : m ≤ 16) (hp : ∀ c a w (t : Tmp) v, Q (.panic c) (a.put (some t) v) w → Q (.panic c) a w) (fin : Fin9 n m c a w5 Q) {gU gV gC : Nat} (w : World) (HS : Hid (NBs w5 w [(gU, List.replicate n 0), (gV, List.replicate m 0), (gC, [-1])])) :
    wpAnyH Try.prog .any #[so0, so1, so2, so3, so4, so5, so6, so7, so8, so9, so10, so11, so12, so13] Q (fun W => Below w5.heap.size w5 W) 6 #[true, true, true, true, true, false, true, false, true, true, false, false, false, false] ⟨#[.slice a n c, undef, .pointer none, .bool false, .int .i64 (n : Int), .int .i64 (m : Int), undef, .slice a n c, .int .i64 (n : Int), .slice a n c, .int .i64 (m : Int), .slice a n c, .int .i64 (n : Int), .slice (some ⟨gU, 0, none⟩) n n, .int .i64 (m : Int), .slice (some ⟨gV, 0, none⟩) m m, undef, .int .i64 (n : Int), undef, .slice (some ⟨gC, 0, none⟩) 1 1, .int .i64 (m : Int), undef, undef, undef, undef, undef, undef, undef, undef, undef, undef, undef, undef, undef, undef], []⟩ w := by
  refine wpAnyH_ready (rs := [5]) (by kernel_rfl) (by simp) ?_
  refine AllReadyH.cons (o := so5) rfl (fun K hK => ?_) AllReadyH.nil
  refine step_one rfl (-1) rfl ?_
  intro gA w1 hz
  have HT := Lib.hid ((HS.out.new hz.out).ins 2)
  refine hK.out _ _ HT.out.1 (fun _ => ?_)
  clear hK K hz
  try simp only [Act.put, z1, z2, z3]
  exact st_UVAC hn16 hm16 hp fin w1 HT
set_option maxRecDepth 100000 in
set_option maxHeartbeats 4000000 in
theorem st_UAT {n m c : Nat} {a : Option Addr} {w5 : World} {Q : Exit → Act → World → Prop} (hn16 : n ≤ 16) (hm16 : m ≤ 16) (hp : ∀ c a w (t : Tmp) v, Q (.panic c) (a.put (some t) v) w → Q (.panic c) a w) (fin : Fin9 n m c a w5 Q) {gU gA gT : Nat} (w : World) (HS : Hid (NBs w5 w [(gU, List.replicate n 0), (gA, [-1]), (gT, List.replicate n (-1))])) :
    wpAnyH Try.prog .any #[so0, so1, so2, so3, so4, so5, so6, so7, so8, so9, so10, so11, so12, so13] Q (fun W => Below w5.heap.size w5 W) 6 #[true, true, true, true, false, true, true, true, false, true, false, false, false, false] ⟨#[.slice a n c, undef, .pointer none, .bool false, .int .i64 (n : Int), .int .i64 (m : Int), undef, .slice a n c, .int .i64 (n : Int), .slice a n c, .int .i64 (m : Int), .slice a n c, .int .i64 (n : Int), .slice (some ⟨gU, 0, none⟩) n n, .int .i64 (m : Int), undef, .slice (some ⟨gA, 0, none⟩) 1 1, .int .i64 (n : Int), .slice (some ⟨gT, 0, none⟩) n n, undef, .int .i64 (m : Int), undef, undef, undef, undef, undef, undef, undef, undef, undef, undef, undef, undef, undef, undef], []⟩ w := by
  refine wpAnyH_ready (rs := [4, 8]) (by kernel_rfl) (by simp) ?_
  refine AllReadyH.cons (o := so4) rfl (fun K hK => ?_) ?_
  · refine step_make rfl (.tmp 14) rfl m (by omega) rfl ?_
    intro gV w1 hz
    have HT := Lib.hid ((HS.out.new hz.out).ins 1)
    refine hK.out _ _ HT.out.1 (fun _ => ?_)
    clear hK K hz
    try simp only [Act.put, z1, z2, z3]
    exact st_UVAT hn16 hm16 hp fin w1 HT
  refine AllReadyH.cons (o := so8) rfl (fun K hK => ?_) AllReadyH.nil
  refine step_one rfl (-1) rfl ?_
  intro gC w1 hz
  have HT := Lib.hid ((HS.out.new hz.out).ins 3)
  refine hK.out _ _ HT.out.1 (fun _ => ?_)
  clear hK K hz
  try simp only [Act.put, z1, z2, z3]
  exact st_UATC hn16 hm16 hp fin w1 HT
set_option maxRecDepth 100000 in
set_option maxHeartbeats 4000000 in
theorem st_UAC {n m c : Nat} {a : Option Addr} {w5 : World} {Q : Exit → Act → World → Prop} (hn16 : n ≤ 16) (hm16 : m ≤ 16) (hp : ∀ c a w (t : Tmp) v, Q (.panic c) (a.put (some t) v) w → Q (.panic c) a w) (fin : Fin9 n m c a w5 Q) {gU gA gC : Nat} (w : World) (HS : Hid (NBs w5 w [(gU, List.replicate n 0), (gA, [-1]), (gC, [-1])])) :
    wpAnyH Try.prog .any #[so0, so1, so2, so3, so4, so5, so6, so7, so8, so9, so10, so11, so12, so13] Q (fun W => Below w5.heap.size w5 W) 6 #[true, true, true, true, false, true, true, false, true, true, false, false, false, false] ⟨#[.slice a n c, undef, .pointer none, .bool false, .int .i64 (n : Int), .int .i64 (m : Int), undef, .slice a n c, .int .i64 (n : Int), .slice a n c, .int .i64 (m : Int), .slice a n c, .int .i64 (n : Int), .slice (some ⟨gU, 0, none⟩) n n, .int .i64 (m : Int), undef, .slice (some ⟨gA, 0, none⟩) 1 1, .int .i64 (n : Int), undef, .slice (some ⟨gC, 0, none⟩) 1 1, .int .i64 (m : Int), undef, undef, undef, undef, undef, undef, undef, undef, undef, undef, undef, undef, undef, undef], []⟩ w := by
  refine wpAnyH_ready (rs := [4, 7]) (by kernel_rfl) (by simp) ?_
  refine AllReadyH.cons (o := so4) rfl (fun K hK => ?_) ?_
  · refine step_make rfl (.tmp 14) rfl m (by omega) rfl ?_
    intro gV w1 hz
    have HT := Lib.hid ((HS.out.new hz.out).ins 1)
    refine hK.out _ _ HT.out.1 (fun _ => ?_)
    clear hK K hz
    try simp only [Act.put, z1, z2, z3]
    exact st_UVAC hn16 hm16 hp fin w1 HT
  refine AllReadyH.cons (o := so7) rfl (fun K hK => ?_) AllReadyH.nil
  rw [if_pos (by rfl)]
  go_simp
  go_at_call 47
  refine (repeat_call (-1) n gA hn16 _ (HS.out.at (g := gA) (by simp))).mono ?_
  rintro e w1 ⟨gT, rfl, hz⟩
  have HT := Lib.hid ((HS.out.rep hz).ins 2)
  try dsimp only
  refine hK.out _ _ HT.out.1 (fun _ => ?_)
  clear hK K hz
  try simp only [Act.put, z1, z2, z3]
  exact st_UATC hn16 hm16 hp fin w1 HT
set_option maxRecDepth 100000 in
set_option maxHeartbeats 4000000 in
theorem st_VAT {n m c : Nat} {a : Option Addr} {w5 : World} {Q : Exit → Act → World → Prop} (hn16 : n ≤ 16) (hm16 : m ≤ 16) (hp : ∀ c a w (t : Tmp) v, Q (.panic c) (a.put (some t) v) w → Q (.panic c) a w) (fin : Fin9 n m c a w5 Q) {gV gA gT : Nat} (w : World) (HS : Hid (NBs w5 w [(gV, List.replicate m 0), (gA, [-1]), (gT, List.replicate n (-1))])) :
    wpAnyH Try.prog .any #[so0, so1, so2, so3, so4, so5, so6, so7, so8, so9, so10, so11, so12, so13] Q (fun W => Below w5.heap.size w5 W) 6 #[true, true, false, true, true, true, true, true, false, true, false, false, false, false] ⟨#[.slice a n c, undef, .pointer none, .bool false, .int .i64 (n : Int), .int .i64 (m : Int), undef, .slice a n c, .int .i64 (n : Int), .slice a n c, .int .i64 (m : Int), .slice a n c, .int .i64 (n : Int), undef, .int .i64 (m : Int), .slice (some ⟨gV, 0, none⟩) m m, .slice (some ⟨gA, 0, none⟩) 1 1, .int .i64 (n : Int), .slice (some ⟨gT, 0, none⟩) n n, undef, .int .i64 (m : Int), undef, undef, undef, undef, undef, undef, undef, undef, undef, undef, undef, undef, undef, undef], []⟩ w := by
  refine wpAnyH_ready (rs := [2, 8]) (by kernel_rfl) (by simp) ?_
  refine AllReadyH.cons (o := so2) rfl (fun K hK => ?_) ?_
  · refine step_make rfl (.tmp 12) rfl n (by omega) rfl ?_
    intro gU w1 hz
    have HT := Lib.hid ((HS.out.new hz.out).ins 0)
    refine hK.out _ _ HT.out.1 (fun _ => ?_)
    clear hK K hz
    try simp only [Act.put, z1, z2, z3]
    exact st_UVAT hn16 hm16 hp fin w1 HT
  refine AllReadyH.cons (o := so8) rfl (fun K hK => ?_) AllReadyH.nil
  refine step_one rfl (-1) rfl ?_
  intro gC w1 hz
  have HT := Lib.hid ((HS.out.new hz.out).ins 3)
  refine hK.out _ _ HT.out.1 (fun _ => ?_)
  clear hK K hz
  try simp only [Act.put, z1, z2, z3]
  exact st_VATC hn16 hm16 hp fin w1 HT
set_option maxRecDepth 100000 in
set_option maxHeartbeats 4000000 in
theorem st_VAC {n m c : Nat} {a : Option Addr} {w5 : World} {Q : Exit → Act → World → Prop} (hn16 : n ≤ 16) (hm16 : m ≤ 16) (hp : ∀ c a w (t : Tmp) v, Q (.panic c) (a.put (some t) v) w → Q (.panic c) a w) (fin : Fin9 n m c a w5 Q) {gV gA gC : Nat} (w : World) (HS : Hid (NBs w5 w [(gV, List.replicate m 0), (gA, [-1]), (gC, [-1])])) :
    wpAnyH Try.prog .any #[so0, so1, so2, so3, so4, so5, so6, so7, so8, so9, so10, so11, so12, so13] Q (fun W => Below w5.heap.size w5 W) 6 #[true, true, false, true, true, true, true, false, true, true, false, false, false, false] ⟨#[.slice a n c, undef, .pointer none, .bool false, .int .i64 (n : Int), .int .i64 (m : Int), undef, .slice a n c, .int .i64 (n : Int), .slice a n c, .int .i64 (m : Int), .slice a n c, .int .i64 (n : Int), undef, .int .i64 (m : Int), .slice (some ⟨gV, 0, none⟩) m m, .slice (some ⟨gA, 0, none⟩) 1 1, .int .i64 (n : Int), undef, .slice (some ⟨gC, 0, none⟩) 1 1, .int .i64 (m : Int), undef, undef, undef, undef, undef, undef, undef, undef, undef, undef, undef, undef, undef, undef], []⟩ w := by
  refine wpAnyH_ready (rs := [2, 7]) (by kernel_rfl) (by simp) ?_
  refine AllReadyH.cons (o := so2) rfl (fun K hK => ?_) ?_
  · refine step_make rfl (.tmp 12) rfl n (by omega) rfl ?_
    intro gU w1 hz
    have HT := Lib.hid ((HS.out.new hz.out).ins 0)
    refine hK.out _ _ HT.out.1 (fun _ => ?_)
    clear hK K hz
    try simp only [Act.put, z1, z2, z3]
    exact st_UVAC hn16 hm16 hp fin w1 HT
  refine AllReadyH.cons (o := so7) rfl (fun K hK => ?_) AllReadyH.nil
  rw [if_pos (by rfl)]
  go_simp
  go_at_call 47
  refine (repeat_call (-1) n gA hn16 _ (HS.out.at (g := gA) (by simp))).mono ?_
  rintro e w1 ⟨gT, rfl, hz⟩
  have HT := Lib.hid ((HS.out.rep hz).ins 2)
  try dsimp only
  refine hK.out _ _ HT.out.1 (fun _ => ?_)
  clear hK K hz
  try simp only [Act.put, z1, z2, z3]
  exact st_VATC hn16 hm16 hp fin w1 HT
set_option maxRecDepth 100000 in
set_option maxHeartbeats 4000000 in
theorem st_ATC {n m c : Nat} {a : Option Addr} {w5 : World} {Q : Exit → Act → World → Prop} (hn16 : n ≤ 16) (hm16 : m ≤ 16) (hp : ∀ c a w (t : Tmp) v, Q (.panic c) (a.put (some t) v) w → Q (.panic c) a w) (fin : Fin9 n m c a w5 Q) {gA gT gC : Nat} (w : World) (HS : Hid (NBs w5 w [(gA, [-1]), (gT, List.replicate n (-1)), (gC, [-1])])) :
    wpAnyH Try.prog .any #[so0, so1, so2, so3, so4, so5, so6, so7, so8, so9, so10, so11, so12, so13] Q (fun W => Below w5.heap.size w5 W) 6 #[true, true, false, true, false, true, true, true, true, true, false, false, false, false] ⟨#[.slice a n c, undef, .pointer none, .bool false, .int .i64 (n : Int), .int .i64 (m : Int), undef, .slice a n c, .int .i64 (n : Int), .slice a n c, .int .i64 (m : Int), .slice a n c, .int .i64 (n : Int), undef, .int .i64 (m : Int), undef, .slice (some ⟨gA, 0, none⟩) 1 1, .int .i64 (n : Int), .slice (some ⟨gT, 0, none⟩) n n, .slice (some ⟨gC, 0, none⟩) 1 1, .int .i64 (m : Int), undef, undef, undef, undef, undef, undef, undef, undef, undef, undef, undef, undef, undef, undef], []⟩ w := by
  refine wpAnyH_ready (rs := [2, 4, 10]) (by kernel_rfl) (by simp) ?_
  refine AllReadyH.cons (o := so2) rfl (fun K hK => ?_) ?_
  · refine step_make rfl (.tmp 12) rfl n (by omega) rfl ?_
    intro gU w1 hz
    have HT := Lib.hid ((HS.out.new hz.out).ins 0)
    refine hK.out _ _ HT.out.1 (fun _ => ?_)
    clear hK K hz
    try simp only [Act.put, z1, z2, z3]
    exact st_UATC hn16 hm16 hp fin w1 HT
  refine AllReadyH.cons (o := so4) rfl (fun K hK => ?_) ?_
  · refine step_make rfl (.tmp 14) rfl m (by omega) rfl ?_
    intro gV w1 hz
    have HT := Lib.hid ((HS.out.new hz.out).ins 0)
    refine hK.out _ _ HT.out.1 (fun _ => ?_)
    clear hK K hz
    try simp only [Act.put, z1, z2, z3]
    exact st_VATC hn16 hm16 hp fin w1 HT
  refine AllReadyH.cons (o := so10) rfl (fun K hK => ?_) AllReadyH.nil
  rw [if_pos (by rfl)]
  go_simp
  go_at_call 47
  refine (repeat_call (-1) m gC hm16 _ (HS.out.at (g := gC) (by simp))).mono ?_
  rintro e w1 ⟨gR, rfl, hz⟩
  have HT := Lib.hid ((HS.out.rep hz).ins 3)
  try dsimp only
  refine hK.out _ _ HT.out.1 (fun _ => ?_)
  clear hK K hz
  try simp only [Act.put, z1, z2, z3]
  exact st_ATCR hn16 hm16 hp fin w1 HT
set_option maxRecDepth 100000 in
set_option maxHeartbeats 4000000 in
theorem st_UV {n m c : Nat} {a : Option Addr} {w5 : World} {Q : Exit → Act → World → Prop} (hn16 : n ≤ 16) (hm16 : m ≤ 16) (hp : ∀ c a w (t : Tmp) v, Q (.panic c) (a.put (some t) v) w → Q (.panic c) a w) (fin : Fin9 n m c a w5 Q) {gU gV : Nat} (w : World) (HS : Hid (NBs w5 w [(gU, List.replicate n 0), (gV, List.replicate m 0)])) :
    wpAnyH Try.prog .any #[so0, so1, so2, so3, so4, so5, so6, so7, so8, so9, so10, so11, so12, so13] Q (fun W => Below w5.heap.size w5 W) 7 #[true, true, true, true, true, false, true, false, false, true, false, false, false, false] ⟨#[.slice a n c, undef, .pointer none, .bool false, .int .i64 (n : Int), .int .i64 (m : Int), undef, .slice a n c, .int .i64 (n : Int), .slice a n c, .int .i64 (m : Int), .slice a n c, .int .i64 (n : Int), .slice (some ⟨gU, 0, none⟩) n n, .int .i64 (m : Int), .slice (some ⟨gV, 0, none⟩) m m, undef, .int .i64 (n : Int), undef, undef, .int .i64 (m : Int), undef, undef, undef, undef, undef, undef, undef, undef, undef, undef, undef, undef, undef, undef], []⟩ w := by
  refine wpAnyH_ready (rs := [5, 8]) (by kernel_rfl) (by simp) ?_
  refine AllReadyH.cons (o := so5) rfl (fun K hK => ?_) ?_
  · refine step_one rfl (-1) rfl ?_
    intro gA w1 hz
    have HT := Lib.hid ((HS.out.new hz.out).ins 2)
    refine hK.out _ _ HT.out.1 (fun _ => ?_)
    clear hK K hz
    try simp only [Act.put, z1, z2, z3]
    exact st_UVA hn16 hm16 hp fin w1 HT
  refine AllReadyH.cons (o := so8) rfl (fun K hK => ?_) AllReadyH.nil
  refine step_one rfl (-1) rfl ?_
  intro gC w1 hz
  have HT := Lib.hid ((HS.out.new hz.out).ins 2)
  refine hK.out _ _ HT.out.1 (fun _ => ?_)
  clear hK K hz
  try simp only [Act.put, z1, z2, z3]
  exact st_UVC hn16 hm16 hp fin w1 HT
set_option maxRecDepth 100000 in
set_option maxHeartbeats 4000000 in
theorem st_UA {n m c : Nat} {a : Option Addr} {w5 : World} {Q : Exit → Act → World → Prop} (hn16 : n ≤ 16) (hm16 : m ≤ 16) (hp : ∀ c a w (t : Tmp) v, Q (.panic c) (a.put (some t) v) w → Q (.panic c) a w) (fin : Fin9 n m c a w5 Q) {gU gA : Nat} (w : World) (HS : Hid (NBs w5 w [(gU, List.replicate n 0), (gA, [-1])])) :
    wpAnyH Try.prog .any #[so0, so1, so2, so3, so4, so5, so6, so7, so8, so9, so10, so11, so12, so13] Q (fun W => Below w5.heap.size w5 W) 7 #[true, true, true, true, false, true, true, false, false, true, false, false, false, false] ⟨#[.slice a n c, undef, .pointer none, .bool false, .int .i64 (n : Int), .int .i64 (m : Int), undef, .slice a n c, .int .i64 (n : Int), .slice a n c, .int .i64 (m : Int), .slice a n c, .int .i64 (n : Int), .slice (some ⟨gU, 0, none⟩) n n, .int .i64 (m : Int), undef, .slice (some ⟨gA, 0, none⟩) 1 1, .int .i64 (n : Int), undef, undef, .int .i64 (m : Int), undef, undef, undef, undef, undef, undef, undef, undef, undef, undef, undef, undef, undef, undef], []⟩ w := by
  refine wpAnyH_ready (rs := [4, 7, 8]) (by kernel_rfl) (by simp) ?_
  refine AllReadyH.cons (o := so4) rfl (fun K hK => ?_) ?_
  · refine step_make rfl (.tmp 14) rfl m (by omega) rfl ?_
    intro gV w1 hz
    have HT := Lib.hid ((HS.out.new hz.out).ins 1)
    refine hK.out _ _ HT.out.1 (fun _ => ?_)
    clear hK K hz
    try simp only [Act.put, z1, z2, z3]
    exact st_UVA hn16 hm16 hp fin w1 HT
  refine AllReadyH.cons (o := so7) rfl (fun K hK => ?_) ?_
  · rw [if_pos (by rfl)]
    go_simp
    go_at_call 47
    refine (repeat_call (-1) n gA hn16 _ (HS.out.at (g := gA) (by simp))).mono ?_
    rintro e w1 ⟨gT, rfl, hz⟩
    have HT := Lib.hid ((HS.out.rep hz).ins 2)
    try dsimp only
    refine hK.out _ _ HT.out.1 (fun _ => ?_)
    clear hK K hz
    try simp only [Act.put, z1, z2, z3]
    exact st_UAT hn16 hm16 hp fin w1 HT
  refine AllReadyH.cons (o := so8) rfl (fun K hK => ?_) AllReadyH.nil
  refine step_one rfl (-1) rfl ?_
  intro gC w1 hz
  have HT := Lib.hid ((HS.out.new hz.out).ins 2)
  refine hK.out _ _ HT.out.1 (fun _ => ?_)
  clear hK K hz
  try simp only [Act.put, z1, z2, z3]
  exact st_UAC hn16 hm16 hp fin w1 HT
set_option maxRecDepth 100000 in
set_option maxHeartbeats 4000000 in
theorem st_UC {n m c : Nat} {a : Option Addr} {w5 : World} {Q : Exit → Act → World → Prop} (hn16 : n ≤ 16) (hm16 : m ≤ 16) (hp : ∀ c a w (t : Tmp) v, Q (.panic c) (a.put (some t) v) w → Q (.panic c) a w) (fin : Fin9 n m c a w5 Q) {gU gC : Nat} (w : World) (HS : Hid (NBs w5 w [(gU, List.replicate n 0), (gC, [-1])])) :
    wpAnyH Try.prog .any #[so0, so1, so2, so3, so4, so5, so6, so7, so8, so9, so10, so11, so12, so13] Q (fun W => Below w5.heap.size w5 W) 7 #[true, true, true, true, false, false, true, false, true, true, false, false, false, false] ⟨#[.slice a n c, undef, .pointer none, .bool false, .int .i64 (n : Int), .int .i64 (m : Int), undef, .slice a n c, .int .i64 (n : Int), .slice a n c, .int .i64 (m : Int), .slice a n c, .int .i64 (n : Int), .slice (some ⟨gU, 0, none⟩) n n, .int .i64 (m : Int), undef, undef, .int .i64 (n : Int), undef, .slice (some ⟨gC, 0, none⟩) 1 1, .int .i64 (m : Int), undef, undef, undef, undef, undef, undef, undef, undef, undef, undef, undef, undef, undef, undef], []⟩ w := by
  refine wpAnyH_ready (rs := [4, 5]) (by kernel_rfl) (by simp) ?_
  refine AllReadyH.cons (o := so4) rfl (fun K hK => ?_) ?_
  · refine step_make rfl (.tmp 14) rfl m (by omega) rfl ?_
    intro gV w1 hz
    have HT := Lib.hid ((HS.out.new hz.out).ins 1)
    refine hK.out _ _ HT.out.1 (fun _ => ?_)
    clear hK K hz
    try simp only [Act.put, z1, z2, z3]
    exact st_UVC hn16 hm16 hp fin w1 HT
  refine AllReadyH.cons (o := so5) rfl (fun K hK => ?_) AllReadyH.nil
  refine step_one rfl (-1) rfl ?_
  intro gA w1 hz
  have HT := Lib.hid ((HS.out.new hz.out).ins 1)
  refine hK.out _ _ HT.out.1 (fun _ => ?_)
  clear hK K hz
  try simp only [Act.put, z1, z2, z3]
  exact st_UAC hn16 hm16 hp fin w1 HT
set_option maxRecDepth 100000 in
set_option maxHeartbeats 4000000 in
theorem st_VA {n m c : Nat} {a : Option Addr} {w5 : World} {Q : Exit → Act → World → Prop} (hn16 : n ≤ 16) (hm16 : m ≤ 16) (hp : ∀ c a w (t : Tmp) v, Q (.panic c) (a.put (some t) v) w → Q (.panic c) a w) (fin : Fin9 n m c a w5 Q) {gV gA : Nat} (w : World) (HS : Hid (NBs w5 w [(gV, List.replicate m 0), (gA, [-1])])) :
    wpAnyH Try.prog .any #[so0, so1, so2, so3, so4, so5, so6, so7, so8, so9, so10, so11, so12, so13] Q (fun W => Below w5.heap.size w5 W) 7 #[true, true, false, true, true, true, true, false, false, true, false, false, false, false] ⟨#[.slice a n c, undef, .pointer none, .bool false, .int .i64 (n : Int), .int .i64 (m : Int), undef, .slice a n c, .int .i64 (n : Int), .slice a n c, .int .i64 (m : Int), .slice a n c, .int .i64 (n : Int), undef, .int .i64 (m : Int), .slice (some ⟨gV, 0, none⟩) m m, .slice (some ⟨gA, 0, none⟩) 1 1, .int .i64 (n : Int), undef, undef, .int .i64 (m : Int), undef, undef, undef, undef, undef, undef, undef, undef, undef, undef, undef, undef, undef, undef], []⟩ w := by
  refine wpAnyH_ready (rs := [2, 7, 8]) (by kernel_rfl) (by simp) ?_
  refine AllReadyH.cons (o := so2) rfl (fun K hK => ?_) ?_
  · refine step_make rfl (.tmp 12) rfl n (by omega) rfl ?_
    intro gU w1 hz
    have HT := Lib.hid ((HS.out.new hz.out).ins 0)
    refine hK.out _ _ HT.out.1 (fun _ => ?_)
    clear hK K hz
    try simp only [Act.put, z1, z2, z3]
    exact st_UVA hn16 hm16 hp fin w1 HT
  refine AllReadyH.cons (o := so7) rfl (fun K hK => ?_) ?_
  · rw [if_pos (by rfl)]
    go_simp
    go_at_call 47
    refine (repeat_call (-1) n gA hn16 _ (HS.out.at (g := gA) (by simp))).mono ?_
    rintro e w1 ⟨gT, rfl, hz⟩
    have HT := Lib.hid ((HS.out.rep hz).ins 2)
    try dsimp only
    refine hK.out _ _ HT.out.1 (fun _ => ?_)
    clear hK K hz
    try simp only [Act.put, z1, z2, z3]
    exact st_VAT hn16 hm16 hp fin w1 HT
  refine AllReadyH.cons (o := so8) rfl (fun K hK => ?_) AllReadyH.nil
  refine step_one rfl (-1) rfl ?_
  intro gC w1 hz
  have HT := Lib.hid ((HS.out.new hz.out).ins 2)
  refine hK.out _ _ HT.out.1 (fun _ => ?_)
  clear hK K hz
  try simp only [Act.put, z1, z2, z3]
  exact st_VAC hn16 hm16 hp fin w1 HT
set_option maxRecDepth 100000 in
set_option maxHeartbeats 4000000 in
theorem st_VC {n m c : Nat} {a : Option Addr} {w5 : World} {Q : Exit → Act → World → Prop} (hn16 : n ≤ 16) (hm16 : m ≤ 16) (hp : ∀ c a w (t : Tmp) v, Q (.panic c) (a.put (some t) v) w → Q (.panic c) a w) (fin : Fin9 n m c a w5 Q) {gV gC : Nat} (w : World) (HS : Hid (NBs w5 w [(gV, List.replicate m 0), (gC, [-1])])) :
    wpAnyH Try.prog .any #[so0, so1, so2, so3, so4, so5, so6, so7, so8, so9, so10, so11, so12, so13] Q (fun W => Below w5.heap.size w5 W) 7 #[true, true, false, true, true, false, true, false, true, true, false, false, false, false] ⟨#[.slice a n c, undef, .pointer none, .bool false, .int .i64 (n : Int), .int .i64 (m : Int), undef, .slice a n c, .int .i64 (n : Int), .slice a n c, .int .i64 (m : Int), .slice a n c, .int .i64 (n : Int), undef, .int .i64 (m : Int), .slice (some ⟨gV, 0, none⟩) m m, undef, .int .i64 (n : Int), undef, .slice (some ⟨gC, 0, none⟩) 1 1, .int .i64 (m : Int), undef, undef, undef, undef, undef, undef, undef, undef, undef, undef, undef, undef, undef, undef], []⟩ w := by
  refine wpAnyH_ready (rs := [2, 5]) (by kernel_rfl) (by simp) ?_
  refine AllReadyH.cons (o := so2) rfl (fun K hK => ?_) ?_
  · refine step_make rfl (.tmp 12) rfl n (by omega) rfl ?_
    intro gU w1 hz
    have HT := Lib.hid ((HS.out.new hz.out).ins 0)
    refine hK.out _ _ HT.out.1 (fun _ => ?_)
    clear hK K hz
    try simp only [Act.put, z1, z2, z3]
    exact st_UVC hn16 hm16 hp fin w1 HT
  refine AllReadyH.cons (o := so5) rfl (fun K hK => ?_) AllReadyH.nil
  refine step_one rfl (-1) rfl ?_
  intro gA w1 hz
  have HT := Lib.hid ((HS.out.new hz.out).ins 1)
  refine hK.out _ _ HT.out.1 (fun _ => ?_)
  clear hK K hz
  try simp only [Act.put, z1, z2, z3]
  exact st_VAC hn16 hm16 hp fin w1 HT
set_option maxRecDepth 100000 in
set_option maxHeartbeats 4000000 in
theorem st_AT {n m c : Nat} {a : Option Addr} {w5 : World} {Q : Exit → Act → World → Prop} (hn16 : n ≤ 16) (hm16 : m ≤ 16) (hp : ∀ c a w (t : Tmp) v, Q (.panic c) (a.put (some t) v) w → Q (.panic c) a w) (fin : Fin9 n m c a w5 Q) {gA gT : Nat} (w : World) (HS : Hid (NBs w5 w [(gA, [-1]), (gT, List.replicate n (-1))])) :
    wpAnyH Try.prog .any #[so0, so1, so2, so3, so4, so5, so6, so7, so8, so9, so10, so11, so12, so13] Q (fun W => Below w5.heap.size w5 W) 7 #[true, true, false, true, false, true, true, true, false, true, false, false, false, false] ⟨#[.slice a n c, undef, .pointer none, .bool false, .int .i64 (n : Int), .int .i64 (m : Int), undef, .slice a n c, .int .i64 (n : Int), .slice a n c, .int .i64 (m : Int), .slice a n c, .int .i64 (n : Int), undef, .int .i64 (m : Int), undef, .slice (some ⟨gA, 0, none⟩) 1 1, .int .i64 (n : Int), .slice (some ⟨gT, 0, none⟩) n n, undef, .int .i64 (m : Int), undef, undef, undef, undef, undef, undef, undef, undef, undef, undef, undef, undef, undef, undef], []⟩ w := by
  refine wpAnyH_ready (rs := [2, 4, 8]) (by kernel_rfl) (by simp) ?_
  refine AllReadyH.cons (o := so2) rfl (fun K hK => ?_) ?_
  · refine step_make rfl (.tmp 12) rfl n (by omega) rfl ?_
    intro gU w1 hz
    have HT := Lib.hid ((HS.out.new hz.out).ins 0)
    refine hK.out _ _ HT.out.1 (fun _ => ?_)
    clear hK K hz
    try simp only [Act.put, z1, z2, z3]
    exact st_UAT hn16 hm16 hp fin w1 HT
  refine AllReadyH.cons (o := so4) rfl (fun K hK => ?_) ?_
  · refine step_make rfl (.tmp 14) rfl m (by omega) rfl ?_
    intro gV w1 hz
    have HT := Lib.hid ((HS.out.new hz.out).ins 0)
    refine hK.out _ _ HT.out.1 (fun _ => ?_)
    clear hK K hz
    try simp only [Act.put, z1, z2, z3]
    exact st_VAT hn16 hm16 hp fin w1 HT
  refine AllReadyH.cons (o := so8) rfl (fun K hK => ?_) AllReadyH.nil
  refine step_one rfl (-1) rfl ?_
  intro gC w1 hz
  have HT := Lib.hid ((HS.out.new hz.out).ins 2)
  refine hK.out _ _ HT.out.1 (fun _ => ?_)
  clear hK K hz
  try simp only [Act.put, z1, z2, z3]
  exact st_ATC hn16 hm16 hp fin w1 HT
set_option maxRecDepth 100000 in
set_option maxHeartbeats 4000000 in
theorem st_AC {n m c : Nat} {a : Option Addr} {w5 : World} {Q : Exit → Act → World → Prop} (hn16 : n ≤ 16) (hm16 : m ≤ 16) (hp : ∀ c a w (t : Tmp) v, Q (.panic c) (a.put (some t) v) w → Q (.panic c) a w) (fin : Fin9 n m c a w5 Q) {gA gC : Nat} (w : World) (HS : Hid (NBs w5 w [(gA, [-1]), (gC, [-1])])) :
    wpAnyH Try.prog .any #[so0, so1, so2, so3, so4, so5, so6, so7, so8, so9, so10, so11, so12, so13] Q (fun W => Below w5.heap.size w5 W) 7 #[true, true, false, true, false, true, true, false, true, true, false, false, false, false] ⟨#[.slice a n c, undef, .pointer none, .bool false, .int .i64 (n : Int), .int .i64 (m : Int), undef, .slice a n c, .int .i64 (n : Int), .slice a n c, .int .i64 (m : Int), .slice a n c, .int .i64 (n : Int), undef, .int .i64 (m : Int), undef, .slice (some ⟨gA, 0, none⟩) 1 1, .int .i64 (n : Int), undef, .slice (some ⟨gC, 0, none⟩) 1 1, .int .i64 (m : Int), undef, undef, undef, undef, undef, undef, undef, undef, undef, undef, undef, undef, undef, undef], []⟩ w := by
  refine wpAnyH_ready (rs := [2, 4, 7]) (by kernel_rfl) (by simp) ?_
  refine AllReadyH.cons (o := so2) rfl (fun K hK => ?_) ?_
  · refine step_make rfl (.tmp 12) rfl n (by omega) rfl ?_
    intro gU w1 hz
    have HT := Lib.hid ((HS.out.new hz.out).ins 0)
    refine hK.out _ _ HT.out.1 (fun _ => ?_)
    clear hK K hz
    try simp only [Act.put, z1, z2, z3]
    exact st_UAC hn16 hm16 hp fin w1 HT
  refine AllReadyH.cons (o := so4) rfl (fun K hK => ?_) ?_
  · refine step_make rfl (.tmp 14) rfl m (by omega) rfl ?_
    intro gV w1 hz
    have HT := Lib.hid ((HS.out.new hz.out).ins 0)
    refine hK.out _ _ HT.out.1 (fun _ => ?_)
    clear hK K hz
    try simp only [Act.put, z1, z2, z3]
    exact st_VAC hn16 hm16 hp fin w1 HT
  refine AllReadyH.cons (o := so7) rfl (fun K hK => ?_) AllReadyH.nil
  rw [if_pos (by rfl)]
  go_simp
  go_at_call 47
  refine (repeat_call (-1) n gA hn16 _ (HS.out.at (g := gA) (by simp))).mono ?_
  rintro e w1 ⟨gT, rfl, hz⟩
  have HT := Lib.hid ((HS.out.rep hz).ins 1)
  try dsimp only
  refine hK.out _ _ HT.out.1 (fun _ => ?_)
  clear hK K hz
  try simp only [Act.put, z1, z2, z3]
  exact st_ATC hn16 hm16 hp fin w1 HT
set_option maxRecDepth 100000 in
set_option maxHeartbeats 4000000 in
theorem st_U {n m c : Nat} {a : Option Addr} {w5 : World} {Q : Exit → Act → World → Prop} (hn16 : n ≤ 16) (hm16 : m ≤ 16) (hp : ∀ c a w (t : Tmp) v, Q (.panic c) (a.put (some t) v) w → Q (.panic c) a w) (fin : Fin9 n m c a w5 Q) {gU : Nat} (w : World) (HS : Hid (NBs w5 w [(gU, List.replicate n 0)])) :
    wpAnyH Try.prog .any #[so0, so1, so2, so3, so4, so5, so6, so7, so8, so9, so10, so11, so12, so13] Q (fun W => Below w5.heap.size w5 W) 8 #[true, true, true, true, false, false, true, false, false, true, false, false, false, false] ⟨#[.slice a n c, undef, .pointer none, .bool false, .int .i64 (n : Int), .int .i64 (m : Int), undef, .slice a n c, .int .i64 (n : Int), .slice a n c, .int .i64 (m : Int), .slice a n c, .int .i64 (n : Int), .slice (some ⟨gU, 0, none⟩) n n, .int .i64 (m : Int), undef, undef, .int .i64 (n : Int), undef, undef, .int .i64 (m : Int), undef, undef, undef, undef, undef, undef, undef, undef, undef, undef, undef, undef, undef, undef], []⟩ w := by
  refine wpAnyH_ready (rs := [4, 5, 8]) (by kernel_rfl) (by simp) ?_
  refine AllReadyH.cons (o := so4) rfl (fun K hK => ?_) ?_
  · refine step_make rfl (.tmp 14) rfl m (by omega) rfl ?_
    intro gV w1 hz
    have HT := Lib.hid ((HS.out.new hz.out).ins 1)
    refine hK.out _ _ HT.out.1 (fun _ => ?_)
    clear hK K hz
    try simp only [Act.put, z1, z2, z3]
    exact st_UV hn16 hm16 hp fin w1 HT
  refine AllReadyH.cons (o := so5) rfl (fun K hK => ?_) ?_
  · refine step_one rfl (-1) rfl ?_
    intro gA w1 hz
    have HT := Lib.hid ((HS.out.new hz.out).ins 1)
    refine hK.out _ _ HT.out.1 (fun _ => ?_)
    clear hK K hz
    try simp only [Act.put, z1, z2, z3]
    exact st_UA hn16 hm16 hp fin w1 HT
  refine AllReadyH.cons (o := so8) rfl (fun K hK => ?_) AllReadyH.nil
  refine step_one rfl (-1) rfl ?_
  intro gC w1 hz
  have HT := Lib.hid ((HS.out.new hz.out).ins 1)
  refine hK.out _ _ HT.out.1 (fun _ => ?_)
  clear hK K hz
  try simp only [Act.put, z1, z2, z3]
  exact st_UC hn16 hm16 hp fin w1 HT
set_option maxRecDepth 100000 in
set_option maxHeartbeats 4000000 in
theorem st_V {n m c : Nat} {a : Option Addr} {w5 : World} {Q : Exit → Act → World → Prop} (hn16 : n ≤ 16) (hm16 : m ≤ 16) (hp : ∀ c a w (t : Tmp) v, Q (.panic c) (a.put (some t) v) w → Q (.panic c) a w) (fin : Fin9 n m c a w5 Q) {gV : Nat} (w : World) (HS : Hid (NBs w5 w [(gV, List.replicate m 0)])) :
    wpAnyH Try.prog .any #[so0, so1, so2, so3, so4, so5, so6, so7, so8, so9, so10, so11, so12, so13] Q (fun W => Below w5.heap.size w5 W) 8 #[true, true, false, true, true, false, true, false, false, true, false, false, false, false] ⟨#[.slice a n c, undef, .pointer none, .bool false, .int .i64 (n : Int), .int .i64 (m : Int), undef, .slice a n c, .int .i64 (n : Int), .slice a n c, .int .i64 (m : Int), .slice a n c, .int .i64 (n : Int), undef, .int .i64 (m : Int), .slice (some ⟨gV, 0, none⟩) m m, undef, .int .i64 (n : Int), undef, undef, .int .i64 (m : Int), undef, undef, undef, undef, undef, undef, undef, undef, undef, undef, undef, undef, undef, undef], []⟩ w := by
  refine wpAnyH_ready (rs := [2, 5, 8]) (by kernel_rfl) (by simp) ?_
  refine AllReadyH.cons (o := so2) rfl (fun K hK => ?_) ?_
  · refine step_make rfl (.tmp 12) rfl n (by omega) rfl ?_
    intro gU w1 hz
    have HT := Lib.hid ((HS.out.new hz.out).ins 0)
    refine hK.out _ _ HT.out.1 (fun _ => ?_)
    clear hK K hz
    try simp only [Act.put, z1, z2, z3]
    exact st_UV hn16 hm16 hp fin w1 HT
  refine AllReadyH.cons (o := so5) rfl (fun K hK => ?_) ?_
  · refine step_one rfl (-1) rfl ?_
    intro gA w1 hz
    have HT := Lib.hid ((HS.out.new hz.out).ins 1)
    refine hK.out _ _ HT.out.1 (fun _ => ?_)
    clear hK K hz
    try simp only [Act.put, z1, z2, z3]
    exact st_VA hn16 hm16 hp fin w1 HT
  refine AllReadyH.cons (o := so8) rfl (fun K hK => ?_) AllReadyH.nil
  refine step_one rfl (-1) rfl ?_
  intro gC w1 hz
  have HT := Lib.hid ((HS.out.new hz.out).ins 1)
  refine hK.out _ _ HT.out.1 (fun _ => ?_)
  clear hK K hz
  try simp only [Act.put, z1, z2, z3]
  exact st_VC hn16 hm16 hp fin w1 HT
set_option maxRecDepth 100000 in
set_option maxHeartbeats 4000000 in
theorem st_A {n m c : Nat} {a : Option Addr} {w5 : World} {Q : Exit → Act → World → Prop} (hn16 : n ≤ 16) (hm16 : m ≤ 16) (hp : ∀ c a w (t : Tmp) v, Q (.panic c) (a.put (some t) v) w → Q (.panic c) a w) (fin : Fin9 n m c a w5 Q) {gA : Nat} (w : World) (HS : Hid (NBs w5 w [(gA, [-1])])) :
    wpAnyH Try.prog .any #[so0, so1, so2, so3, so4, so5, so6, so7, so8, so9, so10, so11, so12, so13] Q (fun W => Below w5.heap.size w5 W) 8 #[true, true, false, true, false, true, true, false, false, true, false, false, false, false] ⟨#[.slice a n c, undef, .pointer none, .bool false, .int .i64 (n : Int), .int .i64 (m : Int), undef, .slice a n c, .int .i64 (n : Int), .slice a n c, .int .i64 (m : Int), .slice a n c, .int .i64 (n : Int), undef, .int .i64 (m : Int), undef, .slice (some ⟨gA, 0, none⟩) 1 1, .int .i64 (n : Int), undef, undef, .int .i64 (m : Int), undef, undef, undef, undef, undef, undef, undef, undef, undef, undef, undef, undef, undef, undef], []⟩ w := by
  refine wpAnyH_ready (rs := [2, 4, 7, 8]) (by kernel_rfl) (by simp) ?_
  refine AllReadyH.cons (o := so2) rfl (fun K hK => ?_) ?_
  · refine step_make rfl (.tmp 12) rfl n (by omega) rfl ?_
    intro gU w1 hz
    have HT := Lib.hid ((HS.out.new hz.out).ins 0)
    refine hK.out _ _ HT.out.1 (fun _ => ?_)
    clear hK K hz
    try simp only [Act.put, z1, z2, z3]
    exact st_UA hn16 hm16 hp fin w1 HT
  refine AllReadyH.cons (o := so4) rfl (fun K hK => ?_) ?_
  · refine step_make rfl (.tmp 14) rfl m (by omega) rfl ?_
    intro gV w1 hz
    have HT := Lib.hid ((HS.out.new hz.out).ins 0)
    refine hK.out _ _ HT.out.1 (fun _ => ?_)
    clear hK K hz
    try simp only [Act.put, z1, z2, z3]
    exact st_VA hn16 hm16 hp fin w1 HT
  refine AllReadyH.cons (o := so7) rfl (fun K hK => ?_) ?_
  · rw [if_pos (by rfl)]
    go_simp
    go_at_call 47
    refine (repeat_call (-1) n gA hn16 _ (HS.out.at (g := gA) (by simp))).mono ?_
    rintro e w1 ⟨gT, rfl, hz⟩
    have HT := Lib.hid ((HS.out.rep hz).ins 1)
    try dsimp only
    refine hK.out _ _ HT.out.1 (fun _ => ?_)
    clear hK K hz
    try simp only [Act.put, z1, z2, z3]
    exact st_AT hn16 hm16 hp fin w1 HT
  refine AllReadyH.cons (o := so8) rfl (fun K hK => ?_) AllReadyH.nil
  refine step_one rfl (-1) rfl ?_
  intro gC w1 hz
  have HT := Lib.hid ((HS.out.new hz.out).ins 1)
  refine hK.out _ _ HT.out.1 (fun _ => ?_)
  clear hK K hz
  try simp only [Act.put, z1, z2, z3]
  exact st_AC hn16 hm16 hp fin w1 HT
set_option maxRecDepth 100000 in
set_option maxHeartbeats 4000000 in
theorem st_C {n m c : Nat} {a : Option Addr} {w5 : World} {Q : Exit → Act → World → Prop} (hn16 : n ≤ 16) (hm16 : m ≤ 16) (hp : ∀ c a w (t : Tmp) v, Q (.panic c) (a.put (some t) v) w → Q (.panic c) a w) (fin : Fin9 n m c a w5 Q) {gC : Nat} (w : World) (HS : Hid (NBs w5 w [(gC, [-1])])) :
    wpAnyH Try.prog .any #[so0, so1, so2, so3, so4, so5, so6, so7, so8, so9, so10, so11, so12, so13] Q (fun W => Below w5.heap.size w5 W) 8 #[true, true, false, true, false, false, true, false, true, true, false, false, false, false] ⟨#[.slice a n c, undef, .pointer none, .bool false, .int .i64 (n : Int), .int .i64 (m : Int), undef, .slice a n c, .int .i64 (n : Int), .slice a n c, .int .i64 (m : Int), .slice a n c, .int .i64 (n : Int), undef, .int .i64 (m : Int), undef, undef, .int .i64 (n : Int), undef, .slice (some ⟨gC, 0, none⟩) 1 1, .int .i64 (m : Int), undef, undef, undef, undef, undef, undef, undef, undef, undef, undef, undef, undef, undef, undef], []⟩ w := by
  refine wpAnyH_ready (rs := [2, 4, 5]) (by kernel_rfl) (by simp) ?_
  refine AllReadyH.cons (o := so2) rfl (fun K hK => ?_) ?_
  · refine step_make rfl (.tmp 12) rfl n (by omega) rfl ?_
    intro gU w1 hz
    have HT := Lib.hid ((HS.out.new hz.out).ins 0)
    refine hK.out _ _ HT.out.1 (fun _ => ?_)
    clear hK K hz
    try simp only [Act.put, z1, z2, z3]
    exact st_UC hn16 hm16 hp fin w1 HT
  refine AllReadyH.cons (o := so4) rfl (fun K hK => ?_) ?_
  · refine step_make rfl (.tmp 14) rfl m (by omega) rfl ?_
    intro gV w1 hz
    have HT := Lib.hid ((HS.out.new hz.out).ins 0)
    refine hK.out _ _ HT.out.1 (fun _ => ?_)
    clear hK K hz
    try simp only [Act.put, z1, z2, z3]
    exact st_VC hn16 hm16 hp fin w1 HT
  refine AllReadyH.cons (o := so5) rfl (fun K hK => ?_) AllReadyH.nil
  refine step_one rfl (-1) rfl ?_
  intro gA w1 hz
  have HT := Lib.hid ((HS.out.new hz.out).ins 0)
  refine hK.out _ _ HT.out.1 (fun _ => ?_)
  clear hK K hz
  try simp only [Act.put, z1, z2, z3]
  exact st_AC hn16 hm16 hp fin w1 HT
set_option maxRecDepth 100000 in
set_option maxHeartbeats 4000000 in
theorem st_ {n m c : Nat} {a : Option Addr} {w5 : World} {Q : Exit → Act → World → Prop} (hn16 : n ≤ 16) (hm16 : m ≤ 16) (hp : ∀ c a w (t : Tmp) v, Q (.panic c) (a.put (some t) v) w → Q (.panic c) a w) (fin : Fin9 n m c a w5 Q) (w : World) (HS : Hid (NBs w5 w [])) :
    wpAnyH Try.prog .any #[so0, so1, so2, so3, so4, so5, so6, so7, so8, so9, so10, so11, so12, so13] Q (fun W => Below w5.heap.size w5 W) 9 #[true, true, false, true, false, false, true, false, false, true, false, false, false, false] ⟨#[.slice a n c, undef, .pointer none, .bool false, .int .i64 (n : Int), .int .i64 (m : Int), undef, .slice a n c, .int .i64 (n : Int), .slice a n c, .int .i64 (m : Int), .slice a n c, .int .i64 (n : Int), undef, .int .i64 (m : Int), undef, undef, .int .i64 (n : Int), undef, undef, .int .i64 (m : Int), undef, undef, undef, undef, undef, undef, undef, undef, undef, undef, undef, undef, undef, undef], []⟩ w := by
  refine wpAnyH_ready (rs := [2, 4, 5, 8]) (by kernel_rfl) (by simp) ?_
  refine AllReadyH.cons (o := so2) rfl (fun K hK => ?_) ?_
  · refine step_make rfl (.tmp 12) rfl n (by omega) rfl ?_
    intro gU w1 hz
    have HT := Lib.hid ((HS.out.new hz.out).ins 0)
    refine hK.out _ _ HT.out.1 (fun _ => ?_)
    clear hK K hz
    try simp only [Act.put, z1, z2, z3]
    exact st_U hn16 hm16 hp fin w1 HT
  refine AllReadyH.cons (o := so4) rfl (fun K hK => ?_) ?_
  · refine step_make rfl (.tmp 14) rfl m (by omega) rfl ?_
    intro gV w1 hz
    have HT := Lib.hid ((HS.out.new hz.out).ins 0)
    refine hK.out _ _ HT.out.1 (fun _ => ?_)
    clear hK K hz
    try simp only [Act.put, z1, z2, z3]
    exact st_V hn16 hm16 hp fin w1 HT
  refine AllReadyH.cons (o := so5) rfl (fun K hK => ?_) ?_
  · refine step_one rfl (-1) rfl ?_
    intro gA w1 hz
    have HT := Lib.hid ((HS.out.new hz.out).ins 0)
    refine hK.out _ _ HT.out.1 (fun _ => ?_)
    clear hK K hz
    try simp only [Act.put, z1, z2, z3]
    exact st_A hn16 hm16 hp fin w1 HT
  refine AllReadyH.cons (o := so8) rfl (fun K hK => ?_) AllReadyH.nil
  refine step_one rfl (-1) rfl ?_
  intro gC w1 hz
  have HT := Lib.hid ((HS.out.new hz.out).ins 0)
  refine hK.out _ _ HT.out.1 (fun _ => ?_)
  clear hK K hz
  try simp only [Act.put, z1, z2, z3]
  exact st_C hn16 hm16 hp fin w1 HT
set_option maxRecDepth 100000 in
set_option maxHeartbeats 8000000 in
theorem settle_call {n m : Nat} (C : List (List Int)) (vc : Value) (w : World) (hM : Mat C n m) (hm : colsN C = m) (hC : NRest w.heap.size w C vc) :
    Calls Try.prog 31 #[vc] w fun e w' => Below w.heap.size w w' ∧ SetP n m C vc w e w' := by
  obtain ⟨a, c, rfl⟩ := nrest_shape hC
  have HCC := Lib.hid (columns_call C (.slice a C.length c) w hC)
  have HM := Lib.hid hM
  have HCm := Lib.hid hm
  have HC0 := Lib.hid hC
  have hn := hM.len
  have hn16 := hM.n16
  have hm16 := hM.m16
  have hni : (n : Int) ≤ 16 := by omega
  have hmi : (m : Int) ≤ 16 := by omega
  rw [hn] at HCC HC0 ⊢
  rw [hm] at HCC
  clear hM hC hm hn
  go_enter Try.func31, Try.ntmps31
  go_upto_region 2 with (go_at_call 46; refine HCC.out.mono ?_; rintro e w5 ⟨rfl, rfl⟩)
  go_cut [2] (fun s2 wr => RelS n m (.slice a n c) w5 s2 wr)
  case first =>
    refine wp_region_held_drew (S := fun W => Below w5.heap.size w5 W) (by kernel_rfl) ?_ (fun hHeld => ?_)
    · exact (Below.refl _ _).drew
    have HS0 := Lib.hid (NBs.nil w5 hHeld)
    clear hHeld
    refine wpAnyH_take (i := 0) (oi := so0) (v := ?_) rfl (by kernel_rfl) (by kernel_rfl) (by kernel_rfl) (fun _ _ _ h => h) (Or.inl ⟨by rfl, ?_⟩) HS0.out.1 ?_
    rotate_left
    · (intro w hSw; (try dsimp only at hSw); go_simp; first | done | with_reducible rfl)
    try simp only [Act.put, z1, z2, z3]
    refine wpAnyH_take (i := 1) (oi := so1) (v := ?_) rfl (by kernel_rfl) (by kernel_rfl) (by kernel_rfl) (fun _ _ _ h => h) (Or.inl ⟨by rfl, ?_⟩) HS0.out.1 ?_
    rotate_left
    · (intro w hSw; (try dsimp only at hSw); go_simp; first | done | with_reducible rfl)
    try simp only [Act.put, z1, z2, z3]
    refine wpAnyH_take (i := 3) (oi := so3) (v := ?_) rfl (by kernel_rfl) (by kernel_rfl) (by kernel_rfl) (fun _ _ _ h => h) (Or.inl ⟨by rfl, ?_⟩) HS0.out.1 ?_
    rotate_left
    · (intro w hSw; (try dsimp only at hSw); go_simp; first | done | with_reducible rfl)
    try simp only [Act.put, z1, z2, z3]
    refine wpAnyH_take (i := 6) (oi := so6) (v := ?_) rfl (by kernel_rfl) (by kernel_rfl) (by kernel_rfl) (fun _ _ _ h => h) (Or.inl ⟨by rfl, ?_⟩) HS0.out.1 ?_
    rotate_left
    · (intro w hSw; (try dsimp only at hSw); go_simp; first | done | with_reducible rfl)
    try simp only [Act.put, z1, z2, z3]
    refine wpAnyH_take (i := 9) (oi := so9) (v := ?_) rfl (by kernel_rfl) (by kernel_rfl) (by kernel_rfl) (fun _ _ _ h => h) (Or.inl ⟨by rfl, ?_⟩) HS0.out.1 ?_
    rotate_left
    · (intro w hSw; (try dsimp only at hSw); go_simp; first | done | with_reducible rfl)
    try simp only [Act.put, z1, z2, z3]
    refine st_ hn16 hm16 (fun _ _ _ _ _ h => h) ?_ _ HS0
    intro gU gV gA gT gC gR w1 hs hb
    have HS := Lib.hid hs
    have HB := Lib.hid hb
    clear hs hb
    go_wp2_with fail
    go_meet
    exact set_rel HS.out (by simp) (by simp) (by simp) (by simp) (by have := HS.out.2.2; simp at this; omega) HB.out
  case rest =>
    obtain ⟨g, gu, gv, gt, gr, rfl, hd, hge, hx, hb⟩ := hcut
    have HD0 := Lib.hid hd
    have HGE := Lib.hid hge
    have HX0 := Lib.hid hx
    have HB0 := Lib.hid hb
    clear hd hge hx hb
    go_upto_region 4 with (fail)
    go_loopw [2, 3, 26] (fun s2 s3 s26 wr => ∃ (r : Nat) (U V TO RW : List Int), r ≤ n ∧ s2 = .pointer (some ⟨g, 0, none⟩) ∧ s3 = .bool false ∧ s26 = .int .i64 (r : Int) ∧ DMem g gu gv gt gr n m (.slice a n c) U V TO RW wr ∧ Deal n m (cst C) (gI U 0) (gI V 0) (gI TO (-1)) (gI RW (-1)) r ∧ Below w5.heap.size w5 wr) (fun _ _ s26 _ => n - (intOf s26).toNat)
    case atStart => exact ⟨0, _, _, _, _, by omega, rfl, rfl, rfl, HD0.out, by simp only [gI_rep']; exact Deal.none HM.out.any HM.out.n16 HM.out.m16, HB0.out⟩
    case round =>
      obtain ⟨r, U, V, TO, RW, hrn, rfl, rfl, rfl, hd, hdl, hb⟩ := hrel
      have HR := Lib.hid hrn
      have HD := Lib.hid hd
      have HDL := Lib.hid hdl
      have HB := Lib.hid hb
      have hxr : Dis g gu gv gt gr wr.heap.size := HX0.out.to ⟨hd.rg.lt, hd.ru.lt, hd.rv.lt, hd.rt.lt, hd.rr.lt⟩
      have HXR := Lib.hid hxr
      clear hrn hd hdl hb hxr
      by_cases hlt : r < n
      · have hri : (r : Int) < (n : Int) := by omega
        have HLT := Lib.hid hlt
        have HWK := Lib.hid (wrap_succ hlt (show n ≤ maxLen by unfold maxLen; omega))
        have HA : Hid (Calls Try.prog 48 #[.pointer (some ⟨g, 0, none⟩), .int .i64 (r : Int)] wr fun en w' => Below w5.heap.size w5 w' ∧ ∃ bb, en = .returned (.bool bb) ∧
            ((bb = true ∧ ∃ U' V' TO' RW', DMem g gu gv gt gr n m (.slice a n c) U' V' TO' RW' w' ∧ Deal n m (cst C) (gI U' 0) (gI V' 0) (gI TO' (-1)) (gI RW' (-1)) (r + 1)) ∨ (bb = false ∧ ∃ R S, Crowd n m (cst C) R S))) := Lib.hid ((add_call wr HM.out (HC0.out.stays HB.out) HB.out.size HD.out HXR.out HGE.out hlt HDL.out).mono (by
              rintro en w6 ⟨hk, h⟩
              have hs := HB.out.size
              refine ⟨HB.out.trans ⟨hk.os, hk.tape, hk.output, hk.size, fun b hb => ?_⟩, ?_⟩
              · have hg9 := HGE.out
                exact hk.keep b ⟨by omega, by omega, by omega, by omega, by omega⟩ (by omega)
              · rcases h with ⟨rfl, h⟩ | ⟨rfl, h⟩
                · exact ⟨true, rfl, .inl ⟨rfl, h⟩⟩
                · exact ⟨false, rfl, .inr ⟨rfl, h⟩⟩))
        clear hlt
        go_upto_if 32 with (go_at_call 48; refine HA.out.mono ?_; rintro en w6 ⟨hb6, bb, rfl, h6⟩; have H6 := Lib.hid (And.intro hb6 h6); clear hb6 h6)
        cases bb with
        | false =>
          go_wp2_with fail
          refine bodyPost_ret (results_tmp2 rfl _ _ _) rfl ?_
          refine ⟨H6.out.1, .inr ⟨rfl, ?_⟩⟩
          rcases H6.out.2 with ⟨h9, -⟩ | ⟨-, h9⟩
          · cases h9
          · exact h9
        | true =>
          go_wp2_with fail
          rcases H6.out.2 with ⟨-, U2, V2, TO2, RW2, hd2, hdl2⟩ | ⟨h9, -⟩
          · exact ⟨⟨r + 1, U2, V2, TO2, RW2, by have := HLT.out; omega, rfl, rfl, by first | rw [Int.natCast_succ] | go_num, hd2, hdl2, H6.out.1⟩, by have := HLT.out; simp [intOf]; omega⟩
          · cases h9
      · obtain rfl : r = n := by have := HR.out; omega
        go_wp2_with fail
        refine bodyPost_ret (results_tmp2 rfl _ _ _) rfl ?_
        exact ⟨HB.out, .inl ⟨g, gu, gv, gt, gr, U, V, TO, RW, rfl, HD.out, HGE.out, HXR.out, HDL.out⟩⟩
end Go.Proofs.Ythkmbbgcadfilaa
