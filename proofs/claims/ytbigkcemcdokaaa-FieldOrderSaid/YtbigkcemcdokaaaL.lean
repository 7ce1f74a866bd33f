/- Points through a polynomial: the law FieldThrough. -/
import Derived.Test.YtbigkcemcdokaaaJ
import Derived.Deep.RegionLawGrows
namespace Go.Proofs.Ytbigkcemcdokaaa
open Go.RowKit

/-- From w to w' only the block of v may have turned, and v' lies in it or in a new one. -/
structure Wrote (w w' : World) (v v' : Value) : Prop where
  grown : w.grownBy w' v.ownBlock
  own : v'.ownBlock = v.ownBlock ∨ ∀ k, v'.ownBlock = some k → w.heap.size ≤ k

theorem Wrote.refl (w : World) (v : Value) : Wrote w w v v := ⟨⟨rfl, rfl, rfl, Nat.le_refl _, fun _ _ _ => rfl⟩, .inl rfl⟩
theorem Wrote.trans {a b c : World} {u v x : Value} (h : Wrote a b u v) (k : Wrote b c v x) : Wrote a c u x := by
  have hs := h.grown.size
  refine ⟨⟨k.grown.os.trans h.grown.os, k.grown.tape.trans h.grown.tape, k.grown.output.trans h.grown.output, Nat.le_trans hs k.grown.size, fun i hi hne => ?_⟩, ?_⟩
  · refine (k.grown.block i (by omega) fun e => ?_).trans (h.grown.block i hi hne)
    rcases h.own with h1 | h1
    · exact hne (e.trans h1)
    · have := h1 i e.symm; omega
  · rcases k.own with h1 | h1
    · rw [h1]; exact h.own
    · exact .inr fun j hj => by have := h1 j hj; omega
theorem Wrote.alloc {a b : World} {u v : Value} (h : Wrote a b u v) (o : Obj) : Wrote a (b.alloc o) u v :=
  ⟨⟨h.grown.os, h.grown.tape, h.grown.output, by have := h.grown.size; simp; omega, fun i hi hne => by
    rw [Below.heap_alloc _ _ _ (by have := h.grown.size; omega)]; exact h.grown.block i hi hne⟩, h.own⟩
theorem Wrote.drew {a b : World} {u v : Value} (h : Wrote a b u v) : Wrote a b.drew u v :=
  ⟨⟨h.grown.os, h.grown.tape, h.grown.output, h.grown.size, h.grown.block⟩, h.own⟩
theorem Wrote.below {a b : World} (v : Value) (h : Below a.heap.size a b) : Wrote a b v v :=
  ⟨⟨h.os, h.tape, h.output, h.size, fun i hi _ => h.block i hi⟩, .inl rfl⟩
theorem Wrote.toBelow {a b : World} {u v : Value} {B : Nat} (h : Wrote a b u v) (hB : B ≤ a.heap.size) (hu : ∀ k, u.ownBlock = some k → B ≤ k) : Below B a b :=
  ⟨h.grown.os, h.grown.tape, h.grown.output, h.grown.size, fun i hi => h.grown.block i (by omega) fun e => by have := hu i e.symm; omega⟩
theorem Wrote.cell {a b : World} {u v : Value} (h : Wrote a b u v) {p : Addr} {x : Value} (hp : a.cell? p = some x) (hne : some p.block ≠ u.ownBlock) : b.cell? p = some x := h.grown.cell hp hne

theorem owns_below {w w' : World} {e size n : Nat} {v : Value} {xs : List Value} (h : w.ownsRow 0 e size v n xs) (hb : Below w.heap.size w w') : w'.ownsRow 0 e size v n xs :=
  h.kept (row := none) ⟨hb.os, hb.tape, hb.output, hb.size, fun k hk _ => hb.block k hk⟩ (by cases hv : v.ownBlock <;> simp)
theorem owns_lt {w : World} {e size n : Nat} {v : Value} {xs : List Value} (h : w.ownsRow 0 e size v n xs) : ∀ k, v.ownBlock = some k → k < w.heap.size := fun k hk => (h.lt k hk).2

section
variable {P : Program}
theorem wpList_append_mine (w : World) {ops : Array Oper} {rest : List Oper} {o : Oper} {a : Act} {Q : Exit → Act → World → Prop} (hgd : o.guard = none) (s x : Operand) (t : TypeId)
    (ho : o.op = .call { callee := .builtin .append, args := #[s, x], argTypes := #[t, t] })
    (e : TypeId) (i : TypeInfo) (z : Value) (size bytes : Nat) (ht : P.underlying t = some (.slice e)) (hi : P.info? e = some i) (hz : i.zero = some z)
    (hsize : i.size = size) (hby : i.bytes = bytes) (hzs : z.cells.size = size) (hsz : 0 < size)
    (v : Value) (n : Nat) (xs : List Value) (hs : a.eval s = v) (hown : w.ownsRow 0 e size v n xs)
    (ad : Addr) (m c : Nat) (news : List Value) (hx : a.eval x = .slice (some ad) m c) (hl : news.length = m * size) (hnews : ∀ j u, news[j]? = some u → w.cell? (ad.add j) = some u) (h1 : ∀ u ∈ news, u.oneCell' = true)
    (h63 : n + m ≤ maxLen) (hbytes : (n + m) * bytes ≤ 140737488355328)
    (h : ∀ v' w', w'.ownsRow 0 e size v' (n + m) (xs ++ news) → Wrote w w' v v' → wpList P ops Q rest (a.put o.dst v') w') : wpList P ops Q (o :: rest) a w := by
  rcases hown.2 with ⟨rfl, rfl⟩ | ⟨g, cap, cur, rfl, hbg, hg, hnc, hcm, hcs, htake⟩
  · have hx0 : xs = [] := List.eq_nil_of_length_eq_zero (by simpa using hown.1)
    subst hx0
    refine wpList_append_own w hgd s x t ho w.heap.size e i z size bytes ht hi hz hsize hby hzs hsz (.slice none 0 0) 0 [] hs (World.ownsRow_nil w _ e size) ad m c news hx hl hnews h1 h63 hbytes (Nat.le_refl _) fun v' w' h2 h3 _ => ?_
    exact h v' w' (Joins.ownsRow_le h2 (Nat.zero_le _)) ⟨h3, .inr fun k hk => (h2.lt k hk).1⟩
  · by_cases hroom : n + m ≤ cap
    · refine wpList_append_fits w hgd s x t ho 0 e i size ht hi hsize g n cap xs hs hown ad m c news hx hl hnews h1 hroom fun w' h2 h3 => ?_
      exact h _ w' h2 ⟨h3, .inl rfl⟩
    · refine wpList_append_grows w hgd s x t ho e i z size bytes ht hi hz hsize hby hzs hsz (some ⟨g, 0, none⟩) n cap xs hs (fun h0 => by cases h0) hown.1 (fun b hb j u hu => ?_) ad m c news hx hl hnews h1 (by omega) h63 hbytes fun v' w' h2 h3 => ?_
      · obtain rfl := Option.some.inj hb
        exact hown.cells (g := g) rfl j u hu
      · exact h v' w' (Joins.ownsRow_le h2 (Nat.zero_le _)) ⟨⟨h3.os, h3.tape, h3.output, h3.size, fun k hk _ => h3.block k hk (by simp)⟩, .inr fun k hk => (h2.lt k hk).1⟩
end


/-- the cells of points -/
def pc : List (Int × Int) → List Value
  | [] => []
  | p :: l => .int .i64 p.1 :: .int .i64 p.2 :: pc l
theorem pc_len : ∀ l : List (Int × Int), (pc l).length = l.length * 2
  | [] => rfl
  | p :: l => by simp [pc, pc_len l]; omega
theorem pc_append : ∀ a b : List (Int × Int), pc (a ++ b) = pc a ++ pc b
  | [], _ => rfl
  | p :: a, b => by simp [pc, pc_append a b]
theorem pc_get : ∀ {l : List (Int × Int)} {i : Nat} (h : i < l.length), (pc l)[i * 2]? = some (.int .i64 l[i].1) ∧ (pc l)[i * 2 + 1]? = some (.int .i64 l[i].2)
  | p :: l, 0, _ => ⟨rfl, rfl⟩
  | p :: l, i + 1, h => by
    have := pc_get (l := l) (i := i) (by simpa using h)
    rw [show (i + 1) * 2 = i * 2 + 1 + 1 by omega]
    simpa [pc] using this
theorem pc_at : ∀ {l : List (Int × Int)} {j : Nat} {x : Value}, (pc l)[j]? = some x → ∃ i, ∃ h : i < l.length, (j = i * 2 ∧ x = .int .i64 l[i].1) ∨ (j = i * 2 + 1 ∧ x = .int .i64 l[i].2)
  | [], j, x, h => by simp [pc] at h
  | p :: l, 0, x, h => ⟨0, by simp, .inl ⟨rfl, by simpa [pc] using h.symm⟩⟩
  | p :: l, 1, x, h => ⟨0, by simp, .inr ⟨rfl, by simpa [pc] using h.symm⟩⟩
  | p :: l, j + 2, x, h => by
    obtain ⟨i, hi, h2⟩ := pc_at (l := l) (j := j) (x := x) (by simpa [pc] using h)
    refine ⟨i + 1, by simpa using hi, ?_⟩
    rcases h2 with ⟨rfl, rfl⟩ | ⟨rfl, rfl⟩
    · exact .inl ⟨by omega, rfl⟩
    · exact .inr ⟨by omega, rfl⟩
/-- a list of points of the call's own -/
def PBuf (B : Nat) (w : World) (v : Value) (l : List (Int × Int)) : Prop := w.ownsRow B 35 2 v l.length (pc l)
theorem PBuf.keep {B : Nat} {w w' : World} {v : Value} {l : List (Int × Int)} (h : PBuf B w v l) (hb : Below w.heap.size w w') : PBuf B w' v l :=
  World.ownsRow.kept (row := none) h ⟨hb.os, hb.tape, hb.output, hb.size, fun k hk _ => hb.block k hk⟩ (by cases hv : v.ownBlock <;> simp)
theorem pbuf_nil (B : Nat) (w : World) : PBuf B w (.slice none 0 0) [] := World.ownsRow_nil _ _ _ _
theorem PBuf.lt {B : Nat} {w : World} {v : Value} {l : List (Int × Int)} (h : PBuf B w v l) : ∀ k, v.ownBlock = some k → B ≤ k ∧ k < w.heap.size := fun k hk => World.ownsRow.lt h k hk
theorem PBuf.rest {B : Nat} {w : World} {v : Value} {l : List (Int × Int)} (h : PBuf B w v l) (hI : ∀ p, p ∈ l → I64 p.1 ∧ I64 p.2) : PRest w.heap.size w l v := by
  rcases h.2 with ⟨rfl, h0⟩ | ⟨g, cap, cur, rfl, hbg, hg, hnc, hcm, hcs, htake⟩
  · obtain rfl : l = [] := List.eq_nil_of_length_eq_zero h0
    exact prest_nil _ _
  · refine ⟨_, cap, rfl, hnc, hcm, hI, .inr ⟨g, 0, rfl, (Array.getElem?_eq_some_iff.1 hg).1, fun i hi => ?_⟩⟩
    obtain ⟨k1, k2⟩ := pc_get hi
    have c1 := World.ownsRow.cells h (g := g) rfl _ _ k1
    have c2 := World.ownsRow.cells h (g := g) rfl _ _ k2
    rw [Addr.add_lit] at c1 c2
    exact ⟨c1, by rw [← c2, ← Nat.add_assoc]⟩
/-- the points that the law makes -/
def ownL (l : List (Int × Int)) (poly : List Int) : List (Int × Int) := l.map fun p => (p.1, evalP poly p.1 % 1073741789)
theorem ownL_fst (l : List (Int × Int)) (poly : List Int) : (ownL l poly).map (·.1) = l.map (·.1) := by simp [ownL]
theorem ownL_len (l : List (Int × Int)) (poly : List Int) : (ownL l poly).length = l.length := by simp [ownL]
theorem ownL_through (l : List (Int × Int)) (poly : List Int) (hd : Dif (l.map (·.1))) (hl : poly.length ≤ l.length) (t : Int) : lag ((ownL l poly).map (·.1)) ((ownL l poly).map (·.2)) t % 1073741789 = evalP poly t % 1073741789 := by
  rw [ownL_fst]
  refine (lag_only (l.map (·.1)) _ hd (f := evalP poly) ((isPoly_eval poly).more (by simpa using hl)) (fun j hj => ?_) t).eq
  rw [List.length_map] at hj
  have e : ((ownL l poly).map (·.2)).getD j 0 = evalP poly ((l.map (·.1)).getD j 0) % 1073741789 := by simp [ownL, hj]
  rw [e]
  exact cg_mod _
theorem ownL_take (l : List (Int × Int)) (poly : List Int) {k : Nat} (hk : k < l.length) : (ownL l poly).take (k + 1) = (ownL l poly).take k ++ [((l.map (·.1)).getD k 0, evalP poly ((l.map (·.1)).getD k 0) % 1073741789)] := by
  rw [List.take_succ_eq_append_getElem (by rw [ownL_len]; exact hk)]
  simp [ownL, hk]
theorem ownL_i64 (l : List (Int × Int)) (poly : List Int) (h : ∀ p, p ∈ l → I64 p.1) : ∀ p, p ∈ ownL l poly → I64 p.1 ∧ I64 p.2 := fun p hp => by
  obtain ⟨q, hq, rfl⟩ := List.mem_map.1 hp
  exact ⟨h q hq, i64_mod _⟩
end Go.Proofs.Ytbigkcemcdokaaa
