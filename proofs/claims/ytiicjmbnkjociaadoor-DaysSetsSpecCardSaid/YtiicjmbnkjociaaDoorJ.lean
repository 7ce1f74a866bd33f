/- Spans appended to a list of the call's own. -/
import Derived.Test.YtiicjmbnkjociaaDoorI
import Derived.Deep.RegionLawGrows
import Derived.Deep.AppendSrc
import Derived.RegionTactic
import Derived.Laws.OwnMore
namespace Go.Proofs.YtiicjmbnkjociaaDoor
open Go.RowKit

theorem Tryd.info45 : (Tryd.prog.info? 45).map (fun i => (i.zero, i.size, i.bytes)) = some (some (.agg #[.int .i64 0, .int .i64 0]), 2, 16) := by kernel_rfl
/-- From w to w' only the block of v may have turned, and v' lies in it or in a new one. -/
structure Wrote (w w' : World) (v v' : Value) : Prop where
  grown : w.grownBy w' v.ownBlock
  own : v'.ownBlock = v.ownBlock ∨ ∀ k, v'.ownBlock = some k → w.heap.size ≤ k

theorem Wrote.refl (w : World) (v : Value) : Wrote w w v v := ⟨⟨rfl, rfl, rfl, Nat.le_refl _, fun _ _ _ => rfl⟩, .inl rfl⟩
theorem Wrote.trans {a b c : World} {u v x : Value} (h : Wrote a b u v) (k : Wrote b c v x) : Wrote a c u x := by
  have hs := h.grown.size
  refine ⟨⟨k.grown.os.trans h.grown.os, k.grown.tape.trans h.grown.tape, k.grown.output.trans h.grown.output, Nat.le_trans hs k.grown.size, fun i hi hne => ?_⟩, ?_⟩
  · refine (k.grown.block i (by omega) fun e => ?_).trans (h.grown.block i hi hne)
    rcases h.own with h1 | h1
    · exact hne (e.trans h1)
    · have := h1 i e.symm; omega
  · rcases k.own with h1 | h1
    · rw [h1]; exact h.own
    · exact .inr fun j hj => by have := h1 j hj; omega
theorem Wrote.alloc {a b : World} {u v : Value} (h : Wrote a b u v) (o : Obj) : Wrote a (b.alloc o) u v :=
  ⟨⟨h.grown.os, h.grown.tape, h.grown.output, by have := h.grown.size; simp; omega, fun i hi hne => by
    rw [Below.heap_alloc _ _ _ (by have := h.grown.size; omega)]; exact h.grown.block i hi hne⟩, h.own⟩
theorem Wrote.drew {a b : World} {u v : Value} (h : Wrote a b u v) : Wrote a b.drew u v :=
  ⟨⟨h.grown.os, h.grown.tape, h.grown.output, h.grown.size, h.grown.block⟩, h.own⟩
theorem Wrote.below {a b : World} (v : Value) (h : Below a.heap.size a b) : Wrote a b v v :=
  ⟨⟨h.os, h.tape, h.output, h.size, fun i hi _ => h.block i hi⟩, .inl rfl⟩
theorem Wrote.toBelow {a b : World} {u v : Value} {B : Nat} (h : Wrote a b u v) (hB : B ≤ a.heap.size) (hu : ∀ k, u.ownBlock = some k → B ≤ k) : Below B a b :=
  ⟨h.grown.os, h.grown.tape, h.grown.output, h.grown.size, fun i hi => h.grown.block i (by omega) fun e => by have := hu i e.symm; omega⟩
theorem Wrote.cell {a b : World} {u v : Value} (h : Wrote a b u v) {p : Addr} {x : Value} (hp : a.cell? p = some x) (hne : some p.block ≠ u.ownBlock) : b.cell? p = some x := h.grown.cell hp hne

theorem owns_below {w w' : World} {e size n : Nat} {v : Value} {xs : List Value} (h : w.ownsRow 0 e size v n xs) (hb : Below w.heap.size w w') : w'.ownsRow 0 e size v n xs :=
  h.kept (row := none) ⟨hb.os, hb.tape, hb.output, hb.size, fun k hk _ => hb.block k hk⟩ (by cases hv : v.ownBlock <;> simp)
theorem owns_lt {w : World} {e size n : Nat} {v : Value} {xs : List Value} (h : w.ownsRow 0 e size v n xs) : ∀ k, v.ownBlock = some k → k < w.heap.size := fun k hk => (h.lt k hk).2

section
variable {P : Program}
theorem wpList_append_mine (w : World) {ops : Array Oper} {rest : List Oper} {o : Oper} {a : Act} {Q : Exit → Act → World → Prop} (hgd : o.guard = none) (s x : Operand) (t : TypeId)
    (ho : o.op = .call { callee := .builtin .append, args := #[s, x], argTypes := #[t, t] })
    (e : TypeId) (i : TypeInfo) (z : Value) (size bytes : Nat) (ht : P.underlying t = some (.slice e)) (hi : P.info? e = some i) (hz : i.zero = some z)
    (hsize : i.size = size) (hby : i.bytes = bytes) (hzs : z.cells.size = size) (hsz : 0 < size)
    (v : Value) (n : Nat) (xs : List Value) (hs : a.eval s = v) (hown : w.ownsRow 0 e size v n xs)
    (ad : Addr) (m c : Nat) (news : List Value) (hx : a.eval x = .slice (some ad) m c) (hl : news.length = m * size) (hnews : ∀ j u, news[j]? = some u → w.cell? (ad.add j) = some u) (h1 : ∀ u ∈ news, u.oneCell' = true)
    (h63 : n + m ≤ maxLen) (hbytes : (n + m) * bytes ≤ 140737488355328)
    (h : ∀ v' w', w'.ownsRow 0 e size v' (n + m) (xs ++ news) → Wrote w w' v v' → wpList P ops Q rest (a.put o.dst v') w') : wpList P ops Q (o :: rest) a w := by
  rcases hown.2 with ⟨rfl, rfl⟩ | ⟨g, cap, cur, rfl, hbg, hg, hnc, hcm, hcs, htake⟩
  · have hx0 : xs = [] := List.eq_nil_of_length_eq_zero (by simpa using hown.1)
    subst hx0
    refine wpList_append_own w hgd s x t ho w.heap.size e i z size bytes ht hi hz hsize hby hzs hsz (.slice none 0 0) 0 [] hs (World.ownsRow_nil w _ e size) ad m c news hx hl hnews h1 h63 hbytes (Nat.le_refl _) fun v' w' h2 h3 _ => ?_
    exact h v' w' (Joins.ownsRow_le h2 (Nat.zero_le _)) ⟨h3, .inr fun k hk => (h2.lt k hk).1⟩
  · by_cases hroom : n + m ≤ cap
    · refine wpList_append_fits w hgd s x t ho 0 e i size ht hi hsize g n cap xs hs hown ad m c news hx hl hnews h1 hroom fun w' h2 h3 => ?_
      exact h _ w' h2 ⟨h3, .inl rfl⟩
    · refine wpList_append_grows w hgd s x t ho e i z size bytes ht hi hz hsize hby hzs hsz (some ⟨g, 0, none⟩) n cap xs hs (fun h0 => by cases h0) hown.1 (fun b hb j u hu => ?_) ad m c news hx hl hnews h1 (by omega) h63 hbytes fun v' w' h2 h3 => ?_
      · obtain rfl := Option.some.inj hb
        exact hown.cells (g := g) rfl j u hu
      · exact h v' w' (Joins.ownsRow_le h2 (Nat.zero_le _)) ⟨⟨h3.os, h3.tape, h3.output, h3.size, fun k hk _ => h3.block k hk (by simp)⟩, .inr fun k hk => (h2.lt k hk).1⟩
end


/-- the cells of points -/
def pc : List (Int × Int) → List Value
  | [] => []
  | p :: l => .int .i64 p.1 :: .int .i64 p.2 :: pc l
theorem pc_len : ∀ l : List (Int × Int), (pc l).length = l.length * 2
  | [] => rfl
  | p :: l => by simp [pc, pc_len l]; omega
theorem pc_append : ∀ a b : List (Int × Int), pc (a ++ b) = pc a ++ pc b
  | [], _ => rfl
  | p :: a, b => by simp [pc, pc_append a b]
theorem pc_get : ∀ {l : List (Int × Int)} {i : Nat} (h : i < l.length), (pc l)[i * 2]? = some (.int .i64 l[i].1) ∧ (pc l)[i * 2 + 1]? = some (.int .i64 l[i].2)
  | p :: l, 0, _ => ⟨rfl, rfl⟩
  | p :: l, i + 1, h => by
    have := pc_get (l := l) (i := i) (by simpa using h)
    rw [show (i + 1) * 2 = i * 2 + 1 + 1 by omega]
    simpa [pc] using this
theorem pc_at : ∀ {l : List (Int × Int)} {j : Nat} {x : Value}, (pc l)[j]? = some x → ∃ i, ∃ h : i < l.length, (j = i * 2 ∧ x = .int .i64 l[i].1) ∨ (j = i * 2 + 1 ∧ x = .int .i64 l[i].2)
  | [], j, x, h => by simp [pc] at h
  | p :: l, 0, x, h => ⟨0, by simp, .inl ⟨rfl, by simpa [pc] using h.symm⟩⟩
  | p :: l, 1, x, h => ⟨0, by simp, .inr ⟨rfl, by simpa [pc] using h.symm⟩⟩
  | p :: l, j + 2, x, h => by
    obtain ⟨i, hi, h2⟩ := pc_at (l := l) (j := j) (x := x) (by simpa [pc] using h)
    refine ⟨i + 1, by simpa using hi, ?_⟩
    rcases h2 with ⟨rfl, rfl⟩ | ⟨rfl, rfl⟩
    · exact .inl ⟨by omega, rfl⟩
    · exact .inr ⟨by omega, rfl⟩
/-- a list of points of the call's own -/
def PBuf (B : Nat) (w : World) (v : Value) (l : List (Int × Int)) : Prop := w.ownsRow B 45 2 v l.length (pc l)
theorem PBuf.keep {B : Nat} {w w' : World} {v : Value} {l : List (Int × Int)} (h : PBuf B w v l) (hb : Below w.heap.size w w') : PBuf B w' v l :=
  World.ownsRow.kept (row := none) h ⟨hb.os, hb.tape, hb.output, hb.size, fun k hk _ => hb.block k hk⟩ (by cases hv : v.ownBlock <;> simp)
theorem pbuf_nil (B : Nat) (w : World) : PBuf B w (.slice none 0 0) [] := World.ownsRow_nil _ _ _ _
theorem PBuf.lt {B : Nat} {w : World} {v : Value} {l : List (Int × Int)} (h : PBuf B w v l) : ∀ k, v.ownBlock = some k → B ≤ k ∧ k < w.heap.size := fun k hk => World.ownsRow.lt h k hk
theorem PBuf.rest {B : Nat} {w : World} {v : Value} {l : List (Int × Int)} (h : PBuf B w v l) (hI : ∀ p, p ∈ l → I64 p.1 ∧ I64 p.2) : PRest w.heap.size w l v := by
  rcases h.2 with ⟨rfl, h0⟩ | ⟨g, cap, cur, rfl, hbg, hg, hnc, hcm, hcs, htake⟩
  · obtain rfl : l = [] := List.eq_nil_of_length_eq_zero h0
    exact prest_nil _ _
  · refine ⟨_, cap, rfl, hnc, hcm, hI, .inr ⟨g, 0, rfl, (Array.getElem?_eq_some_iff.1 hg).1, fun i hi => ?_⟩⟩
    obtain ⟨k1, k2⟩ := pc_get hi
    have c1 := World.ownsRow.cells h (g := g) rfl _ _ k1
    have c2 := World.ownsRow.cells h (g := g) rfl _ _ k2
    rw [Addr.add_lit] at c1 c2
    exact ⟨c1, by rw [← c2, ← Nat.add_assoc]⟩
section
variable {P : Program} (w : World)

theorem run_append_src (t tx ty e : TypeId) (i : TypeInfo) (z : Value) (size bytes : Nat) (ht : P.underlying t = some (.slice e)) (hi : P.info? e = some i) (hz : i.zero = some z)
    (hsize : i.size = size) (hby : i.bytes = bytes) (hzs : z.cells.size = size)
    (v : Value) (n : Nat) (xs : List Value) (hown : w.ownsRow 0 e size v n xs) (hn0 : v ≠ .slice none 0 0) (x : Value) (m : Nat) (news : List Value) (hs : Src P size tx x m news w)
    (h63 : n + m ≤ maxLen) (hbytes : (n + m) * bytes ≤ 140737488355328) :
    ∃ v' w', (Builtin.append_ #[t, tx] ty #[v, x]).run P w = .ok v' w' ∧ w'.ownsRow 0 e size v' (n + m) (xs ++ news) ∧ Wrote w w' v v' := by
  subst hsize
  subst hby
  have hsmall : ((n + m : Nat) : Int) ≤ 9223372036854775807 := by simp only [maxLen] at h63; omega
  have hlen : (xs ++ news).length = (n + m) * i.size := by rw [List.length_append, hown.1, hs.newsLen, Nat.add_mul]
  rcases hown.2 with ⟨h0, _⟩ | ⟨g, cap, cur, rfl, hbg, hg, hnc, hcm, hcs, htake⟩
  · exact absurd h0 hn0
  · by_cases hroom : n + m ≤ cap
    · have hfit : n * i.size + news.length ≤ cur.size := by rw [hs.newsLen, hcs, ← Nat.add_mul]; exact Nat.mul_le_mul_right _ hroom
      have hst := run_storeCells_at P g (n * i.size) e news 0 cur w hg (by simpa using hfit) hs.one
      simp only [Nat.add_zero] at hst
      have hr : (Builtin.append_ #[t, tx] ty #[.slice (some ⟨g, 0, none⟩) n cap, x]).run P w =
          .ok (.slice (some ⟨g, 0, none⟩) (n + m) cap) (w.setRow g (cur.toList.take (n * i.size) ++ news ++ cur.toList.drop (n * i.size + news.length)).toArray) := by
        rcases hs.kind with ⟨e', hk⟩ | hk <;> simp [Builtin.append_, run_underlying ht, run_underlying hk, sizeOf, typeInfo, hi, hs.len, hroom, hs.cells, Addr.add_lit, hst]
      refine ⟨_, _, hr, ⟨hlen, .inr ⟨g, cap, _, rfl, hbg, setRow_heap w g cur _ e _ hg, hroom, hcm, ?_, ?_⟩⟩, ⟨⟨rfl, rfl, rfl, by simp, fun k _ hk => setRow_other w g k _ (fun e => hk (by simp [Value.ownBlock, e]))⟩, .inl rfl⟩⟩
      · simp only [List.size_toArray, List.length_append, List.length_take, List.length_drop, Array.length_toList]
        omega
      · rw [htake, ← hlen]
        exact List.take_left
    · have holds : ∀ j u, xs[j]? = some u → w.cell? ((⟨g, 0, none⟩ : Addr).add j) = some u := hown.cells (g := g) rfl
      have hold := run_firstCells_some (P := P) w.drew i.size n ⟨g, 0, none⟩ n cap xs hown.1 (by simpa using holds)
      have hfitg : Builtin.nextslicecap (n + m) cap * i.bytes ≤ 281474976710656 := growslice_fits (by omega) hbytes
      have hr := run_append_grow_src (P := P) w t tx ty e i z ht hi hz (some ⟨g, 0, none⟩) n cap xs hold x m news hs (by omega) hsmall hfitg
      have hge := grownCap_ge w (n + m) cap e
      have hcm2 : grownCap w (n + m) cap e ≤ maxLen := grownCap_le_maxLen w (n + m) cap e h63
      refine ⟨_, _, hr, ⟨hlen, .inr ⟨w.heap.size, _, _, rfl, Nat.zero_le _, heap_alloc_new w.drew _, hge, hcm2, ?_, ?_⟩⟩, ⟨⟨rfl, rfl, rfl, by simp, fun k hk _ => Below.heap_alloc w.drew _ k hk⟩, .inr fun k hk => ?_⟩⟩
      · simp only [Array.size_append, List.size_toArray, size_zeroCells, hzs, hlen, ← Nat.add_mul]
        congr 1
        omega
      · simp only [Array.toList_append]
        rw [← hlen]
        exact List.take_left
      · simp [Value.ownBlock] at hk; omega

theorem wp_append_src {o : Oper} {a : Act} {K : Act → World → Prop} {Q : Exit → Act → World → Prop} (s x : Operand) (t tx : TypeId)
    (ho : o.op = .call { callee := .builtin .append, args := #[s, x], argTypes := #[t, tx] })
    (e : TypeId) (i : TypeInfo) (z : Value) (size bytes : Nat) (ht : P.underlying t = some (.slice e)) (hi : P.info? e = some i) (hz : i.zero = some z)
    (hsize : i.size = size) (hby : i.bytes = bytes) (hzs : z.cells.size = size)
    (v : Value) (n : Nat) (xs : List Value) (hv : a.eval s = v) (hown : w.ownsRow 0 e size v n xs) (hn0 : v ≠ .slice none 0 0) (y : Value) (hx : a.eval x = y) (m : Nat) (news : List Value) (hs : Src P size tx y m news w)
    (h63 : n + m ≤ maxLen) (hbytes : (n + m) * bytes ≤ 140737488355328)
    (h : ∀ v' w', w'.ownsRow 0 e size v' (n + m) (xs ++ news) → Wrote w w' v v' → K (a.put o.dst v') w') : o.wp P a w K Q := by
  obtain ⟨v', w', hr, h2, h3⟩ := run_append_src (P := P) w t tx o.type e i z size bytes ht hi hz hsize hby hzs v n xs hown hn0 y m news hs h63 hbytes
  unfold Oper.wp execOp
  simp only [ho, resolve, invoke, builtin, Sem.run_bind, Sem.run_pure, Result.andThen_ok, List.map_toArray, List.map_cons, List.map_nil, hv, hx, hr]
  exact h v' w' h2 h3

theorem step_append_src {ops : Array Oper} {o : Oper} {a : Act} {K : Act → World → Prop} {Q : Exit → Act → World → Prop} {E : Prop} (hgd : o.guard = none) (s x : Operand) (t tx : TypeId)
    (ho : o.op = .call { callee := .builtin .append, args := #[s, x], argTypes := #[t, tx] })
    (e : TypeId) (i : TypeInfo) (z : Value) (size bytes : Nat) (ht : P.underlying t = some (.slice e)) (hi : P.info? e = some i) (hz : i.zero = some z)
    (hsize : i.size = size) (hby : i.bytes = bytes) (hzs : z.cells.size = size)
    (v : Value) (n : Nat) (xs : List Value) (hv : a.eval s = v) (hown : w.ownsRow 0 e size v n xs) (hn0 : v ≠ .slice none 0 0) (y : Value) (hx : a.eval x = y) (m : Nat) (news : List Value) (hs : Src P size tx y m news w)
    (h63 : n + m ≤ maxLen) (hbytes : (n + m) * bytes ≤ 140737488355328)
    (h : ∀ v' w', w'.ownsRow 0 e size v' (n + m) (xs ++ news) → Wrote w w' v v' → K (a.put o.dst v') w') :
    if Region.wanted o (yielded ops a.tmps) = true then Oper.wp P o a w K Q else E := by
  have hw : Region.wanted o (yielded ops a.tmps) = true := by simp [Region.wanted, hgd]
  rw [if_pos hw]
  exact wp_append_src w s x t tx ho e i z size bytes ht hi hz hsize hby hzs v n xs hv hown hn0 y hx m news hs h63 hbytes h

/-- The same, the slice nil or not, the source a slice's cells. -/
theorem step_append_mine {ops : Array Oper} {o : Oper} {a : Act} {K : Act → World → Prop} {Q : Exit → Act → World → Prop} {E : Prop} (hgd : o.guard = none) (s x : Operand) (t : TypeId)
    (ho : o.op = .call { callee := .builtin .append, args := #[s, x], argTypes := #[t, t] })
    (e : TypeId) (i : TypeInfo) (z : Value) (size bytes : Nat) (ht : P.underlying t = some (.slice e)) (hi : P.info? e = some i) (hz : i.zero = some z)
    (hsize : i.size = size) (hby : i.bytes = bytes) (hzs : z.cells.size = size) (hsz : 0 < size)
    (v : Value) (n : Nat) (xs : List Value) (hv : a.eval s = v) (hown : w.ownsRow 0 e size v n xs) (ad : Addr) (m c : Nat) (news : List Value) (hx : a.eval x = .slice (some ad) m c) (hl : news.length = m * size)
    (hnews : ∀ j u, news[j]? = some u → w.cell? (ad.add j) = some u) (h1 : ∀ u ∈ news, u.oneCell' = true)
    (h63 : n + m ≤ maxLen) (hbytes : (n + m) * bytes ≤ 140737488355328)
    (h : ∀ v' w', w'.ownsRow 0 e size v' (n + m) (xs ++ news) → Wrote w w' v v' → K (a.put o.dst v') w') :
    if Region.wanted o (yielded ops a.tmps) = true then Oper.wp P o a w K Q else E := by
  have hw : Region.wanted o (yielded ops a.tmps) = true := by simp [Region.wanted, hgd]
  rw [if_pos hw]
  rcases hown.2 with ⟨rfl, rfl⟩ | ⟨g, cap, cur, rfl, _⟩
  · have hx0 : xs = [] := List.eq_nil_of_length_eq_zero (by simpa using hown.1)
    subst hx0
    refine wp_append_own w s x t ho w.heap.size e i z size bytes ht hi hz hsize hby hzs hsz (.slice none 0 0) 0 [] hv (World.ownsRow_nil w _ e size) ad m c news hx hl hnews h1 h63 hbytes (Nat.le_refl _) fun v' w' h2 h3 _ => ?_
    exact h v' w' (Joins.ownsRow_le h2 (Nat.zero_le _)) ⟨h3, .inr fun k hk => (h2.lt k hk).1⟩
  · exact wp_append_src w s x t t ho e i z size bytes ht hi hz hsize hby hzs _ n xs hv hown (by simp) _ hx m news (Src.ofSlice w ht ad m c news hl hnews h1) h63 hbytes h
end


theorem pc_one (l : List (Int × Int)) : ∀ u ∈ pc l, u.oneCell' = true := fun u hu => by
  obtain ⟨j, hj⟩ := List.getElem?_of_mem hu
  obtain ⟨i, _, h | h⟩ := pc_at hj <;> rw [h.2] <;> rfl
theorem PRest.flat {B : Nat} {w : World} {l : List (Int × Int)} {b off cap : Nat} {n : Nat} (h : PRest B w l (.slice (some ⟨b, off, none⟩) n cap)) : ∀ (j : Nat) u, (pc l)[j]? = some u → w.cell? ((⟨b, off, none⟩ : Addr).add j) = some u := fun j u hj => by
  obtain ⟨a2, cap2, he, _, _, _, h5⟩ := h
  injection he with e1 e2 e3
  subst e1 e2 e3
  obtain ⟨i, hi, h6⟩ := pc_at hj
  rcases h5 with h0 | ⟨b2, off2, h7, _, hcl⟩
  · omega
  · injection h7 with h7
    injection h7 with e4 e5
    subst e4 e5
    rw [Addr.add_lit]
    rcases h6 with ⟨rfl, rfl⟩ | ⟨rfl, rfl⟩
    · exact (hcl i hi).1
    · rw [← (hcl i hi).2, Nat.add_assoc]
theorem wp_pts {w : World} {o : Oper} {a : Act} {K : Act → World → Prop} {Q : Exit → Act → World → Prop} (hgd : o.guard = none) (s x : Operand)
    (ho : o.op = .call { callee := .builtin .append, args := #[s, x], argTypes := #[32, 32] })
    (v : Value) (l : List (Int × Int)) (hs : a.eval s = v) (hb : PBuf 0 w v l) (sv : Value) (B : Nat) (l2 : List (Int × Int)) (hx : a.eval x = sv) (hr : PRest B w l2 sv) (hsome : ∃ ad n c, sv = .slice (some ad) n c) (hlen : l.length + l2.length ≤ 1000000)
    (h : ∀ v' w', PBuf 0 w' v' (l ++ l2) → Wrote w w' v v' → K (a.put o.dst v') w') : o.wp Tryd.prog a w K Q := by
  obtain ⟨i0, hi, hz0, hz1, hz2⟩ := info_parts Tryd.info45
  have hr0 := hr
  obtain ⟨ad, cap, rfl, hcap, hcm, hI, hc⟩ := hr
  have hown : w.ownsRow 0 45 2 v l.length (pc l) := hb
  have h63 : l.length + l2.length ≤ maxLen := by unfold maxLen; omega
  have hfin : ∀ v' w', w'.ownsRow 0 45 2 v' (l.length + l2.length) (pc l ++ pc l2) → Wrote w w' v v' → K (a.put o.dst v') w' := fun v' w' h1 h2 => h v' w' (by unfold PBuf; rw [List.length_append, pc_append]; exact h1) h2
  obtain ⟨ad', n', c', he⟩ := hsome
  injection he with he _ _
  subst he
  have hst := step_append_mine (ops := #[]) (E := True) (K := K) (Q := Q) w hgd s x 32 ho 45 i0 _ 2 16 Tryd.underlying32 hi hz0 hz1 hz2 rfl (by decide) v l.length (pc l) hs hown ad' l2.length cap (pc l2) hx (pc_len l2) (fun j u hj => by
      rcases hc with hc | ⟨b, off, h2, _⟩
      · obtain rfl : l2 = [] := List.eq_nil_of_length_eq_zero hc
        simp [pc] at hj
      · injection h2 with h2
        subst h2
        exact hr0.flat j u hj) (pc_one l2) h63 (by omega) hfin
  rwa [if_pos (by simp [Region.wanted, hgd])] at hst
theorem step_pts {w : World} {ops : Array Oper} {o : Oper} {a : Act} {K : Act → World → Prop} {Q : Exit → Act → World → Prop} {E : Prop} (hgd : o.guard = none) (s x : Operand)
    (ho : o.op = .call { callee := .builtin .append, args := #[s, x], argTypes := #[32, 32] })
    (v : Value) (l : List (Int × Int)) (hs : a.eval s = v) (hb : PBuf 0 w v l) (sv : Value) (B : Nat) (l2 : List (Int × Int)) (hx : a.eval x = sv) (hr : PRest B w l2 sv) (hsome : ∃ ad n c, sv = .slice (some ad) n c) (hlen : l.length + l2.length ≤ 1000000)
    (h : ∀ v' w', PBuf 0 w' v' (l ++ l2) → Wrote w w' v v' → K (a.put o.dst v') w') : if Region.wanted o (yielded ops a.tmps) = true then Oper.wp Tryd.prog o a w K Q else E := by
  have hw : Region.wanted o (yielded ops a.tmps) = true := by simp [Region.wanted, hgd]
  rw [if_pos hw]
  exact wp_pts hgd s x ho v l hs hb sv B l2 hx hr hsome hlen h
theorem wpList_pts {w : World} {ops : Array Oper} {rest : List Oper} {o : Oper} {a : Act} {Q : Exit → Act → World → Prop} (hgd : o.guard = none) (s x : Operand)
    (ho : o.op = .call { callee := .builtin .append, args := #[s, x], argTypes := #[32, 32] })
    (v : Value) (l : List (Int × Int)) (hs : a.eval s = v) (hb : PBuf 0 w v l) (sv : Value) (B : Nat) (l2 : List (Int × Int)) (hx : a.eval x = sv) (hr : PRest B w l2 sv) (hsome : ∃ ad n c, sv = .slice (some ad) n c) (hlen : l.length + l2.length ≤ 1000000)
    (h : ∀ v' w', PBuf 0 w' v' (l ++ l2) → Wrote w w' v v' → wpList Tryd.prog ops Q rest (a.put o.dst v') w') : wpList Tryd.prog ops Q (o :: rest) a w :=
  wpList_plain hgd fun _ hK => wp_pts hgd s x ho v l hs hb sv B l2 hx hr hsome hlen fun v' w' h1 h2 => hK _ _ (h v' w' h1 h2)
/-- one point, in a block of its own -/
theorem prest_one {w : World} {b : Nat} (p : Int × Int) (hI : I64 p.1 ∧ I64 p.2) (hr : Row w b 45 [.int .i64 p.1, .int .i64 p.2]) : PRest w.heap.size w [p] (.slice (some ⟨b, 0, none⟩) 1 1) := by
  refine ⟨_, _, rfl, by simp, by simp [maxLen], fun q hq => ?_, .inr ⟨b, 0, rfl, hr.lt, fun i hi => ?_⟩⟩
  · simp at hq; subst hq; exact hI
  · match i, hi with
    | 0, _ => exact ⟨hr.cell (i := 0) rfl, hr.cell (i := 1) rfl⟩
/-- the end of the last span is set -/
def setEnd : List Sp → Int → List Sp
  | [], _ => []
  | [x], d => [(x.1, d)]
  | x :: y :: r, d => x :: setEnd (y :: r) d
theorem setEnd_len : ∀ (l : List Sp) (d : Int), (setEnd l d).length = l.length
  | [], _ => rfl
  | [_], _ => rfl
  | x :: y :: r, d => by simp [setEnd, setEnd_len (y :: r) d]
theorem setEnd_snoc (x : Sp) (d : Int) : ∀ l : List Sp, setEnd (l ++ [x]) d = l ++ [(x.1, d)]
  | [] => rfl
  | [y] => rfl
  | y :: z :: r => by
    have h := setEnd_snoc x d (z :: r)
    show y :: setEnd ((z :: r) ++ [x]) d = y :: ((z :: r) ++ [(x.1, d)])
    rw [h]
theorem pc_setEnd (d : Int) : ∀ l : List Sp, l ≠ [] → pc (setEnd l d) = (pc l).set ((l.length - 1) * 2 + 1) (.int .i64 d)
  | [], h => absurd rfl h
  | [x], _ => rfl
  | x :: y :: r, _ => by
    have h := pc_setEnd d (y :: r) (by simp)
    show _ :: _ :: pc (setEnd (y :: r) d) = _
    rw [h]
    show _ = (Value.int .i64 x.1 :: Value.int .i64 x.2 :: pc (y :: r)).set _ _
    rw [show ((x :: y :: r).length - 1) * 2 + 1 = ((y :: r).length - 1) * 2 + 1 + 1 + 1 by simp; omega, List.set_cons_succ, List.set_cons_succ]
theorem PBuf.shape {B : Nat} {w : World} {v : Value} {l : List Sp} (h : PBuf B w v l) : ∃ a cap, v = .slice a l.length cap := by
  rcases h.2 with ⟨rfl, h0⟩ | ⟨g, cap, cur, rfl, _⟩
  · exact ⟨none, 0, by rw [h0]⟩
  · exact ⟨_, _, rfl⟩
/-- the end of the last span, stored -/
theorem PBuf.setEnd {B : Nat} {w : World} {v : Value} {l : List Sp} (h : PBuf B w v l) (hne : l ≠ []) (d : Int) :
    ∃ g cap, v = .slice (some ⟨g, 0, none⟩) l.length cap ∧ B ≤ g ∧ g < w.heap.size ∧ w.cell? ⟨g, (l.length - 1) * 2 + 1, none⟩ = some (.int .i64 (l.getD (l.length - 1) (0, 0)).2) ∧ w.frozen? ⟨g, (l.length - 1) * 2 + 1, none⟩ = false ∧ PBuf B (w.setCell ⟨g, (l.length - 1) * 2 + 1, none⟩ (.int .i64 d)) v (YtiicjmbnkjociaaDoor.setEnd l d) := by
  have hl : 0 < l.length := List.length_pos_iff.2 hne
  rcases h.2 with ⟨rfl, h0⟩ | ⟨g, cap, cur, rfl, hbg, hg, hnc, hcm, hcs, htake⟩
  · omega
  · have hrow : Row w g 45 cur.toList := by unfold Row; rw [hg]
    have e := (pc_get (l := l) (i := l.length - 1) (by omega)).2
    refine ⟨g, cap, rfl, hbg, hrow.lt, ?_, hrow.free _, ?_⟩
    · have := World.ownsRow.cells h (g := g) rfl _ _ e
      rw [Addr.add_lit, Nat.zero_add] at this
      rw [this, List.getD_eq_getElem?_getD, List.getElem?_eq_getElem (show l.length - 1 < l.length by omega)]
      rfl
    · have hrow2 := hrow.set (cs' := cur.toList.set ((l.length - 1) * 2 + 1) (.int .i64 d)) ((l.length - 1) * 2 + 1) (.int .i64 d) rfl
      refine ⟨by rw [pc_len], .inr ⟨g, cap, (cur.toList.set ((l.length - 1) * 2 + 1) (.int .i64 d)).toArray, by rw [setEnd_len], hbg, hrow2, by rw [setEnd_len]; exact hnc, hcm, by simp; exact hcs, ?_⟩⟩
      rw [pc_setEnd d l hne, setEnd_len, ← htake, List.take_set]
theorem Row.wrote {w w' : World} {g T : Nat} {cs : List Value} {u v : Value} (h : Row w g T cs) (hw : Wrote w w' u v) (hne : ∀ k, u.ownBlock = some k → k ≠ g) : Row w' g T cs :=
  (hw.grown.block g h.lt fun e => hne g e.symm rfl).trans h
theorem others_wrote {w w' : World} {u v : Value} {l : List Sp} (hb : PBuf 0 w u l) (hw : Wrote w w' u v) : KeepsOthers w w' :=
  KeepsOthers.of_grownBy hw.grown fun j o hj ho => by
    rcases hb.2 with ⟨rfl, _⟩ | ⟨g, cap, cur, rfl, _, hg, _⟩
    · cases hj
    · obtain rfl : g = j := by simpa [Value.ownBlock] using hj
      rw [hg] at ho; cases ho; rfl
def turnF (st : List Sp × Bool) (d : Int) : List Sp × Bool := if st.2 = true then (setEnd st.1 (d - 1), false) else (st.1 ++ [(d, 0)], true)
/-- what a turn leaves: the blocks of the two boxes and of the list may turn -/
structure Turned (bo bl : Nat) (w w' : World) (v v' : Value) : Prop where
  others : KeepsOthers w w'
  os : w'.os = w.os
  tape : w'.tape = w.tape
  output : w'.output = w.output
  block : ∀ b, b < w.heap.size → b ≠ bo → b ≠ bl → v.ownBlock ≠ some b → w'.heap[b]? = w.heap[b]?
  own : v'.ownBlock = v.ownBlock ∨ ∀ k, v'.ownBlock = some k → w.heap.size ≤ k
theorem Turned.below {bo bl : Nat} {w w' : World} {v v' : Value} (h : Turned bo bl w w' v v') {B : Nat} {w0 : World} (hb : Below B w0 w) (h0 : B ≤ w.heap.size) (h1 : B ≤ bo) (h2 : B ≤ bl) (h3 : ∀ k, v.ownBlock = some k → B ≤ k) : Below B w0 w' :=
  hb.trans ⟨h.os, h.tape, h.output, h.others.size, fun b hb2 => h.block b (by omega) (by omega) (by omega) (fun e => by have := h3 b e; omega)⟩
theorem PBuf.same {B : Nat} {w w' : World} {v : Value} {l : List Sp} (h : PBuf B w v l) (he : ∀ k, v.ownBlock = some k → w'.heap[k]? = w.heap[k]?) : PBuf B w' v l := by
  refine ⟨h.1, ?_⟩
  rcases h.2 with h0 | ⟨g, cap, cur, rfl, h2, h3, h4⟩
  · exact .inl h0
  · exact .inr ⟨g, cap, cur, rfl, h2, (he g rfl).trans h3, h4⟩
set_option maxHeartbeats 4000000 in
set_option maxRecDepth 100000 in
theorem turn_call (bo bl : Nat) (c : List Sp) (op : Bool) (v : Value) (d : Int) (w : World) (hne : bo ≠ bl) (ho : Row w bo 4 [.bool op]) (hl : Row w bl 32 [v]) (hb : PBuf 0 w v c) (hsep : ∀ k, v.ownBlock = some k → k ≠ bo ∧ k ≠ bl) (hc : op = true → c ≠ []) (hlen : c.length ≤ 2000) (hd : 0 ≤ d ∧ d ≤ 73049) :
    Calls Tryd.prog 48 #[.int .i64 d, .pointer (some ⟨bo, 0, none⟩), .pointer (some ⟨bl, 0, none⟩)] w fun e w' => (∃ u, e = .returned u) ∧ ∃ v', Row w' bo 4 [.bool (!op)] ∧ Row w' bl 32 [v'] ∧ PBuf 0 w' v' (turnF (c, op) d).1 ∧ (∀ k, v'.ownBlock = some k → k ≠ bo ∧ k ≠ bl) ∧ Turned bo bl w w' v v' := by
  have co := ho.cell (i := 0) rfl
  have fo := ho.free 0
  have hlo := ho.lt
  have hll := hl.lt
  have hwd : IntKind.i64.wrap (d - 1) = d - 1 := by rw [IntKind.wrap_i64]; omega
  have HHD := Lib.hid hd
  -- the world with the flag turned
  obtain ⟨W1, hW1⟩ : ∃ W, W = w.setCell ⟨bo, 0, none⟩ (.bool (!op)) := ⟨_, rfl⟩
  have ho1 : Row W1 bo 4 [.bool (!op)] := by rw [hW1]; exact ho.set 0 _ rfl
  have hl1 : Row W1 bl 32 [v] := by rw [hW1]; exact hl.setFar 0 _ (fun e => hne e.symm)
  have hsame : ∀ k, k ≠ bo → W1.heap[k]? = w.heap[k]? := fun k hk => by rw [hW1]; exact heap_setCell_other w ⟨bo, 0, none⟩ k _ hk
  have hb1 : PBuf 0 W1 v c := hb.same fun k hk => hsame k (hsep k hk).1
  have hk1 : KeepsOthers w W1 := by rw [hW1]; exact KeepsOthers.setCell _ _ _
  have hs1 : W1.heap.size = w.heap.size := by rw [hW1]; simp
  have hm1 : W1.os = w.os ∧ W1.tape = w.tape ∧ W1.output = w.output := by have := below_setCell (Below.refl 0 w) bo 0 (.bool (!op)) (Nat.zero_le _); rw [hW1]; exact ⟨this.os, this.tape, this.output⟩
  have c1 := ho1.cell (i := 0) rfl
  have cl := hl1.cell (i := 0) rfl
  have fl := hl1.free 0
  have HO1 := Lib.hid ho1
  have HL1 := Lib.hid hl1
  have HK1 := Lib.hid hk1
  have HS1 := Lib.hid hs1
  have HM1 := Lib.hid hm1
  have HSA := Lib.hid hsame
  have HSP := Lib.hid hsep
  have HW1 := Lib.hid hW1
  clear ho1 hl1 hk1 hs1 hm1 hsame hl ho hb
  cases op with
  | true =>
    obtain ⟨m, hm⟩ : ∃ m, c.length = m + 1 := ⟨c.length - 1, by have := List.length_pos_iff.2 (hc rfl); omega⟩
    obtain ⟨g, cap, rfl, -, hg, c2, f2, hset⟩ := hb1.setEnd (hc rfl) (d - 1)
    rw [hm] at cl c2 f2 hset HL1
    simp only [Nat.add_sub_cancel] at c2 f2 hset
    have hgs := hsep g rfl
    have hwm : IntKind.i64.wrap (((m + 1 : Nat) : Int) - 1) = (m : Int) := by rw [IntKind.wrap_i64]; omega
    have hmm : (m : Int) < ((m + 1 : Nat) : Int) := by omega
    have HST := Lib.hid hset
    generalize (c.getD m (0, 0)).2 = x2 at *
    generalize ((m + 1 : Nat) : Int) = m1 at *
    clear hc hsep hset hb1 hW1
    simp only [Bool.not_true] at *
    go_enter Tryd.func48, Tryd.ntmps48
    go_upto_region 1 with (fail)
    rw [← HW1.out]
    go_wp2_with fail
    go_end0
    refine ⟨⟨_, rfl⟩, _, HO1.out.setFar (m * 2 + 1) _ (fun e => hgs.1 e.symm), HL1.out.setFar (m * 2 + 1) _ (fun e => hgs.2 e.symm), HST.out, fun k hk => ?_, ?_⟩
    · simp only [Value.ownBlock, Option.some.injEq] at hk
      exact hk ▸ hgs
    · have hm2 := below_setCell (Below.refl 0 W1) g (m * 2 + 1) (.int .i64 (d - 1)) (Nat.zero_le _)
      refine ⟨HK1.out.trans (KeepsOthers.setCell _ _ _), hm2.os.trans HM1.out.1, hm2.tape.trans HM1.out.2.1, hm2.output.trans HM1.out.2.2, fun b hb h1 h2 h3 => ?_, .inl rfl⟩
      have hbg : b ≠ g := fun e => h3 (by rw [e]; rfl)
      exact (heap_setCell_other W1 ⟨g, m * 2 + 1, none⟩ b _ hbg).trans (HSA.out b h1)
  | false =>
    obtain ⟨a, cap, rfl⟩ := hb1.shape
    have HB1 := Lib.hid hb1
    have HA := Lib.hid (Joins.below_alloc1 W1 (.cells #[.int .i64 d, .int .i64 0] 45))
    have HRN := Lib.hid (row_new W1 45 [.int .i64 d, .int .i64 0])
    have hll1 : bl < W1.heap.size := HL1.out.lt
    have HPO := Lib.hid (prest_one (d, 0) ⟨⟨by show _ ≤ d; omega, by show d ≤ _; omega⟩, ⟨by show _ ≤ (0 : Int); omega, by show (0 : Int) ≤ _; omega⟩⟩ HRN.out)
    obtain ⟨n, hn⟩ : ∃ n, n = c.length := ⟨_, rfl⟩
    have HLE : Hid (c.length + [(d, (0 : Int))].length ≤ 1000000) := Lib.hid (by simp; omega)
    rw [← hn] at cl HL1 HB1 HSP ⊢
    have HN := Lib.hid hn
    clear hc hb1 hW1 hsep hn hlen
    simp only [Bool.not_false] at *
    go_enter Tryd.func48, Tryd.ntmps48
    go_upto_region 1 with (fail)
    rw [← HW1.out]
    go_wp2_with (at_builtin; refine wpList_pts rfl (.tmp 7) (.tmp 10) rfl (.slice a n cap) c rfl (HB1.out.keep HA.out) _ _ [(d, 0)] rfl HPO.out ⟨_, _, _, rfl⟩ HLE.out ?_; intro v' w' hp hw; obtain ⟨a', cap', rfl⟩ := hp.shape; rw [show (c ++ [(d, (0 : Int))]).length = c.length + 1 by simp] at hp hw; have HR2 := Lib.hid ((HL1.out.keep HA.out).wrote hw (fun k hk => (HSP.out k hk).2)); have cl2 := HR2.out.cell (i := 0) rfl; have fl2 := HR2.out.free 0)
    have HW := Lib.hid hw
    have HP := Lib.hid hp
    clear hw hp cl2 fl2
    go_end0
    have hnew : ∀ k, (Value.slice a' (c.length + 1) cap').ownBlock = some k → k ≠ bo ∧ k ≠ bl := fun k hk => by
      rcases HW.out.own with e | e
      · exact HSP.out k (e ▸ hk)
      · have := e k hk
        have := HA.out.size
        have := HS1.out
        omega
    refine ⟨⟨_, rfl⟩, _, ((HO1.out.keep HA.out).wrote HW.out fun k hk => (HSP.out k hk).1).setFar 0 _ hne, HR2.out.set 0 _ rfl, ?_, hnew, ?_⟩
    · show PBuf 0 _ _ (c ++ [(d, 0)])
      exact HP.out.same fun k hk => heap_setCell_other w' ⟨bl, 0, none⟩ k _ (hnew k hk).2
    · have hm2 := below_setCell (HA.out.mono (Nat.zero_le _) |>.trans (HW.out.toBelow (Nat.zero_le _) fun k _ => Nat.zero_le _)) bl 0 (.slice a' (c.length + 1) cap') (Nat.zero_le _)
      refine ⟨((HK1.out.trans (others_below HA.out)).trans (others_wrote (HB1.out.keep HA.out) HW.out)).trans (KeepsOthers.setCell _ _ _), hm2.os.trans HM1.out.1, hm2.tape.trans HM1.out.2.1, hm2.output.trans HM1.out.2.2, fun b hb h1 h2 h3 => ?_, ?_⟩
      · have hb1 : b < W1.heap.size := by rw [HS1.out]; exact hb
        exact ((heap_setCell_other w' ⟨bl, 0, none⟩ b _ h2).trans ((HW.out.grown.block b (by have := HA.out.size; omega) (fun e => h3 (by rw [e]))).trans (HA.out.block b hb1))).trans (HSA.out b h1)
      · rcases HW.out.own with e | e
        · exact .inl e
        · exact .inr fun k hk => by have := e k hk; have := HA.out.size; have := HS1.out; omega
end Go.Proofs.YtiicjmbnkjociaaDoor
