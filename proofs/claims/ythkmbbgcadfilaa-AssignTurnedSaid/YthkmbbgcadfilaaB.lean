/- Memory: lists of truth values and of numbers, of the call's own or not; what stays. -/
import Derived.Test.YthkmbbgcadfilaaA
import Derived.Deep.RegionLawGrows
import Derived.Deep.AppendSrc
import Derived.RegionTactic
import Derived.Deep.LoopGhost
import Derived.StillTail
import Derived.StillTailTactics
import Derived.ControlIn
import Derived.Deep.DeepCutAuto
import Derived.Laws.EntriesVeiled
import Derived.Laws.OwnMore
import Derived.Laws.Tables
import Derived.OrdersHeld
import Derived.OwnWalk
import Derived.RegionIn
import Derived.Sort.CutIn
import Derived.Sort.QuietIn
import Derived.LoopTactic
namespace Go.Proofs.Ythkmbbgcadfilaa
open Go.RowKit Go.Shelf

theorem ints_at {B : Nat} {w : World} {l : List Int} {n : Nat} {a : Option Addr} {cap : Nat} (h : IRest B w l (.slice a n cap)) :
    n = l.length ∧ l.length ≤ cap ∧ cap ≤ maxLen ∧ ∀ i, i < l.length → I64 (l.getD i 0) ∧ ∃ b off, a = some ⟨b, off, none⟩ ∧ b < B ∧ w.cell? ⟨b, off + i, none⟩ = some (.int .i64 (l.getD i 0)) := by
  obtain ⟨a2, cap2, he, h1, h2, h3, h4⟩ := h
  injection he with e1 e2 e3
  subst e1 e2 e3
  refine ⟨rfl, h1, h2, fun i hi => ?_⟩
  have e : l.getD i 0 = l[i] := by simp [hi]
  rw [e]
  refine ⟨h3 _ (List.getElem_mem hi), ?_⟩
  rcases h4 with h4 | ⟨b, off, rfl, hb, hc⟩
  · omega
  · exact ⟨b, off, rfl, hb, hc i hi⟩
theorem cell_same {w w' : World} {b o : Nat} (h : w'.heap[b]? = w.heap[b]?) : w'.cell? ⟨b, o, none⟩ = w.cell? ⟨b, o, none⟩ := World.cell?_of_block (a := ⟨b, o, none⟩) h
theorem frozen_same {w w' : World} {b o : Nat} (h : w'.heap[b]? = w.heap[b]?) : w'.frozen? ⟨b, o, none⟩ = w.frozen? ⟨b, o, none⟩ := World.frozen?_of_block (a := ⟨b, o, none⟩) h
theorem wrap_succ {k n : Nat} (h : k < n) (hn : n ≤ maxLen) : wrap64 ((k : Int) + 1) = (k : Int) + 1 := by
  unfold maxLen at hn
  have h1 : (k : Int) < 9223372036854775807 := by omega
  unfold wrap64
  omega
theorem back_less {k n : Nat} (h : k < n) (hn : wrap64 ((k : Int) + 1) = (k : Int) + 1) : n - (intOf (.int .i64 (wrap64 ((k : Int) + 1)))).toNat < n - (intOf (.int .i64 (k : Int))).toNat := by
  rw [hn]
  simp only [intOf]
  omega
def OldB (w : World) (b : Nat) : Prop := b < w.heap.size
theorem kp_old {w W : World} (h : Below w.heap.size w W) : Kp2 (OldB w) w W := ⟨h.size, fun b hb _ => h.block b hb, h.os, h.tape, h.output⟩
/-- from w to w' all old blocks stay -/
def Kd (w w' : World) : Prop := Kp2 (OldB w) w w'
theorem Kd.below {w w' : World} (h : Kd w w') : Below w.heap.size w w' := ⟨h.os, h.tape, h.output, h.size, fun b hb => h.keep b hb hb⟩
theorem Kd.size {w w' : World} (h : Kd w w') : w.heap.size ≤ w'.heap.size := h.1
theorem Kd.block {w w' : World} (h : Kd w w') {b : Nat} (hb : b < w.heap.size) : w'.heap[b]? = w.heap[b]? := h.2 b hb hb
theorem Kd.refl (w : World) : Kd w w := Kp2.refl _ _
theorem Kd.trans {a b c : World} (h : Kd a b) (k : Kd b c) : Kd a c :=
  ⟨Nat.le_trans h.size k.size, fun x hx _ => (k.block (Nat.lt_of_lt_of_le hx h.size)).trans (h.block hx), k.os.trans h.os, k.tape.trans h.tape, k.output.trans h.output⟩
theorem Kd.of {w w' : World} (h : Below w.heap.size w w') : Kd w w' := kp_old h
theorem Kd.alloc (w : World) (o : Obj) : Kd w (w.alloc o) := .of (Joins.below_alloc1 w o)
theorem Kd.drewN (w : World) (n : Nat) : Kd w (w.drewN n) := ⟨Nat.le_refl _, fun _ _ _ => rfl, rfl, rfl, rfl⟩
theorem Kd.cell {w w' : World} (h : Kd w w') {b o : Nat} {v : Value} (hc : w.cell? ⟨b, o, none⟩ = some v) : w'.cell? ⟨b, o, none⟩ = some v := (cell_same (h.block (lt_of_cell hc))).trans hc
theorem Kd.row {w w' : World} (h : Kd w w') {g T : Nat} {cs : List Value} (hr : Row w g T cs) : Row w' g T cs := (h.block hr.lt).trans hr
theorem Kd.irest {w w' : World} (h : Kd w w') {l : List Int} {v : Value} (hr : IRest w.heap.size w l v) : IRest w'.heap.size w' l v := by
  obtain ⟨a, cap, h1, h2, h3, h4, h5⟩ := hr
  refine ⟨a, cap, h1, h2, h3, h4, ?_⟩
  rcases h5 with h0 | ⟨b, off, ha, hl, hc⟩
  · exact .inl h0
  · exact .inr ⟨b, off, ha, Nat.lt_of_lt_of_le hl h.size, fun i hi => h.cell (hc i hi)⟩
abbrev nums (L : List Int) : List Value := L.map (Value.int .i64 ·)
theorem nrow_cell {w : World} {b T : Nat} {L : List Int} (h : Row w b T (nums L)) {u : Nat} (hu : u < L.length) : w.cell? ⟨b, u, none⟩ = some (.int .i64 (L.getD u 0)) :=
  h.cell (i := u) (by simp [hu])
theorem nrow_set {w : World} {b T : Nat} {L : List Int} (h : Row w b T (nums L)) (u : Nat) (x : Int) : Row (w.setCell ⟨b, u, none⟩ (.int .i64 x)) b T (nums (L.set u x)) := h.set u _ (by simp [nums, List.map_set])
theorem Try.infoI : (Try.prog.info? 3).map (fun i => (i.zero, i.size, i.bytes)) = some (some (.int .i64 0), 1, 8) := by kernel_rfl
theorem info_parts {α : Type} {f : TypeInfo → α} {o : Option TypeInfo} {a : α} (h : o.map f = some a) : ∃ i, o = some i ∧ f i = a := by
  cases o with
  | none => cases h
  | some i => exact ⟨i, rfl, by simpa using h⟩
theorem made_ints (n : Nat) : madeCells (Value.int .i64 0).cells (n * 1) = (nums (List.replicate n 0)).toArray := by
  apply Array.ext'
  rw [Nat.mul_one, show (Value.int .i64 0).cells = #[Value.int .i64 0] from rfl, toList_madeCells_one]
  simp [nums]
theorem wpList_make {ops : Array Oper} {rest : List Oper} {o : Oper} {a : Act} {w : World} {Q : Exit → Act → World → Prop} (hgd : o.guard = none) (x : Operand) (ho : o.op = .makeSlice 23 x x) (n : Nat) (hn : n ≤ 1000000) (hx : a.eval x = .int .i64 (n : Int))
    (h : ∀ g w', g = w.heap.size → Row w' g 3 (nums (List.replicate n 0)) → w'.heap.size = w.heap.size + 1 → Below w.heap.size w w' → wpList Try.prog ops Q rest (a.put o.dst (.slice (some ⟨g, 0, none⟩) n n)) w') : wpList Try.prog ops Q (o :: rest) a w :=
  wpList_plain hgd fun _ hK => by
    obtain ⟨i0, hi, hz⟩ := info_parts Try.infoI
    simp only [Prod.mk.injEq] at hz
    obtain ⟨hz0, hz1, hz2⟩ := hz
    have hr := run_makeSlice (P := Try.prog) w 23 3 i0 (.int .i64 0) Try.underlying23 hi hz0 .i64 .i64 (n : Int) (n : Int) (by omega) (by omega) (by rw [hz1, Int.toNat_natCast]; omega) (by rw [hz2]; omega) (by omega)
    rw [hz1, Int.toNat_natCast, made_ints] at hr
    have h1 := hK _ _ (h _ _ rfl (row_new w 3 _) (by simp) (Joins.below_alloc1 w _))
    unfold Oper.wp execOp
    have e : (nums (List.replicate n 0)).toArray = Array.replicate n (Value.int .i64 0) := by simp [nums]
    rw [e] at h1 hr
    simp [ho, hx, hr, Sem.run_bind]
    exact h1
/-- From w to w' only the block of v may have turned, and v' lies in it or in a new one. -/
structure Wrote (w w' : World) (v v' : Value) : Prop where
  grown : w.grownBy w' v.ownBlock
  own : v'.ownBlock = v.ownBlock ∨ ∀ k, v'.ownBlock = some k → w.heap.size ≤ k

theorem Wrote.refl (w : World) (v : Value) : Wrote w w v v := ⟨⟨rfl, rfl, rfl, Nat.le_refl _, fun _ _ _ => rfl⟩, .inl rfl⟩
theorem Wrote.trans {a b c : World} {u v x : Value} (h : Wrote a b u v) (k : Wrote b c v x) : Wrote a c u x := by
  have hs := h.grown.size
  refine ⟨⟨k.grown.os.trans h.grown.os, k.grown.tape.trans h.grown.tape, k.grown.output.trans h.grown.output, Nat.le_trans hs k.grown.size, fun i hi hne => ?_⟩, ?_⟩
  · refine (k.grown.block i (by omega) fun e => ?_).trans (h.grown.block i hi hne)
    rcases h.own with h1 | h1
    · exact hne (e.trans h1)
    · have := h1 i e.symm; omega
  · rcases k.own with h1 | h1
    · rw [h1]; exact h.own
    · exact .inr fun j hj => by have := h1 j hj; omega
theorem Wrote.alloc {a b : World} {u v : Value} (h : Wrote a b u v) (o : Obj) : Wrote a (b.alloc o) u v :=
  ⟨⟨h.grown.os, h.grown.tape, h.grown.output, by have := h.grown.size; simp; omega, fun i hi hne => by
    rw [Below.heap_alloc _ _ _ (by have := h.grown.size; omega)]; exact h.grown.block i hi hne⟩, h.own⟩
theorem Wrote.drew {a b : World} {u v : Value} (h : Wrote a b u v) : Wrote a b.drew u v :=
  ⟨⟨h.grown.os, h.grown.tape, h.grown.output, h.grown.size, h.grown.block⟩, h.own⟩
theorem Wrote.below {a b : World} (v : Value) (h : Below a.heap.size a b) : Wrote a b v v :=
  ⟨⟨h.os, h.tape, h.output, h.size, fun i hi _ => h.block i hi⟩, .inl rfl⟩
theorem Wrote.toBelow {a b : World} {u v : Value} {B : Nat} (h : Wrote a b u v) (hB : B ≤ a.heap.size) (hu : ∀ k, u.ownBlock = some k → B ≤ k) : Below B a b :=
  ⟨h.grown.os, h.grown.tape, h.grown.output, h.grown.size, fun i hi => h.grown.block i (by omega) fun e => by have := hu i e.symm; omega⟩
theorem Wrote.cell {a b : World} {u v : Value} (h : Wrote a b u v) {p : Addr} {x : Value} (hp : a.cell? p = some x) (hne : some p.block ≠ u.ownBlock) : b.cell? p = some x := h.grown.cell hp hne

theorem owns_below {w w' : World} {e size n : Nat} {v : Value} {xs : List Value} (h : w.ownsRow 0 e size v n xs) (hb : Below w.heap.size w w') : w'.ownsRow 0 e size v n xs :=
  h.kept (row := none) ⟨hb.os, hb.tape, hb.output, hb.size, fun k hk _ => hb.block k hk⟩ (by cases hv : v.ownBlock <;> simp)
theorem owns_lt {w : World} {e size n : Nat} {v : Value} {xs : List Value} (h : w.ownsRow 0 e size v n xs) : ∀ k, v.ownBlock = some k → k < w.heap.size := fun k hk => (h.lt k hk).2

section
variable {P : Program}
theorem wpList_append_mine (w : World) {ops : Array Oper} {rest : List Oper} {o : Oper} {a : Act} {Q : Exit → Act → World → Prop} (hgd : o.guard = none) (s x : Operand) (t : TypeId)
    (ho : o.op = .call { callee := .builtin .append, args := #[s, x], argTypes := #[t, t] })
    (e : TypeId) (i : TypeInfo) (z : Value) (size bytes : Nat) (ht : P.underlying t = some (.slice e)) (hi : P.info? e = some i) (hz : i.zero = some z)
    (hsize : i.size = size) (hby : i.bytes = bytes) (hzs : z.cells.size = size) (hsz : 0 < size)
    (v : Value) (n : Nat) (xs : List Value) (hs : a.eval s = v) (hown : w.ownsRow 0 e size v n xs)
    (ad : Addr) (m c : Nat) (news : List Value) (hx : a.eval x = .slice (some ad) m c) (hl : news.length = m * size) (hnews : ∀ j u, news[j]? = some u → w.cell? (ad.add j) = some u) (h1 : ∀ u ∈ news, u.oneCell' = true)
    (h63 : n + m ≤ maxLen) (hbytes : (n + m) * bytes ≤ 140737488355328)
    (h : ∀ v' w', w'.ownsRow 0 e size v' (n + m) (xs ++ news) → Wrote w w' v v' → wpList P ops Q rest (a.put o.dst v') w') : wpList P ops Q (o :: rest) a w := by
  rcases hown.2 with ⟨rfl, rfl⟩ | ⟨g, cap, cur, rfl, hbg, hg, hnc, hcm, hcs, htake⟩
  · have hx0 : xs = [] := List.eq_nil_of_length_eq_zero (by simpa using hown.1)
    subst hx0
    refine wpList_append_own w hgd s x t ho w.heap.size e i z size bytes ht hi hz hsize hby hzs hsz (.slice none 0 0) 0 [] hs (World.ownsRow_nil w _ e size) ad m c news hx hl hnews h1 h63 hbytes (Nat.le_refl _) fun v' w' h2 h3 _ => ?_
    exact h v' w' (Joins.ownsRow_le h2 (Nat.zero_le _)) ⟨h3, .inr fun k hk => (h2.lt k hk).1⟩
  · by_cases hroom : n + m ≤ cap
    · refine wpList_append_fits w hgd s x t ho 0 e i size ht hi hsize g n cap xs hs hown ad m c news hx hl hnews h1 hroom fun w' h2 h3 => ?_
      exact h _ w' h2 ⟨h3, .inl rfl⟩
    · refine wpList_append_grows w hgd s x t ho e i z size bytes ht hi hz hsize hby hzs hsz (some ⟨g, 0, none⟩) n cap xs hs (fun h0 => by cases h0) hown.1 (fun b hb j u hu => ?_) ad m c news hx hl hnews h1 (by omega) h63 hbytes fun v' w' h2 h3 => ?_
      · obtain rfl := Option.some.inj hb
        exact hown.cells (g := g) rfl j u hu
      · exact h v' w' (Joins.ownsRow_le h2 (Nat.zero_le _)) ⟨⟨h3.os, h3.tape, h3.output, h3.size, fun k hk _ => h3.block k hk (by simp)⟩, .inr fun k hk => (h2.lt k hk).1⟩
end


/-- a list of numbers of the call's own -/
def IBuf (w : World) (v : Value) (zs : List Int) : Prop := w.ownsRow 0 3 1 v zs.length (zs.map (.int .i64 ·))
theorem IBuf.keep {w w' : World} {v : Value} {zs : List Int} (h : IBuf w v zs) (hb : Below w.heap.size w w') : IBuf w' v zs := owns_below h hb
theorem IBuf.same {w w' : World} {v : Value} {zs : List Int} (h : IBuf w v zs) (he : ∀ k, v.ownBlock = some k → w'.heap[k]? = w.heap[k]?) : IBuf w' v zs := by
  refine ⟨h.1, ?_⟩
  rcases h.2 with h0 | ⟨g, cap, cur, rfl, h2, h3, h4⟩
  · exact .inl h0
  · exact .inr ⟨g, cap, cur, rfl, h2, (he g rfl).trans h3, h4⟩
theorem IBuf.shape {w : World} {v : Value} {zs : List Int} (h : IBuf w v zs) : ∃ a cap, v = .slice a zs.length cap ∧ zs.length ≤ maxLen ∧ (∀ k, v.ownBlock = some k → k < w.heap.size) ∧ ∀ k, k < zs.length → ∃ g, a = some ⟨g, 0, none⟩ ∧ w.cell? ⟨g, 0 + k, none⟩ = some (.int .i64 (zs.getD k 0)) := by
  rcases h.2 with ⟨rfl, h0⟩ | ⟨g, cap, cur, rfl, _, hg, h1, h2, _, _⟩
  · exact ⟨none, 0, by rw [h0], by unfold maxLen; omega, fun k hk => (by cases hk), fun k hk => by omega⟩
  · refine ⟨_, cap, rfl, by omega, fun k hk => (World.ownsRow.lt h k hk).2, fun k hk => ⟨g, rfl, ?_⟩⟩
    have := World.ownsRow.cells h (g := g) rfl k (.int .i64 (zs.getD k 0)) (by simp [hk])
    rw [Addr.add_lit] at this
    exact this
theorem ints_one (ys : List Int) : ∀ u ∈ ys.map (Value.int .i64 ·), u.oneCell' = true := fun u hu => by
  obtain ⟨y, _, rfl⟩ := List.mem_map.1 hu; rfl
/-- numbers appended, from a block that is known whole -/
theorem wpList_ints {w : World} {ops : Array Oper} {rest : List Oper} {o : Oper} {a : Act} {Q : Exit → Act → World → Prop} (hgd : o.guard = none) (s x : Operand)
    (ho : o.op = .call { callee := .builtin .append, args := #[s, x], argTypes := #[23, 23] })
    (v : Value) (zs : List Int) (hs : a.eval s = v) (hb : IBuf w v zs) (g : Nat) (ys : List Int) (hx : a.eval x = .slice (some ⟨g, 0, none⟩) ys.length ys.length) (hr : Row w g 3 (ys.map (Value.int .i64 ·))) (hlen : zs.length + ys.length ≤ 1000000)
    (h : ∀ v' w', IBuf w' v' (zs ++ ys) → Wrote w w' v v' → wpList Try.prog ops Q rest (a.put o.dst v') w') : wpList Try.prog ops Q (o :: rest) a w := by
  obtain ⟨i0, hi, hz⟩ := info_parts Try.infoI
  simp only [Prod.mk.injEq] at hz
  obtain ⟨hz0, hz1, hz2⟩ := hz
  refine wpList_append_mine w hgd s x 23 ho 3 i0 _ 1 8 Try.underlying23 hi hz0 hz1 hz2 rfl (by decide) v zs.length _ hs hb ⟨g, 0, none⟩ ys.length ys.length (ys.map (Value.int .i64 ·)) hx (by simp) (fun j u hj => ?_) (ints_one ys) (by unfold maxLen; omega) (by omega) fun v' w' h1 h2 => h v' w' ?_ h2
  · rw [Addr.add_lit, Nat.zero_add]; exact hr.cell hj
  · unfold IBuf; simpa using h1
theorem ibuf_nil (w : World) : IBuf w (.slice none 0 0) [] := World.ownsRow_nil _ _ _ _
theorem IBuf.rest {w : World} {v : Value} {zs : List Int} (h : IBuf w v zs) (hI : ∀ x, x ∈ zs → I64 x) : IRest w.heap.size w zs v := by
  obtain ⟨a, cap, rfl, h1, h2, h3⟩ := h.shape
  refine ⟨a, cap, rfl, ?_, ?_, hI, ?_⟩
  · rcases h.2 with ⟨h5, h6⟩ | ⟨g, cap2, cur, h5, _, _, h6, _⟩
    · injection h5 with _ e2 e3; omega
    · injection h5 with _ e2 e3; omega
  · rcases h.2 with ⟨h5, h6⟩ | ⟨g, cap2, cur, h5, _, _, _, h6, _⟩
    · injection h5 with _ e2 e3; unfold maxLen; omega
    · injection h5 with _ e2 e3; omega
  · rcases Nat.eq_zero_or_pos zs.length with h0 | h0
    · exact .inl h0
    · obtain ⟨g, rfl, hc⟩ := h3 0 h0
      refine .inr ⟨g, 0, rfl, lt_of_cell hc, fun i hi => ?_⟩
      obtain ⟨g', he, hc'⟩ := h3 i hi
      injection he with he
      injection he with he _
      subst he
      rw [hc']; simp [hi]
theorem row_two (W : World) (p q : Addr) (x y : Value) (T : Nat) (cs : List Value) : Row (((W.setCell p x).setCell q y).alloc (.cells cs.toArray T)) W.heap.size T cs := by
  have h := row_new ((W.setCell p x).setCell q y) T cs
  have e : ((W.setCell p x).setCell q y).heap.size = W.heap.size := by simp
  rw [e] at h
  exact h
theorem irest_rowN {w : World} {g : Nat} {xs : List Int} {n : Nat} (h : Row w g 3 (nums xs)) (hn : xs.length = n) (hm : n ≤ maxLen) (hI : ∀ x, x ∈ xs → I64 x) : IRest w.heap.size w xs (.slice (some ⟨g, 0, none⟩) n n) := by
  subst hn
  refine ⟨_, _, rfl, Nat.le_refl _, hm, hI, ?_⟩
  rcases Nat.eq_zero_or_pos xs.length with h0 | h0
  · exact .inl h0
  · refine .inr ⟨g, 0, rfl, h.lt, fun i hi => ?_⟩
    rw [Nat.zero_add]
    exact h.cell (by unfold nums; simp [hi])
section
variable {P : Program} (w : World)
theorem run_append_src (t tx ty e : TypeId) (i : TypeInfo) (z : Value) (size bytes : Nat) (ht : P.underlying t = some (.slice e)) (hi : P.info? e = some i) (hz : i.zero = some z)
    (hsize : i.size = size) (hby : i.bytes = bytes) (hzs : z.cells.size = size)
    (v : Value) (n : Nat) (xs : List Value) (hown : w.ownsRow 0 e size v n xs) (hn0 : v ≠ .slice none 0 0) (x : Value) (m : Nat) (news : List Value) (hs : Src P size tx x m news w)
    (h63 : n + m ≤ maxLen) (hbytes : (n + m) * bytes ≤ 140737488355328) :
    ∃ v' w', (Builtin.append_ #[t, tx] ty #[v, x]).run P w = .ok v' w' ∧ w'.ownsRow 0 e size v' (n + m) (xs ++ news) ∧ Wrote w w' v v' := by
  subst hsize
  subst hby
  have hsmall : ((n + m : Nat) : Int) ≤ 9223372036854775807 := by simp only [maxLen] at h63; omega
  have hlen : (xs ++ news).length = (n + m) * i.size := by rw [List.length_append, hown.1, hs.newsLen, Nat.add_mul]
  rcases hown.2 with ⟨h0, _⟩ | ⟨g, cap, cur, rfl, hbg, hg, hnc, hcm, hcs, htake⟩
  · exact absurd h0 hn0
  · by_cases hroom : n + m ≤ cap
    · have hfit : n * i.size + news.length ≤ cur.size := by rw [hs.newsLen, hcs, ← Nat.add_mul]; exact Nat.mul_le_mul_right _ hroom
      have hst := run_storeCells_at P g (n * i.size) e news 0 cur w hg (by simpa using hfit) hs.one
      simp only [Nat.add_zero] at hst
      have hr : (Builtin.append_ #[t, tx] ty #[.slice (some ⟨g, 0, none⟩) n cap, x]).run P w =
          .ok (.slice (some ⟨g, 0, none⟩) (n + m) cap) (w.setRow g (cur.toList.take (n * i.size) ++ news ++ cur.toList.drop (n * i.size + news.length)).toArray) := by
        rcases hs.kind with ⟨e', hk⟩ | hk <;> simp [Builtin.append_, run_underlying ht, run_underlying hk, sizeOf, typeInfo, hi, hs.len, hroom, hs.cells, Addr.add_lit, hst]
      refine ⟨_, _, hr, ⟨hlen, .inr ⟨g, cap, _, rfl, hbg, setRow_heap w g cur _ e _ hg, hroom, hcm, ?_, ?_⟩⟩, ⟨⟨rfl, rfl, rfl, by simp, fun k _ hk => setRow_other w g k _ (fun e => hk (by simp [Value.ownBlock, e]))⟩, .inl rfl⟩⟩
      · simp only [List.size_toArray, List.length_append, List.length_take, List.length_drop, Array.length_toList]
        omega
      · rw [htake, ← hlen]
        exact List.take_left
    · have holds : ∀ j u, xs[j]? = some u → w.cell? ((⟨g, 0, none⟩ : Addr).add j) = some u := hown.cells (g := g) rfl
      have hold := run_firstCells_some (P := P) w.drew i.size n ⟨g, 0, none⟩ n cap xs hown.1 (by simpa using holds)
      have hfitg : Builtin.nextslicecap (n + m) cap * i.bytes ≤ 281474976710656 := growslice_fits (by omega) hbytes
      have hr := run_append_grow_src (P := P) w t tx ty e i z ht hi hz (some ⟨g, 0, none⟩) n cap xs hold x m news hs (by omega) hsmall hfitg
      have hge := grownCap_ge w (n + m) cap e
      have hcm2 : grownCap w (n + m) cap e ≤ maxLen := grownCap_le_maxLen w (n + m) cap e h63
      refine ⟨_, _, hr, ⟨hlen, .inr ⟨w.heap.size, _, _, rfl, Nat.zero_le _, heap_alloc_new w.drew _, hge, hcm2, ?_, ?_⟩⟩, ⟨⟨rfl, rfl, rfl, by simp, fun k hk _ => Below.heap_alloc w.drew _ k hk⟩, .inr fun k hk => ?_⟩⟩
      · simp only [Array.size_append, List.size_toArray, size_zeroCells, hzs, hlen, ← Nat.add_mul]
        congr 1
        omega
      · simp only [Array.toList_append]
        rw [← hlen]
        exact List.take_left
      · simp [Value.ownBlock] at hk; omega

theorem wp_append_src {o : Oper} {a : Act} {K : Act → World → Prop} {Q : Exit → Act → World → Prop} (s x : Operand) (t tx : TypeId)
    (ho : o.op = .call { callee := .builtin .append, args := #[s, x], argTypes := #[t, tx] })
    (e : TypeId) (i : TypeInfo) (z : Value) (size bytes : Nat) (ht : P.underlying t = some (.slice e)) (hi : P.info? e = some i) (hz : i.zero = some z)
    (hsize : i.size = size) (hby : i.bytes = bytes) (hzs : z.cells.size = size)
    (v : Value) (n : Nat) (xs : List Value) (hv : a.eval s = v) (hown : w.ownsRow 0 e size v n xs) (hn0 : v ≠ .slice none 0 0) (y : Value) (hx : a.eval x = y) (m : Nat) (news : List Value) (hs : Src P size tx y m news w)
    (h63 : n + m ≤ maxLen) (hbytes : (n + m) * bytes ≤ 140737488355328)
    (h : ∀ v' w', w'.ownsRow 0 e size v' (n + m) (xs ++ news) → Wrote w w' v v' → K (a.put o.dst v') w') : o.wp P a w K Q := by
  obtain ⟨v', w', hr, h2, h3⟩ := run_append_src (P := P) w t tx o.type e i z size bytes ht hi hz hsize hby hzs v n xs hown hn0 y m news hs h63 hbytes
  unfold Oper.wp execOp
  simp only [ho, resolve, invoke, builtin, Sem.run_bind, Sem.run_pure, Result.andThen_ok, List.map_toArray, List.map_cons, List.map_nil, hv, hx, hr]
  exact h v' w' h2 h3

end
theorem src_ints {w : World} {B : Nat} {X : List Int} {v : Value} (h : IRest B w X v) : Src Try.prog 1 23 v X.length (nums X) w := by
  obtain ⟨a, cap, rfl, -, -, -, h5⟩ := h
  rcases h5 with h0 | ⟨b, off, rfl, -, hc⟩
  · have : X = [] := List.eq_nil_of_length_eq_zero h0
    subst this
    cases a with
    | none => exact Src.ofNil w Try.underlying23 cap
    | some ad => exact Src.ofSlice w Try.underlying23 ad 0 cap [] rfl (fun j u h => by simp at h) (fun u h => by cases h)
  · refine Src.ofSlice w Try.underlying23 _ X.length cap _ (by unfold nums; simp) (fun i u hi => ?_) (ints_one X)
    rw [Addr.add_lit]
    unfold nums at hi
    rw [List.getElem?_map] at hi
    cases h9 : X[i]? with
    | none => rw [h9] at hi; cases hi
    | some x =>
      rw [h9] at hi
      injection hi with hi
      subst hi
      obtain ⟨hj, rfl⟩ := List.getElem?_eq_some_iff.1 h9
      exact hc i hj
/-- all numbers of a list appended to an empty list of the call's own -/
theorem wpList_copy_ints {w : World} {ops : Array Oper} {rest : List Oper} {o : Oper} {a : Act} {Q : Exit → Act → World → Prop} (hgd : o.guard = none) (s x : Operand)
    (ho : o.op = .call { callee := .builtin .append, args := #[s, x], argTypes := #[23, 23] })
    (b : Nat) (hs : a.eval s = .slice (some ⟨b, 0, none⟩) 0 0) (hb : Row w b 3 []) (X : List Int) (vx : Value) (hx : a.eval x = vx) {B : Nat} (hX : IRest B w X vx) (hlen : X.length ≤ 100000)
    (h : ∀ v' w', IBuf w' v' X → Wrote w w' (.slice (some ⟨b, 0, none⟩) 0 0) v' → wpList Try.prog ops Q rest (a.put o.dst v') w') : wpList Try.prog ops Q (o :: rest) a w :=
  wpList_plain hgd fun _ hK => by
    obtain ⟨i0, hi, hz⟩ := info_parts Try.infoI
    simp only [Prod.mk.injEq] at hz
    obtain ⟨hz0, hz1, hz2⟩ := hz
    refine wp_append_src w s x 23 23 ho 3 i0 _ 1 8 Try.underlying23 hi hz0 hz1 hz2 rfl _ 0 [] hs ⟨rfl, .inr ⟨b, 0, #[], rfl, Nat.zero_le _, hb, Nat.le_refl _, by unfold maxLen; omega, rfl, rfl⟩⟩ (by simp) vx hx X.length (nums X) (src_ints hX) (by unfold maxLen; omega) (by omega) fun v' w' h1 h2 => hK _ _ (h v' w' ?_ h2)
    unfold IBuf
    simpa [nums] using h1
theorem IBuf.put {w : World} {v : Value} {l : List Int} (h : IBuf w v l) {j : Nat} (hjl : j < l.length) {b : Nat} (hb : v.ownBlock = some b) (x : Int) : IBuf (w.setCell ⟨b, j, none⟩ (.int .i64 x)) v (l.set j x) := by
  obtain ⟨h1, h2⟩ := h
  refine ⟨by simp, ?_⟩
  rcases h2 with ⟨rfl, h0⟩ | ⟨g, cap, cur, rfl, hg0, hg, hn, hm, hcs, ht⟩
  · omega
  · obtain rfl : g = b := by simpa [Value.ownBlock] using hb
    right
    refine ⟨g, cap, cur.setIfInBounds j (.int .i64 x), by rw [List.length_set], hg0, ?_, by rw [List.length_set]; exact hn, hm, by simp [hcs], ?_⟩
    · have := heap_setCell_same w g j cur 3 (.int .i64 x) hg
      rw [this]
    · rw [List.map_set, ← ht, List.length_set, Array.toList_setIfInBounds, List.take_set]
theorem IBuf.free {w : World} {v : Value} {l : List Int} (h : IBuf w v l) {b : Nat} (hb : v.ownBlock = some b) (j : Nat) : w.frozen? ⟨b, j, none⟩ = false := by
  rcases h.2 with ⟨rfl, h0⟩ | ⟨g, cap, cur, rfl, hg0, hg, hn, hm, hcs, ht⟩
  · cases hb
  · obtain rfl : g = b := by simpa [Value.ownBlock] using hb
    exact frozen_of_row w g _ _ _ hg
end Go.Proofs.Ythkmbbgcadfilaa
