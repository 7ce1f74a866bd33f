/- Memory: what an append to a slice of the call's own leaves, told exactly: every old block but that of the slice is as it was, and the slice's block is the old one or a new one. -/
import Derived.ArgAppend
import Derived.Lib.SmallJoins
import Derived.Test.YtbcfmpohempkpaaDoorZc25
namespace Go.Proofs.YtbcfmpohempkpaaDoor.Cod
open Go.RowKit

/-- From w to w' only the block of v may have turned, and v' lies in it or in a new one. -/
structure Wrote (w w' : World) (v v' : Value) : Prop where
  grown : w.grownBy w' v.ownBlock
  own : v'.ownBlock = v.ownBlock ∨ ∀ k, v'.ownBlock = some k → w.heap.size ≤ k

set_option maxRecDepth 100000 in
theorem Wrote.refl (w : World) (v : Value) : Wrote w w v v := ⟨⟨rfl, rfl, rfl, Nat.le_refl _, fun _ _ _ => rfl⟩, .inl rfl⟩

set_option maxRecDepth 100000 in
theorem Wrote.trans {a b c : World} {u v x : Value} (h : Wrote a b u v) (k : Wrote b c v x) : Wrote a c u x := by
  have hs := h.grown.size
  refine ⟨⟨k.grown.os.trans h.grown.os, k.grown.tape.trans h.grown.tape, k.grown.output.trans h.grown.output, Nat.le_trans hs k.grown.size, fun i hi hne => ?_⟩, ?_⟩
  · refine (k.grown.block i (by omega) fun e => ?_).trans (h.grown.block i hi hne)
    rcases h.own with h1 | h1
    · exact hne (e.trans h1)
    · have := h1 i e.symm; omega
  · rcases k.own with h1 | h1
    · rw [h1]; exact h.own
    · exact .inr fun j hj => by have := h1 j hj; omega

set_option maxRecDepth 100000 in
theorem Wrote.alloc {a b : World} {u v : Value} (h : Wrote a b u v) (o : Obj) : Wrote a (b.alloc o) u v :=
  ⟨⟨h.grown.os, h.grown.tape, h.grown.output, by have := h.grown.size; simp; omega, fun i hi hne => by
    rw [Below.heap_alloc _ _ _ (by have := h.grown.size; omega)]; exact h.grown.block i hi hne⟩, h.own⟩

set_option maxRecDepth 100000 in
theorem Wrote.drew {a b : World} {u v : Value} (h : Wrote a b u v) : Wrote a b.drew u v :=
  ⟨⟨h.grown.os, h.grown.tape, h.grown.output, h.grown.size, h.grown.block⟩, h.own⟩

set_option maxRecDepth 100000 in
/-- A step that turns nothing below the heap's size. -/
theorem Wrote.below {a b : World} (v : Value) (h : Below a.heap.size a b) : Wrote a b v v :=
  ⟨⟨h.os, h.tape, h.output, h.size, fun i hi _ => h.block i hi⟩, .inl rfl⟩

set_option maxRecDepth 100000 in
theorem Wrote.toBelow {a b : World} {u v : Value} {B : Nat} (h : Wrote a b u v) (hB : B ≤ a.heap.size) (hu : ∀ k, u.ownBlock = some k → B ≤ k) : Below B a b :=
  ⟨h.grown.os, h.grown.tape, h.grown.output, h.grown.size, fun i hi => h.grown.block i (by omega) fun e => by have := hu i e.symm; omega⟩

set_option maxRecDepth 100000 in
theorem Wrote.cell {a b : World} {u v : Value} (h : Wrote a b u v) {p : Addr} {x : Value} (hp : a.cell? p = some x) (hne : some p.block ≠ u.ownBlock) : b.cell? p = some x := h.grown.cell hp hne

set_option maxRecDepth 100000 in
theorem owns_below {w w' : World} {e size n : Nat} {v : Value} {xs : List Value} (h : w.ownsRow 0 e size v n xs) (hb : Below w.heap.size w w') : w'.ownsRow 0 e size v n xs :=
  h.kept (row := none) ⟨hb.os, hb.tape, hb.output, hb.size, fun k hk _ => hb.block k hk⟩ (by cases hv : v.ownBlock <;> simp)

set_option maxRecDepth 100000 in
theorem owns_lt {w : World} {e size n : Nat} {v : Value} {xs : List Value} (h : w.ownsRow 0 e size v n xs) : ∀ k, v.ownBlock = some k → k < w.heap.size := fun k hk => (h.lt k hk).2

section
variable {P : Program}
set_option maxRecDepth 100000 in
theorem wpList_append_mine (w : World) {ops : Array Oper} {rest : List Oper} {o : Oper} {a : Act} {Q : Exit → Act → World → Prop} (hgd : o.guard = none) (s x : Operand) (t : TypeId)
    (ho : o.op = .call { callee := .builtin .append, args := #[s, x], argTypes := #[t, t] })
    (e : TypeId) (i : TypeInfo) (z : Value) (size bytes : Nat) (ht : P.underlying t = some (.slice e)) (hi : P.info? e = some i) (hz : i.zero = some z)
    (hsize : i.size = size) (hby : i.bytes = bytes) (hzs : z.cells.size = size) (hsz : 0 < size)
    (v : Value) (n : Nat) (xs : List Value) (hs : a.eval s = v) (hown : w.ownsRow 0 e size v n xs)
    (ad : Addr) (m c : Nat) (news : List Value) (hx : a.eval x = .slice (some ad) m c) (hl : news.length = m * size) (hnews : ∀ j u, news[j]? = some u → w.cell? (ad.add j) = some u) (h1 : ∀ u ∈ news, u.oneCell' = true)
    (h63 : n + m ≤ maxLen) (hbytes : (n + m) * bytes ≤ 140737488355328)
    (h : ∀ v' w', w'.ownsRow 0 e size v' (n + m) (xs ++ news) → Wrote w w' v v' → wpList P ops Q rest (a.put o.dst v') w') : wpList P ops Q (o :: rest) a w := by
  rcases hown.2 with ⟨rfl, rfl⟩ | ⟨g, cap, cur, rfl, hbg, hg, hnc, hcm, hcs, htake⟩
  · have hx0 : xs = [] := List.eq_nil_of_length_eq_zero (by simpa using hown.1)
    subst hx0
    refine wpList_append_own w hgd s x t ho w.heap.size e i z size bytes ht hi hz hsize hby hzs hsz (.slice none 0 0) 0 [] hs (World.ownsRow_nil w _ e size) ad m c news hx hl hnews h1 h63 hbytes (Nat.le_refl _) fun v' w' h2 h3 _ => ?_
    exact h v' w' (Joins.ownsRow_le h2 (Nat.zero_le _)) ⟨h3, .inr fun k hk => (h2.lt k hk).1⟩
  · by_cases hroom : n + m ≤ cap
    · refine wpList_append_fits w hgd s x t ho 0 e i size ht hi hsize g n cap xs hs hown ad m c news hx hl hnews h1 hroom fun w' h2 h3 => ?_
      exact h _ w' h2 ⟨h3, .inl rfl⟩
    · refine wpList_append_grows w hgd s x t ho e i z size bytes ht hi hz hsize hby hzs hsz (some ⟨g, 0, none⟩) n cap xs hs (fun h0 => by cases h0) hown.1 (fun b hb j u hu => ?_) ad m c news hx hl hnews h1 (by omega) h63 hbytes fun v' w' h2 h3 => ?_
      · obtain rfl := Option.some.inj hb
        exact hown.cells (g := g) rfl j u hu
      · exact h v' w' (Joins.ownsRow_le h2 (Nat.zero_le _)) ⟨⟨h3.os, h3.tape, h3.output, h3.size, fun k hk _ => h3.block k hk (by simp)⟩, .inr fun k hk => (h2.lt k hk).1⟩
end

/-- the cells of bytes -/
def cellsOf (l : List UInt8) : List Value := l.map fun c => Value.int .u8 (c.toNat : Int)
set_option maxRecDepth 100000 in
theorem cellsOf_len (l : List UInt8) : (cellsOf l).length = l.length := by simp [cellsOf]
set_option maxRecDepth 100000 in
theorem cellsOf_append (a b : List UInt8) : cellsOf (a ++ b) = cellsOf a ++ cellsOf b := by simp [cellsOf]
/-- a buffer of the call's own that holds the bytes xs -/
def Buf (w : World) (v : Value) (xs : List UInt8) : Prop := w.ownsRow 0 5 1 v xs.length (cellsOf xs)

set_option maxRecDepth 100000 in
theorem Tryd.info5 : (Tryd.prog.info? 5).map (fun i => (i.zero, i.size, i.bytes)) = some (some (.int .u8 0), 1, 1) := by kernel_rfl

set_option maxRecDepth 100000 in
theorem digit_or (u : Nat) (h : u < 18446744073709551616) : bits .or .u8 ((u : Int) % 256) 128 = ((u % 128 + 128 : Nat) : Int) := by
  rw [show (u : Int) % 256 = ((u % 256 : Nat) : Int) by omega]
  have h2 := u8_or_nat (u % 256) 128 (by omega) (by omega)
  have h3 : ∀ n : Fin 256, n.val ||| 128 = n.val % 128 + 128 := by decide +kernel
  have h4 := h3 ⟨u % 256, by omega⟩
  simp only at h4
  rw [h4] at h2
  rw [show u % 256 % 128 = u % 128 by omega] at h2
  exact h2

def WroteBuf (w w' : World) (v : Value) (xs : List UInt8) (e : Ending) : Prop := ∃ v', e = .returned v' ∧ Buf w' v' xs ∧ Wrote w w' v v'

/-- what holds at the head of writeNumeral's loop -/
def NumHead (w : World) (v : Value) (xs : List UInt8) (u : Nat) (s0 s1 : Value) (wr : World) : Prop :=
  ∃ (ys : List UInt8) (u' : Nat), s1 = .int .u64 u' ∧ u' ≤ u ∧ ys ++ digits u' = digits u ∧ Buf wr s0 (xs ++ ys) ∧ Wrote w wr v s0

set_option maxRecDepth 100000 in
theorem buf_snoc {w : World} {v : Value} {xs : List UInt8} {n m : Nat} {x : Int} (hn : n < 256) (hx : x = (n : Int)) (hm : m = xs.length + 1) (h : w.ownsRow 0 5 1 v m (cellsOf xs ++ [.int .u8 x])) : Buf w v (xs ++ [UInt8.ofNat n]) := by
  subst hx hm
  have e : cellsOf (xs ++ [UInt8.ofNat n]) = cellsOf xs ++ [.int .u8 (n : Int)] := by
    rw [cellsOf_append]; simp only [cellsOf, List.map_cons, List.map_nil, byte_nat n hn]
  unfold Buf
  rw [e, List.length_append]; exact h

set_option maxRecDepth 100000 in
theorem cell_new1 (w : World) (x : Value) (T : TypeId) : ∀ j u, [x][j]? = some u → (w.alloc (.cells #[x] T)).cell? ((⟨w.heap.size, 0, none⟩ : Addr).add j) = some u := by
  intro j u hj
  match j, hj with
  | 0, hj => simp at hj; subst hj; simp [Addr.add]

set_option maxRecDepth 100000 in
theorem one_oneCell (k : IntKind) (n : Int) : ∀ u ∈ [Value.int k n], u.oneCell' = true := by intro u hu; simp at hu; subst hu; rfl

set_option maxRecDepth 100000 in
set_option maxHeartbeats 1000000 in
theorem writeNumeral_call (u : Nat) (v : Value) (xs : List UInt8) (w : World) (h1 : u ≤ 18446744073709551615) (hx : xs.length ≤ 70368744177664) (hb : Buf w v xs) :
    Calls Tryd.prog 82 #[v, .int .u64 u] w fun e w' => WroteBuf w w' v (xs ++ digits u) e := by
  obtain ⟨i0, hi, hz0, hz1, hz2⟩ := info_parts Tryd.info5
  have HD : Hid ((digits u).length ≤ 10) := by rw [digits_len]; exact num_len u (by omega)
  go_enter Tryd.func82, Tryd.ntmps82
  go_wp2_with fail
  go_loopw [0, 1] (fun s0 s1 wr => NumHead w v xs u s0 s1 wr) (fun _ s1 _ => (intOf s1).toNat)
  case atStart => exact ⟨[], u, rfl, Nat.le_refl _, rfl, by simpa using hb, Wrote.refl _ _⟩
  case round =>
    obtain ⟨ys, u', rfl, hu', hys, hbuf, hw⟩ := hrel
    have HY := Lib.hid hys
    clear hys
    have hl := hx
    have HL : Hid (ys.length + (digits u').length ≤ 10) := by
      have e := congrArg List.length HY.out
      rw [List.length_append] at e
      rw [e]; exact HD.out
    by_cases hlt : u' < 128
    · have hd : decide ((128 : Int) ≤ (u' : Int)) = false := by simp; omega
      go_wp2_with (at_builtin; refine wpList_append_mine _ rfl (.tmp 15) (.tmp 18) 22 rfl 5 i0 (.int .u8 0) 1 1 Tryd.underlying22 hi hz0 hz1 hz2 rfl (by decide) _ _ _ rfl (World.ownsRow.alloc hbuf _) ⟨wr.heap.size, 0, none⟩ 1 1 [.int .u8 (u' : Int)] rfl rfl ?c1 ?c2 ?c3 ?c4 ?_)
      case c1 => exact cell_new1 _ _ _
      case c2 => exact one_oneCell _ _
      case c3 => have := HL.out; simp [maxLen]; omega
      case c4 => have := HL.out; simp; omega
      intro v1 w1 ho1 hw1
      go_wp2_with fail
      go_ret
      refine ⟨v1, rfl, ?_, (hw.alloc _).trans hw1⟩
      have e := HY.out
      rw [digits_lo u' hlt] at e
      rw [← e, ← List.append_assoc]
      exact buf_snoc (by omega) (by omega) (by simp) ho1
    · have hd : decide ((128 : Int) ≤ (u' : Int)) = true := by simp; omega
      have HDO := Lib.hid (digit_or u' (by omega))
      go_wp2_with (at_builtin; refine wpList_append_mine _ rfl (.tmp 7) (.tmp 11) 22 rfl 5 i0 (.int .u8 0) 1 1 Tryd.underlying22 hi hz0 hz1 hz2 rfl (by decide) _ _ _ rfl (World.ownsRow.alloc hbuf _) ⟨wr.heap.size, 0, none⟩ 1 1 [.int .u8 ((u' % 128 + 128 : Nat) : Int)] rfl rfl ?c1 ?c2 ?c3 ?c4 ?_)
      case c1 => rw [HDO.out]; exact cell_new1 _ _ _
      case c2 => exact one_oneCell _ _
      case c3 => have := HL.out; simp [maxLen]; omega
      case c4 => have := HL.out; simp; omega
      intro v1 w1 ho1 hw1
      go_wp2_with fail
      go_roundw
      case rel =>
        refine ⟨ys ++ [UInt8.ofNat (u' % 128 + 128)], u' / 128, by simp, by omega, ?_, ?_, (hw.alloc _).trans hw1⟩
        · have e := HY.out
          rw [digits_hi u' (by omega)] at e
          rw [← e]; simp
        · rw [← List.append_assoc]; exact buf_snoc (by omega) (by omega) (by simp) ho1
      case measure => simp [intOf]; omega
end Go.Proofs.YtbcfmpohempkpaaDoor.Cod
