/- A number as four bytes; the sector for a piece: the program's functions. -/
import Derived.StillTailTactics
import Derived.BigQuiet
import Derived.Test.YtlaaolbdadempaaZe12
import Derived.Test.YtlaaolbdadempaaZe9
namespace Go.Proofs.Ytlaaolbdadempaa
open Go.RowKit

theorem bsize44 : (Try.prog.info? 44).map (·.size) = some 4 := by kernel_rfl
theorem size116 : (Try.prog.info? 116).map (·.size) = some 128 := by kernel_rfl
theorem digs_len (n : Nat) : (digs n).length = 4 := rfl
def dk (n i : Nat) : List UInt8 := (digs n).take i ++ List.replicate (4 - i) 0
theorem dk_len (n i : Nat) (h : i ≤ 4) : (dk n i).length = 4 := by unfold dk; rw [List.length_append, List.length_take, digs_len]; simp; omega
def DigHead (n : Nat) (w : World) (s4 : Value) (wr : World) : Prop := ∃ i : Nat, i ≤ 4 ∧ s4 = .int .i64 (i : Int) ∧ Row wr w.heap.size 44 (cellsOf (dk n i)) ∧ Below w.heap.size w wr
set_option maxHeartbeats 1000000 in
set_option maxRecDepth 100000 in
theorem digits_call (n : Nat) (hn : n < 4294967296) (w : World) :
    Calls Try.prog 100 #[.int .u32 (n : Int)] w fun e w' => e = .returned (.agg (cellsOf (digs n)).toArray) ∧ Below w.heap.size w w' := by
  go_enter Try.func100, Try.ntmps100
  go_wp2_with fail
  go_loopw [4] (fun s4 wr => DigHead n w s4 wr) (fun s4 _ => 4 - (intOf s4).toNat)
  case atStart => exact ⟨0, by omega, rfl, row_new w 44 _, Joins.below_alloc1 w _⟩
  case round =>
    obtain ⟨i, hi, rfl, hrow, hbe⟩ := hrel
    have HR := Lib.hid hrow
    have HB := Lib.hid hbe
    clear hrow hbe
    rcases (show i = 0 ∨ i = 1 ∨ i = 2 ∨ i = 3 ∨ i = 4 by omega) with rfl | rfl | rfl | rfl | rfl
    · have c0 := HR.out.cell (i := 0) rfl
      have c1 := HR.out.cell (i := 1) rfl
      have c2 := HR.out.cell (i := 2) rfl
      have c3 := HR.out.cell (i := 3) rfl
      have f0 := HR.out.free 0
      have f1 := HR.out.free 1
      have f2 := HR.out.free 2
      have f3 := HR.out.free 3
      go_wp2_with fail
      exact ⟨⟨0 + 1, by omega, rfl, HR.out.set 0 _ (by simp [cellsOf, dk, digs]; try omega), HB.out.setCell (Nat.le_refl _) _⟩, by simp [intOf]⟩
    · have c0 := HR.out.cell (i := 0) rfl
      have c1 := HR.out.cell (i := 1) rfl
      have c2 := HR.out.cell (i := 2) rfl
      have c3 := HR.out.cell (i := 3) rfl
      have f0 := HR.out.free 0
      have f1 := HR.out.free 1
      have f2 := HR.out.free 2
      have f3 := HR.out.free 3
      go_wp2_with fail
      exact ⟨⟨1 + 1, by omega, rfl, HR.out.set 1 _ (by simp [cellsOf, dk, digs]; try omega), HB.out.setCell (Nat.le_refl _) _⟩, by simp [intOf]⟩
    · have c0 := HR.out.cell (i := 0) rfl
      have c1 := HR.out.cell (i := 1) rfl
      have c2 := HR.out.cell (i := 2) rfl
      have c3 := HR.out.cell (i := 3) rfl
      have f0 := HR.out.free 0
      have f1 := HR.out.free 1
      have f2 := HR.out.free 2
      have f3 := HR.out.free 3
      go_wp2_with fail
      exact ⟨⟨2 + 1, by omega, rfl, HR.out.set 2 _ (by simp [cellsOf, dk, digs]; try omega), HB.out.setCell (Nat.le_refl _) _⟩, by simp [intOf]⟩
    · have c0 := HR.out.cell (i := 0) rfl
      have c1 := HR.out.cell (i := 1) rfl
      have c2 := HR.out.cell (i := 2) rfl
      have c3 := HR.out.cell (i := 3) rfl
      have f0 := HR.out.free 0
      have f1 := HR.out.free 1
      have f2 := HR.out.free 2
      have f3 := HR.out.free 3
      go_wp2_with fail
      exact ⟨⟨3 + 1, by omega, rfl, HR.out.set 3 _ (by simp [cellsOf, dk, digs]; try omega), HB.out.setCell (Nat.le_refl _) _⟩, by simp [intOf]⟩
    · have hcs : Hid ((cellsOf (dk n 4)).toArray.size = 4) := Lib.hid rfl
      go_wp2_with (first | (refine wpList_load_row rfl 44 (.tmp 2) rfl w.heap.size rfl 44 (cellsOf (dk n 4)).toArray (0, 0) _ HR.out Try.underlying44 rfl (by rw [hcs.out]; kernel_rfl) ?_) | (refine wpList_store_row rfl 44 (.tmp 2) (.tmp 16) rfl w.heap.size (cellsOf (dk n 4)).toArray rfl rfl 44 (cellsOf (dk n 4)).toArray HR.out (by rw [hcs.out]; kernel_rfl) rfl (cellsOf_one _) ?_))
      exact bodyPost_ret (results_cell_row rfl _ _ w.heap.size 44 (cellsOf (dk n 4)).toArray (0, 0) _ rfl (HR.out.setRow _) Try.underlying44 rfl (by rw [hcs.out]; kernel_rfl)) rfl ⟨rfl, below_setRow HB.out _ _ (Nat.le_refl _)⟩
end Go.Proofs.Ytlaaolbdadempaa

/- The sector for a piece: the program's function. -/
namespace Go.Proofs.Ytlaaolbdadempaa
open Go.RowKit

theorem wpList_copy_far {P : Program} {w : World} {ops : Array Oper} {rest : List Oper} {o : Oper} {a : Act} {Q : Exit → Act → World → Prop} (hgd : o.guard = none) (d s : Operand) (dT sT : TypeId)
    (ho : o.op = .call { callee := .builtin .copy, args := #[d, s], argTypes := #[dT, sT] }) (elem : TypeId) (hu : P.underlying dT = some (.slice elem)) (hsz : (P.info? elem).map (·.size) = some 1)
    (dp sp : Option Addr) (dLen dCap sLen sCap : Nat) (hd : a.eval d = .slice dp dLen dCap) (hs : a.eval s = .slice sp sLen sCap)
    (g off : Nat) (cur : List UInt8) (t : TypeId) (hg : Row w g t (cellsOf cur)) (cs : List UInt8) (hn : cs.length = Nat.min sLen dLen)
    (hpos : 0 < cs.length → dp = some ⟨g, off, none⟩ ∧ ∃ ad, sp = some ad ∧ ∀ j v, (cellsOf cs)[j]? = some v → w.cell? (ad.add j) = some v)
    (hfit : off + cs.length ≤ cur.length) (S : List UInt8) (hS : splice cur off cs = S) (B : Nat) (w0 : World) (hb : Below B w0 w) (hBg : B ≤ g)
    (h : ∀ w', Hid (Row w' g t (cellsOf S)) → Below B w0 w' → (∀ g', g' ≠ g → w'.heap[g']? = w.heap[g']?) → wpList P ops Q rest (a.put o.dst (goInt cs.length)) w') :
    wpList P ops Q (o :: rest) a w := by
  have hsp : splice (cellsOf cur) off (cellsOf cs) = cellsOf S := by rw [← hS]; simp [splice, cellsOf]
  by_cases h0 : cs.length = 0
  · obtain rfl : cs = [] := List.eq_nil_of_length_eq_zero h0
    refine wpList_copy_nothing hgd d s dT sT ho elem hu hsz dp sp dLen dCap sLen sCap hd hs (by simpa using hn.symm) ?_
    have e : cur = S := by rw [← hS]; simp [splice]
    exact h w (Lib.hid (by rw [← e]; exact hg)) hb (fun _ _ => rfl)
  · obtain ⟨rfl, ad, rfl, hsrc⟩ := hpos (by omega)
    have hl : (cellsOf cs).length = cs.length := cellsOf_len cs
    rw [← hl] at h
    refine wpList_copy_own hgd d s dT sT ho elem hu hsz g off dLen dCap ad sLen sCap hd hs (cellsOf cur).toArray t hg (cellsOf cs) (by rw [hl]; exact hn) hsrc (by rw [hl, List.size_toArray, cellsOf_len]; exact hfit) (cells_one _) ?_
    refine h _ (Lib.hid ?_) (below_setRow hb _ _ hBg) (fun g' hne => setRow_other w g g' _ hne)
    rw [← hsp]
    have hrow := hg.setRow (splice (cellsOf cur) off (cellsOf cs))
    simpa [splice, Row] using hrow
theorem splice_mid {α : Type} {A X Y C : List α} {off : Nat} (hA : A.length = off) (hX : X.length = Y.length) : splice (A ++ (X ++ C)) off Y = A ++ (Y ++ C) := by
  subst hA
  unfold splice
  rw [List.take_left' rfl, ← hX, List.drop_append, List.drop_of_length_le (by omega), List.nil_append, Nat.add_sub_cancel_left, List.drop_left' rfl]
/-- a sector of its parts -/
def secA (g1 c h d g2 : List UInt8) : List UInt8 := g1 ++ (c ++ (h ++ (d ++ g2)))
def z4 : List UInt8 := List.replicate 4 0
def zK (n : Nat) : List UInt8 := List.replicate n 0
theorem secA_0 : List.replicate 128 0 = secA z4 z4 z4 (zK 112) z4 := by decide
theorem secA_len {g1 c h d g2 : List UInt8} (h1 : g1.length = 4) (h2 : c.length = 4) (h3 : h.length = 4) (h4 : d.length = 112) (h5 : g2.length = 4) : (secA g1 c h d g2).length = 128 := by
  unfold secA; simp [h1, h2, h3, h4, h5]
theorem secA_1 {g1 c h d g2 x : List UInt8} (h1 : g1.length = 4) (hx : x.length = 4) : splice (secA g1 c h d g2) 0 x = secA x c h d g2 := by
  unfold secA; exact splice_mid (A := []) rfl (by omega)
theorem secA_2 {g1 c h d g2 x : List UInt8} (h1 : g1.length = 4) (h2 : c.length = 4) (h3 : h.length = 4) (h4 : d.length = 112) (h5 : g2.length = 4) (hx : x.length = 4) : splice (secA g1 c h d g2) 124 x = secA g1 c h d x := by
  unfold secA
  have := splice_mid (A := g1 ++ (c ++ (h ++ d))) (X := g2) (Y := x) (C := []) (off := 124) (by simp [h1, h2, h3, h4]) (by omega)
  simpa using this
theorem secA_5 {g1 c h d e g2 x : List UInt8} (h1 : g1.length = 4) (h2 : c.length = 4) (h3 : h.length = 4) (hx : x.length = d.length) : splice (secA g1 c h (d ++ e) g2) 12 x = secA g1 c h (x ++ e) g2 := by
  unfold secA
  have := splice_mid (A := g1 ++ (c ++ h)) (X := d) (Y := x) (C := e ++ g2) (off := 12) (by simp [h1, h2, h3]) (by omega)
  simpa using this
theorem secA_6 {g1 c h d g2 x : List UInt8} (h1 : g1.length = 4) (h2 : c.length = 4) (hx : x.length = 4) : splice (secA g1 c h d g2) 4 x = secA g1 x h d g2 := by
  unfold secA; exact splice_mid (A := g1) h1 (by omega)
theorem secA_set {g1 c h d g2 : List UInt8} (h1 : g1.length = 4) (h2 : c.length = 4) (h3 : h.length = 4) (i : Nat) (hi : i < 4) (x : UInt8) (n : Int) (hn : n = (x.toNat : Int)) : (cellsOf (secA g1 c h d g2)).set (8 + i) (.int .u8 n) = cellsOf (secA g1 c (h.set i x) d g2) := by
  subst hn
  unfold secA cellsOf
  rw [← List.map_set, List.set_append_right _ _ (by omega), List.set_append_right _ _ (by omega), List.set_append_left _ _ (by omega)]
  congr 5
  omega
theorem secA_body {g1 c h d g2 : List UInt8} (h1 : g1.length = 4) (h2 : c.length = 4) (h3 : h.length = 4) (h4 : d.length = 112) : ((secA g1 c h d g2).drop 8).take 116 = h ++ d := by
  have e : secA g1 c h d g2 = (g1 ++ c) ++ ((h ++ d) ++ g2) := by unfold secA; simp
  rw [e, List.drop_left' (by simp [h1, h2]), List.take_left' (by simp [h3, h4])]
theorem row_restT {w : World} {g n T : Nat} {xs : List UInt8} (h : Row w g T (cellsOf xs)) (hl : xs.length = n) (hn : n ≤ 1000000) : Rest w.heap.size w xs (.slice (some ⟨g, 0, none⟩) n n) :=
  ⟨some ⟨g, 0, none⟩, n, by rw [hl], by omega, by unfold maxLen; omega, (fun h => by cases h), .inr ⟨g, 0, rfl, h.lt, fun i hi => by rw [Nat.zero_add]; exact h.cell (cellsOf_get hi)⟩⟩
theorem row_src {w : World} {g T : Nat} {xs : List UInt8} (h : Row w g T (cellsOf xs)) : ∃ ad, (some ⟨g, 0, none⟩ : Option Addr) = some ad ∧ ∀ j v, (cellsOf xs)[j]? = some v → w.cell? (ad.add j) = some v :=
  ⟨_, rfl, fun j v hj => by rw [Addr.add_lit, Nat.zero_add]; exact h.cell hj⟩
theorem Row.same {w w' : World} {g T : Nat} {cs : List Value} (h : Row w g T cs) (hf : w'.heap[g]? = w.heap[g]?) : Row w' g T cs := hf.trans h
end Go.Proofs.Ytlaaolbdadempaa

/- The sector for a piece: the program's function, walked. -/
namespace Go.Proofs.Ytlaaolbdadempaa
open Go.RowKit

theorem wpList_alloc_u {ops : Array Oper} {rest : List Oper} {o : Oper} {a : Act} {w : World} {Q : Exit → Act → World → Prop} {T : TypeId} (hgd : o.guard = none) (t : Nat) (hd : o.dst = some t) (ho : o.op = .alloc T) (cs : List Value)
    (hz : (Try.prog.info? T).map (·.zero) = some (some (.agg cs.toArray)))
    (h : ∀ g w', g = w.heap.size → Row w' g T cs → Below w.heap.size w w' → wpList Try.prog ops Q rest (a.put (some t) (.pointer (some ⟨g, 0, none⟩))) w') : wpList Try.prog ops Q (o :: rest) a w :=
  wpList_plain hgd fun K hK => by
    have h1 := hK _ _ (h w.heap.size (w.alloc (.cells cs.toArray T)) rfl (row_new w T cs) (Joins.below_alloc1 w _))
    rw [← hd] at h1
    cases hi : Try.prog.info? T with
    | none => rw [hi] at hz; cases hz
    | some i0 =>
      rw [hi] at hz
      have hz0 : i0.zero = some (.agg cs.toArray) := by simpa using hz
      unfold Oper.wp
      simp [execOp, ho, Instr.alloc, newObj, newVar, zeroValue, typeInfo, hi, hz0, Sem.run_bind, Value.cells]
      exact h1
theorem cellsOf_all (l : List UInt8) : (cellsOf l).all (·.oneCell') = true := by
  rw [List.all_eq_true]; exact cells_one l
theorem cut1 {A : Type} {F : A → Prop} (G : A → Prop) {R : Prop} (rest : (∀ a, F a → G a) → R) (kk : ∀ a, F a → G a) : R := rest kk
def zSec : List UInt8 := secA z4 z4 z4 (zK 112) z4
theorem zero116 : (Try.prog.info? 116).map (·.zero) = some (some (.agg (cellsOf zSec).toArray)) := by kernel_rfl
theorem zero44 : (Try.prog.info? 44).map (·.zero) = some (some (.agg (cellsOf z4).toArray)) := by kernel_rfl
/-- the value of a piece -/
def pv (g : Nat) (m : UInt8) (d : Value) : Value := .agg #[.int .u32 (g : Int), .int .u8 (m.toNat : Int), d]
set_option maxHeartbeats 4000000 in
set_option maxRecDepth 100000 in
theorem sectorP_call (p : Pce) (hg : p.gen < 4294967296) (hd : p.data.length ≤ 112) (k : Nat) (hk : k ≤ 1000000) (dv : Value) (w : World) (h : Rest w.heap.size w p.data dv) :
    Calls Try.prog 89 #[pv p.gen p.marks dv, .int .i64 (k : Int)] w fun e w' => e = .returned (.agg (cellsOf (secP p k)).toArray) ∧ Below w.heap.size w w' := by
  obtain ⟨gen, marks, data⟩ := p
  simp only at hg hd h
  have HD := Lib.hid h
  obtain ⟨da, dc, rfl, hc1, hc2⟩ := h.shape
  clear h
  unfold pv
  have HZ1 := Lib.hid zero116
  have HZ4 := Lib.hid zero44
  obtain ⟨n, hn⟩ : ∃ n, n = data.length := ⟨_, rfl⟩
  have HN := Lib.hid hn
  rw [← hn] at HD hc2 hd ⊢
  clear hn
  obtain ⟨G, hG⟩ : ∃ G, G = digs gen := ⟨_, rfl⟩
  have HG := Lib.hid hG
  have hGl : Hid (G.length = 4) := Lib.hid (by rw [hG]; rfl)
  have HC1 : Hid (∀ W, Calls Try.prog 100 #[.int .u32 (gen : Int)] W fun e w' => e = .returned (.agg (cellsOf G).toArray) ∧ Below W.heap.size W w') := Lib.hid (fun W => by rw [hG]; exact digits_call gen hg W)
  clear hG
  go_enter Try.func89, Try.ntmps89
  go_wp2_with (first
    | (refine wpList_alloc_u rfl 4 rfl rfl (cellsOf zSec) HZ1.out ?_; intro g4 w1 hg4 hrow hb; have HR4 := Lib.hid hrow; have HB := Lib.hid (below_next (Joins.below_alloc1 w _) hb); have HR2 := Lib.hid ((row_new w 115 [.int .u32 (gen : Int), .int .u8 (marks.toNat : Int), .slice da n dc]).keep hb); have hne2 : w.heap.size ≠ g4 := (by rw [hg4]; simp); have hle4 : w.heap.size ≤ g4 := (by rw [hg4]; simp); clear hrow hb hg4; have x0 := HR2.out.cell (i := 0) rfl; have x1 := HR2.out.cell (i := 1) rfl; have x2 := HR2.out.cell (i := 2) rfl)
    | (go_at_call 100; refine (HC1.out _).mono ?_; rintro e w2 ⟨rfl, hb⟩; replace HR2 := Lib.hid (HR2.out.keep hb); replace HR4 := Lib.hid (HR4.out.keep hb); replace HB := Lib.hid (below_next HB.out hb); clear hb x0 x1 x2; have x0 := HR2.out.cell (i := 0) rfl; have x1 := HR2.out.cell (i := 1) rfl; have x2 := HR2.out.cell (i := 2) rfl)
    | (refine wpList_alloc_u rfl 5 rfl rfl (cellsOf z4) HZ4.out ?_; intro g5 w3 hg5 hrow hb; have HR5 := Lib.hid hrow; have hne5 : g5 ≠ g4 := (by have := HR4.out.lt; omega); have hle5 : g4 < g5 := (by have := HR4.out.lt; omega); replace HR2 := Lib.hid (HR2.out.keep hb); replace HR4 := Lib.hid (HR4.out.keep hb); replace HB := Lib.hid (below_next HB.out hb); clear hb x0 x1 x2; have x0 := HR2.out.cell (i := 0) rfl; have x1 := HR2.out.cell (i := 1) rfl; have x2 := HR2.out.cell (i := 2) rfl; clear hrow hg5)
    | (refine wpList_store_ag rfl 44 (.tmp 5) (.tmp 9) rfl g5 (cellsOf G) (cellsOf z4) (by rw [cellsOf_len, hGl.out]; exact bsize44) (by rw [cellsOf_len, cellsOf_len, hGl.out]; rfl) rfl rfl HR5.out (cellsOf_all G) (Below.refl g5 w3) (Nat.le_refl _) ?_; intro w4 hrow hb hf; replace HR5 := Lib.hid hrow; replace HR4 := Lib.hid (hf _ _ _ (Ne.symm hne5) HR4.out); replace HR2 := Lib.hid (hf _ _ _ (by omega) HR2.out); replace HB := Lib.hid (HB.out.trans (hb.mono (by omega))); clear hrow hb hf x0 x1 x2; have x0 := HR2.out.cell (i := 0) rfl; have x1 := HR2.out.cell (i := 1) rfl; have x2 := HR2.out.cell (i := 2) rfl))
  have hlen4 : Hid (∀ c h, c.length = 4 → h.length = 4 → (cellsOf (secA G c h (zK 112) G)).length = 128) := Lib.hid (fun c h h1 h2 => by rw [cellsOf_len]; exact secA_len hGl.out h1 h2 rfl hGl.out)
  go_still_tail 2, (by kernel_rfl)
  go_wp2_with (refine wpList_copy_far rfl (.tmp 10) (.tmp 11) 35 35 rfl 5 Try.underlying35 (by kernel_rfl) (some ⟨g4, 0, none⟩) (some ⟨g5, 0, none⟩) 128 128 4 4 rfl rfl g4 0 zSec 116 HR4.out G (by rw [hGl.out]; rfl) (fun _ => ⟨rfl, row_src (w := w4) HR5.out⟩) (by rw [hGl.out]; exact (by decide)) (secA G z4 z4 (zK 112) z4) (secA_1 rfl hGl.out) w.heap.size w (below_drew HB.out) hle4 ?_; intro w5 hrow hb hf; replace HR4 := hrow; replace HR2 := Lib.hid (HR2.out.same (hf _ hne2)); replace HR5 := Lib.hid (HR5.out.same (hf _ hne5)); replace HB := Lib.hid hb; clear hrow hb hf x0 x1 x2; have x0 := HR2.out.cell (i := 0) rfl; have x1 := HR2.out.cell (i := 1) rfl; have x2 := HR2.out.cell (i := 2) rfl)
  go_still_tail 2, (by kernel_rfl)
  go_wp2_with (refine wpList_copy_far rfl (.tmp 13) (.tmp 14) 35 35 rfl 5 Try.underlying35 (by kernel_rfl) (some ⟨g4, 124, none⟩) (some ⟨g5, 0, none⟩) 4 4 4 4 rfl rfl g4 124 (secA G z4 z4 (zK 112) z4) 116 HR4.out G (by rw [hGl.out]; rfl) (fun _ => ⟨rfl, row_src (w := w5) HR5.out⟩) (by rw [hGl.out, secA_len hGl.out rfl rfl rfl rfl]; exact (by decide)) (secA G z4 z4 (zK 112) G) (secA_2 hGl.out rfl rfl rfl rfl hGl.out) w.heap.size w (below_drew HB.out) hle4 ?_; intro w6 hrow hb hf; replace HR4 := hrow; replace HR2 := Lib.hid (HR2.out.same (hf _ hne2)); replace HB := Lib.hid hb; clear hrow hb hf x0 x1 x2 HR5; have x0 := HR2.out.cell (i := 0) rfl; have x1 := HR2.out.cell (i := 1) rfl; have x2 := HR2.out.cell (i := 2) rfl; obtain ⟨v8, c8⟩ : ∃ v, w6.cell? ⟨g4, 8, none⟩ = some v := ⟨_, HR4.out.cell (List.getElem?_eq_getElem (by rw [hlen4.out z4 z4 rfl rfl]; omega))⟩; obtain ⟨v9, c9⟩ : ∃ v, w6.cell? ⟨g4, 9, none⟩ = some v := ⟨_, HR4.out.cell (List.getElem?_eq_getElem (by rw [hlen4.out z4 z4 rfl rfl]; omega))⟩; have f8 := HR4.out.free 8; have f9 := HR4.out.free 9)
  obtain ⟨H2, hH2⟩ : ∃ H2 : List UInt8, H2 = [UInt8.ofNat (k / 256), UInt8.ofNat k, 0, 0] := ⟨_, rfl⟩
  have r4 := (HR4.out.set (8 + 0) (.int .u8 ((k : Int) / 256 % 256)) (secA_set hGl.out rfl rfl 0 (by omega) (UInt8.ofNat (k / 256)) _ (by simp))).set (8 + 1) (.int .u8 ((k : Int) % 256)) (secA_set hGl.out rfl rfl 1 (by omega) (UInt8.ofNat k) _ (by simp))
  have r2 := (HR2.out.setFar 8 (.int .u8 ((k : Int) / 256 % 256)) hne2).setFar 9 (.int .u8 ((k : Int) % 256)) hne2
  have rb := below_setCell (below_setCell HB.out g4 8 (.int .u8 ((k : Int) / 256 % 256)) hle4) g4 9 (.int .u8 ((k : Int) % 256)) hle4
  rw [show ((z4.set 0 (UInt8.ofNat (k / 256))).set 1 (UInt8.ofNat k)) = H2 from by rw [hH2]; rfl] at r4
  simp only [Nat.reduceAdd] at r4
  generalize (w6.setCell ⟨g4, 8, none⟩ (.int .u8 ((k : Int) / 256 % 256))).setCell ⟨g4, 9, none⟩ (.int .u8 ((k : Int) % 256)) = w7 at r4 r2 rb ⊢
  have HH2 := Lib.hid hH2
  have hH2l : Hid (H2.length = 4) := Lib.hid (by rw [hH2]; rfl)
  replace HR4 := Lib.hid r4
  replace HR2 := Lib.hid r2
  replace HB := Lib.hid rb
  clear r4 r2 rb hH2 x0 x1 x2 c8 c9 f8 f9
  have x0 := HR2.out.cell (i := 0) rfl; have x1 := HR2.out.cell (i := 1) rfl; have x2 := HR2.out.cell (i := 2) rfl
  obtain ⟨v10, c10⟩ : ∃ v, w7.cell? ⟨g4, 10, none⟩ = some v := ⟨_, HR4.out.cell (List.getElem?_eq_getElem (by rw [hlen4.out z4 H2 rfl hH2l.out]; omega))⟩
  obtain ⟨v11, c11⟩ : ∃ v, w7.cell? ⟨g4, 11, none⟩ = some v := ⟨_, HR4.out.cell (List.getElem?_eq_getElem (by rw [hlen4.out z4 H2 rfl hH2l.out]; omega))⟩
  have f10 := HR4.out.free 10
  have f11 := HR4.out.free 11
  obtain ⟨H3, hH3⟩ : ∃ H3 : List UInt8, H3 = [UInt8.ofNat (k / 256), UInt8.ofNat k, marks, UInt8.ofNat n] := ⟨_, rfl⟩
  have r4 := (HR4.out.set (8 + 2) (.int .u8 (marks.toNat : Int)) (secA_set hGl.out rfl hH2l.out 2 (by omega) marks _ rfl)).set (8 + 3) (.int .u8 (n : Int)) (secA_set hGl.out rfl (by rw [List.length_set]; exact hH2l.out) 3 (by omega) (UInt8.ofNat n) _ (by simp; omega))
  rw [show ((H2.set 2 marks).set 3 (UInt8.ofNat n)) = H3 from by rw [HH2.out, hH3]; rfl] at r4
  simp only [Nat.reduceAdd] at r4
  have HF5 := Lib.hid (show Row ((w7.setCell ⟨g4, 10, none⟩ (.int .u8 (marks.toNat : Int))).setCell ⟨g4, 11, none⟩ (.int .u8 (n : Int))).drew g4 116 (cellsOf (secA G z4 H3 (zK 112) G)) ∧ Row ((w7.setCell ⟨g4, 10, none⟩ (.int .u8 (marks.toNat : Int))).setCell ⟨g4, 11, none⟩ (.int .u8 (n : Int))).drew w.heap.size 115 [.int .u32 (gen : Int), .int .u8 (marks.toNat : Int), .slice da n dc] ∧ Below w.heap.size w ((w7.setCell ⟨g4, 10, none⟩ (.int .u8 (marks.toNat : Int))).setCell ⟨g4, 11, none⟩ (.int .u8 (n : Int))).drew from
    ⟨r4, (HR2.out.setFar 10 _ hne2).setFar 11 _ hne2, below_drew (below_setCell (below_setCell HB.out g4 10 _ hle4) g4 11 _ hle4)⟩)
  have HH3 := Lib.hid hH3
  have hH3l : Hid (H3.length = 4) := Lib.hid (by rw [hH3]; rfl)
  clear r4 hH3
  go_region
  generalize ((w7.setCell ⟨g4, 10, none⟩ (.int .u8 (marks.toNat : Int))).setCell ⟨g4, 11, none⟩ (.int .u8 (n : Int))).drew = w8 at HF5 ⊢
  replace HR4 := Lib.hid HF5.out.1
  replace HR2 := Lib.hid HF5.out.2.1
  replace HB := Lib.hid HF5.out.2.2
  clear HF5 x0 x1 x2 c10 c11 f10 f11 HH2 hH2l
  have x0 := HR2.out.cell (i := 0) rfl; have x1 := HR2.out.cell (i := 1) rfl; have x2 := HR2.out.cell (i := 2) rfl
  go_wp2_with fail
  go_still_tail 3, (by kernel_rfl)
  have HDD : Hid (Rest w.heap.size w8 data (.slice da n dc)) := Lib.hid (HD.out.stays HB.out)
  have hzk : Hid (zK 112 = zK n ++ zK (112 - n)) := Lib.hid (by unfold zK; rw [List.replicate_append_replicate]; congr 1; omega)
  have hnn := HN.out
  go_wp2_with (refine wpList_copy_far rfl (.tmp 31) (.tmp 33) 35 35 rfl 5 Try.underlying35 (by kernel_rfl) (some ⟨g4, 12, none⟩) da 112 116 n dc rfl rfl g4 12 (secA G z4 H3 (zK 112) G) 116 HR4.out data (by rw [← hnn]; exact (Nat.min_eq_left hd).symm) (fun h0 => ⟨rfl, by
    have h9 := copy_src (N := 0) (w := w8) (a := da) (xs := data) (n := n) (cap := dc) HDD.out n rfl (by rw [hnn, List.take_length, cellsOf_len]; exact h0)
    obtain ⟨ad, h10, h11⟩ := h9.2
    rw [hnn, List.take_length] at h11
    exact ⟨ad, h10, h11⟩⟩) (by rw [secA_len hGl.out rfl hH3l.out rfl hGl.out]; omega) (secA G z4 H3 (data ++ zK (112 - n)) G) (by rw [hzk.out]; exact secA_5 hGl.out rfl hH3l.out (by rw [← hnn]; simp [zK])) w.heap.size w (below_drew HB.out) hle4 ?_; intro w9 hrow hb hf; replace HR4 := hrow; replace HB := Lib.hid hb; clear hrow hb hf x0 x1 x2 HR2 HDD)
  have hdl : Hid ((data ++ zK (112 - n)).length = 112) := Lib.hid (by rw [List.length_append, ← hnn]; simp [zK]; omega)
  obtain ⟨L, hL⟩ : ∃ L, L = H3 ++ (data ++ zK (112 - n)) := ⟨_, rfl⟩
  have HL := Lib.hid hL
  have HLB : Hid (L = bodyP ⟨gen, marks, data⟩ k) := Lib.hid (by rw [hL, HH3.out]; unfold bodyP zK; rw [hnn])
  have HC2 : Hid (∀ W, Below w9.heap.size w9 W → Calls Try.prog 101 #[.slice (some ⟨g4, 8, none⟩) 116 120] W fun e w' => e = .returned (.int .u32 (crc L : Int)) ∧ w' = W) := Lib.hid (fun W hW => by
    have hr := row_restT (n := 128) (HR4.out.keep hW) (secA_len hGl.out rfl hH3l.out hdl.out hGl.out) (by omega)
    have hl := secA_len (c := z4) hGl.out rfl hH3l.out hdl.out hGl.out
    have h9 := rest_part (bs := secA G z4 H3 (data ++ zK (112 - n)) G) (b := g4) (off := 0) (cap := 128) (B := W.heap.size) (w := W) (by rw [hl]; exact hr) 8 116 120 (by rw [hl]; omega) (by omega) (by omega)
    rw [secA_body hGl.out rfl hH3l.out hdl.out, ← hL] at h9
    simpa using crc_call L _ _ W h9)
  clear hL
  obtain ⟨N, hN⟩ : ∃ N, N = crc L := ⟨_, rfl⟩
  rw [← hN] at HC2
  obtain ⟨D, hD⟩ : ∃ D, D = digs N := ⟨_, rfl⟩
  have hDl : Hid (D.length = 4) := Lib.hid (by rw [hD]; rfl)
  have HC3 : Hid (∀ W, Calls Try.prog 100 #[.int .u32 (N : Int)] W fun e w' => e = .returned (.agg (cellsOf D).toArray) ∧ Below W.heap.size W w') := Lib.hid (fun W => by rw [hD]; exact digits_call N (by rw [hN]; exact crc_lt _) W)
  have HE : Hid (secA G D H3 (data ++ zK (112 - n)) G = secP ⟨gen, marks, data⟩ k) := Lib.hid (by
    rw [HG.out, hD, hN]
    unfold secA secP
    rw [← HLB.out, HL.out]
    simp)
  have HNN := Lib.hid hnn
  have HF4 : Hid (∀ c, c.length = 4 → (secA G c H3 (data ++ zK (112 - n)) G).length = 128) := Lib.hid (fun c hc => secA_len hGl.out hc hH3l.out hdl.out hGl.out)
  clear hN hD hnn HC1
  refine (HC2.out _ (Below.refl _ _)).mono ?_
  rintro e w10 ⟨rfl, rfl⟩
  go_wp2_with (first
    | (go_at_call 100; refine (HC3.out _).mono ?_; rintro e w11 ⟨rfl, hb⟩; replace HR4 := Lib.hid (HR4.out.keep hb); replace HB := Lib.hid (below_next HB.out hb); clear hb)
    | (refine wpList_alloc_u rfl 6 rfl rfl (cellsOf z4) HZ4.out ?_; intro g6 w12 hg6 hrow hb; have HR6 := Lib.hid hrow; have hne6 : g6 ≠ g4 := (by have := HR4.out.lt; omega); have hle6 : g4 < g6 := (by have := HR4.out.lt; omega); replace HR4 := Lib.hid (HR4.out.keep hb); replace HB := Lib.hid (below_next HB.out hb); clear hb hrow hg6)
    | (refine wpList_store_ag rfl 44 (.tmp 6) (.tmp 37) rfl g6 (cellsOf D) (cellsOf z4) (by rw [cellsOf_len, hDl.out]; exact bsize44) (by rw [cellsOf_len, cellsOf_len, hDl.out]; rfl) rfl rfl HR6.out (cellsOf_all D) (Below.refl g6 w12) (Nat.le_refl _) ?_; intro w13 hrow hb hf; replace HR6 := Lib.hid hrow; replace HR4 := Lib.hid (hf _ _ _ (Ne.symm hne6) HR4.out); replace HB := Lib.hid (HB.out.trans (hb.mono (by omega))); clear hrow hb hf))
  go_still_tail 2, (by kernel_rfl)
  go_wp2_with (first
    | (refine wpList_copy_far rfl (.tmp 38) (.tmp 39) 35 35 rfl 5 Try.underlying35 (by kernel_rfl) (some ⟨g4, 4, none⟩) (some ⟨g6, 0, none⟩) 124 124 4 4 rfl rfl g4 4 (secA G z4 H3 (data ++ zK (112 - n)) G) 116 HR4.out D (by rw [hDl.out]; rfl) (fun _ => ⟨rfl, row_src (w := w13) HR6.out⟩) (by rw [hDl.out, HF4.out z4 rfl]; exact (by decide)) (secP ⟨gen, marks, data⟩ k) ((secA_6 hGl.out rfl hDl.out).trans HE.out) w.heap.size w (below_drew HB.out) hle4 ?_; intro w14 hrow hb hf; replace HR4 := hrow; replace HB := Lib.hid hb; clear hrow hb hf HR6)
    | (refine wpList_load_row rfl 116 (.tmp 4) rfl g4 rfl 116 (cellsOf (secP ⟨gen, marks, data⟩ k)).toArray (0, 0) _ HR4.out Try.underlying116 rfl (by rw [List.size_toArray, cellsOf_len, ← HE.out, HF4.out D hDl.out]; exact size116) ?_)
    | (refine wpList_store_row rfl 116 (.tmp 4) (.tmp 41) rfl g4 (cellsOf (secP ⟨gen, marks, data⟩ k)).toArray rfl rfl 116 (cellsOf (secP ⟨gen, marks, data⟩ k)).toArray HR4.out (by rw [List.size_toArray, cellsOf_len, ← HE.out, HF4.out D hDl.out]; exact size116) rfl (cellsOf_one _) ?_))
  exact bodyPost_ret (results_cell_row rfl _ _ g4 116 (cellsOf (secP ⟨gen, marks, data⟩ k)).toArray (0, 0) _ rfl (HR4.out.setRow _) Try.underlying116 rfl (by rw [List.size_toArray, cellsOf_len, ← HE.out, HF4.out D hDl.out]; exact size116)) rfl ⟨rfl, below_setRow HB.out _ _ hle4⟩
end Go.Proofs.Ytlaaolbdadempaa

/- Marks of pieces; equal bytes; how many sectors a record has: the program's functions. -/
namespace Go.Proofs.Ytlaaolbdadempaa
open Go.RowKit

theorem and_1 (m : UInt8) : bits .and .u8 (m.toNat : Int) 1 = ((m.toNat % 2 : Nat) : Int) := by
  have := u8_and_nat m.toNat 1 (by have := m.toNat_lt; omega) (by omega); rw [nat_mask1] at this; exact this
set_option maxRecDepth 100000 in
theorem and_2 (m : UInt8) : bits .and .u8 (m.toNat : Int) 2 = ((m.toNat / 2 % 2 * 2 : Nat) : Int) := by
  have h := u8_and_nat m.toNat 2 (by have := m.toNat_lt; omega) (by omega)
  have e : m.toNat &&& 2 = m.toNat / 2 % 2 * 2 := by
    have : ∀ n, n < 256 → n &&& 2 = n / 2 % 2 * 2 := by decide
    exact this _ m.toNat_lt
  rw [e] at h; exact h
set_option maxHeartbeats 1000000 in
set_option maxRecDepth 100000 in
theorem begins_call (p : Pce) (v : Value) (w : World) : Calls Try.prog 95 #[pv p.gen p.marks v] w fun e w' => e = .returned (.bool (begB p)) ∧ Below w.heap.size w w' := by
  have h := and_1 p.marks
  unfold pv begB
  generalize p.marks = m at *
  rcases (show m.toNat % 2 = 0 ∨ m.toNat % 2 = 1 by omega) with h0 | h0
  all_goals
    rw [h0] at h
    have H0 := Lib.hid h0
    clear h0
    go_enter Try.func95, Try.ntmps95
    go_wp2_with fail
    go_ret
    exact ⟨ret_bool (by rw [H0.out]; rfl), Joins.below_alloc1 w _⟩
set_option maxHeartbeats 1000000 in
set_option maxRecDepth 100000 in
theorem ends_call (p : Pce) (v : Value) (w : World) : Calls Try.prog 97 #[pv p.gen p.marks v] w fun e w' => e = .returned (.bool (endB p)) ∧ Below w.heap.size w w' := by
  have h := and_2 p.marks
  unfold pv endB
  generalize p.marks = m at *
  rcases (show m.toNat / 2 % 2 = 0 ∨ m.toNat / 2 % 2 = 1 by omega) with h0 | h0
  all_goals
    rw [h0] at h
    have H0 := Lib.hid h0
    clear h0
    go_enter Try.func97, Try.ntmps97
    go_wp2_with fail
    go_ret
    exact ⟨ret_bool (by rw [H0.out]; rfl), Joins.below_alloc1 w _⟩
theorem str_eq (a b : List UInt8) : ((⟨a.toArray⟩ : ByteArray).toList == (⟨b.toArray⟩ : ByteArray).toList) = decide (a = b) := by
  rw [Lib.toList_data, Lib.toList_data, Bool.eq_iff_iff]; simp
set_option maxHeartbeats 1000000 in
set_option maxRecDepth 100000 in
theorem equal_call (xs ys : List UInt8) (v u : Value) (w : World) (h : Rest w.heap.size w xs v) (h2 : Rest w.heap.size w ys u) : Calls Try.prog 86 #[v, u] w fun e w' => e = .returned (.bool (decide (xs = ys))) ∧ w' = w := by
  obtain ⟨a, c, rfl, _, _⟩ := h.shape
  obtain ⟨a', c', rfl, _, _⟩ := h2.shape
  have k1 := conv_rest h
  have k2 := conv_rest h2
  have HE : Hid (((ByteArray.mk xs.toArray).toList == (ByteArray.mk ys.toArray).toList) = decide (xs = ys)) := Lib.hid (str_eq xs ys)
  clear h h2
  generalize ByteArray.mk xs.toArray = A at *
  generalize ByteArray.mk ys.toArray = B at *
  generalize xs.length = n at *
  generalize ys.length = n' at *
  go_enter Try.func86, Try.ntmps86
  go_wp2_with fail
  go_ret
  exact ⟨ret_bool (by rw [← HE.out]), rfl⟩
set_option maxHeartbeats 1000000 in
set_option maxRecDepth 100000 in
theorem sectorsOf_call (n : Nat) (hn : n ≤ 1000000000000) (a : Option Addr) (c : Nat) (w : World) : Calls Try.prog 62 #[.slice a n c] w fun e w' => e = .returned (.int .i64 (secsOf n : Int)) ∧ w' = w := by
  unfold secsOf
  have hw : IntKind.i64.wrap ((n : Int) + 112) = (n : Int) + 112 := by rw [IntKind.wrap_i64]; omega
  go_enter Try.func62, Try.ntmps62
  go_wp2_with fail
  all_goals
    go_ret
    exact ⟨ret_int (by omega), rfl⟩
theorem secsOf_pos (n : Nat) : 1 ≤ secsOf n := by unfold secsOf; omega
set_option maxHeartbeats 8000000 in
set_option maxRecDepth 100000 in
theorem fits_call (p : Pce) (a : Option Addr) (c : Nat) (w : World) (hl : p.data.length ≤ 1000000) : Calls Try.prog 102 #[pv p.gen p.marks (.slice a p.data.length c)] w fun e w' => e = .returned (.bool (fitB p)) ∧ Below w.heap.size w w' := by
  have HC1 : Hid (∀ W, Calls Try.prog 97 #[pv p.gen p.marks (.slice a p.data.length c)] W fun e w' => e = .returned (.bool (endB p)) ∧ Below W.heap.size W w') := Lib.hid (fun W => ends_call p _ W)
  have HC2 : Hid (∀ W, Calls Try.prog 95 #[pv p.gen p.marks (.slice a p.data.length c)] W fun e w' => e = .returned (.bool (begB p)) ∧ Below W.heap.size W w') := Lib.hid (fun W => begins_call p _ W)
  have HR := Lib.hid (row_new w 115 [.int .u32 (p.gen : Int), .int .u8 (p.marks.toNat : Int), .slice a p.data.length c])
  have HV : Hid (fitB p = (decide (p.gen ≠ 0) && decide (p.marks.toNat ≤ 3) && (endB p || decide (p.data.length = 112)) && (begB p || decide (0 < p.data.length)))) := Lib.hid rfl
  unfold pv at *
  generalize fitB p = r at *
  generalize begB p = b1 at *
  generalize endB p = b2 at *
  generalize p.data.length = n at *
  generalize p.marks = m at *
  generalize p.gen = g at *
  have HB := Lib.hid (Joins.below_alloc1 w (.cells #[.int .u32 (g : Int), .int .u8 (m.toNat : Int), .slice a n c] 115))
  have hgi : ((g : Int) = 0) = (g = 0) := by simp; try omega
  by_cases hg : g = 0
  · obtain rfl : r = false := by rw [HV.out]; simp [hg]
    subst hg
    go_enter Try.func102, Try.ntmps102
    go_wp2_with fail
    go_ret
    exact ⟨rfl, HB.out⟩
  · by_cases hm : m.toNat ≤ 3
    · have hmi : (m.toNat : Int) ≤ 3 := by omega
      have hg2 : ¬ ((g : Int) = 0) := by omega
      have HG : Hid (¬ g = 0) := hg
      have HM : Hid (m.toNat ≤ 3) := hm
      clear hg hm hgi
      rcases (show (n = 112) ∨ (0 < n ∧ n ≠ 112) ∨ n = 0 by omega) with h1 | ⟨h1, h2⟩ | h1
      · have hn1 : (n : Int) = 112 := by omega
        have HN : Hid (n = 112) := h1
        clear h1
        cases b2 <;> cases b1
        all_goals
          go_enter Try.func102, Try.ntmps102
          go_wp2_with (first
            | (go_at_call 97; refine (HC1.out _).mono ?_; rintro e w2 ⟨rfl, hb⟩; have d0 := HR.out.later hb (i := 0) rfl; have d1 := HR.out.later hb (i := 1) rfl; have d2 := HR.out.later hb (i := 2) rfl; have HB := Lib.hid (below_next HB.out hb); have HR := Lib.hid (HR.out.keep hb); clear hb)
            | (go_at_call 95; refine (HC2.out _).mono ?_; rintro e w3 ⟨rfl, hb⟩; have e2 := HR.out.later hb (i := 2) rfl; have HB := Lib.hid (below_next HB.out hb); clear hb))
          go_ret
          exact ⟨ret_bool (by rw [HV.out]; simp [HG.out, HM.out, HN.out]), HB.out⟩
      · have hn1 : ¬ (n : Int) = 112 := by omega
        have hn2 : (0 : Int) < (n : Int) := by omega
        have HN : Hid (¬ n = 112) := h2
        have HN2 : Hid (0 < n) := h1
        clear h1 h2
        cases b2 <;> cases b1
        all_goals
          go_enter Try.func102, Try.ntmps102
          go_wp2_with (first
            | (go_at_call 97; refine (HC1.out _).mono ?_; rintro e w2 ⟨rfl, hb⟩; have d0 := HR.out.later hb (i := 0) rfl; have d1 := HR.out.later hb (i := 1) rfl; have d2 := HR.out.later hb (i := 2) rfl; have HB := Lib.hid (below_next HB.out hb); have HR := Lib.hid (HR.out.keep hb); clear hb)
            | (go_at_call 95; refine (HC2.out _).mono ?_; rintro e w3 ⟨rfl, hb⟩; have e2 := HR.out.later hb (i := 2) rfl; have HB := Lib.hid (below_next HB.out hb); clear hb))
          go_ret
          exact ⟨ret_bool (by rw [HV.out]; simp [HG.out, HM.out, HN.out, HN2.out]), HB.out⟩
      · have hn1 : ¬ (n : Int) = 112 := by omega
        have hn2 : (n : Int) = 0 := by omega
        have HN : Hid (n = 0) := h1
        clear h1
        cases b2 <;> cases b1
        all_goals
          go_enter Try.func102, Try.ntmps102
          go_wp2_with (first
            | (go_at_call 97; refine (HC1.out _).mono ?_; rintro e w2 ⟨rfl, hb⟩; have d0 := HR.out.later hb (i := 0) rfl; have d1 := HR.out.later hb (i := 1) rfl; have d2 := HR.out.later hb (i := 2) rfl; have HB := Lib.hid (below_next HB.out hb); have HR := Lib.hid (HR.out.keep hb); clear hb)
            | (go_at_call 95; refine (HC2.out _).mono ?_; rintro e w3 ⟨rfl, hb⟩; have e2 := HR.out.later hb (i := 2) rfl; have HB := Lib.hid (below_next HB.out hb); clear hb))
          go_ret
          exact ⟨ret_bool (by rw [HV.out]; simp [HG.out, HM.out, HN.out]), HB.out⟩
    · obtain rfl : r = false := by rw [HV.out]; simp [hm]
      have hmi : ¬ ((m.toNat : Int) ≤ 3) := by omega
      go_enter Try.func102, Try.ntmps102
      go_wp2_with fail
      go_ret
      exact ⟨rfl, HB.out⟩
end Go.Proofs.Ytlaaolbdadempaa

/- What records occupy; journals in memory; the test of a disk that is read. -/
namespace Go.Proofs.Ytlaaolbdadempaa
open Go.RowKit

set_option maxHeartbeats 2000000 in
set_option maxRecDepth 100000 in
theorem continues_call (p q : Pce) (v u : Value) (w : World) (hg1 : p.gen < 4294967296) : Calls Try.prog 96 #[pv p.gen p.marks v, pv q.gen q.marks u] w fun e w' => e = .returned (.bool (conB p q)) ∧ Below w.heap.size w w' := by
  have HC1 : Hid (∀ W, Calls Try.prog 97 #[pv q.gen q.marks u] W fun e w' => e = .returned (.bool (endB q)) ∧ Below W.heap.size W w') := Lib.hid (fun W => ends_call q _ W)
  have HC2 : Hid (∀ W, Calls Try.prog 95 #[pv p.gen p.marks v] W fun e w' => e = .returned (.bool (begB p)) ∧ Below W.heap.size W w') := Lib.hid (fun W => begins_call p _ W)
  have HV : Hid (conB p q = (decide (p.gen = q.gen) && !endB q && !begB p)) := Lib.hid rfl
  unfold pv at *
  generalize conB p q = r at *
  generalize begB p = b1 at *
  generalize endB q = b2 at *
  generalize p.marks = m at *
  generalize p.gen = g at *
  generalize q.marks = m' at *
  generalize q.gen = g' at *
  have HR := Lib.hid ((row_new w 115 [.int .u32 (g : Int), .int .u8 (m.toNat : Int), v]).keep (Joins.below_alloc1 _ (.cells #[.int .u32 (g' : Int), .int .u8 (m'.toNat : Int), u] 115)))
  have HB := Lib.hid (below_two w (.cells #[.int .u32 (g : Int), .int .u8 (m.toNat : Int), v] 115) (.cells #[.int .u32 (g' : Int), .int .u8 (m'.toNat : Int), u] 115))
  by_cases hg : g = g'
  · subst hg
    cases b2 <;> cases b1
    all_goals
      go_enter Try.func96, Try.ntmps96
      go_wp2_with (first
        | (go_at_call 97; refine (HC1.out _).mono ?_; rintro e w2 ⟨rfl, hb⟩; have d0 := HR.out.later hb (i := 0) rfl; have d1 := HR.out.later hb (i := 1) rfl; have d2 := HR.out.later hb (i := 2) rfl; have HB := Lib.hid (below_next HB.out hb); clear hb)
        | (go_at_call 95; refine (HC2.out _).mono ?_; rintro e w3 ⟨rfl, hb⟩; have HB := Lib.hid (below_next HB.out hb); clear hb))
      go_ret
      exact ⟨ret_bool (by rw [HV.out]; simp), HB.out⟩
  · have hgi : ¬ (g : Int) = (g' : Int) := by omega
    obtain rfl : r = false := by rw [HV.out]; simp [hg]
    clear hg
    go_enter Try.func96, Try.ntmps96
    go_wp2_with fail
    go_ret
    exact ⟨rfl, HB.out⟩

theorem usedL_snoc {l : List (List UInt8)} {k : Nat} {x} (h : l[k]? = some x) : usedL (l.take (k + 1)) = usedL (l.take k) + secsOf x.length := by
  obtain ⟨h1, h2⟩ := List.getElem?_eq_some_iff.1 h
  unfold usedL
  rw [List.take_succ_eq_append_getElem h1, List.map_append, List.sum_append, h2]; simp
theorem usedL_take (l : List (List UInt8)) (k : Nat) : usedL (l.take k) ≤ usedL l := by
  conv => rhs; rw [← List.take_append_drop k l]
  unfold usedL; rw [List.map_append, List.sum_append]; omega
def OcHead (l : List (List UInt8)) (w : World) (s2 s7 : Value) (wr : World) : Prop := ∃ k : Nat, k ≤ l.length ∧ s2 = .int .i64 (usedL (l.take k) : Int) ∧ s7 = .int .i64 (k : Int) ∧ wr = w
set_option maxHeartbeats 2000000 in
set_option maxRecDepth 100000 in
theorem occupied_call (l : List (List UInt8)) (v : Value) (w : World) (B : Nat) (h : NRest B w l v) (hu : usedL l ≤ 1000000000000) (hlen : ∀ x ∈ l, x.length ≤ 1000000000000) :
    Calls Try.prog 71 #[v] w fun e w' => e = .returned (.int .i64 (usedL l : Int)) ∧ w' = w := by
  have HV := Lib.hid h
  obtain ⟨a, cap, rfl, hc1, hc2⟩ := h.shape
  clear h
  obtain ⟨m, hm⟩ : ∃ m, m = l.length := ⟨_, rfl⟩
  rw [← hm] at HV hc2 ⊢
  have HM := Lib.hid hm
  have HU : Hid (∀ k, usedL (l.take k) ≤ 1000000000000) := Lib.hid (fun k => Nat.le_trans (usedL_take l k) hu)
  have HL := Lib.hid hlen
  clear hm hu hlen
  go_enter Try.func71, Try.ntmps71
  go_wp2_with fail
  go_loopw [2, 7] (fun s2 s7 wr => OcHead l w s2 s7 wr) (fun _ s7 _ => m - (intOf s7).toNat)
  case atStart => exact ⟨0, Nat.zero_le _, rfl, rfl, rfl⟩
  case round =>
    obtain ⟨k, hk, rfl, rfl, rfl⟩ := hrel
    rw [← HM.out] at hk
    rcases Nat.lt_or_ge k m with hlt | hge
    · obtain ⟨x, hx⟩ : ∃ x, l[k]? = some x := ⟨_, List.getElem?_eq_getElem (by rw [← HM.out]; exact hlt)⟩
      obtain ⟨b, off, u, rfl, hbl, hru, hcell⟩ := HV.out.at hx
      have hcu : wr.cell? ⟨b, off + k, none⟩ = some u := hcell wr (Below.refl _ _)
      obtain ⟨ua, uc, rfl, _, _⟩ := hru.shape
      have HS := Lib.hid (usedL_snoc hx)
      have hkm : (k : Int) < (m : Int) := by omega
      have hk0 : (0 : Int) ≤ (k : Int) := by omega
      have h1 := HU.out k
      have h2 := HU.out (k + 1)
      have HX : Hid (x.length ≤ 1000000000000) := Lib.hid (HL.out x (List.mem_of_getElem? hx))
      rw [HS.out] at h2
      generalize usedL (l.take k) = u1 at *
      generalize x.length = n at *
      generalize hsn : secsOf n = sn at *
      have hwr : IntKind.i64.wrap ((u1 : Int) + (sn : Int)) = (u1 : Int) + (sn : Int) := by rw [IntKind.wrap_i64]; omega
      have HC : Hid (∀ W, Calls Try.prog 62 #[.slice ua n uc] W fun e w' => e = .returned (.int .i64 (sn : Int)) ∧ w' = W) := Lib.hid (fun W => by rw [← hsn]; exact sectorsOf_call n HX.out ua uc W)
      clear hru hcell hx hsn h1 h2
      go_wp2_with (go_at_call 62; refine (HC.out _).mono ?_; rintro e w6 ⟨rfl, rfl⟩)
      exact ⟨⟨k + 1, by rw [← HM.out]; omega, by rw [HS.out]; simp, by go_num, rfl⟩, by simp [intOf]; omega⟩
    · obtain rfl : k = m := by omega
      go_wp2_with fail
      go_ret
      exact ⟨ret_int (by rw [HM.out, List.take_length]), rfl⟩
/-- the value of a journal -/
def jv (r : Value) (m s : Int) : Value := .agg #[r, .int .i64 m, .int .i64 s]
set_option maxHeartbeats 2000000 in
set_option maxRecDepth 100000 in
theorem free_call (j : Jnl) (v : Value) (w : World) (B : Nat) (h : NRest B w j.recs v) (hB : B ≤ w.heap.size) (hu : usedL j.recs ≤ 1000000000000) (hlen : ∀ x ∈ j.recs, x.length ≤ 1000000000000) (hm0 : -1000000000000 ≤ j.many) (hm1 : j.many ≤ 1000000000000) :
    Calls Try.prog 63 #[jv v j.many j.synced] w fun e w' => e = .returned (.int .i64 (j.many - usedL j.recs)) ∧ Below w.heap.size w w' := by
  have HC : Hid (∀ W, Below w.heap.size w W → Calls Try.prog 71 #[v] W fun e w' => e = .returned (.int .i64 (usedL j.recs : Int)) ∧ w' = W) := Lib.hid (fun W hW => occupied_call j.recs v W B (h.stays (hW.mono hB)) hu hlen)
  obtain ⟨a, cap, rfl, hc1, hc2⟩ := h.shape
  generalize usedL j.recs = u at *
  generalize j.recs.length = n at *
  have hwr : IntKind.i64.wrap (j.many - (u : Int)) = j.many - (u : Int) := by rw [IntKind.wrap_i64]; omega
  generalize j.many = m at *
  generalize j.synced = s at *
  unfold jv
  clear h hlen hB
  have HB := Lib.hid (Joins.below_alloc1 w (.cells #[.slice a n cap, .int .i64 m, .int .i64 s] 55))
  go_enter Try.func63, Try.ntmps63
  go_wp2_with fail
  go_region_law (go_simp; go_at_call 71; refine (HC.out _ (by first | exact HB.out | exact below_drew HB.out)).mono ?_; rintro e w6 ⟨rfl, rfl⟩)
  all_goals
    go_wp2_with fail
    go_ret
    exact ⟨rfl, below_drew HB.out⟩
set_option maxHeartbeats 1000000 in
set_option maxRecDepth 100000 in
theorem clip22_call (a : Option Addr) (n cap : Nat) (w : World) (h : n ≤ cap) (hc : cap ≤ 9223372036854775807) (h0 : a = none → n = 0 ∧ cap = 0) :
    Calls Try.prog 64 #[.slice a n cap] w fun e w' => e = .returned (.slice a n n) ∧ w' = w := by
  cases a with
  | none =>
    obtain ⟨rfl, rfl⟩ := h0 rfl
    go_enter Try.func64, Try.ntmps64
    go_wp2
    go_ret
    exact ⟨rfl, rfl⟩
  | some p =>
    have hi : (n : Int) ≤ (cap : Int) := by omega
    clear h0
    go_enter Try.func64, Try.ntmps64
    go_wp2
    go_ret
    exact ⟨rfl, rfl⟩
set_option maxHeartbeats 2000000 in
set_option maxRecDepth 100000 in
theorem checkDisk_call (d : Dsk) (s p : Value) (w : World) (h : DRest w.heap.size w d (dv s p d.left d.stop)) :
    Calls Try.prog 59 #[dv s p d.left d.stop] w fun e w' => e = .returned (.int .i64 (chkD d)) ∧ Below w.heap.size w w' := by
  have HC : Hid (∀ W, Below w.heap.size w W → Calls Try.prog 22 #[dv s p d.left d.stop] W fun e w' => e = .returned (.int .i64 (if validB d then 0 else 40)) ∧ Below W.heap.size W w') := Lib.hid (fun W hW => check_call d _ W (h.keep hW))
  obtain ⟨_, _, ⟨a, c, rfl⟩, ⟨a2, c2, rfl⟩⟩ := drest_left h
  clear h
  unfold chkD
  unfold dv at *
  obtain ⟨n, hn⟩ : ∃ n, n = d.pend.length := ⟨_, rfl⟩
  obtain ⟨r, hr⟩ : ∃ r, r = validB d := ⟨_, rfl⟩
  rw [← hr] at HC ⊢
  rw [← hn] at HC ⊢
  obtain ⟨b, hb⟩ : ∃ b, b = d.stop := ⟨_, rfl⟩
  rw [← hb] at HC ⊢
  clear hr hn hb
  generalize d.secs.length = m at *
  generalize d.left = l at *
  have HR := Lib.hid (row_new w 25 [.slice a m c, .slice a2 n c2, .int .i64 l, .bool b])
  have HB := Lib.hid (Joins.below_alloc1 w (.cells #[.slice a m c, .slice a2 n c2, .int .i64 l, .bool b] 25))
  cases r
  · go_enter Try.func59, Try.ntmps59
    go_wp2_with (go_at_call 22; refine (HC.out _ HB.out).mono ?_; rintro e w2 ⟨rfl, hb⟩; have HB := Lib.hid (below_next HB.out hb); clear hb)
    go_ret
    exact ⟨ret_int (by simp), HB.out⟩
  · cases b
    · rcases Nat.eq_zero_or_pos n with h0 | h0
      · have hi : ¬ (0 : Int) < (n : Int) := by omega
        have HN := Lib.hid h0
        clear h0
        go_enter Try.func59, Try.ntmps59
        go_wp2_with (go_at_call 22; refine (HC.out _ HB.out).mono ?_; rintro e w2 ⟨rfl, hb⟩; have d1 := HR.out.later hb (i := 1) rfl; have d3 := HR.out.later hb (i := 3) rfl; have HB := Lib.hid (below_next HB.out hb); clear hb)
        go_ret
        exact ⟨ret_int (by first | rfl | simp [HN.out]), HB.out⟩
      · have hi : (0 : Int) < (n : Int) := by omega
        have HN := Lib.hid h0
        clear h0
        go_enter Try.func59, Try.ntmps59
        go_wp2_with (go_at_call 22; refine (HC.out _ HB.out).mono ?_; rintro e w2 ⟨rfl, hb⟩; have d1 := HR.out.later hb (i := 1) rfl; have d3 := HR.out.later hb (i := 3) rfl; have HB := Lib.hid (below_next HB.out hb); clear hb)
        go_ret
        exact ⟨ret_int (by simp [HN.out]), HB.out⟩
    · go_enter Try.func59, Try.ntmps59
      go_wp2_with (go_at_call 22; refine (HC.out _ HB.out).mono ?_; rintro e w2 ⟨rfl, hb⟩; have d1 := HR.out.later hb (i := 1) rfl; have d3 := HR.out.later hb (i := 3) rfl; have HB := Lib.hid (below_next HB.out hb); clear hb)
      go_ret
      exact ⟨ret_int (by simp), HB.out⟩
end Go.Proofs.Ytlaaolbdadempaa

/- Check and Room: the program's functions. -/
namespace Go.Proofs.Ytlaaolbdadempaa
open Go.RowKit

/-- a journal whose records are not too many and not too long to be reckoned -/
structure Mild (j : Jnl) : Prop where
  used : usedL j.recs ≤ 1000000000000
  len : ∀ x ∈ j.recs, x.length ≤ 1000000000000
set_option maxHeartbeats 2000000 in
set_option maxRecDepth 100000 in
theorem jcheck_call (j : Jnl) (v : Value) (w : World) (B : Nat) (h : NRest B w j.recs v) (hB : B ≤ w.heap.size) (hj : Mild j) :
    Calls Try.prog 43 #[jv v j.many j.synced] w fun e w' => e = .returned (.int .i64 (if jokB j then 0 else 1)) ∧ Below w.heap.size w w' := by
  have HC : Hid (1 ≤ j.many → j.many ≤ 4096 → ∀ W, Below w.heap.size w W → Calls Try.prog 63 #[jv v j.many j.synced] W fun e w' => e = .returned (.int .i64 (j.many - usedL j.recs)) ∧ Below W.heap.size W w') := Lib.hid (fun h1 h2 W hW => free_call j v W B (h.stays (hW.mono hB)) (by have := hW.size; omega) hj.used hj.len (by omega) (by omega))
  obtain ⟨a, cap, rfl, hc1, hc2⟩ := h.shape
  have HV : Hid (jokB j = decide (1 ≤ j.many ∧ j.many ≤ 4096 ∧ 0 ≤ j.synced ∧ j.synced ≤ (j.recs.length : Int) ∧ (usedL j.recs : Int) ≤ j.many)) := Lib.hid rfl
  generalize jokB j = r at *
  clear h hj hB
  unfold jv at *
  generalize usedL j.recs = u at *
  generalize j.recs.length = n at *
  generalize j.many = m at *
  generalize j.synced = s at *
  have HR := Lib.hid (row_new w 55 [.slice a n cap, .int .i64 m, .int .i64 s])
  have HB := Lib.hid (Joins.below_alloc1 w (.cells #[.slice a n cap, .int .i64 m, .int .i64 s] 55))
  by_cases h1 : m < 1
  · obtain rfl : r = false := by rw [HV.out]; simp; omega
    go_enter Try.func43, Try.ntmps43
    go_wp2_with fail
    go_ret
    exact ⟨ret_int (by simp), HB.out⟩
  by_cases h2 : 4096 < m
  · obtain rfl : r = false := by rw [HV.out]; simp; omega
    go_enter Try.func43, Try.ntmps43
    go_wp2_with fail
    go_ret
    exact ⟨ret_int (by simp), HB.out⟩
  by_cases h3 : s < 0
  · obtain rfl : r = false := by rw [HV.out]; simp; omega
    go_enter Try.func43, Try.ntmps43
    go_wp2_with fail
    go_ret
    exact ⟨ret_int (by simp), HB.out⟩
  by_cases h4 : (n : Int) < s
  · obtain rfl : r = false := by rw [HV.out]; simp; omega
    go_enter Try.func43, Try.ntmps43
    go_wp2_with fail
    go_ret
    exact ⟨ret_int (by simp), HB.out⟩
  have HC2 := Lib.hid (HC.out (by omega) (by omega))
  by_cases h5 : m - (u : Int) < 0
  · obtain rfl : r = false := by rw [HV.out]; simp; omega
    go_enter Try.func43, Try.ntmps43
    go_wp2_with (go_at_call 63; refine (HC2.out _ HB.out).mono ?_; rintro e w2 ⟨rfl, hb⟩; have HB := Lib.hid (below_next HB.out hb); clear hb)
    go_ret
    exact ⟨ret_int (by simp), HB.out⟩
  · obtain rfl : r = true := by rw [HV.out]; simp; omega
    go_enter Try.func43, Try.ntmps43
    go_wp2_with (go_at_call 63; refine (HC2.out _ HB.out).mono ?_; rintro e w2 ⟨rfl, hb⟩; have HB := Lib.hid (below_next HB.out hb); clear hb)
    go_ret
    exact ⟨ret_int (by simp), HB.out⟩
set_option maxHeartbeats 2000000 in
set_option maxRecDepth 100000 in
theorem room_call (j : Jnl) (v : Value) (w : World) (h : NRest w.heap.size w j.recs v) (hj : Mild j) :
    Calls Try.prog 45 #[jv v j.many j.synced] w fun e w' => e = .returned (.int .i64 (roomJ j)) ∧ Below w.heap.size w w' := by
  have HC1 : Hid (∀ W, Below w.heap.size w W → Calls Try.prog 43 #[jv v j.many j.synced] W fun e w' => e = .returned (.int .i64 (if jokB j then 0 else 1)) ∧ Below W.heap.size W w') := Lib.hid (fun W hW => jcheck_call j v W _ (h.stays hW) hW.size hj)
  have HC : Hid (jokB j = true → ∀ W, Below w.heap.size w W → Calls Try.prog 63 #[jv v j.many j.synced] W fun e w' => e = .returned (.int .i64 (j.many - usedL j.recs)) ∧ Below W.heap.size W w') := Lib.hid (fun h1 W hW => by
    have h2 : 1 ≤ j.many ∧ j.many ≤ 4096 := by unfold jokB at h1; simp at h1; omega
    exact free_call j v W _ (h.stays hW) hW.size hj.used hj.len (by omega) (by omega))
  obtain ⟨a, cap, rfl, hc1, hc2⟩ := h.shape
  have HV : Hid (roomJ j = if jokB j then 112 * (j.many - usedL j.recs) else 0) := Lib.hid rfl
  have hwr : jokB j = true → IntKind.i64.wrap (112 * (j.many - (usedL j.recs : Int))) = 112 * (j.many - (usedL j.recs : Int)) := fun h1 => by
    have h2 : 1 ≤ j.many ∧ j.many ≤ 4096 := by unfold jokB at h1; simp at h1; omega
    have h3 := hj.used
    rw [IntKind.wrap_i64]; omega
  generalize roomJ j = z at *
  generalize jokB j = r at *
  clear h hj
  unfold jv at *
  generalize usedL j.recs = u at *
  generalize j.recs.length = n at *
  generalize j.many = m at *
  generalize j.synced = s at *
  have HR := Lib.hid (row_new w 55 [.slice a n cap, .int .i64 m, .int .i64 s])
  have HB := Lib.hid (Joins.below_alloc1 w (.cells #[.slice a n cap, .int .i64 m, .int .i64 s] 55))
  cases r
  · clear hwr
    go_enter Try.func45, Try.ntmps45
    go_wp2_with (first
      | (go_at_call 43; refine (HC1.out _ HB.out).mono ?_; rintro e w2 ⟨rfl, hb⟩; have HB := Lib.hid (below_next HB.out hb); clear hb))
    go_ret
    exact ⟨ret_int (by rw [HV.out]; simp), HB.out⟩
  · have hwr2 := hwr rfl
    have HC2 := Lib.hid (HC.out rfl)
    clear hwr
    go_enter Try.func45, Try.ntmps45
    go_wp2_with (first
      | (go_at_call 43; refine (HC1.out _ HB.out).mono ?_; rintro e w2 ⟨rfl, hb⟩; have d0 := HR.out.later hb (i := 0) rfl; have d1 := HR.out.later hb (i := 1) rfl; have d2 := HR.out.later hb (i := 2) rfl; have HB := Lib.hid (below_next HB.out hb); clear hb)
      | (go_at_call 63; refine (HC2.out _ HB.out).mono ?_; rintro e w2 ⟨rfl, hb⟩; have HB := Lib.hid (below_next HB.out hb); clear hb))
    go_ret
    exact ⟨ret_int (by rw [HV.out]; simp), HB.out⟩
end Go.Proofs.Ytlaaolbdadempaa
