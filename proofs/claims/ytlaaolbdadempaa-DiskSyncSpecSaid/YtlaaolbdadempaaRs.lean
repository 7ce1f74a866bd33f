/- The reference's Sync: plain data, and what it holds while it works. -/
import Derived.Test.YtlaaolbdadempaaMa
import Derived.Deep.AppendLies
import Derived.Deep.RegionHeld3
import Derived.StillTailTactics
import Derived.Deep.DeepCutAuto
namespace Go.Proofs.Ytlaaolbdadempaa
open Go.RowKit

theorem put1_set {s : List (List UInt8)} {p : Int × List UInt8} (hs : ∀ x ∈ s, x.length = 128) (hp : hasB s.length p.1 = true) (hl : p.2.length = 128) : put1 s p = s.set p.1.toNat p.2 := by
  have h2 : 0 ≤ p.1 ∧ p.1 < (s.length : Int) := by unfold hasB at hp; simpa using hp
  unfold put1
  have hx : (s.getD p.1.toNat []).length = 128 := by
    have : p.1.toNat < s.length := by omega
    rw [show s.getD p.1.toNat [] = s[p.1.toNat] by simp [List.getD, this]]
    exact hs _ (List.getElem_mem _)
  rw [sectorL_top hx hl]
theorem halt_secs {d : Dsk} {k : Nat} {q : Int × List UInt8} (h : Runs d) (hq : d.pend[k]? = some q) : (haltD d k q).secs = (performL d.secs (d.pend.take k)).set q.1.toNat (q.2.take 64 ++ ((performL d.secs (d.pend.take k)).getD q.1.toNat []).drop 64) := by
  have hm := h.pend q (List.mem_of_getElem? hq)
  have h2 : 0 ≤ q.1 ∧ q.1 < (d.secs.length : Int) := by have := hm.1; unfold hasB at this; simpa using this
  show performL d.secs (haltL d k q) = _
  unfold haltL performL
  rw [List.foldl_append, List.foldl_cons, List.foldl_nil]
  show put1 (performL d.secs (d.pend.take k)) (torn q) = _
  unfold put1 torn
  simp only
  have hx : ((performL d.secs (d.pend.take k)).getD q.1.toNat []).length = 128 := by
    have : q.1.toNat < (performL d.secs (d.pend.take k)).length := by rw [performL_len]; omega
    rw [show (performL d.secs (d.pend.take k)).getD q.1.toNat [] = (performL d.secs (d.pend.take k))[q.1.toNat] by simp [List.getD, this]]
    exact performL_secs h.secs _ (List.getElem_mem _)
  rw [sectorL_half hx (by rw [List.length_take]; omega), List.length_take, hm.2]; rfl
/-- the blocks in which sectors may lie while x is made: not its list, not its box, not the result -/
def Free3 (a b c : Nat) : Nat → Prop := fun i => i ≠ a ∧ i ≠ b ∧ i ≠ c
/-- x, while it is made -/
def RsX (w : World) (box : List Value) (xs : List (List UInt8)) (left : Int) (stop : Bool) (g gs cap : Nat) (wx : World) : Prop :=
  ∃ vs, w.heap.size + 2 ≤ g ∧ w.heap.size + 2 ≤ gs ∧ g ≠ gs ∧ cap ≤ maxLen ∧ Row wx g 25 [.slice (some ⟨gs, 0, none⟩) xs.length cap, .slice none 0 0, .int .i64 left, .bool stop] ∧
    Tab (Free3 gs g (w.heap.size + 1)) gs cap wx xs vs ∧ Row wx w.heap.size 25 box ∧ Row wx (w.heap.size + 1) 25 [.slice none 0 0, .slice none 0 0, .int .i64 0, .bool false] ∧ Below w.heap.size w wx
def RsCut (w : World) (box : List Value) (xs : List (List UInt8)) (left : Int) (s6 : Value) (wx : World) : Prop := ∃ g gs cap, s6 = .pointer (some ⟨g, 0, none⟩) ∧ RsX w box xs left false g gs cap wx
def RsLoop (w : World) (box : List Value) (d : Dsk) (left : Int) (m g gs cap : Nat) (s7 : Value) (wx : World) : Prop := ∃ k, k ≤ m ∧ s7 = .int .i64 (k : Int) ∧ RsX w box (performL d.secs (d.pend.take k)) left false g gs cap wx
theorem tab_own {S : Nat → Prop} {w : World} {base g n cap : Nat} {xs : List (List UInt8)} {vs : List Value} (h : w.ownsRow base 35 1 (.slice (some ⟨g, 0, none⟩) n cap) n vs) (hl : vs.length = xs.length)
    (hel : ∀ (i : Nat) x, xs[i]? = some x → ∃ u, vs[i]? = some u ∧ RestS S w x u) : Tab S g cap w xs vs ∧ cap ≤ maxLen ∧ base ≤ g := by
  rcases h.2 with ⟨he, _⟩ | ⟨g2, cap2, cur, he, hbg, hg, hnc, hcm, hcs, htake⟩
  · cases he
  · injection he with he1 he2 he3
    injection he1 with he1
    injection he1 with he1
    subst he1 he3
    have htk : cur.toList.take n = vs := by simpa using htake
    refine ⟨⟨⟨cur.toList.drop n, ?_, ?_⟩, hl, hel⟩, hcm, hbg⟩
    · show w.heap[g]? = some (.cells (vs ++ cur.toList.drop n).toArray 35 (0, 0))
      rw [← htk, List.take_append_drop]; simpa using hg
    · rw [← htk, List.take_append_drop]; simp; omega
theorem Tab.heap {S : Nat → Prop} {w w' : World} {g cap : Nat} {xs : List (List UInt8)} {vs : List Value} (h : Tab S g cap w xs vs) (hg : w'.heap[g]? = w.heap[g]?) (hk : KeepS S w w') : Tab S g cap w' xs vs := by
  obtain ⟨ex, h1, h2⟩ := h.row
  refine ⟨⟨ex, hg.trans h1, h2⟩, h.len, fun i x hi => ?_⟩
  obtain ⟨u, h3, h4⟩ := h.el i x hi
  exact ⟨u, h3, h4.keep hk⟩
/-- the list made, its box made behind it -/
theorem rs_new {w w4 : World} {box : List Value} {xs : List (List UInt8)} {left : Int} {gs n cap : Nat} {vs : List Value} (hown : w4.ownsRow (w.heap.size + 2) 35 1 (.slice (some ⟨gs, 0, none⟩) n cap) n vs) (hn : n = xs.length) (hl : vs.length = xs.length)
    (hel : ∀ (i : Nat) x, xs[i]? = some x → ∃ u, vs[i]? = some u ∧ Rest w.heap.size w x u) (hb : Below w.heap.size w w4) (h1 : Row w4 w.heap.size 25 box) (h2 : Row w4 (w.heap.size + 1) 25 [.slice none 0 0, .slice none 0 0, .int .i64 0, .bool false]) :
    RsCut w box xs left (.pointer (some ⟨w4.heap.size, 0, none⟩)) (w4.alloc (.cells #[.slice (some ⟨gs, 0, none⟩) n cap, .slice none 0 0, .int .i64 left, .bool false] 25)) := by
  subst hn
  have hlt := h2.lt
  have hgs := (hown.lt gs rfl).2
  obtain ⟨ht, hc, hg⟩ := tab_own (S := Free3 gs w4.heap.size (w.heap.size + 1)) (xs := xs) hown hl (fun i x hi => by
    obtain ⟨u, e1, e2⟩ := hel i x hi
    exact ⟨u, e1, (RestS.of (e2.stays hb)).weak (fun b hb1 _ => ⟨by have := (hown.lt gs rfl).1; omega, by omega, by omega⟩)⟩)
  exact ⟨_, _, _, rfl, vs, by omega, hg, by omega, hc, row_new _ _ _, ht.keep (Joins.below_alloc1 _ _), h1.keep (Joins.below_alloc1 _ _), h2.keep (Joins.below_alloc1 _ _), below_next hb (Joins.below_alloc1 _ _)⟩
/-- the same, where its box was there before -/
theorem rs_old {w w4 : World} {box : List Value} {xs : List (List UInt8)} {left : Int} {g gs n cap : Nat} {vs : List Value} (hown : w4.ownsRow (w.heap.size + 2) 35 1 (.slice (some ⟨gs, 0, none⟩) n cap) n vs) (hn : n = xs.length) (hl : vs.length = xs.length)
    (hel : ∀ (i : Nat) x, xs[i]? = some x → ∃ u, vs[i]? = some u ∧ Rest w.heap.size w x u) (hb : Below w.heap.size w w4) (h1 : Row w4 w.heap.size 25 box) (h2 : Row w4 (w.heap.size + 1) 25 [.slice none 0 0, .slice none 0 0, .int .i64 0, .bool false])
    (hbx : Row w4 g 25 [.slice none 0 0, .slice none 0 0, .int .i64 0, .bool false]) (hg : w.heap.size + 2 ≤ g) (hne : g ≠ gs) :
    RsCut w box xs left (.pointer (some ⟨g, 0, none⟩)) ((((w4.setCell ⟨g, 0, none⟩ (.slice (some ⟨gs, 0, none⟩) n cap)).setCell ⟨g, 1, none⟩ (.slice none 0 0)).setCell ⟨g, 2, none⟩ (.int .i64 left)).setCell ⟨g, 3, none⟩ (.bool false)) := by
  subst hn
  obtain ⟨ht, hc, hg2⟩ := tab_own (S := Free3 gs g (w.heap.size + 1)) (xs := xs) hown hl (fun i x hi => by
    obtain ⟨u, e1, e2⟩ := hel i x hi
    exact ⟨u, e1, (RestS.of (e2.stays hb)).weak (fun b hb1 _ => ⟨by have := (hown.lt gs rfl).1; omega, by omega, by omega⟩)⟩)
  have far : ∀ g', g' ≠ g → ((((w4.setCell ⟨g, 0, none⟩ (.slice (some ⟨gs, 0, none⟩) xs.length cap)).setCell ⟨g, 1, none⟩ (.slice none 0 0)).setCell ⟨g, 2, none⟩ (.int .i64 left)).setCell ⟨g, 3, none⟩ (.bool false)).heap[g']? = w4.heap[g']? := fun g' h => by
    rw [heap_setCell_other _ _ _ _ h, heap_setCell_other _ _ _ _ h, heap_setCell_other _ _ _ _ h, heap_setCell_other _ _ _ _ h]
  refine ⟨_, _, _, rfl, vs, hg, hg2, hne, hc, row_set4 hbx _ _ _ _, ht.heap (far _ (Ne.symm hne)) (.far g (fun h => h.2.1 rfl) far), (far _ (by omega)).trans h1, (far _ (by omega)).trans h2, below4 hb g _ _ _ _ (by omega)⟩
theorem own_apart {w : World} {base g g' n m c T : Nat} {xs cs : List Value} (h : w.ownsRow base 35 1 (.slice (some ⟨g, 0, none⟩) n c) m xs) (hr : Row w g' T cs) (hT : T ≠ 35) : g' ≠ g := fun e => own_ne h hr hT (by rw [e]; rfl)
theorem RsX.drewN {w wx : World} {box : List Value} {xs : List (List UInt8)} {left : Int} {stop : Bool} {g gs cap : Nat} (h : RsX w box xs left stop g gs cap wx) (q : Nat) : RsX w box xs left stop g gs cap (wx.drewN q) := by
  obtain ⟨vs, h1, h2, h3, h4, h5, h6, h7, h8, h9⟩ := h
  exact ⟨vs, h1, h2, h3, h4, h5, h6.heap rfl (fun _ _ _ => rfl), h7, h8, below_drewN h9 q⟩
theorem RsX.put {w wx : World} {box : List Value} {xs : List (List UInt8)} {left : Int} {stop : Bool} {g gs cap : Nat} (h : RsX w box xs left stop g gs cap wx) {i : Nat} (hi : i < xs.length) {y : List UInt8} {u : Value}
    (hu : RestS (Free3 gs g (w.heap.size + 1)) wx y u) : RsX w box (xs.set i y) left stop g gs cap (wx.setCell ⟨gs, i, none⟩ u) := by
  obtain ⟨vs, h1, h2, h3, h4, h5, h6, h7, h8, h9⟩ := h
  exact ⟨_, h1, h2, h3, h4, by rw [List.length_set]; exact h5.setFar i u h3, h6.set hi hu (fun h => h.1 rfl), h7.setFar i u (by omega), h8.setFar i u (by omega), below_setCell h9 gs i u (by omega)⟩
theorem RsX.low {w wx : World} {box : List Value} {xs : List (List UInt8)} {left : Int} {stop : Bool} {g gs cap : Nat} (h : RsX w box xs left stop g gs cap wx) {y : List UInt8} {u : Value} (hu : Rest w.heap.size w y u) : RestS (Free3 gs g (w.heap.size + 1)) wx y u := by
  obtain ⟨vs, h1, h2, h3, h4, h5, h6, h7, h8, h9⟩ := h
  exact (RestS.of (hu.stays h9)).weak (fun b hb _ => ⟨by omega, by omega, by omega⟩)
/-- a number in the box of x is written -/
theorem RsX.left' {w wx : World} {box : List Value} {xs : List (List UInt8)} {left : Int} {stop : Bool} {g gs cap : Nat} (h : RsX w box xs left stop g gs cap wx) (l : Int) : RsX w box xs l stop g gs cap (wx.setCell ⟨g, 2, none⟩ (.int .i64 l)) := by
  obtain ⟨vs, h1, h2, h3, h4, h5, h6, h7, h8, h9⟩ := h
  exact ⟨_, h1, h2, h3, h4, h5.set 2 _ rfl, h6.heap (heap_setCell_other _ _ _ _ (Ne.symm h3)) (.setCell _ g 2 _ (fun h => h.2.1 rfl)), h7.setFar 2 _ (by omega), h8.setFar 2 _ (by omega), below_setCell h9 g 2 _ (by omega)⟩
theorem RsX.stop' {w wx : World} {box : List Value} {xs : List (List UInt8)} {left : Int} {stop : Bool} {g gs cap : Nat} (h : RsX w box xs left stop g gs cap wx) (b : Bool) : RsX w box xs left b g gs cap (wx.setCell ⟨g, 3, none⟩ (.bool b)) := by
  obtain ⟨vs, h1, h2, h3, h4, h5, h6, h7, h8, h9⟩ := h
  exact ⟨_, h1, h2, h3, h4, h5.set 3 _ rfl, h6.heap (heap_setCell_other _ _ _ _ (Ne.symm h3)) (.setCell _ g 3 _ (fun h => h.2.1 rfl)), h7.setFar 3 _ (by omega), h8.setFar 3 _ (by omega), below_setCell h9 g 3 _ (by omega)⟩
/-- x is handed back -/
theorem RsX.done {w wx w9 : World} {box : List Value} {xs : List (List UInt8)} {left : Int} {stop : Bool} {g gs cap : Nat} {n : Nat} (h : RsX w box xs left stop g gs cap wx) (hn : n = xs.length) (hb : Below w.heap.size w w9) (hf : ∀ b, b ≠ w.heap.size + 1 → w9.heap[b]? = wx.heap[b]?) :
    DRest w9.heap.size w9 ⟨xs, [], left, stop⟩ (dv (.slice (some ⟨gs, 0, none⟩) n cap) (.slice none 0 0) left stop) := by
  subst hn
  obtain ⟨vs, h1, h2, h3, h4, h5, h6, h7, h8, h9⟩ := h
  have h10 := h6.heap (hf gs (by omega)) (.far (w.heap.size + 1) (fun h => h.2.2 rfl) hf)
  exact ⟨_, _, rfl, h10.nrest (S' := fun b => b < w9.heap.size) h4 h10.lt (fun b _ h => h), prest_nil _ _⟩
theorem RsX.drew1 {w wx : World} {box : List Value} {xs : List (List UInt8)} {left : Int} {stop : Bool} {g gs cap : Nat} (h : RsX w box xs left stop g gs cap wx) : RsX w box xs left stop g gs cap wx.drew := by
  obtain ⟨vs, h1, h2, h3, h4, h5, h6, h7, h8, h9⟩ := h
  exact ⟨vs, h1, h2, h3, h4, h5, h6.heap rfl (fun _ _ _ => rfl), h7, h8, below_drew h9⟩
theorem RestS.drew1 {S : Nat → Prop} {w : World} {y : List UInt8} {u : Value} (h : RestS S w y u) : RestS S w.drew y u := h.keep (fun _ _ _ => rfl)
theorem RsX.grow {w wx wy : World} {box : List Value} {xs : List (List UInt8)} {left : Int} {stop : Bool} {g gs cap : Nat} (h : RsX w box xs left stop g gs cap wx) (hb : Below wx.heap.size wx wy) : RsX w box xs left stop g gs cap wy := by
  obtain ⟨vs, h1, h2, h3, h4, h5, h6, h7, h8, h9⟩ := h
  exact ⟨vs, h1, h2, h3, h4, h5.keep hb, h6.keep hb, h7.keep hb, h8.keep hb, below_next h9 hb⟩
/-- all blocks but one are as they were -/
def SS (W8 : World) (gs : Nat) (W : World) : Prop := ∀ b, b < W8.heap.size → b ≠ gs → W.heap[b]? = W8.heap[b]?
theorem SS.cell {W8 W : World} {gs : Nat} (h : SS W8 gs W) {b o : Nat} (hb : b < W8.heap.size) (hg : b ≠ gs) : W.cell? ⟨b, o, none⟩ = W8.cell? ⟨b, o, none⟩ := by
  unfold World.cell?
  simp only
  rw [h b hb hg]
theorem SS.below {W8 W : World} {gs : Nat} (h : Below W8.heap.size W8 W) : SS W8 gs W := fun b hb _ => h.block b hb
theorem SS.put {W8 W : World} {gs i : Nat} {v : Value} (h : SS W8 gs W) : SS W8 gs (W.setCell ⟨gs, i, none⟩ v) := fun b hb hg => (heap_setCell_other W ⟨gs, i, none⟩ b v hg).trans (h b hb hg)
def RsEnd (w : World) (box : List Value) (xs : List (List UInt8)) (left : Int) (g gs cap : Nat) (wx : World) : Prop := RsX w box xs left false g gs cap wx
/-- the torn write is laid into the list -/
theorem rs_torn {w W8 w5 : World} {box : List Value} {xs : List (List UInt8)} {left : Int} {stop : Bool} {g gs cap g5 c5 i : Nat} {A B : List UInt8} (h : RsX w box xs left stop g gs cap W8) (hb : Below W8.heap.size W8 w5)
    (hown : w5.ownsRow W8.heap.size 5 1 (.slice (some ⟨g5, 0, none⟩) (64 + 64) c5) (64 + 64) (cellsOf A ++ cellsOf B)) (hA : A.length = 64) (hB : B.length = 64) (hi : i < xs.length) :
    RsX w box (xs.set i (A ++ B)) left stop g gs cap (w5.setCell ⟨gs, i, none⟩ (.slice (some ⟨g5, 0, none⟩) 128 c5)) := by
  have h5 := h.grow hb
  have hge := (hown.lt g5 rfl).1
  obtain ⟨vs, h1, h2, h3, h4, hr, ht, h7, h8, h9⟩ := h
  have e1 := ht.lt
  have e2 := hr.lt
  have e3 := h8.lt
  rw [← cellsOf_append] at hown
  exact h5.put hi (rests_of_owns (n := 128) hown (by rw [List.length_append, hA, hB]) ⟨by omega, by omega, by omega⟩)
end Go.Proofs.Ytlaaolbdadempaa
