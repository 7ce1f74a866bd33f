/- Syncing one by one and together: plain data. -/
import Derived.Test.YtlaaolbdadempaaAc
import Derived.Deep.RegionHeld3
import Derived.Deep.DeepCutAuto
namespace Go.Proofs.Ytlaaolbdadempaa
open Go.RowKit

def syncOf (secs : List (List UInt8)) (P : List (Int × List UInt8)) (L : Int) : Dsk × Int :=
  if L ≠ -1 ∧ L < (P.length : Int) then (⟨performL secs (P.take L.toNat ++ [torn (P.getD L.toNat (0, []))]), [], 0, true⟩, 40)
  else (⟨performL secs P, [], if L = -1 then -1 else L - P.length, false⟩, 0)
theorem syncD_of {d : Dsk} (h : Runs d) : syncD d = syncOf d.secs d.pend d.left := by
  unfold syncD syncOf
  rw [if_pos h.runs]; rfl
theorem syncOf_nil (secs : List (List UInt8)) (L : Int) (hL : -1 ≤ L) : syncOf secs [] L = (⟨secs, [], L, false⟩, 0) := by
  unfold syncOf
  rw [if_neg (by simp; omega)]
  simp only [List.length_nil, performL, List.foldl_nil]
  by_cases h : L = -1
  · rw [if_pos h, h]
  · rw [if_neg h]; simp
theorem syncOf_zero (secs : List (List UInt8)) (p : Int × List UInt8) (P : List (Int × List UInt8)) : syncOf secs (p :: P) 0 = syncOf secs [p] 0 := by
  unfold syncOf
  rw [if_pos (by simp), if_pos (by simp)]
  simp
theorem syncOf_one (secs : List (List UInt8)) (p : Int × List UInt8) (L : Int) (h0 : L ≠ 0) (hL : -1 ≤ L) : syncOf secs [p] L = (⟨performL secs [p], [], if L = -1 then -1 else L - 1, false⟩, 0) := by
  unfold syncOf
  rw [if_neg (by simp; omega)]
  simp
theorem syncOf_cons (secs : List (List UInt8)) (p : Int × List UInt8) (P : List (Int × List UInt8)) (L : Int) (h0 : L ≠ 0) (hL : -1 ≤ L) : syncOf secs (p :: P) L = syncOf (performL secs [p]) P (if L = -1 then -1 else L - 1) := by
  by_cases h1 : L = -1
  · subst h1
    unfold syncOf
    rw [if_neg (by simp), if_pos rfl, if_neg (by simp)]
    simp [performL]
  · rw [show (if L = -1 then (-1 : Int) else L - 1) = L - 1 from if_neg h1]
    unfold syncOf
    by_cases h2 : L < ((p :: P).length : Int)
    · have h3 : L - 1 < (P.length : Int) := by simp at h2; omega
      rw [if_pos ⟨h1, h2⟩, if_pos ⟨by omega, h3⟩]
      obtain ⟨k, rfl⟩ : ∃ k : Nat, L = (k + 1 : Nat) := ⟨L.toNat - 1, by omega⟩
      rw [show ((k + 1 : Nat) : Int) - 1 = (k : Int) by omega, Int.toNat_natCast, Int.toNat_natCast]
      simp [performL]
    · have h3 : ¬ L - 1 < (P.length : Int) := by simp at h2; omega
      rw [if_neg (by omega), if_neg (by omega), if_neg (by omega), if_neg (by omega)]
      simp [performL]; omega
/-- the writes of a script -/
def writesOf (n : Nat) (xs : List Act3) : List (Int × List UInt8) := xs.map fun a => (((a.at'.toNat % n : Nat) : Int), sectorL [[a.byte]])
theorem writesOf_len (n : Nat) (xs : List Act3) : (writesOf n xs).length = xs.length := by simp [writesOf]
theorem writesOf_get {n : Nat} {xs : List Act3} {i : Nat} {x : Act3} (h : xs[i]? = some x) : (writesOf n xs)[i]? = some (((x.at'.toNat % n : Nat) : Int), sectorL [[x.byte]]) := by simp [writesOf, h]
/-- one by one: where the first loop is -/
def Each (d : Dsk) (P : List (Int × List UInt8)) (i : Nat) (x : Dsk) (e : Int) : Prop :=
  (e = 0 ∧ Runs x ∧ x.pend = [] ∧ x.secs.length = d.secs.length ∧ syncOf d.secs P d.left = syncOf x.secs (P.drop i) x.left) ∨ (e = 40 ∧ syncOf d.secs P d.left = (x, 40))
theorem Each.start {d : Dsk} {P : List (Int × List UInt8)} (h : Runs d) (hp : d.pend = []) : Each d P 0 d 0 := .inl ⟨rfl, h, hp, rfl, by rw [List.drop_zero]⟩
theorem Each.stop {d : Dsk} {P : List (Int × List UInt8)} {x : Dsk} {e : Int} {i : Nat} (h : Each d P i x e) (hi : e = 40 ∨ i = P.length) : syncOf d.secs P d.left = (x, e) := by
  rcases h with ⟨rfl, h1, h2, h3, h4⟩ | ⟨rfl, h4⟩
  · rcases hi with hi | hi
    · simp at hi
    · rw [h4, hi, List.drop_length, syncOf_nil _ _ h1.left.1]
      obtain ⟨s, p, l, b⟩ := x
      simp only at h2
      rw [h2, show b = false from h1.stop]
  · exact h4
/-- one step: the write, the sync -/
theorem Each.step {d x : Dsk} {P : List (Int × List UInt8)} {i : Nat} {p : Int × List UInt8} {b : List UInt8} (h : Each d P i x 0) (hp : P[i]? = some p) (hb : p.2 = sectorL [b]) (hh : hasB x.secs.length p.1 = true) (x' : Dsk) (e' : Int) (hs : syncD (written x p.1 b) = (x', e')) : (e' = 0 ∨ e' = 40) ∧ Each d P (i + 1) x' e' := by
  rcases h with ⟨_, h1, h2, h3, h4⟩ | ⟨h, _⟩
  · have hr := h1.written hh b (by rw [h2]; simp)
    rw [syncD_of hr] at hs
    have hw : (written x p.1 b).pend = [p] := by unfold written; rw [h2, ← hb]; rfl
    rw [hw] at hs
    have hws : (written x p.1 b).secs = x.secs := rfl
    have hwl : (written x p.1 b).left = x.left := rfl
    rw [hws, hwl] at hs
    have hd : P.drop i = p :: P.drop (i + 1) := by
      obtain ⟨h5, h6⟩ := List.getElem?_eq_some_iff.1 hp
      rw [List.drop_eq_getElem_cons h5, h6]
    rw [hd] at h4
    by_cases h0 : x.left = 0
    · rw [h0] at h4 hs
      rw [syncOf_zero, hs] at h4
      have : syncOf x.secs [p] 0 = (⟨performL x.secs (([p] : List (Int × List UInt8)).take (0 : Int).toNat ++ [torn (([p] : List (Int × List UInt8)).getD (0 : Int).toNat (0, []))]), [], 0, true⟩, 40) := by
        unfold syncOf; rw [if_pos (by simp)]
      rw [this] at hs
      injection hs with hs1 hs2
      subst hs2
      exact ⟨.inr rfl, .inr ⟨rfl, h4⟩⟩
    · rw [syncOf_one _ _ _ h0 h1.left.1] at hs
      injection hs with hs1 hs2
      subst hs1 hs2
      refine ⟨.inl rfl, .inl ⟨rfl, ?_, rfl, ?_, ?_⟩⟩
      · refine ⟨?_, ?_, performL_secs h1.secs, by simp, fun q hq => by simp at hq, ?_, rfl⟩
        · show 0 < (performL x.secs [p]).length; rw [performL_len]; exact h1.pos
        · show (performL x.secs [p]).length ≤ 4096; rw [performL_len]; exact h1.most
        · have := h1.left
          show -1 ≤ (if x.left = -1 then -1 else x.left - 1) ∧ (if x.left = -1 then -1 else x.left - 1) ≤ 65536
          split <;> omega
      · show (performL x.secs [p]).length = _; rw [performL_len]; exact h3
      · rw [h4, syncOf_cons _ _ _ _ h0 h1.left.1]
  · simp at h
/-- together: where the second loop is -/
def allW (d : Dsk) (P : List (Int × List UInt8)) (i : Nat) : Dsk := ⟨d.secs, P.take i, d.left, d.stop⟩
/-- a box that is written again and again: what its disk holds lies in S -/
def OBox (S : Nat → Prop) (w : World) (g : Nat) (x : Dsk) : Prop := ∃ s p l b, Row w g 25 [s, p, .int .i64 l, .bool b] ∧ DRestS S w x (dv s p l b)
theorem OBox.keep {S : Nat → Prop} {w w' : World} {g : Nat} {x : Dsk} (h : OBox S w g x) (hb : Below w.heap.size w w') : OBox S w' g x := by
  obtain ⟨s, p, l, b, h1, h2⟩ := h
  exact ⟨s, p, l, b, h1.keep hb, h2.keep (.below hb)⟩
theorem OBox.far {S : Nat → Prop} {w w' : World} {g g' : Nat} {x : Dsk} (h : OBox S w g x) (hf : ∀ b, b ≠ g' → w'.heap[b]? = w.heap[b]?) (hg : g ≠ g') (hS : ¬ S g') : OBox S w' g x := by
  obtain ⟨s, p, l, b, h1, h2⟩ := h
  exact ⟨s, p, l, b, (hf g hg).trans h1, h2.keep (.far g' hS hf)⟩
theorem OBox.drew {S : Nat → Prop} {w : World} {g : Nat} {x : Dsk} (h : OBox S w g x) (q : Nat) : OBox S (w.drewN q) g x := by
  obtain ⟨s, p, l, b, h1, h2⟩ := h
  exact ⟨s, p, l, b, h1, h2.keep (fun _ _ _ => rfl)⟩
theorem OBox.lt {S : Nat → Prop} {w : World} {g : Nat} {x : Dsk} (h : OBox S w g x) : g < w.heap.size := by
  obtain ⟨s, p, l, b, h1, h2⟩ := h; exact h1.lt
/-- the blocks but two -/
def Not2 (a b : Nat) : Nat → Prop := fun i => i ≠ a ∧ i ≠ b
theorem ext_not2 {a b n : Nat} (ha : a < n) (hb : b < n) : ∀ i, Ext (Not2 a b) n i → Not2 a b i := fun i h => by
  rcases h with h | h
  · exact h
  · exact ⟨by omega, by omega⟩
section
variable {W : World} {d d' : Dsk} {s p : Value} {l k : Int} {b : Bool}
theorem sync_lawS {S : Nat → Prop} (h : DRestS S W d (dv s p l b)) (hr : syncD d = (d', k)) : Calls Try.prog 30 #[dv s p l b] W (NewDS S W d' k) := (sync_call S d _ W h).mono fun _ _ h => h.newS hr
end
/-- two disks in boxes of their own -/
def TwoBox (w1 : World) (d : Dsk) (s5 s6 : Value) (wx : World) : Prop := ∃ g5 g6, s5 = .pointer (some ⟨g5, 0, none⟩) ∧ s6 = .pointer (some ⟨g6, 0, none⟩) ∧ w1.heap.size ≤ g5 ∧ w1.heap.size ≤ g6 ∧ g5 ≠ g6 ∧ OBox (Not2 g5 g6) wx g5 d ∧ OBox (Not2 g5 g6) wx g6 d ∧ Below w1.heap.size w1 wx
theorem two_box {w1 : World} {d : Dsk} {s p : Value} {l : Int} {b : Bool} (h : DRest w1.heap.size w1 d (dv s p l b)) :
    Row (((w1.alloc (.cells #[s, p, .int .i64 l, .bool b] 25)).alloc (.cells #[s, p, .int .i64 l, .bool b] 25)).drew) w1.heap.size 25 [s, p, .int .i64 l, .bool b] ∧ Row (((w1.alloc (.cells #[s, p, .int .i64 l, .bool b] 25)).alloc (.cells #[s, p, .int .i64 l, .bool b] 25)).drew) (w1.heap.size + 1) 25 [s, p, .int .i64 l, .bool b] ∧
    DRestS (fun i => i < w1.heap.size) (((w1.alloc (.cells #[s, p, .int .i64 l, .bool b] 25)).alloc (.cells #[s, p, .int .i64 l, .bool b] 25)).drew) d (dv s p l b) ∧ Below w1.heap.size w1 (((w1.alloc (.cells #[s, p, .int .i64 l, .bool b] 25)).alloc (.cells #[s, p, .int .i64 l, .bool b] 25)).drew) := by
  have hb := below_drew (below_two w1 (.cells #[s, p, .int .i64 l, .bool b] 25) (.cells #[s, p, .int .i64 l, .bool b] 25))
  refine ⟨(row_new w1 25 [s, p, .int .i64 l, .bool b]).keep (below_drew (Joins.below_alloc1 _ _)), ?_, DRestS.of (h.stays hb), hb⟩
  have := row_new (w1.alloc (.cells #[s, p, .int .i64 l, .bool b] 25)) 25 [s, p, .int .i64 l, .bool b]
  rw [World.size_alloc] at this
  exact this
theorem two_box1 {w1 : World} {d : Dsk} {s p : Value} {l : Int} {b : Bool} (h : DRest w1.heap.size w1 d (dv s p l b)) :
    TwoBox w1 d (.pointer (some ⟨w1.heap.size, 0, none⟩)) (.pointer (some ⟨w1.heap.size + 1, 0, none⟩)) (((w1.alloc (.cells #[s, p, .int .i64 l, .bool b] 25)).alloc (.cells #[s, p, .int .i64 l, .bool b] 25)).drew) := by
  obtain ⟨h1, h2, h3, h4⟩ := two_box h
  have h5 := h3.weak (S' := Not2 w1.heap.size (w1.heap.size + 1)) (fun b hb _ => ⟨by omega, by omega⟩)
  exact ⟨_, _, rfl, rfl, Nat.le_refl _, by omega, by omega, ⟨_, _, _, _, h1, h5⟩, ⟨_, _, _, _, h2, h5⟩, h4⟩
theorem two_box2 {w1 : World} {d : Dsk} {s p : Value} {l : Int} {b : Bool} (h : DRest w1.heap.size w1 d (dv s p l b)) :
    TwoBox w1 d (.pointer (some ⟨w1.heap.size + 1, 0, none⟩)) (.pointer (some ⟨w1.heap.size, 0, none⟩)) (((w1.alloc (.cells #[s, p, .int .i64 l, .bool b] 25)).alloc (.cells #[s, p, .int .i64 l, .bool b] 25)).drew) := by
  obtain ⟨h1, h2, h3, h4⟩ := two_box h
  have h5 := h3.weak (S' := Not2 (w1.heap.size + 1) w1.heap.size) (fun b hb _ => ⟨by omega, by omega⟩)
  exact ⟨_, _, rfl, rfl, by omega, Nat.le_refl _, by omega, ⟨_, _, _, _, h2, h5⟩, ⟨_, _, _, _, h1, h5⟩, h4⟩
def To1 (w1 W : World) (d : Dsk) (P : List (Int × List UInt8)) (g5 g6 : Nat) (s7 s8 : Value) (wr : World) : Prop := ∃ i x e, i ≤ P.length ∧ s7 = .int .i64 e ∧ s8 = .int .i64 ((i : Nat) : Int) ∧ Each d P i x e ∧ OBox (Not2 g5 g6) wr g5 x ∧ OBox (Not2 g5 g6) wr g6 d ∧ Below w1.heap.size w1 wr ∧ W.heap.size ≤ wr.heap.size
def To2 (w1 : World) (d : Dsk) (P : List (Int × List UInt8)) (g5 g6 : Nat) (x : Dsk) (s12 : Value) (wr : World) : Prop := ∃ i, i ≤ P.length ∧ s12 = .int .i64 ((i : Nat) : Int) ∧ OBox (Not2 g5 g6) wr g5 x ∧ OBox (Not2 g5 g6) wr g6 (allW d P i) ∧ Below w1.heap.size w1 wr
/-- a write into a box of its own -/
def WrBox (W0 : World) (S : Nat → Prop) (x : Dsk) (s10 s11 : Value) (wx : World) : Prop := ∃ g, s10 = .pointer (some ⟨g, 0, none⟩) ∧ s11 = .int .i64 0 ∧ W0.heap.size ≤ g ∧ OBox S wx g x ∧ Below W0.heap.size W0 wx
theorem wrbox_new {W0 w4 : World} {S : Nat → Prop} {x : Dsk} {s p : Value} {l : Int} {b : Bool} {n : Nat} (hd : DRestS (Ext (Cut S W0.heap.size) n) w4 x (dv s p l b)) (hS : ∀ i, W0.heap.size ≤ i → S i) (hn : W0.heap.size ≤ n) (hb : Below W0.heap.size W0 w4) :
    WrBox W0 S x (.pointer (some ⟨w4.heap.size, 0, none⟩)) (.int .i64 0) (w4.alloc (.cells #[s, p, .int .i64 l, .bool b] 25)) := by
  refine ⟨_, rfl, rfl, hb.size, ⟨s, p, l, b, row_new w4 25 _, (hd.keep (.below (Joins.below_alloc1 _ _))).weak (fun i h _ => ?_)⟩, below_next hb (Joins.below_alloc1 _ _)⟩
  rcases h with h | h
  · exact h.1
  · exact hS i (by omega)
theorem wrbox_old {W0 w4 : World} {S : Nat → Prop} {x : Dsk} {s p x0 x1 x2 x3 : Value} {l : Int} {b : Bool} {n g : Nat} (hd : DRestS (Ext (Cut S W0.heap.size) n) w4 x (dv s p l b)) (hS : ∀ i, W0.heap.size ≤ i → S i) (hb : Below W0.heap.size W0 w4)
    (hbx : Row w4 g 25 [x0, x1, x2, x3]) (hg : W0.heap.size ≤ g) (hgn : g < n) :
    WrBox W0 S x (.pointer (some ⟨g, 0, none⟩)) (.int .i64 0) ((((w4.setCell ⟨g, 0, none⟩ s).setCell ⟨g, 1, none⟩ p).setCell ⟨g, 2, none⟩ (.int .i64 l)).setCell ⟨g, 3, none⟩ (.bool b)) := by
  refine ⟨g, rfl, rfl, hg, ⟨s, p, l, b, row_set4 hbx _ _ _ _, (hd.keep (keep4 w4 g s p _ _ (fun h => ?_))).weak (fun i h _ => ?_)⟩, below4 hb g s p _ _ hg⟩
  · rcases h with h | h
    · have := h.2; omega
    · omega
  · rcases h with h | h
    · exact h.1
    · exact hS i (by omega)
theorem allW_runs {d : Dsk} {n : Nat} {xs : List Act3} (h : Runs d) (hn : n = d.secs.length) (hl : xs.length ≤ 4096) (i : Nat) : Runs (allW d (writesOf n xs) i) :=
  ⟨h.pos, h.most, h.secs, by show ((writesOf n xs).take i).length ≤ 4096; rw [List.length_take, writesOf_len]; omega, fun q hq => by
    have hq2 := List.mem_of_mem_take hq
    unfold writesOf at hq2
    obtain ⟨a, _, rfl⟩ := List.mem_map.1 hq2
    have := h.pos
    exact ⟨has_nat (by subst hn; exact Nat.mod_lt _ h.pos), sectorL_len _⟩, h.left, h.stop⟩
theorem allW_step {d : Dsk} {P : List (Int × List UInt8)} {i : Nat} {k : Int} {b : List UInt8} (hp : P[i]? = some (k, sectorL [b])) : written (allW d P i) k b = allW d P (i + 1) := by
  obtain ⟨h1, h2⟩ := List.getElem?_eq_some_iff.1 hp
  unfold written allW
  simp only
  rw [List.take_succ_eq_append_getElem h1, h2]
theorem allW_zero {d : Dsk} {P : List (Int × List UInt8)} (h : d.pend = []) : allW d P 0 = d := by
  obtain ⟨s, p, l, b⟩ := d
  simp only at h
  subst h
  unfold allW; simp
theorem allW_sync {d : Dsk} {P : List (Int × List UInt8)} {i : Nat} (h : Runs (allW d P i)) (hi : i = P.length) : syncD (allW d P i) = syncOf d.secs P d.left := by
  rw [syncD_of h]
  show syncOf d.secs (P.take i) d.left = _
  rw [hi, List.take_length]
theorem not2_ge {a b n : Nat} (ha : a < n) (hb : b < n) : ∀ i, n ≤ i → Not2 a b i := fun i h => ⟨by omega, by omega⟩
end Go.Proofs.Ytlaaolbdadempaa
