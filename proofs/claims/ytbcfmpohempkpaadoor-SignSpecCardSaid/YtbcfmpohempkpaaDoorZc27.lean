/- How a value of the codec lies in memory, and which functions say whether it is well-formed and how deep it is. -/
import Derived.Deep.RegionWith
import Derived.Deep.QuietTactic
import Derived.BigQuiet
import Derived.Outline
import Derived.Deep.RegionHeld3
import Derived.Laws.EntriesVeiled
import Derived.Test.YtbcfmpohempkpaaDoorZc26
namespace Go.Proofs.YtbcfmpohempkpaaDoor.Cod
open Go.RowKit

/-- In world w the value v reads as the tree x, and all its memory lies in blocks below B. -/
inductive IsB (B : Nat) (w : World) : V → Value → Prop where
  | mk (k n : Int) (s : ByteArray) (l : List V) (a : Option Addr) (cap : Nat) (fk fn : Nat → Int) (fs : Nat → ByteArray) (fa : Nat → Option Addr) (fl fc : Nat → Nat)
    (hk : -9223372036854775808 ≤ k ∧ k ≤ 9223372036854775807) (hn : -9223372036854775808 ≤ n ∧ n ≤ 9223372036854775807) (hs : s.size ≤ maxLen) (hl : l.length ≤ 9223372036854775807)
    (hc : l.length = 0 ∨ ∃ b off, a = some ⟨b, off, none⟩ ∧ b < B ∧ ∀ i, i < l.length → w.cell? ⟨b, off + i * 4, none⟩ = some (.int .i64 (fk i)) ∧ w.cell? ⟨b, off + i * 4 + 1, none⟩ = some (.int .i64 (fn i)) ∧
      w.cell? ⟨b, off + i * 4 + 2, none⟩ = some (.string (fs i)) ∧ w.cell? ⟨b, off + i * 4 + 3, none⟩ = some (.slice (fa i) (fl i) (fc i)))
    (he : ∀ i (h : i < l.length), IsB B w l[i] (val (fk i) (fn i) (fs i) (fa i) (fl i) (fc i))) : IsB B w (.mk k n s l) (val k n s a l.length cap)

/-- In world w the value v reads as the tree x. -/
abbrev Is (w : World) (x : V) (v : Value) : Prop := IsB w.heap.size w x v

set_option maxRecDepth 100000 in
theorem IsB.stays {B : Nat} {w w' : World} {x : V} {v : Value} (h : IsB B w x v) (hb : Below B w w') : IsB B w' x v := by
  induction h with
  | mk k n s l a cap fk fn fs fa fl fc hk hn hs hl hc he ih =>
    refine .mk k n s l a cap fk fn fs fa fl fc hk hn hs hl ?_ ih
    rcases hc with h0 | ⟨b, off, ha, hlt, hc⟩
    · exact .inl h0
    · refine .inr ⟨b, off, ha, hlt, fun i hi => ?_⟩
      obtain ⟨c0, c1, c2, c3⟩ := hc i hi
      exact ⟨(hb.cell (p := ⟨b, off + i * 4, none⟩) hlt).trans c0, (hb.cell (p := ⟨b, off + i * 4 + 1, none⟩) hlt).trans c1, (hb.cell (p := ⟨b, off + i * 4 + 2, none⟩) hlt).trans c2, (hb.cell (p := ⟨b, off + i * 4 + 3, none⟩) hlt).trans c3⟩

set_option maxRecDepth 100000 in
theorem IsB.mono {B B' : Nat} {w : World} {x : V} {v : Value} (h : IsB B w x v) (hb : B ≤ B') : IsB B' w x v := by
  induction h with
  | mk k n s l a cap fk fn fs fa fl fc hk hn hs hl hc he ih =>
    refine .mk k n s l a cap fk fn fs fa fl fc hk hn hs hl ?_ ih
    rcases hc with h0 | ⟨b, off, ha, hlt, hc⟩
    · exact .inl h0
    · exact .inr ⟨b, off, ha, by omega, hc⟩

set_option maxRecDepth 100000 in
theorem Is.stays {w w' : World} {x : V} {v : Value} (h : Is w x v) (hb : Below w.heap.size w w') : Is w' x v := (IsB.stays h hb).mono hb.size

/-- the array of the kinds' functions -/
def kindTab : Value := .agg #[.nilFunc, .nilFunc, .nilFunc, .func (Fn.func 63) #[] #[], .func (Fn.func 64) #[] #[], .func (Fn.func 65) #[] #[], .func (Fn.func 66) #[] #[], .func (Fn.func 67) #[] #[], .func (Fn.func 68) #[] #[], .func (Fn.func 69) #[] #[], .func (Fn.func 70) #[] #[], .func (Fn.func 71) #[] #[]]

set_option maxRecDepth 100000 in
theorem kinds_call (w : World) :
    Calls Tryd.prog 54 #[] w fun e w' => e = .returned kindTab ∧ Below w.heap.size w w' := by
  go_enter Tryd.func54, Tryd.ntmps54
  go_wp2_with fail
  exact bodyPost_ret (v := kindTab) (by simp [results, Tryd.results54, go_sem, kindTab]) rfl ⟨rfl, (Below.refl _ _).alloc (Nat.le_refl _) _⟩

set_option maxRecDepth 100000 in
theorem kindAt1 (w : World) : (Instr.index 73 kindTab (.int .i64 1)).run Tryd.prog w = .ok (.agg #[.func (Fn.func 63) #[] #[], .func (Fn.func 64) #[] #[], .func (Fn.func 65) #[] #[]]) w := by kernel_rfl
set_option maxRecDepth 100000 in
theorem kindAt2 (w : World) : (Instr.index 73 kindTab (.int .i64 2)).run Tryd.prog w = .ok (.agg #[.func (Fn.func 66) #[] #[], .func (Fn.func 67) #[] #[], .func (Fn.func 68) #[] #[]]) w := by kernel_rfl
set_option maxRecDepth 100000 in
theorem kindAt3 (w : World) : (Instr.index 73 kindTab (.int .i64 3)).run Tryd.prog w = .ok (.agg #[.func (Fn.func 69) #[] #[], .func (Fn.func 70) #[] #[], .func (Fn.func 71) #[] #[]]) w := by kernel_rfl

set_option maxRecDepth 100000 in
theorem kindFn10 (w : World) : (Instr.field 72 (.agg #[.func (Fn.func 63) #[] #[], .func (Fn.func 64) #[] #[], .func (Fn.func 65) #[] #[]]) 0).run Tryd.prog w = .ok (.func (Fn.func 63) #[] #[]) w := by kernel_rfl
set_option maxRecDepth 100000 in
theorem kindFn11 (w : World) : (Instr.field 72 (.agg #[.func (Fn.func 63) #[] #[], .func (Fn.func 64) #[] #[], .func (Fn.func 65) #[] #[]]) 1).run Tryd.prog w = .ok (.func (Fn.func 64) #[] #[]) w := by kernel_rfl
set_option maxRecDepth 100000 in
theorem kindFn12 (w : World) : (Instr.field 72 (.agg #[.func (Fn.func 63) #[] #[], .func (Fn.func 64) #[] #[], .func (Fn.func 65) #[] #[]]) 2).run Tryd.prog w = .ok (.func (Fn.func 65) #[] #[]) w := by kernel_rfl
set_option maxRecDepth 100000 in
theorem kindFn20 (w : World) : (Instr.field 72 (.agg #[.func (Fn.func 66) #[] #[], .func (Fn.func 67) #[] #[], .func (Fn.func 68) #[] #[]]) 0).run Tryd.prog w = .ok (.func (Fn.func 66) #[] #[]) w := by kernel_rfl
set_option maxRecDepth 100000 in
theorem kindFn21 (w : World) : (Instr.field 72 (.agg #[.func (Fn.func 66) #[] #[], .func (Fn.func 67) #[] #[], .func (Fn.func 68) #[] #[]]) 1).run Tryd.prog w = .ok (.func (Fn.func 67) #[] #[]) w := by kernel_rfl
set_option maxRecDepth 100000 in
theorem kindFn22 (w : World) : (Instr.field 72 (.agg #[.func (Fn.func 66) #[] #[], .func (Fn.func 67) #[] #[], .func (Fn.func 68) #[] #[]]) 2).run Tryd.prog w = .ok (.func (Fn.func 68) #[] #[]) w := by kernel_rfl
set_option maxRecDepth 100000 in
theorem kindFn30 (w : World) : (Instr.field 72 (.agg #[.func (Fn.func 69) #[] #[], .func (Fn.func 70) #[] #[], .func (Fn.func 71) #[] #[]]) 0).run Tryd.prog w = .ok (.func (Fn.func 69) #[] #[]) w := by kernel_rfl
set_option maxRecDepth 100000 in
theorem kindFn31 (w : World) : (Instr.field 72 (.agg #[.func (Fn.func 69) #[] #[], .func (Fn.func 70) #[] #[], .func (Fn.func 71) #[] #[]]) 1).run Tryd.prog w = .ok (.func (Fn.func 70) #[] #[]) w := by kernel_rfl
set_option maxRecDepth 100000 in
theorem kindFn32 (w : World) : (Instr.field 72 (.agg #[.func (Fn.func 69) #[] #[], .func (Fn.func 70) #[] #[], .func (Fn.func 71) #[] #[]]) 2).run Tryd.prog w = .ok (.func (Fn.func 71) #[] #[]) w := by kernel_rfl

set_option maxRecDepth 100000 in
theorem bcell {W w1 : World} (hb : Below W.heap.size W w1) : (∀ b o, b < W.heap.size → w1.cell? ⟨b, o, none⟩ = W.cell? ⟨b, o, none⟩) ∧ (∀ b o, b < W.heap.size → w1.frozen? ⟨b, o, none⟩ = W.frozen? ⟨b, o, none⟩) :=
  ⟨fun b o h => hb.cell (p := ⟨b, o, none⟩) h, fun b o h => hb.frozen (p := ⟨b, o, none⟩) h⟩

set_option maxRecDepth 100000 in
theorem str_nil {s : ByteArray} (h : s.size = 0) : s = ⟨#[]⟩ := by
  obtain ⟨d⟩ := s
  have : d = #[] := Array.eq_empty_of_size_eq_zero h
  rw [this]
set_option maxRecDepth 100000 in
theorem str_loop (s : ByteArray) : ∀ (k i : Nat) (r : List UInt8), s.size - i ≤ k → (ByteArray.toList.loop s i r).length = r.length + (s.size - i) := by
  intro k
  induction k with
  | zero =>
    intro i r h
    rw [ByteArray.toList.loop, if_neg (by omega)]
    simp; omega
  | succ k ih =>
    intro i r h
    rw [ByteArray.toList.loop]
    by_cases hi : i < s.size
    · rw [if_pos hi, ih (i + 1) _ (by omega)]; simp; omega
    · rw [if_neg hi]; simp; omega
set_option maxRecDepth 100000 in
theorem str_toList (s : ByteArray) : s.toList.length = s.size := by
  unfold ByteArray.toList
  rw [str_loop s s.size 0 [] (by omega)]; simp
set_option maxRecDepth 100000 in
theorem str_cons {s : ByteArray} (h : ¬ s.size = 0) : s.toList.isEmpty = false ∧ ¬ s.toList = [] := by
  have := str_toList s
  constructor
  · cases e : s.toList with
    | nil => rw [e] at this; simp at this; omega
    | cons _ _ => rfl
  · intro e; rw [e] at this; simp at this; omega

set_option maxRecDepth 100000 in
theorem fitsText_call (k n : Int) (s : ByteArray) (a : Option Addr) (len cap : Nat) (w : World) :
    Calls Tryd.prog 66 #[val k n s a len cap] w fun e w' => e = .returned (.bool (n == 0 && len == 0)) ∧ Below w.heap.size w w' := by
  by_cases hs : n = 0
  · subst hs
    by_cases hl : len = 0
    · subst hl
      go_enter Tryd.func66, Tryd.ntmps66
      go_wp2
      go_ret
      exact ⟨rfl, Joins.below_alloc1 _ _⟩
    · have hl' : ((len : Int) == 0) = false := by simp; omega
      have hl2 : (len == 0) = false := by simp; omega
      go_enter Tryd.func66, Tryd.ntmps66
      go_wp2
      go_ret
      exact ⟨by rw [hl2]; rfl, Joins.below_alloc1 _ _⟩
  · have h1 : (n == 0) = false := by simpa using hs
    go_enter Tryd.func66, Tryd.ntmps66
    go_wp2
    go_ret
    exact ⟨by rw [h1]; rfl, Joins.below_alloc1 _ _⟩

set_option maxRecDepth 100000 in
theorem fitsInt_call (k n : Int) (s : ByteArray) (a : Option Addr) (len cap : Nat) (w : World) :
    Calls Tryd.prog 63 #[val k n s a len cap] w fun e w' => e = .returned (.bool (s.size == 0 && len == 0)) ∧ Below w.heap.size w w' := by

  by_cases hs : s.size = 0
  · obtain rfl := str_nil hs
    clear hs
    by_cases hl : len = 0
    · subst hl
      go_enter Tryd.func63, Tryd.ntmps63
      go_wp2
      go_ret
      exact ⟨rfl, Joins.below_alloc1 _ _⟩
    · have hl' : ((len : Int) == 0) = false := by simp; omega
      have hl2 : (len == 0) = false := by simp; omega
      go_enter Tryd.func63, Tryd.ntmps63
      go_wp2
      go_ret
      exact ⟨by rw [hl2]; rfl, Joins.below_alloc1 _ _⟩
  · obtain ⟨h1, h2⟩ := str_cons hs
    have hs2 : (s.size == 0) = false := by simpa using hs
    clear hs
    go_enter Tryd.func63, Tryd.ntmps63
    go_wp2
    go_ret
    exact ⟨by rw [hs2]; rfl, Joins.below_alloc1 _ _⟩

set_option maxRecDepth 100000 in
theorem keep4 {w1 w2 : World} {b : Nat} {c0 c1 c2 c3 : Value} (hb : Below w1.heap.size w1 w2) (h : w1.cell? ⟨b, 0, none⟩ = some c0 ∧ w1.cell? ⟨b, 1, none⟩ = some c1 ∧ w1.cell? ⟨b, 2, none⟩ = some c2 ∧ w1.cell? ⟨b, 3, none⟩ = some c3) :
    w2.cell? ⟨b, 0, none⟩ = some c0 ∧ w2.cell? ⟨b, 1, none⟩ = some c1 ∧ w2.cell? ⟨b, 2, none⟩ = some c2 ∧ w2.cell? ⟨b, 3, none⟩ = some c3 := by
  obtain ⟨h0, h1, h2, h3⟩ := h
  have hl := World.block_lt_of_cell? w1 _ h0
  exact ⟨(hb.cell (p := ⟨b, 0, none⟩) hl).trans h0, (hb.cell (p := ⟨b, 1, none⟩) hl).trans h1, (hb.cell (p := ⟨b, 2, none⟩) hl).trans h2, (hb.cell (p := ⟨b, 3, none⟩) hl).trans h3⟩

set_option maxRecDepth 100000 in
theorem below_next {w a b : World} (h : Below w.heap.size w a) (k : Below a.heap.size a b) : Below w.heap.size w b := h.trans (k.mono h.size)

set_option maxRecDepth 100000 in
set_option maxHeartbeats 4000000 in
theorem wellFormed_1 (n : Int) (s : ByteArray) (a : Option Addr) (len cap : Nat) (w : World) :
    Calls Tryd.prog 52 #[val 1 n s a len cap] w fun e w' => e = .returned (.bool (s.size == 0 && len == 0)) ∧ Below w.heap.size w w' := by
  have k1 := kindAt1
  have k2 := kindFn10
  go_enter Tryd.func52, Tryd.ntmps52
  go_wp2_with fail
  go_region_held3 (fun w' => w'.cell? ⟨w.heap.size, 0, none⟩ = some (.int .i64 1) ∧ w'.cell? ⟨w.heap.size, 1, none⟩ = some (.int .i64 n) ∧ w'.cell? ⟨w.heap.size, 2, none⟩ = some (.string s) ∧ w'.cell? ⟨w.heap.size, 3, none⟩ = some (.slice a len cap))
    (first | go_keep | (exact keep4 hb2 (by assumption)) | (exact keep4 hb1 (by assumption)))
    (first | (go_at_call 54; refine (kinds_call _).mono ?_; rintro e w' ⟨rfl, hb1⟩) | (go_at_call 63; refine (fitsInt_call _ _ _ _ _ _ _).mono ?_; rintro e w' ⟨rfl, hb2⟩))
  go_wp2
  go_ret
  exact ⟨rfl, below_next (below_next ((Joins.below_alloc1 w _).drew) hb1) hb2⟩

set_option maxRecDepth 100000 in
set_option maxHeartbeats 4000000 in
theorem wellFormed_2 (n : Int) (s : ByteArray) (a : Option Addr) (len cap : Nat) (w : World) :
    Calls Tryd.prog 52 #[val 2 n s a len cap] w fun e w' => e = .returned (.bool (n == 0 && len == 0)) ∧ Below w.heap.size w w' := by
  have k1 := kindAt2
  have k2 := kindFn20
  go_enter Tryd.func52, Tryd.ntmps52
  go_wp2_with fail
  go_region_held3 (fun w' => w'.cell? ⟨w.heap.size, 0, none⟩ = some (.int .i64 2) ∧ w'.cell? ⟨w.heap.size, 1, none⟩ = some (.int .i64 n) ∧ w'.cell? ⟨w.heap.size, 2, none⟩ = some (.string s) ∧ w'.cell? ⟨w.heap.size, 3, none⟩ = some (.slice a len cap))
    (first | go_keep | (exact keep4 hb2 (by assumption)) | (exact keep4 hb1 (by assumption)))
    (first | (go_at_call 54; refine (kinds_call _).mono ?_; rintro e w' ⟨rfl, hb1⟩) | (go_at_call 66; refine (fitsText_call _ _ _ _ _ _ _).mono ?_; rintro e w' ⟨rfl, hb2⟩))
  go_wp2
  go_ret
  exact ⟨rfl, below_next (below_next ((Joins.below_alloc1 w _).drew) hb1) hb2⟩

set_option maxRecDepth 100000 in
set_option maxHeartbeats 4000000 in
theorem wellFormed_3 (n : Int) (s : ByteArray) (a : Option Addr) (len cap : Nat) (w : World)
    (r : Bool) (HF : Hid (∀ W, Below w.heap.size w W → Calls Tryd.prog 69 #[val 3 n s a len cap] W fun e w' => e = .returned (.bool r) ∧ Below W.heap.size W w')) :
    Calls Tryd.prog 52 #[val 3 n s a len cap] w fun e w' => e = .returned (.bool r) ∧ Below w.heap.size w w' := by
  have k1 := kindAt3
  have k2 := kindFn30
  go_enter Tryd.func52, Tryd.ntmps52
  go_wp2_with fail
  go_region_held3 (fun w' => w'.cell? ⟨w.heap.size, 0, none⟩ = some (.int .i64 3) ∧ w'.cell? ⟨w.heap.size, 1, none⟩ = some (.int .i64 n) ∧ w'.cell? ⟨w.heap.size, 2, none⟩ = some (.string s) ∧ w'.cell? ⟨w.heap.size, 3, none⟩ = some (.slice a len cap))
    (first | go_keep | (exact keep4 hb2 (by assumption)) | (exact keep4 hb1 (by assumption)))
    (first | (go_at_call 54; refine (kinds_call _).mono ?_; rintro e w' ⟨rfl, hb1⟩) | (go_at_call 69; refine (HF.out _ (below_next ((Joins.below_alloc1 w _).drew) hb1)).mono ?_; rintro e w' ⟨rfl, hb2⟩))
  go_wp2
  go_ret
  exact ⟨rfl, below_next (below_next ((Joins.below_alloc1 w _).drew) hb1) hb2⟩

end Go.Proofs.YtbcfmpohempkpaaDoor.Cod

/- Whether a value is well-formed, and how deep it is: what the program's functions return, for every value. -/
namespace Go.Proofs.YtbcfmpohempkpaaDoor.Cod
open Go.RowKit

def ListHead (w : World) (l : List V) (s16 : Value) (wr : World) : Prop := ∃ i : Nat, i ≤ l.length ∧ s16 = .int .i64 i ∧ formedL (l.take i) = true ∧ Below w.heap.size w wr

set_option maxRecDepth 100000 in
theorem formedL_step {l : List V} {i : Nat} (h : i < l.length) (hf : formedL (l.take i) = true) (hx : formed l[i] = true) : formedL (l.take (i + 1)) = true := by
  rw [formedL_mem] at hf ⊢
  intro x hm
  rw [List.take_succ_eq_append_getElem h, List.mem_append] at hm
  rcases hm with hm | hm
  · exact hf x hm
  · rw [List.mem_singleton] at hm; rw [hm]; exact hx

set_option maxRecDepth 100000 in
theorem formedL_no {l : List V} {i : Nat} (h : i < l.length) (hx : formed l[i] = false) : formedL l = false := by
  cases e : formedL l with
  | false => rfl
  | true =>
    rw [formedL_mem] at e
    rw [e l[i] (List.getElem_mem h)] at hx
    cases hx

set_option maxRecDepth 100000 in
/-- a round's new block, then a call -/
theorem below_at {w wr w1 : World} {o : Obj} (hb : Below w.heap.size w wr) (hb3 : Below (wr.alloc o).heap.size (wr.alloc o) w1) : Below w.heap.size w w1 :=
  below_next (hb.alloc hb.size o) hb3

set_option maxRecDepth 100000 in
/-- An element's four cells, in a later world. -/
theorem elem_cells {w wr : World} {o : Obj} {b off : Nat} {c0 c1 c2 c3 : Value} (hb : Below (w.alloc o).heap.size (w.alloc o) wr) (hl : b < w.heap.size)
    (h : w.cell? ⟨b, off, none⟩ = some c0 ∧ w.cell? ⟨b, off + 1, none⟩ = some c1 ∧ w.cell? ⟨b, off + 2, none⟩ = some c2 ∧ w.cell? ⟨b, off + 3, none⟩ = some c3) :
    wr.cell? ⟨b, off, none⟩ = some c0 ∧ wr.cell? ⟨b, off + 1, none⟩ = some c1 ∧ wr.cell? ⟨b, off + 2, none⟩ = some c2 ∧ wr.cell? ⟨b, off + 3, none⟩ = some c3 := by
  have hb2 : Below w.heap.size w wr := (Joins.below_alloc1 w o).trans (hb.mono (by simp))
  obtain ⟨h0, h1, h2, h3⟩ := h
  exact ⟨(hb2.cell (p := ⟨b, off, none⟩) hl).trans h0, (hb2.cell (p := ⟨b, off + 1, none⟩) hl).trans h1, (hb2.cell (p := ⟨b, off + 2, none⟩) hl).trans h2, (hb2.cell (p := ⟨b, off + 3, none⟩) hl).trans h3⟩

set_option maxRecDepth 100000 in
set_option maxHeartbeats 1000000 in
theorem fitsList_loop (l : List V) (a : Option Addr) (cap : Nat) (w : World) (hx : Is w (.mk 3 0 ⟨#[]⟩ l) (val 3 0 ⟨#[]⟩ a l.length cap))
    (ih : Hid (∀ x ∈ l, ∀ v W, Is W x v → Calls Tryd.prog 52 #[v] W fun e w' => e = .returned (.bool (formed x)) ∧ Below W.heap.size W w')) :
    Calls Tryd.prog 69 #[val 3 0 ⟨#[]⟩ a l.length cap] w fun e w' => e = .returned (.bool (formedL l)) ∧ Below w.heap.size w w' := by
  obtain ⟨_, _, _, _, _, _, fk, fn, fs, fa, fl, fc, hk, hn, hs, hl, hc, he⟩ := hx
  go_enter Tryd.func69, Tryd.ntmps69
  go_wp2_with fail
  go_loopw [16] (fun s16 wr => ListHead (w.alloc (.cells #[.int .i64 3, .int .i64 0, .string ⟨#[]⟩, .slice a l.length cap] 41)) l s16 wr) (fun s16 _ => l.length - (intOf s16).toNat)
  case atStart => exact ⟨0, by omega, rfl, rfl, Below.refl _ _⟩
  case round =>
    obtain ⟨i, hi, rfl, hf, hb⟩ := hrel
    rcases Nat.lt_or_ge i l.length with hlt | hge
    · rcases hc with h0 | ⟨b, off, rfl, hbl, hc⟩
      · omega
      obtain ⟨c0, c1, c2, c3⟩ := elem_cells hb hbl (hc i hlt)
      have HC := Lib.hid hc
      clear hc
      have H := Lib.hid he
      clear he
      go_wp2_with fail
      have hb2 : Below w.heap.size w (wr.alloc (.cells #[.int .i64 (fk i), .int .i64 (fn i), .string (fs i), .slice (fa i) (fl i) (fc i)] 41)) :=
        ((Joins.below_alloc1 w _).trans (hb.mono (by simp))).alloc (by have := hb.size; simp at this; omega) _
      refine (ih.out l[i] (List.getElem_mem hlt) _ _ (Is.stays (H.out i hlt) hb2)).mono ?_
      rintro e w1 ⟨rfl, hb3⟩
      have hb4 := below_next hb2 hb3
      cases hfx : formed l[i] with
      | true =>
        go_wp2_with fail
        go_roundw
        case rel => exact ⟨i + 1, by omega, by simp, formedL_step hlt hf hfx, below_at hb hb3⟩
        case measure => simp [intOf]; omega
      | false =>
        go_wp2_with fail
        go_ret
        exact ⟨by rw [formedL_no hlt hfx]; rfl, hb4⟩
    · obtain rfl : i = l.length := by omega
      rw [List.take_length] at hf
      go_wp2_with fail
      go_ret
      exact ⟨by rw [hf]; rfl, (Joins.below_alloc1 w _).trans (hb.mono (by simp))⟩

set_option maxRecDepth 100000 in
theorem fitsList_n (n : Int) (hn : ¬ n = 0) (s : ByteArray) (a : Option Addr) (len cap : Nat) (w : World) :
    Calls Tryd.prog 69 #[val 3 n s a len cap] w fun e w' => e = .returned (.bool false) ∧ Below w.heap.size w w' := by
  have h1 : (n != 0) = true := by simpa using hn
  go_enter Tryd.func69, Tryd.ntmps69
  go_wp2_with fail
  go_ret
  exact ⟨rfl, Joins.below_alloc1 _ _⟩

set_option maxRecDepth 100000 in
theorem fitsList_s (s : ByteArray) (hs : ¬ s.size = 0) (a : Option Addr) (len cap : Nat) (w : World) :
    Calls Tryd.prog 69 #[val 3 0 s a len cap] w fun e w' => e = .returned (.bool false) ∧ Below w.heap.size w w' := by
  obtain ⟨h1, h2⟩ := str_cons hs
  go_enter Tryd.func69, Tryd.ntmps69
  go_wp2_with fail
  go_ret
  exact ⟨rfl, Joins.below_alloc1 _ _⟩

set_option maxRecDepth 100000 in
set_option maxHeartbeats 1000000 in
theorem wellFormed_lo (k : Int) (hk : k < 1) (n : Int) (s : ByteArray) (a : Option Addr) (len cap : Nat) (w : World) :
    Calls Tryd.prog 52 #[val k n s a len cap] w fun e w' => e = .returned (.bool false) ∧ Below w.heap.size w w' := by
  have h1 : decide (1 ≤ k) = false := by simpa using hk
  go_enter Tryd.func52, Tryd.ntmps52
  go_wp2_with fail
  go_quiet (fail)
  go_wp2_with fail
  go_ret
  exact ⟨rfl, (Joins.below_alloc1 _ _).trans ((Joins.below_draws _ _ _))⟩

set_option maxRecDepth 100000 in
set_option maxHeartbeats 1000000 in
theorem wellFormed_hi (k : Int) (hk : 3 < k) (n : Int) (s : ByteArray) (a : Option Addr) (len cap : Nat) (w : World) :
    Calls Tryd.prog 52 #[val k n s a len cap] w fun e w' => e = .returned (.bool false) ∧ Below w.heap.size w w' := by
  have h1 : decide (1 ≤ k) = true := by simp; omega
  have h2 : decide (k ≤ 3) = false := by simpa using hk
  go_enter Tryd.func52, Tryd.ntmps52
  go_wp2_with fail
  go_quiet (fail)
  go_wp2_with fail
  go_ret
  exact ⟨rfl, (Joins.below_alloc1 _ _).trans ((Joins.below_draws _ _ _))⟩

set_option maxRecDepth 100000 in
theorem retB {a b : Bool} (h : a = b) : Ending.returned (.bool a) = .returned (.bool b) := by rw [h]

set_option maxRecDepth 100000 in
theorem wellFormed_call (x : V) : ∀ v W, Is W x v → Calls Tryd.prog 52 #[v] W fun e w' => e = .returned (.bool (formed x)) ∧ Below W.heap.size W w' := by
  refine V.ind (P := fun x => ∀ v W, Is W x v → Calls Tryd.prog 52 #[v] W fun e w' => e = .returned (.bool (formed x)) ∧ Below W.heap.size W w') ?_ x
  intro k n s l ih v W hx
  have hx2 := hx
  obtain ⟨_, _, _, _, a, cap, _, _, _, _, _, _, _, _, _, _, _, _⟩ := hx
  rcases Int.lt_or_le k 1 with h1 | h1
  · refine (wellFormed_lo k h1 n s a _ cap W).mono fun e w' ⟨h, hb⟩ => ⟨h.trans (retB ?_), hb⟩
    have e1 : (k == 1) = false := by simp; omega
    have e2 : (k == 2) = false := by simp; omega
    have e3 : (k == 3) = false := by simp; omega
    rw [formed, e1, e2, e3]; rfl
  rcases Int.lt_or_le 3 k with h3 | h3
  · refine (wellFormed_hi k h3 n s a _ cap W).mono fun e w' ⟨h, hb⟩ => ⟨h.trans (retB ?_), hb⟩
    have e1 : (k == 1) = false := by simp; omega
    have e2 : (k == 2) = false := by simp; omega
    have e3 : (k == 3) = false := by simp; omega
    rw [formed, e1, e2, e3]; rfl
  obtain h | h | h : k = 1 ∨ k = 2 ∨ k = 3 := by omega
  · subst h
    refine (wellFormed_1 n s a _ cap W).mono fun e w' ⟨h, hb⟩ => ⟨h.trans (retB ?_), hb⟩
    rw [formed]; simp
  · subst h
    refine (wellFormed_2 n s a _ cap W).mono fun e w' ⟨h, hb⟩ => ⟨h.trans (retB ?_), hb⟩
    rw [formed]; simp
  · subst h
    have ef : formed (.mk 3 n s l) = ((n == 0 && s.size == 0) && formedL l) := by rw [formed]; simp
    refine (wellFormed_3 n s a _ cap W (formed (.mk 3 n s l)) (Lib.hid fun W' hb => ?_))
    by_cases hn : n = 0
    · subst hn
      by_cases hs : s.size = 0
      · obtain rfl := str_nil hs
        refine (fitsList_loop l a cap W' (Is.stays hx2 hb) (Lib.hid ih)).mono fun e w' ⟨h, hb⟩ => ⟨h.trans (retB ?_), hb⟩
        rw [ef]; rfl
      · refine (fitsList_s s hs a _ cap W').mono fun e w' ⟨h, hb⟩ => ⟨h.trans (retB ?_), hb⟩
        have e2 : (s.size == 0) = false := by simpa using hs
        rw [ef, e2]; rfl
    · refine (fitsList_n n hn s a _ cap W').mono fun e w' ⟨h, hb⟩ => ⟨h.trans (retB ?_), hb⟩
      have e2 : (n == 0) = false := by simpa using hn
      rw [ef, e2]; rfl
end Go.Proofs.YtbcfmpohempkpaaDoor.Cod

/- How deep a value is: what the program's function returns, for every value; and what Check returns. -/
namespace Go.Proofs.YtbcfmpohempkpaaDoor.Cod
open Go.RowKit

def DeepHead (w : World) (l : List V) (n : Nat) (s15 : Value) (wr : World) : Prop := ∃ i : Nat, i ≤ l.length ∧ s15 = .int .i64 i ∧ (∀ x ∈ l.take i, ¬ n < depth x) ∧ Below w.heap.size w wr

set_option maxRecDepth 100000 in
theorem deep_step {l : List V} {i n : Nat} (h : i < l.length) (hf : ∀ x ∈ l.take i, ¬ n < depth x) (hx : ¬ n < depth l[i]) : ∀ x ∈ l.take (i + 1), ¬ n < depth x := by
  intro x hm
  rw [List.take_succ_eq_append_getElem h, List.mem_append] at hm
  rcases hm with hm | hm
  · exact hf x hm
  · rw [List.mem_singleton] at hm; rw [hm]; exact hx

set_option maxRecDepth 100000 in
theorem deep_yes {l : List V} {i n : Nat} (h : i < l.length) (hx : n < depth l[i]) : n < depthL l := by
  rcases Nat.lt_or_ge n (depthL l) with h1 | h1
  · exact h1
  · have := (depthL_le l n).1 h1 _ (List.getElem_mem h); omega

set_option maxRecDepth 100000 in
theorem deep_no {l : List V} {n : Nat} (h : ∀ x ∈ l, ¬ n < depth x) : ¬ n < depthL l := by
  have := (depthL_le l n).2 fun x hx => by have := h x hx; omega
  omega

set_option maxRecDepth 100000 in
set_option maxHeartbeats 1000000 in
theorem deeper_loop (l : List V) (n : Nat) (hn0 : n ≤ 1000) (N : Int) (s : ByteArray) (a : Option Addr) (cap : Nat) (w : World) (hx : Is w (.mk 3 N s l) (val 3 N s a l.length cap))
    (ih : Hid (∀ x ∈ l, ∀ v W, Is W x v → Calls Tryd.prog 53 #[v, .int .i64 (n : Int)] W fun e w' => e = .returned (.bool (decide (n < depth x))) ∧ Below W.heap.size W w')) :
    Calls Tryd.prog 53 #[val 3 N s a l.length cap, .int .i64 ((n : Int) + 1)] w fun e w' => e = .returned (.bool (decide (n < depthL l))) ∧ Below w.heap.size w w' := by
  obtain ⟨_, _, _, _, _, _, fk, fn, fs, fa, fl, fc, hk, hn, hs, hl, hc, he⟩ := hx
  have hz : (((n : Nat) : Int) + 1 == 0) = false := by simp; omega
  go_enter Tryd.func53, Tryd.ntmps53
  go_wp2_with fail
  go_loopw [15] (fun s15 wr => DeepHead (w.alloc (.cells #[.int .i64 3, .int .i64 N, .string s, .slice a l.length cap] 41)) l n s15 wr) (fun s15 _ => l.length - (intOf s15).toNat)
  case atStart => exact ⟨0, by omega, rfl, by simp, Below.refl _ _⟩
  case round =>
    obtain ⟨i, hi, rfl, hf, hb⟩ := hrel
    have HF := Lib.hid hf
    clear hf
    rcases Nat.lt_or_ge i l.length with hlt | hge
    · rcases hc with h0 | ⟨b, off, rfl, hbl, hc⟩
      · omega
      obtain ⟨c0, c1, c2, c3⟩ := elem_cells hb hbl (hc i hlt)
      have HC := Lib.hid hc
      clear hc
      have H := Lib.hid he
      clear he
      go_wp2_with fail
      have hb2 : Below w.heap.size w (wr.alloc (.cells #[.int .i64 (fk i), .int .i64 (fn i), .string (fs i), .slice (fa i) (fl i) (fc i)] 41)) :=
        ((Joins.below_alloc1 w _).trans (hb.mono (by simp))).alloc (by have := hb.size; simp at this; omega) _
      refine (ih.out l[i] (List.getElem_mem hlt) _ _ (Is.stays (H.out i hlt) hb2)).mono ?_
      rintro e w1 ⟨rfl, hb3⟩
      have hb4 := below_next hb2 hb3
      by_cases hfx : n < depth l[i]
      · have hd : decide (n < depth l[i]) = true := by simpa using hfx
        have HR : Hid (decide (n < depthL l) = true) := by simpa [Hid] using deep_yes hlt hfx
        clear hfx
        rw [hd]
        go_wp2_with fail
        go_ret
        exact ⟨by rw [HR.out]; rfl, hb4⟩
      · have hd : decide (n < depth l[i]) = false := by simpa using hfx
        have HR := Lib.hid (deep_step hlt HF.out hfx)
        clear hfx
        rw [hd]
        go_wp2_with fail
        go_roundw
        case rel => exact ⟨i + 1, by omega, by simp, HR.out, below_at hb hb3⟩
        case measure => simp [intOf]; omega
    · obtain rfl : i = l.length := by omega
      have HR : Hid (decide (n < depthL l) = false) := by
        have h := HF.out
        rw [List.take_length] at h
        simpa [Hid] using deep_no h
      go_wp2_with fail
      go_ret
      exact ⟨by rw [HR.out]; rfl, (Joins.below_alloc1 w _).trans (hb.mono (by simp))⟩

set_option maxRecDepth 100000 in
theorem deeper_not (k : Int) (hk : ¬ k = 3) (n N : Int) (s : ByteArray) (a : Option Addr) (len cap : Nat) (w : World) :
    Calls Tryd.prog 53 #[val k N s a len cap, .int .i64 n] w fun e w' => e = .returned (.bool false) ∧ Below w.heap.size w w' := by
  have h1 : (k != 3) = true := by simpa using hk
  go_enter Tryd.func53, Tryd.ntmps53
  go_wp2_with fail
  go_ret
  exact ⟨rfl, Joins.below_alloc1 _ _⟩

set_option maxRecDepth 100000 in
theorem deeper_zero (N : Int) (s : ByteArray) (a : Option Addr) (len cap : Nat) (w : World) :
    Calls Tryd.prog 53 #[val 3 N s a len cap, .int .i64 0] w fun e w' => e = .returned (.bool true) ∧ Below w.heap.size w w' := by
  go_enter Tryd.func53, Tryd.ntmps53
  go_wp2_with fail
  go_ret
  exact ⟨rfl, Joins.below_alloc1 _ _⟩

set_option maxRecDepth 100000 in
theorem deeper_call (n : Nat) : ∀ (x : V) v W, n ≤ 1000 → Is W x v → Calls Tryd.prog 53 #[v, .int .i64 (n : Int)] W fun e w' => e = .returned (.bool (decide (n < depth x))) ∧ Below W.heap.size W w' := by
  induction n with
  | zero =>
    intro x v W _ hx
    obtain ⟨k, N, s, l, a, cap, _, _, _, _, _, _, _, _, _, _, _, _⟩ := hx
    by_cases hk : k = 3
    · subst hk
      refine (deeper_zero N s a _ cap W).mono fun e w' ⟨h, hb⟩ => ⟨h.trans (retB ?_), hb⟩
      rw [depth]; simp
    · refine (deeper_not k hk _ N s a _ cap W).mono fun e w' ⟨h, hb⟩ => ⟨h.trans (retB ?_), hb⟩
      rw [depth, if_neg hk]; simp
  | succ n ih =>
    intro x v W hn hx
    have hx2 := hx
    obtain ⟨k, N, s, l, a, cap, _, _, _, _, _, _, _, _, _, _, _, _⟩ := hx
    by_cases hk : k = 3
    · subst hk
      have e : ((n + 1 : Nat) : Int) = (n : Int) + 1 := by omega
      rw [e]
      refine (deeper_loop l n (by omega) N s a cap W hx2 (Lib.hid fun x _ v W h => ih x v W (by omega) h)).mono fun e w' ⟨h, hb⟩ => ⟨h.trans (retB ?_), hb⟩
      rw [depth]; simp
    · refine (deeper_not k hk _ N s a _ cap W).mono fun e w' ⟨h, hb⟩ => ⟨h.trans (retB ?_), hb⟩
      rw [depth, if_neg hk]; simp

/-- what Check returns -/
def code (x : V) : Int := if formed x = true then (if 16 < depth x then 2 else 0) else 1

set_option maxRecDepth 100000 in
theorem check_call (x : V) (v : Value) (w : World) (hx : Is w x v) : Calls Tryd.prog 38 #[v] w fun e w' => e = .returned (.int .i64 (code x)) ∧ Below w.heap.size w w' := by
  have hx2 := hx
  obtain ⟨k, N, s, l, a, cap, _, _, _, _, _, _, _, _, _, _, _, _⟩ := hx
  have HX := Lib.hid hx2
  clear hx2
  go_enter Tryd.func38, Tryd.ntmps38
  go_wp2_with fail
  refine (wellFormed_call (.mk k N s l) _ _ (Is.stays HX.out (Joins.below_alloc1 w _))).mono ?_
  rintro e w1 ⟨rfl, hb⟩
  have hb1 := below_next (Joins.below_alloc1 w _) hb
  obtain ⟨hc, _⟩ := bcell hb
  cases hf : formed (.mk k N s l) with
  | false =>
    have HR : Hid (code (.mk k N s l) = 1) := by unfold Hid code; rw [hf]; rfl
    go_wp2_with fail
    go_ret
    exact ⟨by rw [HR.out]; rfl, hb1⟩
  | true =>
    go_wp2_with fail
    refine (deeper_call 16 (.mk k N s l) _ _ (by omega) (Is.stays HX.out hb1)).mono ?_
    rintro e w2 ⟨rfl, hb2⟩
    by_cases hd : 16 < depth (.mk k N s l)
    · have HR : Hid (code (.mk k N s l) = 2) := by unfold Hid code; rw [hf, if_pos rfl, if_pos hd]
      rw [show decide (16 < depth (.mk k N s l)) = true by simpa using hd]
      clear hd
      go_wp2_with fail
      go_ret
      exact ⟨by rw [HR.out]; rfl, below_next hb1 hb2⟩
    · have HR : Hid (code (.mk k N s l) = 0) := by unfold Hid code; rw [hf, if_pos rfl, if_neg hd]
      rw [show decide (16 < depth (.mk k N s l)) = false by simpa using hd]
      clear hd
      go_wp2_with fail
      go_ret
      exact ⟨by rw [HR.out]; rfl, below_next hb1 hb2⟩
end Go.Proofs.YtbcfmpohempkpaaDoor.Cod

/- Reading: take and numeral, with the panics that report what is wrong. -/
namespace Go.Proofs.YtbcfmpohempkpaaDoor.Cod
open Go.RowKit

/-- In world w the slice v holds the bytes bs, in a block below B. -/
def Rest (B : Nat) (w : World) (bs : List UInt8) (v : Value) : Prop :=
  ∃ (a : Option Addr) (cap : Nat), v = .slice a bs.length cap ∧ bs.length ≤ cap ∧ cap ≤ maxLen ∧ (a = none → bs.length = 0 ∧ cap = 0) ∧
    (bs.length = 0 ∨ ∃ b off, a = some ⟨b, off, none⟩ ∧ b < B ∧ ∀ i (h : i < bs.length), w.cell? ⟨b, off + i, none⟩ = some (.int .u8 (bs[i].toNat : Int)))

set_option maxRecDepth 100000 in
theorem Rest.stays {B : Nat} {w w' : World} {bs : List UInt8} {v : Value} (h : Rest B w bs v) (hb : Below B w w') : Rest B w' bs v := by
  obtain ⟨a, cap, h1, h2, h3, h4, h5⟩ := h
  refine ⟨a, cap, h1, h2, h3, h4, ?_⟩
  rcases h5 with h0 | ⟨b, off, ha, hl, hc⟩
  · exact .inl h0
  · exact .inr ⟨b, off, ha, hl, fun i hi => (hb.cell (p := ⟨b, off + i, none⟩) hl).trans (hc i hi)⟩

end Go.Proofs.YtbcfmpohempkpaaDoor.Cod

/- How bytes are read as a value: plain functions, and how much they leave. Nothing here is proved of the program. -/
namespace Go.Proofs.YtbcfmpohempkpaaDoor.Cod
open Go.RowKit

/-- In every world that agrees with w on the blocks of which p holds, the value v reads as the tree x. -/
def Sure (p : Nat → Prop) (w : World) (x : V) (v : Value) : Prop :=
  ∀ w2 : World, (∀ k, k < w.heap.size → p k → w2.heap[k]? = w.heap[k]?) → w.heap.size ≤ w2.heap.size → IsB w.heap.size w2 x v

set_option maxRecDepth 100000 in
theorem Sure.is {p : Nat → Prop} {w : World} {x : V} {v : Value} (h : Sure p w x v) : Is w x v := h w (fun _ _ _ => rfl) (Nat.le_refl _)

set_option maxRecDepth 100000 in
theorem Sure.mono {p q : Nat → Prop} {w : World} {x : V} {v : Value} (h : Sure p w x v) (hq : ∀ k, k < w.heap.size → p k → q k) : Sure q w x v :=
  fun w2 ha hs => h w2 (fun k hk hp => ha k hk (hq k hk hp)) hs

end Go.Proofs.YtbcfmpohempkpaaDoor.Cod
