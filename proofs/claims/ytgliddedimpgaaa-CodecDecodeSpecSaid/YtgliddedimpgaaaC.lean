/- How a value of the codec lies in memory, and which functions say whether it is well-formed and how deep it is. -/
import Derived.Test.YtgliddedimpgaaaB
import Derived.Deep.RegionWith
import Derived.Deep.QuietTactic
import Derived.BigQuiet
import Derived.Outline
import Derived.Deep.RegionHeld3
import Derived.Laws.EntriesVeiled
namespace Go.Proofs.Ytgliddedimpgaaa
open Go.RowKit

/-- In world w the value v reads as the tree x, and all its memory lies in blocks below B. -/
inductive IsB (B : Nat) (w : World) : V → Value → Prop where
  | mk (k n : Int) (s : ByteArray) (l : List V) (a : Option Addr) (cap : Nat) (fk fn : Nat → Int) (fs : Nat → ByteArray) (fa : Nat → Option Addr) (fl fc : Nat → Nat)
    (hk : -9223372036854775808 ≤ k ∧ k ≤ 9223372036854775807) (hn : -9223372036854775808 ≤ n ∧ n ≤ 9223372036854775807) (hs : s.size ≤ maxLen) (hl : l.length ≤ 9223372036854775807)
    (hc : l.length = 0 ∨ ∃ b off, a = some ⟨b, off, none⟩ ∧ b < B ∧ ∀ i, i < l.length → w.cell? ⟨b, off + i * 4, none⟩ = some (.int .i64 (fk i)) ∧ w.cell? ⟨b, off + i * 4 + 1, none⟩ = some (.int .i64 (fn i)) ∧
      w.cell? ⟨b, off + i * 4 + 2, none⟩ = some (.string (fs i)) ∧ w.cell? ⟨b, off + i * 4 + 3, none⟩ = some (.slice (fa i) (fl i) (fc i)))
    (he : ∀ i (h : i < l.length), IsB B w l[i] (val (fk i) (fn i) (fs i) (fa i) (fl i) (fc i))) : IsB B w (.mk k n s l) (val k n s a l.length cap)

/-- In world w the value v reads as the tree x. -/
abbrev Is (w : World) (x : V) (v : Value) : Prop := IsB w.heap.size w x v

theorem IsB.stays {B : Nat} {w w' : World} {x : V} {v : Value} (h : IsB B w x v) (hb : Below B w w') : IsB B w' x v := by
  induction h with
  | mk k n s l a cap fk fn fs fa fl fc hk hn hs hl hc he ih =>
    refine .mk k n s l a cap fk fn fs fa fl fc hk hn hs hl ?_ ih
    rcases hc with h0 | ⟨b, off, ha, hlt, hc⟩
    · exact .inl h0
    · refine .inr ⟨b, off, ha, hlt, fun i hi => ?_⟩
      obtain ⟨c0, c1, c2, c3⟩ := hc i hi
      exact ⟨(hb.cell (p := ⟨b, off + i * 4, none⟩) hlt).trans c0, (hb.cell (p := ⟨b, off + i * 4 + 1, none⟩) hlt).trans c1, (hb.cell (p := ⟨b, off + i * 4 + 2, none⟩) hlt).trans c2, (hb.cell (p := ⟨b, off + i * 4 + 3, none⟩) hlt).trans c3⟩

theorem IsB.mono {B B' : Nat} {w : World} {x : V} {v : Value} (h : IsB B w x v) (hb : B ≤ B') : IsB B' w x v := by
  induction h with
  | mk k n s l a cap fk fn fs fa fl fc hk hn hs hl hc he ih =>
    refine .mk k n s l a cap fk fn fs fa fl fc hk hn hs hl ?_ ih
    rcases hc with h0 | ⟨b, off, ha, hlt, hc⟩
    · exact .inl h0
    · exact .inr ⟨b, off, ha, by omega, hc⟩

theorem Is.stays {w w' : World} {x : V} {v : Value} (h : Is w x v) (hb : Below w.heap.size w w') : Is w' x v := (IsB.stays h hb).mono hb.size

/-- the array of the kinds' functions -/
def kindTab : Value := .agg #[.nilFunc, .nilFunc, .nilFunc, .func (Fn.func 47) #[] #[], .func (Fn.func 48) #[] #[], .func (Fn.func 49) #[] #[], .func (Fn.func 50) #[] #[], .func (Fn.func 51) #[] #[], .func (Fn.func 52) #[] #[], .func (Fn.func 53) #[] #[], .func (Fn.func 54) #[] #[], .func (Fn.func 55) #[] #[]]

set_option maxRecDepth 100000 in
theorem kinds_call (w : World) :
    Calls Try.prog 38 #[] w fun e w' => e = .returned kindTab ∧ Below w.heap.size w w' := by
  go_enter Try.func38, Try.ntmps38
  go_wp2_with fail
  exact bodyPost_ret (v := kindTab) (by simp [results, Try.results38, go_sem, kindTab]) rfl ⟨rfl, (Below.refl _ _).alloc (Nat.le_refl _) _⟩

theorem kindAt1 (w : World) : (Instr.index 59 kindTab (.int .i64 1)).run Try.prog w = .ok (.agg #[.func (Fn.func 47) #[] #[], .func (Fn.func 48) #[] #[], .func (Fn.func 49) #[] #[]]) w := by kernel_rfl
theorem kindAt2 (w : World) : (Instr.index 59 kindTab (.int .i64 2)).run Try.prog w = .ok (.agg #[.func (Fn.func 50) #[] #[], .func (Fn.func 51) #[] #[], .func (Fn.func 52) #[] #[]]) w := by kernel_rfl
theorem kindAt3 (w : World) : (Instr.index 59 kindTab (.int .i64 3)).run Try.prog w = .ok (.agg #[.func (Fn.func 53) #[] #[], .func (Fn.func 54) #[] #[], .func (Fn.func 55) #[] #[]]) w := by kernel_rfl

theorem kindFn10 (w : World) : (Instr.field 58 (.agg #[.func (Fn.func 47) #[] #[], .func (Fn.func 48) #[] #[], .func (Fn.func 49) #[] #[]]) 0).run Try.prog w = .ok (.func (Fn.func 47) #[] #[]) w := by kernel_rfl
theorem kindFn11 (w : World) : (Instr.field 58 (.agg #[.func (Fn.func 47) #[] #[], .func (Fn.func 48) #[] #[], .func (Fn.func 49) #[] #[]]) 1).run Try.prog w = .ok (.func (Fn.func 48) #[] #[]) w := by kernel_rfl
theorem kindFn12 (w : World) : (Instr.field 58 (.agg #[.func (Fn.func 47) #[] #[], .func (Fn.func 48) #[] #[], .func (Fn.func 49) #[] #[]]) 2).run Try.prog w = .ok (.func (Fn.func 49) #[] #[]) w := by kernel_rfl
theorem kindFn20 (w : World) : (Instr.field 58 (.agg #[.func (Fn.func 50) #[] #[], .func (Fn.func 51) #[] #[], .func (Fn.func 52) #[] #[]]) 0).run Try.prog w = .ok (.func (Fn.func 50) #[] #[]) w := by kernel_rfl
theorem kindFn21 (w : World) : (Instr.field 58 (.agg #[.func (Fn.func 50) #[] #[], .func (Fn.func 51) #[] #[], .func (Fn.func 52) #[] #[]]) 1).run Try.prog w = .ok (.func (Fn.func 51) #[] #[]) w := by kernel_rfl
theorem kindFn22 (w : World) : (Instr.field 58 (.agg #[.func (Fn.func 50) #[] #[], .func (Fn.func 51) #[] #[], .func (Fn.func 52) #[] #[]]) 2).run Try.prog w = .ok (.func (Fn.func 52) #[] #[]) w := by kernel_rfl
theorem kindFn30 (w : World) : (Instr.field 58 (.agg #[.func (Fn.func 53) #[] #[], .func (Fn.func 54) #[] #[], .func (Fn.func 55) #[] #[]]) 0).run Try.prog w = .ok (.func (Fn.func 53) #[] #[]) w := by kernel_rfl
theorem kindFn31 (w : World) : (Instr.field 58 (.agg #[.func (Fn.func 53) #[] #[], .func (Fn.func 54) #[] #[], .func (Fn.func 55) #[] #[]]) 1).run Try.prog w = .ok (.func (Fn.func 54) #[] #[]) w := by kernel_rfl
theorem kindFn32 (w : World) : (Instr.field 58 (.agg #[.func (Fn.func 53) #[] #[], .func (Fn.func 54) #[] #[], .func (Fn.func 55) #[] #[]]) 2).run Try.prog w = .ok (.func (Fn.func 55) #[] #[]) w := by kernel_rfl

theorem bcell {W w1 : World} (hb : Below W.heap.size W w1) : (∀ b o, b < W.heap.size → w1.cell? ⟨b, o, none⟩ = W.cell? ⟨b, o, none⟩) ∧ (∀ b o, b < W.heap.size → w1.frozen? ⟨b, o, none⟩ = W.frozen? ⟨b, o, none⟩) :=
  ⟨fun b o h => hb.cell (p := ⟨b, o, none⟩) h, fun b o h => hb.frozen (p := ⟨b, o, none⟩) h⟩

theorem str_nil {s : ByteArray} (h : s.size = 0) : s = ⟨#[]⟩ := by
  obtain ⟨d⟩ := s
  have : d = #[] := Array.eq_empty_of_size_eq_zero h
  rw [this]
theorem str_loop (s : ByteArray) : ∀ (k i : Nat) (r : List UInt8), s.size - i ≤ k → (ByteArray.toList.loop s i r).length = r.length + (s.size - i) := by
  intro k
  induction k with
  | zero =>
    intro i r h
    rw [ByteArray.toList.loop, if_neg (by omega)]
    simp; omega
  | succ k ih =>
    intro i r h
    rw [ByteArray.toList.loop]
    by_cases hi : i < s.size
    · rw [if_pos hi, ih (i + 1) _ (by omega)]; simp; omega
    · rw [if_neg hi]; simp; omega
theorem str_toList (s : ByteArray) : s.toList.length = s.size := by
  unfold ByteArray.toList
  rw [str_loop s s.size 0 [] (by omega)]; simp
theorem str_cons {s : ByteArray} (h : ¬ s.size = 0) : s.toList.isEmpty = false ∧ ¬ s.toList = [] := by
  have := str_toList s
  constructor
  · cases e : s.toList with
    | nil => rw [e] at this; simp at this; omega
    | cons _ _ => rfl
  · intro e; rw [e] at this; simp at this; omega

theorem fitsText_call (k n : Int) (s : ByteArray) (a : Option Addr) (len cap : Nat) (w : World) :
    Calls Try.prog 50 #[val k n s a len cap] w fun e w' => e = .returned (.bool (n == 0 && len == 0)) ∧ Below w.heap.size w w' := by
  by_cases hs : n = 0
  · subst hs
    by_cases hl : len = 0
    · subst hl
      go_enter Try.func50, Try.ntmps50
      go_wp2
      go_ret
      exact ⟨rfl, Joins.below_alloc1 _ _⟩
    · have hl' : ((len : Int) == 0) = false := by simp; omega
      have hl2 : (len == 0) = false := by simp; omega
      go_enter Try.func50, Try.ntmps50
      go_wp2
      go_ret
      exact ⟨by rw [hl2]; rfl, Joins.below_alloc1 _ _⟩
  · have h1 : (n == 0) = false := by simpa using hs
    go_enter Try.func50, Try.ntmps50
    go_wp2
    go_ret
    exact ⟨by rw [h1]; rfl, Joins.below_alloc1 _ _⟩

theorem fitsInt_call (k n : Int) (s : ByteArray) (a : Option Addr) (len cap : Nat) (w : World) :
    Calls Try.prog 47 #[val k n s a len cap] w fun e w' => e = .returned (.bool (s.size == 0 && len == 0)) ∧ Below w.heap.size w w' := by

  by_cases hs : s.size = 0
  · obtain rfl := str_nil hs
    clear hs
    by_cases hl : len = 0
    · subst hl
      go_enter Try.func47, Try.ntmps47
      go_wp2
      go_ret
      exact ⟨rfl, Joins.below_alloc1 _ _⟩
    · have hl' : ((len : Int) == 0) = false := by simp; omega
      have hl2 : (len == 0) = false := by simp; omega
      go_enter Try.func47, Try.ntmps47
      go_wp2
      go_ret
      exact ⟨by rw [hl2]; rfl, Joins.below_alloc1 _ _⟩
  · obtain ⟨h1, h2⟩ := str_cons hs
    have hs2 : (s.size == 0) = false := by simpa using hs
    clear hs
    go_enter Try.func47, Try.ntmps47
    go_wp2
    go_ret
    exact ⟨by rw [hs2]; rfl, Joins.below_alloc1 _ _⟩

theorem keep4 {w1 w2 : World} {b : Nat} {c0 c1 c2 c3 : Value} (hb : Below w1.heap.size w1 w2) (h : w1.cell? ⟨b, 0, none⟩ = some c0 ∧ w1.cell? ⟨b, 1, none⟩ = some c1 ∧ w1.cell? ⟨b, 2, none⟩ = some c2 ∧ w1.cell? ⟨b, 3, none⟩ = some c3) :
    w2.cell? ⟨b, 0, none⟩ = some c0 ∧ w2.cell? ⟨b, 1, none⟩ = some c1 ∧ w2.cell? ⟨b, 2, none⟩ = some c2 ∧ w2.cell? ⟨b, 3, none⟩ = some c3 := by
  obtain ⟨h0, h1, h2, h3⟩ := h
  have hl := World.block_lt_of_cell? w1 _ h0
  exact ⟨(hb.cell (p := ⟨b, 0, none⟩) hl).trans h0, (hb.cell (p := ⟨b, 1, none⟩) hl).trans h1, (hb.cell (p := ⟨b, 2, none⟩) hl).trans h2, (hb.cell (p := ⟨b, 3, none⟩) hl).trans h3⟩

theorem below_next {w a b : World} (h : Below w.heap.size w a) (k : Below a.heap.size a b) : Below w.heap.size w b := h.trans (k.mono h.size)

set_option maxHeartbeats 4000000 in
theorem wellFormed_1 (n : Int) (s : ByteArray) (a : Option Addr) (len cap : Nat) (w : World) :
    Calls Try.prog 29 #[val 1 n s a len cap] w fun e w' => e = .returned (.bool (s.size == 0 && len == 0)) ∧ Below w.heap.size w w' := by
  have k1 := kindAt1
  have k2 := kindFn10
  go_enter Try.func29, Try.ntmps29
  go_wp2_with fail
  go_region_held3 (fun w' => w'.cell? ⟨w.heap.size, 0, none⟩ = some (.int .i64 1) ∧ w'.cell? ⟨w.heap.size, 1, none⟩ = some (.int .i64 n) ∧ w'.cell? ⟨w.heap.size, 2, none⟩ = some (.string s) ∧ w'.cell? ⟨w.heap.size, 3, none⟩ = some (.slice a len cap))
    (first | go_keep | (exact keep4 hb2 (by assumption)) | (exact keep4 hb1 (by assumption)))
    (first | (go_at_call 38; refine (kinds_call _).mono ?_; rintro e w' ⟨rfl, hb1⟩) | (go_at_call 47; refine (fitsInt_call _ _ _ _ _ _ _).mono ?_; rintro e w' ⟨rfl, hb2⟩))
  go_wp2
  go_ret
  exact ⟨rfl, below_next (below_next ((Joins.below_alloc1 w _).drew) hb1) hb2⟩

set_option maxHeartbeats 4000000 in
theorem wellFormed_2 (n : Int) (s : ByteArray) (a : Option Addr) (len cap : Nat) (w : World) :
    Calls Try.prog 29 #[val 2 n s a len cap] w fun e w' => e = .returned (.bool (n == 0 && len == 0)) ∧ Below w.heap.size w w' := by
  have k1 := kindAt2
  have k2 := kindFn20
  go_enter Try.func29, Try.ntmps29
  go_wp2_with fail
  go_region_held3 (fun w' => w'.cell? ⟨w.heap.size, 0, none⟩ = some (.int .i64 2) ∧ w'.cell? ⟨w.heap.size, 1, none⟩ = some (.int .i64 n) ∧ w'.cell? ⟨w.heap.size, 2, none⟩ = some (.string s) ∧ w'.cell? ⟨w.heap.size, 3, none⟩ = some (.slice a len cap))
    (first | go_keep | (exact keep4 hb2 (by assumption)) | (exact keep4 hb1 (by assumption)))
    (first | (go_at_call 38; refine (kinds_call _).mono ?_; rintro e w' ⟨rfl, hb1⟩) | (go_at_call 50; refine (fitsText_call _ _ _ _ _ _ _).mono ?_; rintro e w' ⟨rfl, hb2⟩))
  go_wp2
  go_ret
  exact ⟨rfl, below_next (below_next ((Joins.below_alloc1 w _).drew) hb1) hb2⟩

set_option maxHeartbeats 4000000 in
theorem wellFormed_3 (n : Int) (s : ByteArray) (a : Option Addr) (len cap : Nat) (w : World)
    (r : Bool) (HF : Hid (∀ W, Below w.heap.size w W → Calls Try.prog 53 #[val 3 n s a len cap] W fun e w' => e = .returned (.bool r) ∧ Below W.heap.size W w')) :
    Calls Try.prog 29 #[val 3 n s a len cap] w fun e w' => e = .returned (.bool r) ∧ Below w.heap.size w w' := by
  have k1 := kindAt3
  have k2 := kindFn30
  go_enter Try.func29, Try.ntmps29
  go_wp2_with fail
  go_region_held3 (fun w' => w'.cell? ⟨w.heap.size, 0, none⟩ = some (.int .i64 3) ∧ w'.cell? ⟨w.heap.size, 1, none⟩ = some (.int .i64 n) ∧ w'.cell? ⟨w.heap.size, 2, none⟩ = some (.string s) ∧ w'.cell? ⟨w.heap.size, 3, none⟩ = some (.slice a len cap))
    (first | go_keep | (exact keep4 hb2 (by assumption)) | (exact keep4 hb1 (by assumption)))
    (first | (go_at_call 38; refine (kinds_call _).mono ?_; rintro e w' ⟨rfl, hb1⟩) | (go_at_call 53; refine (HF.out _ (below_next ((Joins.below_alloc1 w _).drew) hb1)).mono ?_; rintro e w' ⟨rfl, hb2⟩))
  go_wp2
  go_ret
  exact ⟨rfl, below_next (below_next ((Joins.below_alloc1 w _).drew) hb1) hb2⟩

end Go.Proofs.Ytgliddedimpgaaa
