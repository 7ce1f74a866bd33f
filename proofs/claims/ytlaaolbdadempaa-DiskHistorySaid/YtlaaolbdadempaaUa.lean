/- Disks in boxes, as the laws hold them; what the program's functions answer there. -/
import Derived.Test.YtlaaolbdadempaaP
import Derived.Test.YtlaaolbdadempaaV
import Derived.Test.YtlaaolbdadempaaY
import Derived.Test.YtlaaolbdadempaaYb
import Derived.Test.YtlaaolbdadempaaHs
import Derived.Test.YtlaaolbdadempaaDb
namespace Go.Proofs.Ytlaaolbdadempaa
open Go.RowKit

/-- what is read of a sector -/
def readF (d : Dsk) (at' : Int) : List UInt8 := d.pend.foldl (fun acc p => if p.1 = at' then p.2 else acc) (d.secs.getD at'.toNat [])
theorem readF_to (d : Dsk) (at' : Int) : ∀ k, k ≤ d.pend.length → ReadTo d at' k ((d.pend.take k).foldl (fun acc p => if p.1 = at' then p.2 else acc) (d.secs.getD at'.toNat []))
  | 0, _ => .inl ⟨fun j hj => by omega, by simp⟩
  | k + 1, h => by
    have ih := readF_to d at' k (by omega)
    have hk : k < d.pend.length := by omega
    have hg : d.pend.getD k (0, []) = d.pend[k] := by simp [List.getD, hk]
    rw [List.take_succ_eq_append_getElem hk, List.foldl_append]
    simp only [List.foldl_cons, List.foldl_nil]
    by_cases he : d.pend[k].1 = at'
    · rw [if_pos he]
      have := readTo_hit (d := d) (at' := at') (k := k) (by rw [hg]; exact he)
      rwa [hg] at this
    · rw [if_neg he]
      exact readTo_next ih (by rw [hg]; exact he)
theorem readF_data (d : Dsk) (at' : Int) : ReadData d at' (readF d at') := by
  have := readF_to d at' d.pend.length (Nat.le_refl _)
  rw [List.take_length] at this
  exact readTo_all this
theorem readF_one {d : Dsk} {at' : Int} {data : List UInt8} (h : ReadData d at' data) : data = readF d at' := readData_one h (readF_data d at')

/-- the value of a disk -/
def dv (s p : Value) (l : Int) (b : Bool) : Value := .agg #[s, p, .int .i64 l, .bool b]
/-- a disk in a block of its own: what it holds lies below -/
structure Box (w : World) (g : Nat) (d : Dsk) (s p : Value) (l : Int) (b : Bool) : Prop where
  row : Row w g 25 [s, p, .int .i64 l, .bool b]
  rest : DRest g w d (dv s p l b)
theorem Box.lt {w g d s p l b} (h : Box w g d s p l b) : g < w.heap.size := h.row.lt
theorem Box.keep {w w' : World} {g d s p l b} (h : Box w g d s p l b) (hb : Below w.heap.size w w') : Box w' g d s p l b :=
  ⟨h.row.keep hb, h.rest.stays (hb.mono (Nat.le_of_lt h.row.lt))⟩
theorem below_of_far {B g : Nat} {w w' : World} (h : ∀ b, b ≠ g → w'.heap[b]? = w.heap[b]?) (hos : w'.os = w.os) (ht : w'.tape = w.tape) (ho : w'.output = w.output) (hs : w.heap.size ≤ w'.heap.size) (hB : B ≤ g) : Below B w w' :=
  ⟨hos, ht, ho, hs, fun k hk => h k (by omega)⟩
theorem Box.drest {w g d s p l b} (h : Box w g d s p l b) : DRest w.heap.size w d (dv s p l b) := h.rest.mono (Nat.le_of_lt h.row.lt)
theorem drest_left {B : Nat} {w : World} {d : Dsk} {s p : Value} {l : Int} {b : Bool} (h : DRest B w d (dv s p l b)) : l = d.left ∧ b = d.stop ∧ (∃ a c, s = .slice a d.secs.length c) ∧ (∃ a c, p = .slice a d.pend.length c) := by
  obtain ⟨s', p', he, h1, h2⟩ := h
  unfold dv dskOf dskCells at he
  simp at he
  obtain ⟨rfl, rfl, h3, h4⟩ := he
  obtain ⟨a, cap, rfl, _, _⟩ := h1.shape
  obtain ⟨a2, cap2, rfl, _, _⟩ := h2.shape
  exact ⟨h3, h4, ⟨_, _, rfl⟩, ⟨_, _, rfl⟩⟩
theorem Box.new {w w' : World} {d s p l b} (h : DRest w.heap.size w d (dv s p l b)) (hr : Row w' w.heap.size 25 [s, p, .int .i64 l, .bool b]) (hb : Below w.heap.size w w') : Box w' w.heap.size d s p l b :=
  ⟨hr, h.stays hb⟩
/-- what a call answers that returns a disk and an error, as the laws take it -/
def NewD (w : World) (d : Dsk) (k : Int) (e : Ending) (w' : World) : Prop :=
  ∃ s p l b, e = .returned (.tuple #[dv s p l b, .int .i64 k]) ∧ DRest w'.heap.size w' d (dv s p l b) ∧ Below w.heap.size w w'
theorem AnswersS.new {S : Nat → Prop} {w : World} {r : Dsk × Int} {d : Dsk} {k : Int} {e w'} (h : AnswersS S w r e w') (hr : r = (d, k)) : NewD w d k e w' := by
  subst hr
  obtain ⟨v, rfl, hd, hb⟩ := h
  have hd' := hd.rest
  obtain ⟨s, p, rfl, h1, h2⟩ := hd'
  exact ⟨s, p, d.left, d.stop, rfl, ⟨s, p, rfl, h1, h2⟩, hb⟩
theorem one_all {B : Nat} {w : World} {d : Dsk} {s p : Value} {l : Int} {b : Bool} (h : DRest B w d (dv s p l b)) : [s, p, .int .i64 l, .bool b].all (·.oneCell') = true := by
  obtain ⟨_, _, ⟨a, c, rfl⟩, ⟨a2, c2, rfl⟩⟩ := drest_left h
  rfl

section
variable {W : World} {g : Nat} {d d' : Dsk} {s p : Value} {l k : Int} {b : Bool}
theorem new_law (n : Int) (hr : newD n = (d', k)) : Calls Try.prog 19 #[.int .i64 n] W (NewD W d' k) := (new_call (fun _ => True) n W).mono fun _ _ h => h.new hr
theorem drests (h : DRest W.heap.size W d (dv s p l b)) : DRestS (fun b => b < W.heap.size) W d (dv s p l b) := h
theorem write_law (h : DRest W.heap.size W d (dv s p l b)) (at' : Int) {bs : List UInt8} {bv : Value} (hb : Rest W.heap.size W bs bv) (hr : writeD d at' bs = (d', k)) :
    Calls Try.prog 26 #[dv s p l b, .int .i64 at', bv] W (NewD W d' k) := (write_call _ d _ at' bs bv W (drests h) hb).mono fun _ _ h => h.new hr
theorem sync_law (h : DRest W.heap.size W d (dv s p l b)) (hr : syncD d = (d', k)) : Calls Try.prog 30 #[dv s p l b] W (NewD W d' k) := (sync_call _ d _ W (drests h)).mono fun _ _ h => h.new hr
theorem stop_law (h : DRest W.heap.size W d (dv s p l b)) (left : Int) (hr : stopD d left = (d', k)) : Calls Try.prog 32 #[dv s p l b, .int .i64 left] W (NewD W d' k) := (stops_call _ d _ left W (drests h)).mono fun _ _ h => h.new hr
/-- the same: where it lies is told -/
def NewDS (S : Nat → Prop) (w : World) (d : Dsk) (k : Int) (e : Ending) (w' : World) : Prop :=
  ∃ s p l b, e = .returned (.tuple #[dv s p l b, .int .i64 k]) ∧ DRestS (Ext S w.heap.size) w' d (dv s p l b) ∧ Below w.heap.size w w'
theorem AnswersS.newS {S : Nat → Prop} {w : World} {r : Dsk × Int} {d : Dsk} {k : Int} {e w'} (h : AnswersS S w r e w') (hr : r = (d, k)) : NewDS S w d k e w' := by
  subst hr
  obtain ⟨v, rfl, hd, hb⟩ := h
  obtain ⟨s, p, rfl, h1, h2⟩ := hd
  exact ⟨s, p, d.left, d.stop, rfl, ⟨s, p, rfl, h1, h2⟩, hb⟩
def NewRS (S : Nat → Prop) (w : World) (d : Dsk) (e : Ending) (w' : World) : Prop := ∃ s p l b, e = .returned (dv s p l b) ∧ DRestS (Ext S w.heap.size) w' d (dv s p l b) ∧ Below w.heap.size w w'
theorem write_lawS {S : Nat → Prop} (h : DRestS S W d (dv s p l b)) (at' : Int) {bs : List UInt8} {bv : Value} (hb : Rest W.heap.size W bs bv) (hr : writeD d at' bs = (d', k)) :
    Calls Try.prog 26 #[dv s p l b, .int .i64 at', bv] W (NewDS S W d' k) := (write_call S d _ at' bs bv W h hb).mono fun _ _ h => h.newS hr
theorem restart_lawS {S : Nat → Prop} (h : DRestS S W d (dv s p l b)) (hr : restartD d = d') : Calls Try.prog 24 #[dv s p l b] W (NewRS S W d') :=
  (restarts_call S d _ W h).mono fun _ _ ⟨v, he, hd, hb⟩ => by
    subst hr
    obtain ⟨s, p, rfl, h1, h2⟩ := hd
    exact ⟨s, p, _, _, he, ⟨s, p, rfl, h1, h2⟩, hb⟩
theorem Box.stays {w w' : World} {B g d s p l b} (h : Box w g d s p l b) (hb : Below B w w') (hg : g < B) : Box w' g d s p l b :=
  ⟨h.row.stays hb hg, h.rest.stays (hb.mono (Nat.le_of_lt hg))⟩
theorem row_set4 {w : World} {g T : Nat} {a b c d : Value} (h : Row w g T [a, b, c, d]) (a' b' c' d' : Value) : Row ((((w.setCell ⟨g, 0, none⟩ a').setCell ⟨g, 1, none⟩ b').setCell ⟨g, 2, none⟩ c').setCell ⟨g, 3, none⟩ d') g T [a', b', c', d'] :=
  (((h.set (cs' := [a', b, c, d]) 0 a' rfl).set (cs' := [a', b', c, d]) 1 b' rfl).set (cs' := [a', b', c', d]) 2 c' rfl).set (cs' := [a', b', c', d']) 3 d' rfl
/-- what a call answers that returns a disk -/
def NewR (w : World) (d : Dsk) (e : Ending) (w' : World) : Prop := ∃ s p l b, e = .returned (dv s p l b) ∧ DRest w'.heap.size w' d (dv s p l b) ∧ Below w.heap.size w w'
theorem restart_law (h : DRest W.heap.size W d (dv s p l b)) (hr : restartD d = d') : Calls Try.prog 24 #[dv s p l b] W (NewR W d') :=
  (restarts_call _ d _ W (drests h)).mono fun _ _ ⟨v, he, hd, hb⟩ => by
    subst hr
    have hd' := hd.rest
    obtain ⟨s, p, rfl, h1, h2⟩ := hd'
    exact ⟨s, p, _, _, he, ⟨s, p, rfl, h1, h2⟩, hb⟩
/-- what is read, as the laws take it -/
def ReadAt (w : World) (data : List UInt8) (e : Ending) (w' : World) : Prop := ∃ g, e = .returned (.tuple #[.slice (some ⟨g, 0, none⟩) 128 128, .int .i64 0]) ∧ Row w' g 5 (cellsOf (sectorL [data])) ∧ w.heap.size ≤ g ∧ Below w.heap.size w w'
theorem read_law (h : DRest W.heap.size W d (dv s p l b)) (at' : Int) (hr : runsB d = true) (hh : hasB d.secs.length at' = true) {data : List UInt8} (hd : readF d at' = data) : Calls Try.prog 28 #[dv s p l b, .int .i64 at'] W (ReadAt W data) :=
  (read_loop d at' _ W h hr hh).mono fun _ _ ⟨g, data', he, h1, h2, h3, h4⟩ => by
    rw [readF_one h4, hd] at h1
    exact ⟨g, he, h1, h2, h3⟩
theorem read_none (h : DRest W.heap.size W d (dv s p l b)) (at' : Int) (hno : runsB d = false ∨ hasB d.secs.length at' = false) : Calls Try.prog 28 #[dv s p l b, .int .i64 at'] W (RefuseRead W) := read_refuse d at' _ W h hno
end
/-- a box that is written anew -/
theorem box_over {w0 w : World} {g n : Nat} {d : Dsk} {x0 x1 x2 x3 : Value} {s p : Value} {l : Int} {b : Bool} (hr : Row w g 25 [x0, x1, x2, x3]) (hg : g < n) (hd : DRestS (Ext (fun b => b < g) n) w d (dv s p l b)) (hb : Below g w0 w) :
    Row ((((w.setCell ⟨g, 0, none⟩ s).setCell ⟨g, 1, none⟩ p).setCell ⟨g, 2, none⟩ (.int .i64 l)).setCell ⟨g, 3, none⟩ (.bool b)) g 25 [s, p, .int .i64 l, .bool b] ∧
    DRest ((((w.setCell ⟨g, 0, none⟩ s).setCell ⟨g, 1, none⟩ p).setCell ⟨g, 2, none⟩ (.int .i64 l)).setCell ⟨g, 3, none⟩ (.bool b)).heap.size ((((w.setCell ⟨g, 0, none⟩ s).setCell ⟨g, 1, none⟩ p).setCell ⟨g, 2, none⟩ (.int .i64 l)).setCell ⟨g, 3, none⟩ (.bool b)) d (dv s p l b) ∧
    Below g w0 ((((w.setCell ⟨g, 0, none⟩ s).setCell ⟨g, 1, none⟩ p).setCell ⟨g, 2, none⟩ (.int .i64 l)).setCell ⟨g, 3, none⟩ (.bool b)) :=
  ⟨row_set4 hr _ _ _ _, (hd.keep (keep4 w g s p _ _ (fun h => by rcases h with h | h <;> omega))).rest, below4 hb g s p _ _ (Nat.le_refl _)⟩
end Go.Proofs.Ytlaaolbdadempaa
