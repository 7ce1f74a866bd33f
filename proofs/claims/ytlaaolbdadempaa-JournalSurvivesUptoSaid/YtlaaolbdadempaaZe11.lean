/- Disks in boxes, as the laws hold them; what the program's functions answer there. -/
import Derived.Test.YtlaaolbdadempaaZe6
import Derived.Test.YtlaaolbdadempaaZe8
import Derived.Test.YtlaaolbdadempaaZe10
import Derived.Test.YtlaaolbdadempaaZe5
namespace Go.Proofs.Ytlaaolbdadempaa
open Go.RowKit

/-- what is read of a sector -/
def readF (d : Dsk) (at' : Int) : List UInt8 := d.pend.foldl (fun acc p => if p.1 = at' then p.2 else acc) (d.secs.getD at'.toNat [])
theorem readF_to (d : Dsk) (at' : Int) : ∀ k, k ≤ d.pend.length → ReadTo d at' k ((d.pend.take k).foldl (fun acc p => if p.1 = at' then p.2 else acc) (d.secs.getD at'.toNat []))
  | 0, _ => .inl ⟨fun j hj => by omega, by simp⟩
  | k + 1, h => by
    have ih := readF_to d at' k (by omega)
    have hk : k < d.pend.length := by omega
    have hg : d.pend.getD k (0, []) = d.pend[k] := by simp [List.getD, hk]
    rw [List.take_succ_eq_append_getElem hk, List.foldl_append]
    simp only [List.foldl_cons, List.foldl_nil]
    by_cases he : d.pend[k].1 = at'
    · rw [if_pos he]
      have := readTo_hit (d := d) (at' := at') (k := k) (by rw [hg]; exact he)
      rwa [hg] at this
    · rw [if_neg he]
      exact readTo_next ih (by rw [hg]; exact he)
theorem readF_data (d : Dsk) (at' : Int) : ReadData d at' (readF d at') := by
  have := readF_to d at' d.pend.length (Nat.le_refl _)
  rw [List.take_length] at this
  exact readTo_all this
theorem readF_one {d : Dsk} {at' : Int} {data : List UInt8} (h : ReadData d at' data) : data = readF d at' := readData_one h (readF_data d at')

/-- the value of a disk -/
def dv (s p : Value) (l : Int) (b : Bool) : Value := .agg #[s, p, .int .i64 l, .bool b]
/-- a disk in a block of its own: what it holds lies below -/
structure Box (w : World) (g : Nat) (d : Dsk) (s p : Value) (l : Int) (b : Bool) : Prop where
  row : Row w g 25 [s, p, .int .i64 l, .bool b]
  rest : DRest g w d (dv s p l b)
theorem Box.lt {w g d s p l b} (h : Box w g d s p l b) : g < w.heap.size := h.row.lt
theorem Box.keep {w w' : World} {g d s p l b} (h : Box w g d s p l b) (hb : Below w.heap.size w w') : Box w' g d s p l b :=
  ⟨h.row.keep hb, h.rest.stays (hb.mono (Nat.le_of_lt h.row.lt))⟩
theorem below_of_far {B g : Nat} {w w' : World} (h : ∀ b, b ≠ g → w'.heap[b]? = w.heap[b]?) (hos : w'.os = w.os) (ht : w'.tape = w.tape) (ho : w'.output = w.output) (hs : w.heap.size ≤ w'.heap.size) (hB : B ≤ g) : Below B w w' :=
  ⟨hos, ht, ho, hs, fun k hk => h k (by omega)⟩
theorem Box.drest {w g d s p l b} (h : Box w g d s p l b) : DRest w.heap.size w d (dv s p l b) := h.rest.mono (Nat.le_of_lt h.row.lt)
theorem drest_left {B : Nat} {w : World} {d : Dsk} {s p : Value} {l : Int} {b : Bool} (h : DRest B w d (dv s p l b)) : l = d.left ∧ b = d.stop ∧ (∃ a c, s = .slice a d.secs.length c) ∧ (∃ a c, p = .slice a d.pend.length c) := by
  obtain ⟨s', p', he, h1, h2⟩ := h
  unfold dv dskOf dskCells at he
  simp at he
  obtain ⟨rfl, rfl, h3, h4⟩ := he
  obtain ⟨a, cap, rfl, _, _⟩ := h1.shape
  obtain ⟨a2, cap2, rfl, _, _⟩ := h2.shape
  exact ⟨h3, h4, ⟨_, _, rfl⟩, ⟨_, _, rfl⟩⟩
theorem Box.new {w w' : World} {d s p l b} (h : DRest w.heap.size w d (dv s p l b)) (hr : Row w' w.heap.size 25 [s, p, .int .i64 l, .bool b]) (hb : Below w.heap.size w w') : Box w' w.heap.size d s p l b :=
  ⟨hr, h.stays hb⟩
/-- what a call answers that returns a disk and an error, as the laws take it -/
def NewD (w : World) (d : Dsk) (k : Int) (e : Ending) (w' : World) : Prop :=
  ∃ s p l b, e = .returned (.tuple #[dv s p l b, .int .i64 k]) ∧ DRest w'.heap.size w' d (dv s p l b) ∧ Below w.heap.size w w'
theorem AnswersS.new {S : Nat → Prop} {w : World} {r : Dsk × Int} {d : Dsk} {k : Int} {e w'} (h : AnswersS S w r e w') (hr : r = (d, k)) : NewD w d k e w' := by
  subst hr
  obtain ⟨v, rfl, hd, hb⟩ := h
  have hd' := hd.rest
  obtain ⟨s, p, rfl, h1, h2⟩ := hd'
  exact ⟨s, p, d.left, d.stop, rfl, ⟨s, p, rfl, h1, h2⟩, hb⟩
theorem one_all {B : Nat} {w : World} {d : Dsk} {s p : Value} {l : Int} {b : Bool} (h : DRest B w d (dv s p l b)) : [s, p, .int .i64 l, .bool b].all (·.oneCell') = true := by
  obtain ⟨_, _, ⟨a, c, rfl⟩, ⟨a2, c2, rfl⟩⟩ := drest_left h
  rfl

section
variable {W : World} {g : Nat} {d d' : Dsk} {s p : Value} {l k : Int} {b : Bool}
theorem new_law (n : Int) (hr : newD n = (d', k)) : Calls Try.prog 19 #[.int .i64 n] W (NewD W d' k) := (new_call (fun _ => True) n W).mono fun _ _ h => h.new hr
theorem drests (h : DRest W.heap.size W d (dv s p l b)) : DRestS (fun b => b < W.heap.size) W d (dv s p l b) := h
theorem write_law (h : DRest W.heap.size W d (dv s p l b)) (at' : Int) {bs : List UInt8} {bv : Value} (hb : Rest W.heap.size W bs bv) (hr : writeD d at' bs = (d', k)) :
    Calls Try.prog 26 #[dv s p l b, .int .i64 at', bv] W (NewD W d' k) := (write_call _ d _ at' bs bv W (drests h) hb).mono fun _ _ h => h.new hr
theorem sync_law (h : DRest W.heap.size W d (dv s p l b)) (hr : syncD d = (d', k)) : Calls Try.prog 30 #[dv s p l b] W (NewD W d' k) := (sync_call _ d _ W (drests h)).mono fun _ _ h => h.new hr
theorem stop_law (h : DRest W.heap.size W d (dv s p l b)) (left : Int) (hr : stopD d left = (d', k)) : Calls Try.prog 32 #[dv s p l b, .int .i64 left] W (NewD W d' k) := (stops_call _ d _ left W (drests h)).mono fun _ _ h => h.new hr
/-- the same: where it lies is told -/
def NewDS (S : Nat → Prop) (w : World) (d : Dsk) (k : Int) (e : Ending) (w' : World) : Prop :=
  ∃ s p l b, e = .returned (.tuple #[dv s p l b, .int .i64 k]) ∧ DRestS (Ext S w.heap.size) w' d (dv s p l b) ∧ Below w.heap.size w w'
theorem AnswersS.newS {S : Nat → Prop} {w : World} {r : Dsk × Int} {d : Dsk} {k : Int} {e w'} (h : AnswersS S w r e w') (hr : r = (d, k)) : NewDS S w d k e w' := by
  subst hr
  obtain ⟨v, rfl, hd, hb⟩ := h
  obtain ⟨s, p, rfl, h1, h2⟩ := hd
  exact ⟨s, p, d.left, d.stop, rfl, ⟨s, p, rfl, h1, h2⟩, hb⟩
def NewRS (S : Nat → Prop) (w : World) (d : Dsk) (e : Ending) (w' : World) : Prop := ∃ s p l b, e = .returned (dv s p l b) ∧ DRestS (Ext S w.heap.size) w' d (dv s p l b) ∧ Below w.heap.size w w'
theorem write_lawS {S : Nat → Prop} (h : DRestS S W d (dv s p l b)) (at' : Int) {bs : List UInt8} {bv : Value} (hb : Rest W.heap.size W bs bv) (hr : writeD d at' bs = (d', k)) :
    Calls Try.prog 26 #[dv s p l b, .int .i64 at', bv] W (NewDS S W d' k) := (write_call S d _ at' bs bv W h hb).mono fun _ _ h => h.newS hr
theorem restart_lawS {S : Nat → Prop} (h : DRestS S W d (dv s p l b)) (hr : restartD d = d') : Calls Try.prog 24 #[dv s p l b] W (NewRS S W d') :=
  (restarts_call S d _ W h).mono fun _ _ ⟨v, he, hd, hb⟩ => by
    subst hr
    obtain ⟨s, p, rfl, h1, h2⟩ := hd
    exact ⟨s, p, _, _, he, ⟨s, p, rfl, h1, h2⟩, hb⟩
theorem Box.stays {w w' : World} {B g d s p l b} (h : Box w g d s p l b) (hb : Below B w w') (hg : g < B) : Box w' g d s p l b :=
  ⟨h.row.stays hb hg, h.rest.stays (hb.mono (Nat.le_of_lt hg))⟩
theorem row_set4 {w : World} {g T : Nat} {a b c d : Value} (h : Row w g T [a, b, c, d]) (a' b' c' d' : Value) : Row ((((w.setCell ⟨g, 0, none⟩ a').setCell ⟨g, 1, none⟩ b').setCell ⟨g, 2, none⟩ c').setCell ⟨g, 3, none⟩ d') g T [a', b', c', d'] :=
  (((h.set (cs' := [a', b, c, d]) 0 a' rfl).set (cs' := [a', b', c, d]) 1 b' rfl).set (cs' := [a', b', c', d]) 2 c' rfl).set (cs' := [a', b', c', d']) 3 d' rfl
/-- what a call answers that returns a disk -/
def NewR (w : World) (d : Dsk) (e : Ending) (w' : World) : Prop := ∃ s p l b, e = .returned (dv s p l b) ∧ DRest w'.heap.size w' d (dv s p l b) ∧ Below w.heap.size w w'
theorem restart_law (h : DRest W.heap.size W d (dv s p l b)) (hr : restartD d = d') : Calls Try.prog 24 #[dv s p l b] W (NewR W d') :=
  (restarts_call _ d _ W (drests h)).mono fun _ _ ⟨v, he, hd, hb⟩ => by
    subst hr
    have hd' := hd.rest
    obtain ⟨s, p, rfl, h1, h2⟩ := hd'
    exact ⟨s, p, _, _, he, ⟨s, p, rfl, h1, h2⟩, hb⟩
/-- what is read, as the laws take it -/
def ReadAt (w : World) (data : List UInt8) (e : Ending) (w' : World) : Prop := ∃ g, e = .returned (.tuple #[.slice (some ⟨g, 0, none⟩) 128 128, .int .i64 0]) ∧ Row w' g 5 (cellsOf (sectorL [data])) ∧ w.heap.size ≤ g ∧ Below w.heap.size w w'
theorem read_law (h : DRest W.heap.size W d (dv s p l b)) (at' : Int) (hr : runsB d = true) (hh : hasB d.secs.length at' = true) {data : List UInt8} (hd : readF d at' = data) : Calls Try.prog 28 #[dv s p l b, .int .i64 at'] W (ReadAt W data) :=
  (read_loop d at' _ W h hr hh).mono fun _ _ ⟨g, data', he, h1, h2, h3, h4⟩ => by
    rw [readF_one h4, hd] at h1
    exact ⟨g, he, h1, h2, h3⟩
theorem read_none (h : DRest W.heap.size W d (dv s p l b)) (at' : Int) (hno : runsB d = false ∨ hasB d.secs.length at' = false) : Calls Try.prog 28 #[dv s p l b, .int .i64 at'] W (RefuseRead W) := read_refuse d at' _ W h hno
end
/-- a box that is written anew -/
theorem box_over {w0 w : World} {g n : Nat} {d : Dsk} {x0 x1 x2 x3 : Value} {s p : Value} {l : Int} {b : Bool} (hr : Row w g 25 [x0, x1, x2, x3]) (hg : g < n) (hd : DRestS (Ext (fun b => b < g) n) w d (dv s p l b)) (hb : Below g w0 w) :
    Row ((((w.setCell ⟨g, 0, none⟩ s).setCell ⟨g, 1, none⟩ p).setCell ⟨g, 2, none⟩ (.int .i64 l)).setCell ⟨g, 3, none⟩ (.bool b)) g 25 [s, p, .int .i64 l, .bool b] ∧
    DRest ((((w.setCell ⟨g, 0, none⟩ s).setCell ⟨g, 1, none⟩ p).setCell ⟨g, 2, none⟩ (.int .i64 l)).setCell ⟨g, 3, none⟩ (.bool b)).heap.size ((((w.setCell ⟨g, 0, none⟩ s).setCell ⟨g, 1, none⟩ p).setCell ⟨g, 2, none⟩ (.int .i64 l)).setCell ⟨g, 3, none⟩ (.bool b)) d (dv s p l b) ∧
    Below g w0 ((((w.setCell ⟨g, 0, none⟩ s).setCell ⟨g, 1, none⟩ p).setCell ⟨g, 2, none⟩ (.int .i64 l)).setCell ⟨g, 3, none⟩ (.bool b)) :=
  ⟨row_set4 hr _ _ _ _, (hd.keep (keep4 w g s p _ _ (fun h => by rcases h with h | h <;> omega))).rest, below4 hb g s p _ _ (Nat.le_refl _)⟩
end Go.Proofs.Ytlaaolbdadempaa

/- The journal as plain functions. -/
namespace Go.Proofs.Ytlaaolbdadempaa
open Go.RowKit

def crcBit (n : Nat) : Nat := if n % 2 = 1 then n / 2 ^^^ 3988292384 else n / 2
def crcBits : Nat → Nat → Nat
  | 0, n => n
  | k + 1, n => crcBit (crcBits k n)
def crcByte (n : Nat) (c : UInt8) : Nat := crcBits 8 (n ^^^ c.toNat)
def crcFold (l : List UInt8) : Nat := l.foldl crcByte 4294967295
def crc (l : List UInt8) : Nat := crcFold l ^^^ 4294967295
def digs (n : Nat) : List UInt8 := [UInt8.ofNat (n / 16777216), UInt8.ofNat (n / 65536), UInt8.ofNat (n / 256), UInt8.ofNat n]
def num4 (l : List UInt8) : Nat := ((((l.getD 0 0).toNat * 256 + (l.getD 1 0).toNat) * 256 + (l.getD 2 0).toNat) * 256 + (l.getD 3 0).toNat)

/-- a piece of a record -/
structure Pce where
  gen : Nat
  marks : UInt8
  data : List UInt8
def begB (p : Pce) : Bool := decide (p.marks.toNat % 2 = 1)
def endB (p : Pce) : Bool := decide (p.marks.toNat / 2 % 2 = 1)
def fitB (p : Pce) : Bool := decide (p.gen ≠ 0) && decide (p.marks.toNat ≤ 3) && (endB p || decide (p.data.length = 112)) && (begB p || decide (0 < p.data.length))
def conB (p q : Pce) : Bool := decide (p.gen = q.gen) && !endB q && !begB p
def bodyP (p : Pce) (k : Nat) : List UInt8 := [UInt8.ofNat (k / 256), UInt8.ofNat k, p.marks, UInt8.ofNat p.data.length] ++ (p.data ++ List.replicate (112 - p.data.length) 0)
def secP (p : Pce) (k : Nat) : List UInt8 := digs p.gen ++ (digs (crc (bodyP p k)) ++ (bodyP p k ++ digs p.gen))
/-- what the bytes of a sector say, if they say it rightly -/
def pceOf (b : List UInt8) : Pce := ⟨num4 b, b.getD 10 0, (b.drop 12).take (b.getD 11 0).toNat⟩
def goodB (b : List UInt8) (k : Nat) : Bool := decide ((b.getD 11 0).toNat ≤ 112) && fitB (pceOf b) && decide (secP (pceOf b) k = b)
def zeroP : Pce := ⟨0, 0, []⟩
def readP (b : List UInt8) (k : Nat) : Pce × Bool := if goodB b k then (pceOf b, true) else (zeroP, false)
/-- the sector at place k of a record that begins at place at' has no place there -/
def breakB (at' k : Nat) (p last : Pce) : Bool := (decide (k = at') && !begB p) || (decide (at' < k) && !conB p last)
/-- the rest of a record: its bytes, its generation, how many sectors it has (0: there is none) -/
def recGo (secs : List (List UInt8)) (at' : Nat) : Nat → Nat → List UInt8 → Pce → List UInt8 × Nat × Nat
  | 0, _, _, _ => ([], 0, 0)
  | f + 1, k, acc, last =>
    let b := secs.getD k []
    if goodB b k && !breakB at' k (pceOf b) last then
      if endB (pceOf b) then (acc ++ (pceOf b).data, (pceOf b).gen, k + 1 - at')
      else recGo secs at' f (k + 1) (acc ++ (pceOf b).data) (pceOf b)
    else ([], 0, 0)
def recP (secs : List (List UInt8)) (at' : Nat) : List UInt8 × Nat × Nat := recGo secs at' (secs.length - at') at' [] zeroP
def recsGo (secs : List (List UInt8)) : Nat → Nat → Nat → List (List UInt8)
  | 0, _, _ => []
  | f + 1, at', least =>
    if at' < secs.length then
      if (recP secs at').2.2 = 0 ∨ (recP secs at').2.1 < least then [] else (recP secs at').1 :: recsGo secs f (at' + (recP secs at').2.2) (recP secs at').2.1
    else []
def recsL (secs : List (List UInt8)) : List (List UInt8) := recsGo secs secs.length 0 0
/-- how many sectors a record occupies -/
def secsOf (n : Nat) : Nat := max 1 ((n + 111) / 112)
def usedL (l : List (List UInt8)) : Nat := (l.map fun b => secsOf b.length).sum
/-- a journal -/
structure Jnl where
  recs : List (List UInt8)
  many : Int
  synced : Int
def jokB (j : Jnl) : Bool := decide (1 ≤ j.many ∧ j.many ≤ 4096 ∧ 0 ≤ j.synced ∧ j.synced ≤ (j.recs.length : Int) ∧ (usedL j.recs : Int) ≤ j.many)
def zeroJ : Jnl := ⟨[], 0, 0⟩
def roomJ (j : Jnl) : Int := if jokB j then 112 * (j.many - usedL j.recs) else 0
def appJ (j : Jnl) (b : List UInt8) : Jnl × Int :=
  if jokB j then if j.many - usedL j.recs < secsOf b.length then (zeroJ, 2) else ({ j with recs := j.recs ++ [b] }, 0) else (zeroJ, 1)
/-- the first reason why the records on a disk cannot be read -/
def chkD (d : Dsk) : Int := if validB d then if d.stop then 40 else if 0 < d.pend.length then 1 else 0 else 40
def openJ (d : Dsk) : Jnl × Int := if chkD d = 0 then (⟨recsL d.secs, d.secs.length, (recsL d.secs).length⟩, 0) else (zeroJ, chkD d)
def lastGen (secs : List (List UInt8)) : Nat := secs.foldl (fun n b => max (max n (num4 b)) (num4 (b.drop 124))) 0
/-- the pieces of a record -/
def piecesL (b : List UInt8) (g : Nat) : List Pce := (List.range (secsOf b.length)).map fun i => ⟨g, UInt8.ofNat ((if i = 0 then 1 else 0) + if i + 1 = secsOf b.length then 2 else 0), (b.drop (i * 112)).take 112⟩
def pcesL (l : List (List UInt8)) (g : Nat) : List Pce := (l.map fun b => piecesL b g).flatten
/-- the pieces written, one after the other -/
def writesD (d : Dsk) (at' : Nat) : List Pce → Dsk
  | [] => d
  | p :: ps => writesD (writeD d at' (secP p at')).1 (at' + 1) ps
def chkB (j : Jnl) (d : Dsk) : Int := if jokB j then if chkD d ≠ 0 then chkD d else if j.many ≠ (d.secs.length : Int) then 1 else if recsL d.secs = j.recs.take j.synced.toNat then 0 else 50 else 1
def syncJ (j : Jnl) (d : Dsk) : Jnl × Dsk × Int :=
  if chkB j d ≠ 0 then (zeroJ, zeroD, chkB j d)
  else if lastGen d.secs = 4294967295 then (zeroJ, zeroD, 50)
  else if j.recs.drop j.synced.toNat = [] then (j, d, 0)
  else
    let y := writesD d (usedL (j.recs.take j.synced.toNat)) (pcesL (j.recs.drop j.synced.toNat) (lastGen d.secs + 1))
    if (syncD y).2 ≠ 0 then (zeroJ, (syncD y).1, (syncD y).2) else ({ j with synced := j.recs.length }, (syncD y).1, 0)
/-- the examples of the chapter -/
def jD1 : Dsk := ⟨[List.replicate 128 0], [], -1, false⟩
def jX : Jnl := ⟨[[97, 98]], 1, 0⟩
example : newD 1 = (jD1, 0) := by kernel_rfl
example : openJ jD1 = (⟨[], 1, 0⟩, 0) := by kernel_rfl
example : (appJ ⟨[], 1, 0⟩ (List.replicate 113 0)).2 = 2 := by kernel_rfl
example : appJ ⟨[], 1, 0⟩ [97, 98] = (jX, 0) := by kernel_rfl
example : crc [49,50,51,52,53,54,55,56,57] = 3421780262 := by kernel_rfl
example : (syncJ jX jD1).2.2 = 0 := by kernel_rfl
example : openJ (syncJ jX jD1).2.1 = (⟨[[97, 98]], 1, 1⟩, 0) := by kernel_rfl
example : (syncJ jX (syncJ jX jD1).2.1).2.2 = 50 := by kernel_rfl
end Go.Proofs.Ytlaaolbdadempaa
