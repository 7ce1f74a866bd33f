/- Decode: for all bytes, the value whose encoding they are, or the error. -/
import Derived.Test.YtgliddedimpgaaaS
import Derived.Defers
import Derived.Recover
import Derived.Laws.Pointers
namespace Go.Proofs.Ytgliddedimpgaaa
open Go.RowKit

theorem catch_panicking (b c : Nat) (a0 a1 a2 a3 a4 : Value) (u : TypeId) (pv : Value) (older : List PanicEntry) (w : World) (h0 : w.cell? ⟨b, 0, none⟩ = some a0) (h1 : w.cell? ⟨b, 1, none⟩ = some a1) (h2 : w.cell? ⟨b, 2, none⟩ = some a2) (h3 : w.cell? ⟨b, 3, none⟩ = some a3)
    (h4 : w.cell? ⟨c, 0, none⟩ = some a4) (f0 : w.frozen? ⟨b, 0, none⟩ = false) (f1 : w.frozen? ⟨b, 1, none⟩ = false) (f2 : w.frozen? ⟨b, 2, none⟩ = false) (f3 : w.frozen? ⟨b, 3, none⟩ = false) (f4 : w.frozen? ⟨c, 0, none⟩ = false) (hne : b ≠ c) :
    CallsD Try.prog 33 #[.pointer (some ⟨b, 0, none⟩), .pointer (some ⟨c, 0, none⟩)] (.panicking ({ v := .iface u pv, recovered := false } :: older)) w fun e u' w' =>
      e = .returned (.tuple #[]) ∧ u' = .panicking ({ v := .iface u pv, recovered := true } :: older) ∧
      w' = ((((w.setCell ⟨b, 0, none⟩ (.int .i64 0)).setCell ⟨b, 1, none⟩ (.int .i64 0)).setCell ⟨b, 2, none⟩ (.string ⟨#[]⟩)).setCell ⟨b, 3, none⟩ (.slice none 0 0)).setCell ⟨c, 0, none⟩ (.int .i64 10) := by
  refine callsD_of_wpS Try.func33 rfl fun c₀ cs hu => ?_
  apply wpS_seq
  apply wpS_region
  simp [wpOpsS, go_sem, recoverD, hu, Try.ntmps33, Exit.thenS]
  refine wpS_cond (t := true) (by simp [Act.eval, Array.replicate]) ?_
  simp only [if_true]
  apply wpS_region
  simp [wpOpsS, go_sem, h0, h1, h2, h3, h4, f0, f1, f2, f3, f4, bodyPostS, results, Try.results33]

theorem catch_idle (p q : Addr) (w : World) :
    CallsD Try.prog 33 #[.pointer (some p), .pointer (some q)] .returning w fun e u' w' => e = .returned (.tuple #[]) ∧ u' = .returning ∧ w' = w := by
  refine callsD_of_wpS Try.func33 rfl fun c₀ cs hu => ?_
  apply wpS_seq
  apply wpS_region
  simp [wpOpsS, go_sem, recoverD, hu, Try.ntmps33, Exit.thenS]
  refine wpS_cond (t := false) (by simp [Act.eval, Array.replicate]) ?_
  simp only [Bool.false_eq_true, if_false]
  refine wpS_of_wp (wp_skip ?_)
  cases c₀
  simp_all [bodyPostS, results, Try.results33]

/-- what Decode's bytes come to -/
def decode (bs : List UInt8) : Option V := match dec 16 bs with
  | some (x, []) => some x
  | _ => none

/-- what Decode leaves -/
def DRead (w w' : World) (o : Option V) (e : Ending) : Prop :=
  match o with
  | some x => ∃ (k n : Int) (s : ByteArray) (a : Option Addr) (l c : Nat), e = .returned (.tuple #[val k n s a l c, .int .i64 0]) ∧ Sure (fun b => w.heap.size ≤ b) w' x (val k n s a l c) ∧ Below w.heap.size w w'
  | none => e = .returned (.tuple #[val 0 0 ⟨#[]⟩ none 0 0, .int .i64 10]) ∧ Below w.heap.size w w'

theorem dread_ok {w w' : World} {o : Option V} {x : V} {e : Ending} {k n : Int} {s : ByteArray} {a : Option Addr} {l c : Nat} (ho : o = some x) (he : e = .returned (.tuple #[val k n s a l c, .int .i64 0]))
    (h1 : Sure (fun b => w.heap.size ≤ b) w' x (val k n s a l c)) (h3 : Below w.heap.size w w') : DRead w w' o e := by
  subst ho; exact ⟨k, n, s, a, l, c, he, h1, h3⟩
theorem dread_bad {w w' : World} {o : Option V} {e : Ending} (ho : o = none) (he : e = .returned (.tuple #[val 0 0 ⟨#[]⟩ none 0 0, .int .i64 10])) (h3 : Below w.heap.size w w') : DRead w w' o e := by
  subst ho; exact ⟨he, h3⟩

theorem below_set4 {w w' : World} {v0 v1 v2 v3 : Value} (h : Below w.heap.size w w') :
    Below w.heap.size w ((((w'.setCell ⟨w.heap.size, 0, none⟩ v0).setCell ⟨w.heap.size, 1, none⟩ v1).setCell ⟨w.heap.size, 2, none⟩ v2).setCell ⟨w.heap.size, 3, none⟩ v3) :=
  (((h.setCell (p := ⟨_, 0, none⟩) (Nat.le_refl _) v0).setCell (p := ⟨_, 1, none⟩) (Nat.le_refl _) v1).setCell (p := ⟨_, 2, none⟩) (Nat.le_refl _) v2).setCell (p := ⟨_, 3, none⟩) (Nat.le_refl _) v3

theorem below_set5 {w w' : World} {v0 v1 v2 v3 v4 : Value} (h : Below w.heap.size w w') :
    Below w.heap.size w (((((w'.setCell ⟨w.heap.size, 0, none⟩ v0).setCell ⟨w.heap.size, 1, none⟩ v1).setCell ⟨w.heap.size, 2, none⟩ v2).setCell ⟨w.heap.size, 3, none⟩ v3).setCell ⟨w.heap.size + 1, 0, none⟩ v4) :=
  ((((h.setCell (p := ⟨_, 0, none⟩) (Nat.le_refl _) v0).setCell (p := ⟨_, 1, none⟩) (Nat.le_refl _) v1).setCell (p := ⟨_, 2, none⟩) (Nat.le_refl _) v2).setCell (p := ⟨_, 3, none⟩) (Nat.le_refl _) v3).setCell (p := ⟨_, 0, none⟩) (Nat.le_succ _) v4

theorem far4 {w' : World} {n : Nat} {x : Value} (h : w'.cell? ⟨n + 1 + 1, 0, none⟩ = some x) (v0 v1 v2 v3 : Value) :
    ((((w'.setCell ⟨n, 0, none⟩ v0).setCell ⟨n, 1, none⟩ v1).setCell ⟨n, 2, none⟩ v2).setCell ⟨n, 3, none⟩ v3).cell? ⟨n + 1 + 1, 0, none⟩ = some x := by
  have hb : Below (n + 1) ((((w'.setCell ⟨n, 0, none⟩ v0).setCell ⟨n, 1, none⟩ v1).setCell ⟨n, 2, none⟩ v2).setCell ⟨n, 3, none⟩ v3) ((((w'.setCell ⟨n, 0, none⟩ v0).setCell ⟨n, 1, none⟩ v1).setCell ⟨n, 2, none⟩ v2).setCell ⟨n, 3, none⟩ v3) := Below.refl _ _
  rw [World.cell?_of_block (w := w') (by
    rw [Below.heap_setCell _ _ _ _ (by simp; omega), Below.heap_setCell _ _ _ _ (by simp; omega), Below.heap_setCell _ _ _ _ (by simp; omega), Below.heap_setCell _ _ _ _ (by simp; omega)])]
  exact h

/-- Decode's three variables: the value, the error, the reader -/
def W3 (w : World) (v : Value) : World := ((w.alloc zeroCells4).alloc (.cells #[.int .i64 0] 28)).alloc (.cells #[v] 51)

theorem w3_below (w : World) (v : Value) : Below w.heap.size w (W3 w v) := Joins.below_alloc3 w _ _ _

theorem w3_facts {w w' : World} {v : Value} (h : Only (w.heap.size + 1 + 1) (W3 w v) w') :
    w'.heap[w.heap.size]? = some zeroCells4 ∧ w'.heap[w.heap.size + 1]? = some (.cells #[.int .i64 0] 28) ∧ Below w.heap.size w w' ∧ w.heap.size + 3 ≤ w'.heap.size := by
  have hs : (W3 w v).heap.size = w.heap.size + 3 := by simp [W3]
  have b0 : (W3 w v).heap[w.heap.size]? = some zeroCells4 := by
    rw [W3, Below.heap_alloc _ _ _ (by simp; omega), Below.heap_alloc _ _ _ (by simp)]; exact heap_alloc_new w _
  have b1 : (W3 w v).heap[w.heap.size + 1]? = some (.cells #[.int .i64 0] 28) := by
    rw [W3, Below.heap_alloc _ _ _ (by simp)]
    have := heap_alloc_new (w.alloc zeroCells4) (.cells #[.int .i64 0] 28)
    simpa using this
  refine ⟨(h.block _ (by omega) (fun e => by injection e with e; omega)).trans b0, (h.block _ (by omega) (fun e => by injection e with e; omega)).trans b1, (w3_below w v).trans (Only.below h (by omega) (by omega)), by have := h.size; omega⟩

theorem w3_rd {w : World} {bs : List UInt8} {v : Value} (h : Rest w.heap.size w bs v) : Rd w.heap.size (w.heap.size + 1 + 1) (W3 w v) bs := by
  have hb : (W3 w v).heap[w.heap.size + 1 + 1]? = some (.cells #[v] 51) := by
    have := heap_alloc_new ((w.alloc zeroCells4).alloc (.cells #[.int .i64 0] 28)) (.cells #[v] 51)
    simpa [W3] using this
  exact ⟨by omega, by simp [W3], ⟨v, by rw [Joins.cell_of_block hb]; rfl, h.stays (w3_below w v)⟩, Joins.unfrozen_of_block hb 0⟩

/-- the cells of the value's and of the error's variable -/
theorem cells_facts {w' : World} {n : Nat} {v0 v1 v2 v3 v4 : Value} (h0 : w'.heap[n]? = some (.cells #[v0, v1, v2, v3] 24)) (h1 : w'.heap[n + 1]? = some (.cells #[v4] 28)) :
    w'.cell? ⟨n, 0, none⟩ = some v0 ∧ w'.cell? ⟨n, 1, none⟩ = some v1 ∧ w'.cell? ⟨n, 2, none⟩ = some v2 ∧ w'.cell? ⟨n, 3, none⟩ = some v3 ∧ w'.cell? ⟨n + 1, 0, none⟩ = some v4 ∧
    w'.frozen? ⟨n, 0, none⟩ = false ∧ w'.frozen? ⟨n, 1, none⟩ = false ∧ w'.frozen? ⟨n, 2, none⟩ = false ∧ w'.frozen? ⟨n, 3, none⟩ = false ∧ w'.frozen? ⟨n + 1, 0, none⟩ = false := by
  refine ⟨?_, ?_, ?_, ?_, ?_, Joins.unfrozen_of_block h0 0, Joins.unfrozen_of_block h0 1, Joins.unfrozen_of_block h0 2, Joins.unfrozen_of_block h0 3, Joins.unfrozen_of_block h1 0⟩
  · rw [Joins.cell_of_block h0]; rfl
  · rw [Joins.cell_of_block h0]; rfl
  · rw [Joins.cell_of_block h0]; rfl
  · rw [Joins.cell_of_block h0]; rfl
  · rw [Joins.cell_of_block h1]; rfl

/-- the value's variable, stored -/
theorem set4_block {w' : World} {n : Nat} {a0 a1 a2 a3 : Value} (h0 : w'.heap[n]? = some (.cells #[a0, a1, a2, a3] 24)) (v0 v1 v2 v3 : Value) :
    ((((w'.setCell ⟨n, 0, none⟩ v0).setCell ⟨n, 1, none⟩ v1).setCell ⟨n, 2, none⟩ v2).setCell ⟨n, 3, none⟩ v3).heap[n]? = some (.cells #[v0, v1, v2, v3] 24) :=
  Joins.block_setCell (Joins.block_setCell (Joins.block_setCell (Joins.block_setCell h0 v0) v1) v2) v3
theorem set4_other {w' : World} {n k : Nat} (hk : k ≠ n) (v0 v1 v2 v3 : Value) :
    ((((w'.setCell ⟨n, 0, none⟩ v0).setCell ⟨n, 1, none⟩ v1).setCell ⟨n, 2, none⟩ v2).setCell ⟨n, 3, none⟩ v3).heap[k]? = w'.heap[k]? := by
  rw [Below.heap_setCell _ _ _ _ (by simpa using hk), Below.heap_setCell _ _ _ _ (by simpa using hk), Below.heap_setCell _ _ _ _ (by simpa using hk), Below.heap_setCell _ _ _ _ (by simpa using hk)]

theorem set4_facts {w' : World} {n : Nat} {a0 a1 a2 a3 v4 : Value} (h0 : w'.heap[n]? = some (.cells #[a0, a1, a2, a3] 24)) (h1 : w'.heap[n + 1]? = some (.cells #[v4] 28)) (v0 v1 v2 v3 : Value) :
    ((((w'.setCell ⟨n, 0, none⟩ v0).setCell ⟨n, 1, none⟩ v1).setCell ⟨n, 2, none⟩ v2).setCell ⟨n, 3, none⟩ v3).cell? ⟨n, 0, none⟩ = some v0 ∧
    ((((w'.setCell ⟨n, 0, none⟩ v0).setCell ⟨n, 1, none⟩ v1).setCell ⟨n, 2, none⟩ v2).setCell ⟨n, 3, none⟩ v3).cell? ⟨n, 1, none⟩ = some v1 ∧
    ((((w'.setCell ⟨n, 0, none⟩ v0).setCell ⟨n, 1, none⟩ v1).setCell ⟨n, 2, none⟩ v2).setCell ⟨n, 3, none⟩ v3).cell? ⟨n, 2, none⟩ = some v2 ∧
    ((((w'.setCell ⟨n, 0, none⟩ v0).setCell ⟨n, 1, none⟩ v1).setCell ⟨n, 2, none⟩ v2).setCell ⟨n, 3, none⟩ v3).cell? ⟨n, 3, none⟩ = some v3 ∧
    ((((w'.setCell ⟨n, 0, none⟩ v0).setCell ⟨n, 1, none⟩ v1).setCell ⟨n, 2, none⟩ v2).setCell ⟨n, 3, none⟩ v3).cell? ⟨n + 1, 0, none⟩ = some v4 ∧
    ((((w'.setCell ⟨n, 0, none⟩ v0).setCell ⟨n, 1, none⟩ v1).setCell ⟨n, 2, none⟩ v2).setCell ⟨n, 3, none⟩ v3).frozen? ⟨n, 0, none⟩ = false ∧
    ((((w'.setCell ⟨n, 0, none⟩ v0).setCell ⟨n, 1, none⟩ v1).setCell ⟨n, 2, none⟩ v2).setCell ⟨n, 3, none⟩ v3).frozen? ⟨n, 1, none⟩ = false ∧
    ((((w'.setCell ⟨n, 0, none⟩ v0).setCell ⟨n, 1, none⟩ v1).setCell ⟨n, 2, none⟩ v2).setCell ⟨n, 3, none⟩ v3).frozen? ⟨n, 2, none⟩ = false ∧
    ((((w'.setCell ⟨n, 0, none⟩ v0).setCell ⟨n, 1, none⟩ v1).setCell ⟨n, 2, none⟩ v2).setCell ⟨n, 3, none⟩ v3).frozen? ⟨n, 3, none⟩ = false ∧
    ((((w'.setCell ⟨n, 0, none⟩ v0).setCell ⟨n, 1, none⟩ v1).setCell ⟨n, 2, none⟩ v2).setCell ⟨n, 3, none⟩ v3).frozen? ⟨n + 1, 0, none⟩ = false :=
  cells_facts (set4_block h0 v0 v1 v2 v3) ((set4_other (w' := w') (n := n) (k := n + 1) (by omega) v0 v1 v2 v3).trans h1)

/-- Decode's last world -/
theorem final_facts {w4 w6 : World} {n : Nat} {a0 a1 a2 a3 a4 : Value} (h0 : w4.heap[n]? = some (.cells #[a0, a1, a2, a3] 24)) (h1 : w4.heap[n + 1]? = some (.cells #[a4] 28)) (u0 u1 u2 u3 v0 v1 v2 v3 v4 : Value)
    (hw : w6 = (((((((((w4.setCell ⟨n, 0, none⟩ u0).setCell ⟨n, 1, none⟩ u1).setCell ⟨n, 2, none⟩ u2).setCell ⟨n, 3, none⟩ u3).setCell ⟨n, 0, none⟩ v0).setCell ⟨n, 1, none⟩ v1).setCell ⟨n, 2, none⟩ v2).setCell ⟨n, 3, none⟩ v3).setCell ⟨n + 1, 0, none⟩ v4)) :
    (w6.cell? ⟨n, 0, none⟩ = some v0 ∧ w6.cell? ⟨n, 1, none⟩ = some v1 ∧ w6.cell? ⟨n, 2, none⟩ = some v2 ∧ w6.cell? ⟨n, 3, none⟩ = some v3 ∧ w6.cell? ⟨n + 1, 0, none⟩ = some v4 ∧
    w6.frozen? ⟨n, 0, none⟩ = false ∧ w6.frozen? ⟨n, 1, none⟩ = false ∧ w6.frozen? ⟨n, 2, none⟩ = false ∧ w6.frozen? ⟨n, 3, none⟩ = false ∧ w6.frozen? ⟨n + 1, 0, none⟩ = false) ∧
    (∀ k, n + 3 ≤ k → w6.heap[k]? = w4.heap[k]?) ∧ w4.heap.size ≤ w6.heap.size := by
  have e0 : w6.heap[n]? = some (.cells #[v0, v1, v2, v3] 24) := by
    rw [hw, Below.heap_setCell _ _ _ _ (by simp)]
    exact set4_block (set4_block h0 u0 u1 u2 u3) v0 v1 v2 v3
  have e1 : w6.heap[n + 1]? = some (.cells #[v4] 28) := by
    rw [hw]
    exact Joins.block_setCell (cs := #[a4]) ((set4_other (n := n) (k := n + 1) (by omega) v0 v1 v2 v3).trans ((set4_other (n := n) (k := n + 1) (by omega) u0 u1 u2 u3).trans h1)) v4
  refine ⟨cells_facts e0 e1, fun k hk => ?_, by rw [hw]; simp⟩
  rw [hw, Below.heap_setCell _ _ _ _ (by simp; omega), set4_other (n := n) (by omega), set4_other (n := n) (by omega)]

theorem sure_far {w w3 w4 w5 : World} {x : V} {v : Value} (h : Sure (fun b => w3.heap.size ≤ b) w4 x v) (h3 : w3.heap.size = w.heap.size + 3) (hs : w4.heap.size ≤ w5.heap.size) (hb : ∀ k, w.heap.size + 3 ≤ k → w5.heap[k]? = w4.heap[k]?) : Sure (fun b => w.heap.size ≤ b) w5 x v :=
  h.later hs (fun k _ hp => hb k (by omega)) (fun k _ hp => by omega)

set_option maxHeartbeats 800000 in
set_option maxRecDepth 100000 in
theorem decode_call (bs : List UInt8) (a : Option Addr) (cap : Nat) (w : World) (h : Rest w.heap.size w bs (.slice a bs.length cap)) (hlen : bs.length ≤ 1099511627776) :
    Calls Try.prog 18 #[.slice a bs.length cap] w fun e w' => DRead w w' (decode bs) e := by
  have hmf : ∀ (fn : Fn) (first cap : Array Value) (w : World), (Instr.makeFunc fn first cap).run Try.prog w = .ok (.func fn first cap) w := fun _ _ _ _ => rfl
  have HR := Lib.hid (w3_rd h)
  clear h
  go_enter_defers Try.func18, Try.ntmps18
  go_wp2_with fail
  refine (value_call 16 (by omega) w.heap.size _ _ bs HR.out hlen).mono ?_
  rintro e w4 hq
  cases hv : dec 16 bs with
  | none =>
    rw [hv] at hq
    obtain ⟨rfl, ho⟩ := hq
    have HF : Hid (decode bs = none) := by unfold Hid decode; rw [hv]
    obtain ⟨b0, b1, hbel, hsz⟩ := w3_facts ho
    obtain ⟨z0, z1, z2, z3, z4, f0, f1, f2, f3, f4⟩ := cells_facts b0 b1
    have HB := Lib.hid hbel
    clear hv ho b0 b1 hbel
    go_wp2_with fail
    refine leaves_cons (f := 33) (args := #[.pointer (some ⟨w.heap.size, 0, none⟩), .pointer (some ⟨w.heap.size + 1, 0, none⟩)]) (by simp) (by simp [go_sem]) ?_
    refine (catch_panicking w.heap.size (w.heap.size + 1) _ _ _ _ _ 28 _ [] _ z0 z1 z2 z3 z4 f0 f1 f2 f3 f4 (by omega)).mono ?_
    rintro e u' w'' ⟨rfl, rfl, rfl⟩
    simp [Leaves, settle, results, Try.results18, go_sem, z0, z1, z2, z3, z4]
    exact dread_bad HF.out rfl (below_set5 HB.out)
  | some p =>
    obtain ⟨x, r⟩ := p
    rw [hv] at hq
    obtain ⟨ek, en, e_s, ea, el, ec, rfl, hs, hr, ho⟩ := hq
    obtain ⟨b0, b1, hbel, hsz⟩ := w3_facts ho
    obtain ⟨z0, z1, z2, z3, z4, f0, f1, f2, f3, f4⟩ := cells_facts b0 b1
    have HB := Lib.hid hbel
    have hs3 : (W3 w (.slice a bs.length cap)).heap.size = w.heap.size + 3 := by simp [W3]
    have HS := Lib.hid hs
    obtain ⟨vr, hvr, hRr⟩ := hr.cell
    obtain ⟨ra, rc, rfl, _, _, _, _⟩ := hRr
    have B0 := Lib.hid b0
    have B1 := Lib.hid b1
    clear ho b0 b1 hbel hs hr
    have hlast := far4 hvr (.int .i64 ek) (.int .i64 en) (.string e_s) (.slice ea el ec)
    cases r with
    | nil =>
      have HF : Hid (decode bs = some x) := by unfold Hid decode; rw [hv]
      clear hv
      obtain ⟨y0, y1, y2, y3, y4, g0, g1, g2, g3, g4⟩ := set4_facts B0.out B1.out (.int .i64 ek) (.int .i64 en) (.string e_s) (.slice ea el ec)
      go_wp2_with fail
      refine leaves_cons (f := 33) (args := #[.pointer (some ⟨w.heap.size, 0, none⟩), .pointer (some ⟨w.heap.size + 1, 0, none⟩)]) (by simp) (by simp [go_sem]) ?_
      refine (catch_idle ⟨w.heap.size, 0, none⟩ ⟨w.heap.size + 1, 0, none⟩ _).mono ?_
      intro e u' w6 ⟨he, hu, hw⟩
      subst he hu
      obtain ⟨⟨k0, k1, k2, k3, k4, _, _, _, _, _⟩, hfar, hsz6⟩ := final_facts B0.out B1.out _ _ _ _ _ _ _ _ _ hw
      have HB6 : Hid (Below w.heap.size w w6) := by unfold Hid; rw [hw]; exact below_set5 (below_set4 HB.out)
      clear hw
      simp [Leaves, settle, results, Try.results18, go_sem, k0, k1, k2, k3, k4]
      exact dread_ok HF.out rfl (sure_far HS.out hs3 hsz6 hfar) HB6.out
    | cons c r =>
      have HF : Hid (decode bs = none) := by unfold Hid decode; rw [hv]
      clear hv
      obtain ⟨y0, y1, y2, y3, y4, g0, g1, g2, g3, g4⟩ := set4_facts B0.out B1.out (.int .i64 ek) (.int .i64 en) (.string e_s) (.slice ea el ec)
      go_wp2_with fail
      refine leaves_cons (f := 33) (args := #[.pointer (some ⟨w.heap.size, 0, none⟩), .pointer (some ⟨w.heap.size + 1, 0, none⟩)]) (by simp) (by simp [go_sem]) ?_
      refine (catch_panicking w.heap.size (w.heap.size + 1) _ _ _ _ _ 28 _ [] _ y0 y1 y2 y3 y4 g0 g1 g2 g3 g4 (by omega)).mono ?_
      intro e u' w6 ⟨he, hu, hw⟩
      subst he hu
      obtain ⟨⟨k0, k1, k2, k3, k4, _, _, _, _, _⟩, hfar, hsz6⟩ := final_facts B0.out B1.out _ _ _ _ _ _ _ _ _ hw
      have HB6 : Hid (Below w.heap.size w w6) := by unfold Hid; rw [hw]; exact below_set5 (below_set4 HB.out)
      clear hw
      simp [Leaves, settle, results, Try.results18, go_sem, k0, k1, k2, k3, k4]
      exact dread_bad HF.out rfl HB6.out
end Go.Proofs.Ytgliddedimpgaaa
