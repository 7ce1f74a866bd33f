/- The memory in which flow is pushed. -/
import Derived.Test.YtbmbddapbgnioaaD
namespace Go.Proofs.Ytbmbddapbgnioaa
open Go.RowKit Go.Shelf

structure Ctx where
  g : Nat
  f : Nat
  l : Nat
  Br : Nat
  Bf : Nat
  Bl : Nat
  Bp : Nat
  K : Nat
  N : Nat
  s : Nat
  t : Nat
  A : List Ar
  va : Value
  sb : Nat → Option Addr
  sc : Nat → Nat
structure Ctx.Ok (c : Ctx) : Prop where
  gK : c.g < c.K
  Kl : c.K ≤ c.l
  lBr : c.l < c.Br
  BrBl : c.Br < c.Bl
  Blf : c.Bl < c.f
  fBf : c.f < c.Bf
  BfBp : c.Bf < c.Bp
  inn : Inn c.N c.A
  few : c.A.length ≤ 512
  caps : ∀ a, a ∈ c.A → 0 ≤ a.2.2 ∧ a.2.2 ≤ 1073741824
  N64 : c.N ≤ 64
  sN : c.s < c.N
  tN : c.t < c.N
  st : c.s ≠ c.t
def pushV (c : Ctx) : Value := .func (.func 41) #[] #[.pointer (some ⟨c.Br, 0, none⟩), .pointer (some ⟨c.Bf, 0, none⟩), .pointer (some ⟨c.Bl, 0, none⟩), .pointer (some ⟨c.Bp, 0, none⟩)]
abbrev nums (L : List Int) : List Value := L.map (Value.int .i64 ·)
structure PMl (c : Ctx) (w : World) (lf : Nat → Nat → Int) (L F : List Int) : Prop where
  gm : GM w c.g c.N c.s c.t c.A c.va c.sb c.sc lf
  sm : SM w c.K c.g c.A c.sb c.sc
  rl : Row w c.l 3 (nums L)
  rf : Row w c.f 3 (nums F)
  br : Row w c.Br 56 [.pointer (some ⟨c.g, 0, none⟩)]
  bf : Row w c.Bf 25 [.slice (some ⟨c.f, 0, none⟩) c.N c.N]
  bl : Row w c.Bl 25 [.slice (some ⟨c.l, 0, none⟩) c.N c.N]
  bp : Row w c.Bp 76 [pushV c]
abbrev PM (c : Ctx) (w : World) (X L F : List Int) : Prop := PMl c w (lft c.A X) L F
theorem nrow_cell {w : World} {b T : Nat} {L : List Int} (h : Row w b T (nums L)) {u : Nat} (hu : u < L.length) : w.cell? ⟨b, u, none⟩ = some (.int .i64 (L.getD u 0)) :=
  h.cell (i := u) (by simp [hu])
theorem nrow_set {w : World} {b T : Nat} {L : List Int} (h : Row w b T (nums L)) (u : Nat) (x : Int) : Row (w.setCell ⟨b, u, none⟩ (.int .i64 x)) b T (nums (L.set u x)) := h.set u _ (by simp [nums, List.map_set])
theorem row_same {w w' : World} {b T : Nat} {cs : List Value} (h : Row w b T cs) (hb : w'.heap[b]? = w.heap[b]?) : Row w' b T cs := hb.trans h
section
variable {c : Ctx} {w w' : World} {lf : Nat → Nat → Int} {X L F : List Int}
theorem PMl.same (hc : c.Ok) (h : PMl c w lf L F) (hb : ∀ b, b ≤ c.Bp → w'.heap[b]? = w.heap[b]?) : PMl c w' lf L F := by
  have h1 := hc.gK; have h2 := hc.Kl; have h3 := hc.lBr; have h4 := hc.BrBl; have h5 := hc.Blf; have h6 := hc.fBf; have h7 := hc.BfBp
  exact ⟨h.gm.same (hb _ (by omega)), h.sm.keep (fun b hk _ => hb b (by omega)), row_same h.rl (hb _ (by omega)), row_same h.rf (hb _ (by omega)), row_same h.br (hb _ (by omega)), row_same h.bf (hb _ (by omega)), row_same h.bl (hb _ (by omega)), row_same h.bp (hb _ (by omega))⟩
theorem PMl.lt (h : PMl c w lf L F) : c.Bp < w.heap.size := h.bp.lt
theorem PMl.keep (hc : c.Ok) (h : PMl c w lf L F) (hb : Below w.heap.size w w') : PMl c w' lf L F := h.same hc fun b hb2 => hb.block b (by have := h.lt; omega)
theorem PMl.congr (h : PMl c w lf L F) {lf' : Nat → Nat → Int} (he : ∀ k b, k < 512 → b < 2 → lf k b = lf' k b) : PMl c w lf' L F :=
  { h with gm := { h.gm with lf := fun k b hk hb => by rw [← he k b hk hb]; exact h.gm.lf k b hk hb } }
theorem GM.put {g N s t : Nat} {A : List Ar} {va : Value} {sb : Nat → Option Addr} {sc : Nat → Nat} (h : GM w g N s t A va sb sc lf) {k b : Nat} (hk : k < 512) (hb : b < 2) (x : Int) :
    GM (w.setCell ⟨g, 4 + k * 2 + b, none⟩ (.int .i64 x)) g N s t A va sb sc (upd lf k b x) := by
  have ho : ∀ o, 4 + k * 2 + b ≠ o → (w.setCell ⟨g, 4 + k * 2 + b, none⟩ (.int .i64 x)).cell? ⟨g, o, none⟩ = w.cell? ⟨g, o, none⟩ := fun o h => World.cell?_setCell_other _ _ _ _ (fun e => by injection e with _ e _; exact h e)
  refine ⟨(ho 0 (by omega)).trans h.n, (ho 1 (by omega)).trans h.s, (ho 2 (by omega)).trans h.t, (ho 3 (by omega)).trans h.a, fun k' b' hk' hb' => ?_, fun v hv => (ho _ (by omega)).trans (h.st v hv), fun o => ?_⟩
  · unfold upd
    by_cases e : k' = k ∧ b' = b
    · obtain ⟨rfl, rfl⟩ := e
      rw [if_pos ⟨rfl, rfl⟩]
      exact World.cell?_setCell_same _ _ _ (h.lf k' b' hk' hb')
    · rw [if_neg e, ho _ (by omega)]
      exact h.lf k' b' hk' hb'
  · simp [h.fr o]
theorem PMl.left (hc : c.Ok) (h : PMl c w lf L F) {k b : Nat} (hk : k < 512) (hb : b < 2) (x : Int) : PMl c (w.setCell ⟨c.g, 4 + k * 2 + b, none⟩ (.int .i64 x)) (upd lf k b x) L F := by
  have h1 := hc.gK; have h2 := hc.Kl; have h3 := hc.lBr; have h4 := hc.BrBl; have h5 := hc.Blf; have h6 := hc.fBf; have h7 := hc.BfBp
  have ho : ∀ i, i ≠ c.g → (w.setCell ⟨c.g, 4 + k * 2 + b, none⟩ (.int .i64 x)).heap[i]? = w.heap[i]? := fun i hi => heap_setCell_other w ⟨c.g, _, none⟩ i _ hi
  exact ⟨h.gm.put hk hb x, h.sm.keep (fun i _ hn => ho i hn), row_same h.rl (ho _ (by omega)), row_same h.rf (ho _ (by omega)), row_same h.br (ho _ (by omega)), row_same h.bf (ho _ (by omega)), row_same h.bl (ho _ (by omega)), row_same h.bp (ho _ (by omega))⟩
theorem PMl.level (hc : c.Ok) (h : PMl c w lf L F) (u : Nat) (x : Int) : PMl c (w.setCell ⟨c.l, u, none⟩ (.int .i64 x)) lf (L.set u x) F := by
  have h1 := hc.gK; have h2 := hc.Kl; have h3 := hc.lBr; have h4 := hc.BrBl; have h5 := hc.Blf; have h6 := hc.fBf; have h7 := hc.BfBp
  have ho : ∀ i, i ≠ c.l → (w.setCell ⟨c.l, u, none⟩ (.int .i64 x)).heap[i]? = w.heap[i]? := fun i hi => heap_setCell_other w ⟨c.l, _, none⟩ i _ hi
  exact ⟨h.gm.same (ho _ (by omega)), h.sm.keep (fun i hk _ => ho i (by omega)), nrow_set h.rl u x, row_same h.rf (ho _ (by omega)), row_same h.br (ho _ (by omega)), row_same h.bf (ho _ (by omega)), row_same h.bl (ho _ (by omega)), row_same h.bp (ho _ (by omega))⟩
theorem PMl.first (hc : c.Ok) (h : PMl c w lf L F) (u : Nat) (x : Int) : PMl c (w.setCell ⟨c.f, u, none⟩ (.int .i64 x)) lf L (F.set u x) := by
  have h1 := hc.gK; have h2 := hc.Kl; have h3 := hc.lBr; have h4 := hc.BrBl; have h5 := hc.Blf; have h6 := hc.fBf; have h7 := hc.BfBp
  have ho : ∀ i, i ≠ c.f → (w.setCell ⟨c.f, u, none⟩ (.int .i64 x)).heap[i]? = w.heap[i]? := fun i hi => heap_setCell_other w ⟨c.f, _, none⟩ i _ hi
  exact ⟨h.gm.same (ho _ (by omega)), h.sm.keep (fun i hk _ => ho i (by omega)), row_same h.rl (ho _ (by omega)), nrow_set h.rf u x, row_same h.br (ho _ (by omega)), row_same h.bf (ho _ (by omega)), row_same h.bl (ho _ (by omega)), row_same h.bp (ho _ (by omega))⟩
end
/-- what one step turns -/
theorem lft_sent {A : List Ar} {X : List Int} {k b b2 : Nat} (hb : b + b2 = 1) (hk : k < X.length) (m : Int) (k' b' : Nat) (hb' : b' < 2) :
    upd (upd (lft A X) k b (lft A X k b - m)) k b2 (lft A X k b2 + m) k' b' = lft A (X.set k (X.getD k 0 + chg b m)) k' b' := by
  unfold upd lft chg
  by_cases e : k' = k
  · subst e
    rw [getD_set_self _ _ _ _ hk]
    have : b = 0 ∧ b2 = 1 ∨ b = 1 ∧ b2 = 0 := by omega
    have : b' = 0 ∨ b' = 1 := by omega
    rcases ‹b = 0 ∧ b2 = 1 ∨ b = 1 ∧ b2 = 0› with ⟨rfl, rfl⟩ | ⟨rfl, rfl⟩ <;> rcases ‹b' = 0 ∨ b' = 1› with rfl | rfl <;> simp <;> omega
  · rw [getD_set_ne _ _ _ _ _ (fun h => e h.symm)]
    simp [e]
/-- all blocks but those of the flow stay -/
def KG (c : Ctx) (w w' : World) : Prop := Kp2 (fun b => b ≠ c.g ∧ b ≠ c.f ∧ b ≠ c.l) w w'
theorem KG.refl (c : Ctx) (w : World) : KG c w w := Kp2.refl _ _
theorem KG.trans {c : Ctx} {a b d : World} (h : KG c a b) (k : KG c b d) : KG c a d := Kp2.trans h k
theorem KG.below {c : Ctx} {a b : World} (h : Below a.heap.size a b) : KG c a b := Kp2.below h
theorem KG.row {c : Ctx} {w w' : World} (h : KG c w w') {b T : Nat} {cs : List Value} (hr : Row w b T cs) (hn : b ≠ c.g ∧ b ≠ c.f ∧ b ≠ c.l) : Row w' b T cs := row_same hr (h.2 b hn hr.lt)
theorem KG.set {c : Ctx} (w : World) (b o : Nat) (v : Value) (hb : b = c.g ∨ b = c.f ∨ b = c.l) : KG c w (w.setCell ⟨b, o, none⟩ v) :=
  ⟨by simp, KeepS.setCell w b o v (fun h => by obtain ⟨h1, h2, h3⟩ := h; rcases hb with h | h | h <;> contradiction), rfl, rfl, rfl⟩
/-- a store into a block that is newer than w -/
theorem KG.own {c : Ctx} {w w1 : World} (h : KG c w w1) (b o : Nat) (v : Value) (hb : w.heap.size ≤ b) : KG c w (w1.setCell ⟨b, o, none⟩ v) :=
  ⟨by have := h.1; simpa using this, fun i hi hl => (heap_setCell_other w1 ⟨b, o, none⟩ i v (by simp; omega)).trans (h.2 i hi hl), h.os, h.tape, h.output⟩
/-- the records of loops stay -/
theorem KG.from {c : Ctx} {C : Nat} {w w' : World} (h : KG c w w') (hC : c.g < C ∧ c.f < C ∧ c.l < C) : KeepsFrom C w w' :=
  ⟨h.1, fun k o hk ho _ => (h.2 k ⟨by omega, by omega, by omega⟩ (Array.getElem?_eq_some_iff.1 ho).1).trans ho⟩
end Go.Proofs.Ytbmbddapbgnioaa
