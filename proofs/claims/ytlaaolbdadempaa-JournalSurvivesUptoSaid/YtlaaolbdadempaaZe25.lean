/- JournalSurvives: what holds at the head of each round of crashes. -/
import Derived.Test.YtlaaolbdadempaaZe14
import Derived.Test.YtlaaolbdadempaaZe24
import Derived.Test.YtlaaolbdadempaaZe11
import Derived.Test.YtlaaolbdadempaaZe22
import Derived.Test.YtlaaolbdadempaaZe23
namespace Go.Proofs.Ytlaaolbdadempaa
open Go.RowKit

/-- the box of the disk (g), what the disk and the kept records hold (outside that box), and the plain side -/
structure SvI (w0 : World) (g N G : Nat) (d : Dsk) (s p vk : Value) (wr : World) : Prop where
  row : Row wr g 25 [s, p, .int .i64 (-1), .bool false]
  disk : DRestS (fun b => b ≠ g) wr d (dv s p (-1) false)
  kept : NRestS (fun b => b ≠ g) wr (recsL d.secs) vk
  left : d.left = -1
  fine : Fine d G
  len : d.secs.length = N
  low : w0.heap.size ≤ g
  bel : Below w0.heap.size w0 wr
theorem SvI.lt {w0 wr : World} {g N G : Nat} {d : Dsk} {s p vk : Value} (h : SvI w0 g N G d s p vk wr) : g < wr.heap.size := h.row.lt
theorem SvI.keep {w0 wr wr' : World} {g N G : Nat} {d : Dsk} {s p vk : Value} (h : SvI w0 g N G d s p vk wr) (hb : Below wr.heap.size wr wr') : SvI w0 g N G d s p vk wr' :=
  ⟨h.row.keep hb, h.disk.keep (.below hb), h.kept.keep (.below hb), h.left, h.fine, h.len, h.low, below_next h.bel hb⟩
/-- a new disk is stored, and other records are kept -/
theorem SvI.next {w0 w5 w6 : World} {g N G G' : Nat} {d d' : Dsk} {s p vk s' p' vk' : Value} (h : SvI w0 g N G d s p vk w5) (hd : DRestS (fun b => b ≠ g) w5 d' (dv s' p' (-1) false)) (hk : NRestS (fun b => b ≠ g) w5 (recsL d'.secs) vk')
    (hrow : Row w6 g 25 [s', p', .int .i64 (-1), .bool false]) (hb : Below g w5 w6) (hf : ∀ b, b ≠ g → w6.heap[b]? = w5.heap[b]?) (hl : d'.left = -1) (hfi : Fine d' G') (hn : d'.secs.length = N) : SvI w0 g N G' d' s' p' vk' w6 :=
  ⟨hrow, hd.keep (fun b hb _ => hf b hb), hk.keep (fun b hb _ => hf b hb), hl, hfi, hn, h.low, h.bel.trans (hb.mono h.low)⟩
/-- what a call made of things outside the box lies outside it -/
theorem drests_out {w w5 : World} {g : Nat} {d : Dsk} {v : Value} (h : DRestS (Ext (fun b => b ≠ g) w.heap.size) w5 d v) (hg : g < w.heap.size) : DRestS (fun b => b ≠ g) w5 d v :=
  h.weak (fun b h1 _ => by rcases h1 with h1 | h1; exact h1; omega)
theorem nrests_out {w w5 : World} {g : Nat} {l : List (List UInt8)} {v : Value} (h : NRestS (Ext (fun b => b ≠ g) w.heap.size) w5 l v) (hg : g < w.heap.size) : NRestS (fun b => b ≠ g) w5 l v :=
  h.weak (fun b h1 _ => by rcases h1 with h1 | h1; exact h1; omega)
/-- the script's round k: as many generations as rounds -/
def SvHead (w0 : World) (g N : Nat) (m : Nat) (s7 s40 : Value) (wr : World) : Prop :=
  ∃ (k G : Nat) (d : Dsk) (s p : Value), k ≤ m ∧ G ≤ k ∧ s40 = .int .i64 (k : Int) ∧ SvI w0 g N G d s p s7 wr
/-- a new disk, in its box -/
theorem svI_new {w w' : World} {n : Nat} {s p : Value} {w0 : World} (h1 : 1 ≤ n) (h2 : n ≤ 4096) (h : Box w' w.heap.size (dN n) s p (-1) false) (hd : DRestS (fun b => b ≠ w.heap.size) w' (dN n) (dv s p (-1) false)) (hl : w0.heap.size ≤ w.heap.size) (hb : Below w0.heap.size w0 w') : SvI w0 w.heap.size n 0 (dN n) s p (.slice none 0 0) w' := by
  have hr0 : recsL (dN n).secs = [] := (recs_zeros n).1
  exact ⟨h.row, hd, by rw [hr0]; exact nrests_nil _ _, rfl, fine_new h1 h2, by simp [dN], hl, hb⟩
end Go.Proofs.Ytlaaolbdadempaa

/- JournalSurvives: what a round carries; the contracts in their S forms, as the round takes them. -/
namespace Go.Proofs.Ytlaaolbdadempaa
open Go.RowKit

theorem usedL_mem : ∀ {l : List (List UInt8)} {x : List UInt8}, x ∈ l → x.length ≤ 112 * usedL l
  | b :: l, x, h => by
    rw [usedL_cons]
    rcases List.mem_cons.1 h with rfl | h
    · have : x.length ≤ 112 * secsOf x.length := by unfold secsOf; omega
      omega
    · have := usedL_mem h; omega
theorem mild_used {l : List (List UInt8)} {m s : Int} (h : usedL l ≤ 4096) : Mild ⟨l, m, s⟩ := ⟨by show usedL l ≤ _; omega, fun x hx => by have := usedL_mem (show x ∈ l from hx); omega⟩
theorem add_one {N : Nat} {s : Int} {r : List (List UInt8)} (h : jokB ⟨r, N, s⟩ = true) (b : List UInt8) :
    (appJ ⟨r, N, s⟩ b = (⟨r ++ [b], N, s⟩, 0) ∧ addR N r b = r ++ [b]) ∨ (appJ ⟨r, N, s⟩ b = (⟨[], 0, 0⟩, 2) ∧ addR N r b = r) := by
  rw [app_add h]
  by_cases hf : usedL r + secsOf b.length ≤ N
  · rw [if_pos hf, addR_yes hf]; exact .inl ⟨rfl, rfl⟩
  · rw [if_neg hf, addR_no hf]; exact .inr ⟨rfl, rfl⟩
section
variable {S : Nat → Prop} {W : World} {d d' : Dsk} {ds dp : Value} {dl : Int} {db : Bool} {l l' : List (List UInt8)} {v : Value} {m s m' s' k : Int}
theorem open_lawS (h : DRestS S W d (dv ds dp dl db)) (hr : openJ d = (⟨l, m, s⟩, k)) : Calls Try.prog 38 #[dv ds dp dl db] W fun e w' =>
    ∃ v, e = .returned (.tuple #[.agg #[v, .int .i64 m, .int .i64 s], .int .i64 k]) ∧ NRestS (Ext S W.heap.size) w' l v ∧ Below W.heap.size W w' := by
  obtain ⟨rfl, rfl, _, _⟩ := drest_left h.rest
  refine (open_call S d ds dp W h.rest).mono fun e w' h1 => ?_
  rw [hr] at h1
  exact h1
theorem append_lawS (h : NRestS S W l v) {b : List UInt8} {bv : Value} (hb : Rest W.heap.size W b bv) (hj : Mild ⟨l, m, s⟩) (hbl : b.length ≤ 1000000000000) (hr : appJ ⟨l, m, s⟩ b = (⟨l', m', s'⟩, k)) :
    Calls Try.prog 41 #[.agg #[v, .int .i64 m, .int .i64 s], bv] W fun e w' =>
    ∃ v, e = .returned (.tuple #[.agg #[v, .int .i64 m', .int .i64 s'], .int .i64 k]) ∧ NRestS (Ext S W.heap.size) w' l' v ∧ Below W.heap.size W w' := by
  refine (append_call S ⟨l, m, s⟩ v b bv W h hb hj hbl).mono fun e w' h1 => ?_
  rw [hr] at h1
  exact h1
theorem sync_lawS (h : NRestS S W l v) (hj : Mild ⟨l, m, s⟩) (hd : DRestS S W d (dv ds dp dl db)) (hr : syncJ ⟨l, m, s⟩ d = (⟨l', m', s'⟩, d', k)) :
    Calls Try.prog 47 #[.agg #[v, .int .i64 m, .int .i64 s], .agg #[ds, dp, .int .i64 dl, .bool db]] W fun e w' =>
    ∃ v ds dp dl db, e = .returned (.tuple #[.agg #[v, .int .i64 m', .int .i64 s'], .agg #[ds, dp, .int .i64 dl, .bool db], .int .i64 k]) ∧ NRestS (Ext S W.heap.size) w' l' v ∧ DRestS (Ext S W.heap.size) w' d' (dv ds dp dl db) ∧ Below W.heap.size W w' := by
  obtain ⟨rfl, rfl, _, _⟩ := drest_left hd.rest
  refine (jsync_call S ⟨l, m, s⟩ v d ds dp W h hj hd).mono fun e w' h1 => ?_
  rw [hr] at h1
  exact h1
theorem drests_shape {v : Value} (h : DRestS S W d v) : ∃ s p, v = .agg #[s, p, .int .i64 d.left, .bool d.stop] := by
  obtain ⟨s, p, rfl, _, _⟩ := h; exact ⟨s, p, rfl⟩
theorem stops_lawS {left : Int} (h : DRestS S W d (dv ds dp dl db)) (hr : stopD d left = (d', k)) : Calls Try.prog 32 #[.agg #[ds, dp, .int .i64 dl, .bool db], .int .i64 left] W fun e w' =>
    ∃ s p, e = .returned (.tuple #[.agg #[s, p, .int .i64 d'.left, .bool d'.stop], .int .i64 k]) ∧ DRestS (Ext S W.heap.size) w' d' (dv s p d'.left d'.stop) ∧ Below W.heap.size W w' := by
  refine (stops_call S d _ left W h).mono fun e w' h1 => ?_
  rw [hr] at h1
  obtain ⟨v', rfl, h2, h3⟩ := h1
  obtain ⟨s, p, rfl⟩ := drests_shape h2
  exact ⟨s, p, rfl, h2, h3⟩
theorem restarts_lawS (h : DRestS S W d (dv ds dp dl db)) : Calls Try.prog 24 #[.agg #[ds, dp, .int .i64 dl, .bool db]] W fun e w' =>
    ∃ s p, e = .returned (.agg #[s, p, .int .i64 (-1), .bool false]) ∧ DRestS (Ext S W.heap.size) w' (restartD d) (dv s p (-1) false) ∧ Below W.heap.size W w' := by
  refine (restarts_call S d _ W h).mono fun e w' h1 => ?_
  obtain ⟨v', rfl, h2, h3⟩ := h1
  obtain ⟨s, p, rfl⟩ := drests_shape h2
  exact ⟨s, p, rfl, h2, h3⟩
theorem nrests_sliceS (h : NRestS S W l v) : ∃ a c, v = .slice a l.length c := nrest_slice h.rest
end
/-- the journal's box (gj) among the others: its records lie outside of it and of the disk's box (g) -/
structure JnI (g gj : Nat) (w4 : World) (l : List (List UInt8)) (m s : Int) (vj : Value) (wr : World) : Prop where
  row : Row wr gj 55 [vj, .int .i64 m, .int .i64 s]
  rest : NRestS (fun b => b ≠ g ∧ b ≠ gj) wr l vj
  bel : Below gj w4 wr
  old : w4.heap.size = gj
  gap : g < gj
theorem JnI.keep {g gj : Nat} {w4 wr wr' : World} {l : List (List UInt8)} {m s : Int} {vj : Value} (h : JnI g gj w4 l m s vj wr) (hb : Below wr.heap.size wr wr') : JnI g gj w4 l m s vj wr' :=
  ⟨h.row.keep hb, h.rest.keep (.below hb), h.bel.trans (hb.mono (by have := h.bel.size; have := h.old; omega)), h.old, h.gap⟩
theorem JnI.lt {g gj : Nat} {w4 wr : World} {l : List (List UInt8)} {m s : Int} {vj : Value} (h : JnI g gj w4 l m s vj wr) : gj < wr.heap.size := h.row.lt
theorem JnI.below {g gj : Nat} {w4 wr : World} {l : List (List UInt8)} {m s : Int} {vj : Value} (h : JnI g gj w4 l m s vj wr) : Below w4.heap.size w4 wr := by rw [h.old]; exact h.bel
/-- a new journal is stored in the box -/
theorem JnI.store {g gj : Nat} {w4 w5 w6 : World} {l l' : List (List UInt8)} {m s : Int} {vj vj' : Value} (h : JnI g gj w4 l m s vj w5) (hn : NRestS (fun b => b ≠ g ∧ b ≠ gj) w5 l' vj')
    (hr : Row w6 gj 55 [vj', .int .i64 m, .int .i64 s]) (hb : Below gj w5 w6) (hf : ∀ b, b ≠ gj → w6.heap[b]? = w5.heap[b]?) : JnI g gj w4 l' m s vj' w6 :=
  ⟨hr, hn.keep (fun b hb _ => hf b hb.2), h.bel.trans hb, h.old, h.gap⟩
theorem jnI_new {g : Nat} {w4 w5 : World} {l : List (List UInt8)} {m s : Int} {v : Value} (hg : g < w4.heap.size) (hn : NRestS (fun b => b ≠ g) w4 l v) (hr : Row w5 w4.heap.size 55 [v, .int .i64 m, .int .i64 s]) (hb : Below w4.heap.size w4 w5) : JnI g w4.heap.size w4 l m s v w5 :=
  ⟨hr, (hn.weak (S' := fun b => b ≠ g ∧ b ≠ w4.heap.size) (fun b h1 h2 => ⟨h1, by omega⟩)).keep (fun b h1 h2 => hb.block b h2), hb, rfl, hg⟩
/-- what a call made of things outside the boxes lies outside of them -/
theorem nrests_out2 {w w5 : World} {g gj : Nat} {l : List (List UInt8)} {v : Value} (h : NRestS (Ext (fun b => b ≠ g ∧ b ≠ gj) w.heap.size) w5 l v) (hg : g < gj) (hj : gj < w.heap.size) : NRestS (fun b => b ≠ g ∧ b ≠ gj) w5 l v :=
  h.weak (fun b h1 _ => by rcases h1 with h1 | h1; exact h1; exact ⟨by omega, by omega⟩)
theorem drests_out2 {w w5 : World} {g gj : Nat} {d : Dsk} {v : Value} (h : DRestS (Ext (fun b => b ≠ g ∧ b ≠ gj) w.heap.size) w5 d v) (hg : g < gj) (hj : gj < w.heap.size) : DRestS (fun b => b ≠ g ∧ b ≠ gj) w5 d v :=
  h.weak (fun b h1 _ => by rcases h1 with h1 | h1; exact h1; exact ⟨by omega, by omega⟩)
/-- the disk and the crash, in the worlds of a round -/
structure RdI (w0 : World) (g gc N G : Nat) (d : Dsk) (s p vk : Value) (R : List (List UInt8)) (uR : Value) (sp : Bool) (lf : Nat) (wr : World) : Prop where
  sv : SvI w0 g N G d s p vk wr
  crash : Row wr gc 68 [uR, .bool sp, .int .u8 (lf : Int)]
  recs : NRest w0.heap.size wr R uR
  gap : g < gc
theorem RdI.keep {w0 wr wr' : World} {g gc N G : Nat} {d : Dsk} {s p vk : Value} {R : List (List UInt8)} {uR : Value} {sp : Bool} {lf : Nat} (h : RdI w0 g gc N G d s p vk R uR sp lf wr) (hb : Below wr.heap.size wr wr') : RdI w0 g gc N G d s p vk R uR sp lf wr' :=
  ⟨h.sv.keep hb, h.crash.keep hb, h.recs.stays (hb.mono h.sv.bel.size), h.gap⟩
/-- the disk's box ahead of the sync: it will stop, or not -/
structure DkI (w0 : World) (g gj G : Nat) (secs : List (List UInt8)) (d : Dsk) (s p : Value) (dl : Int) (db : Bool) (wr : World) : Prop where
  row : Row wr g 25 [s, p, .int .i64 dl, .bool db]
  disk : DRestS (fun b => b ≠ g ∧ b ≠ gj) wr d (dv s p dl db)
  fine : Fine d G
  secs : d.secs = secs
  low : w0.heap.size ≤ g
  bel : Below w0.heap.size w0 wr
theorem DkI.keep {w0 wr wr' : World} {g gj G : Nat} {secs : List (List UInt8)} {d : Dsk} {s p : Value} {dl : Int} {db : Bool} (h : DkI w0 g gj G secs d s p dl db wr) (hb : Below wr.heap.size wr wr') : DkI w0 g gj G secs d s p dl db wr' :=
  ⟨h.row.keep hb, h.disk.keep (.below hb), h.fine, h.secs, h.low, h.bel.trans (hb.mono h.bel.size)⟩
theorem dkI_of {w0 w4 wr : World} {g N G : Nat} {d : Dsk} {s p vk : Value} (h : SvI w0 g N G d s p vk w4) (hb : Below w4.heap.size w4 wr) : DkI w0 g w4.heap.size G d.secs d s p (-1) false wr :=
  ⟨h.row.keep hb, (h.disk.weak (S' := fun b => b ≠ g ∧ b ≠ w4.heap.size) (fun b h1 h2 => ⟨h1, by omega⟩)).keep (fun b _ hl => hb.block b hl), h.fine, rfl, h.low, h.bel.trans (hb.mono h.bel.size)⟩
theorem DkI.store {w0 w5 w6 : World} {g gj G G' : Nat} {secs : List (List UInt8)} {d d' : Dsk} {s p s' p' : Value} {dl dl' : Int} {db db' : Bool} (h : DkI w0 g gj G secs d s p dl db w5) (hd : DRestS (fun b => b ≠ g ∧ b ≠ gj) w5 d' (dv s' p' dl' db'))
    (hr : Row w6 g 25 [s', p', .int .i64 dl', .bool db']) (hb : Below g w5 w6) (hf : ∀ b, b ≠ g → w6.heap[b]? = w5.heap[b]?) (hfi : Fine d' G') (hs : d'.secs = secs) : DkI w0 g gj G' secs d' s' p' dl' db' w6 :=
  ⟨hr, hd.keep (fun b hb _ => hf b hb.1), hfi, hs, h.low, h.bel.trans (hb.mono h.low)⟩
/-- all that a round carries when the records are appended -/
structure PhI (w0 : World) (g gj gc G : Nat) (secs : List (List UInt8)) (d : Dsk) (s p : Value) (dl : Int) (db : Bool) (l : List (List UInt8)) (m k : Int) (vj uR : Value) (sp : Bool) (lf : Nat) (wr : World) : Prop where
  dk : DkI w0 g gj G secs d s p dl db wr
  row : Row wr gj 55 [vj, .int .i64 m, .int .i64 k]
  rest : NRestS (fun b => b ≠ g ∧ b ≠ gj) wr l vj
  crash : Row wr gc 68 [uR, .bool sp, .int .u8 (lf : Int)]
  gap : g < gj
  gap2 : g < gc
section
variable {w0 wr wr' w5 w6 : World} {g gj gc G G' : Nat} {secs : List (List UInt8)} {d d' : Dsk} {s p s' p' : Value} {dl dl' : Int} {db db' : Bool} {l : List (List UInt8)} {m k : Int} {vj uR : Value} {sp : Bool} {lf : Nat}
theorem PhI.keep (h : PhI w0 g gj gc G secs d s p dl db l m k vj uR sp lf wr) (hb : Below wr.heap.size wr wr') : PhI w0 g gj gc G secs d s p dl db l m k vj uR sp lf wr' :=
  ⟨h.dk.keep hb, h.row.keep hb, h.rest.keep (.below hb), h.crash.keep hb, h.gap, h.gap2⟩
theorem PhI.store (h : PhI w0 g gj gc G secs d s p dl db l m k vj uR sp lf w5) (hd : DRestS (fun b => b ≠ g ∧ b ≠ gj) w5 d' (dv s' p' dl' db'))
    (hr : Row w6 g 25 [s', p', .int .i64 dl', .bool db']) (hb : Below g w5 w6) (hf : ∀ b, b ≠ g → w6.heap[b]? = w5.heap[b]?) (hfi : Fine d' G') (hs : d'.secs = secs) : PhI w0 g gj gc G' secs d' s' p' dl' db' l m k vj uR sp lf w6 :=
  ⟨h.dk.store hd hr hb hf hfi hs, (hf gj (by have := h.gap; omega)).trans h.row, h.rest.keep (fun b hb _ => hf b hb.1), (hf gc (by have := h.gap2; omega)).trans h.crash, h.gap, h.gap2⟩
/-- a round is over: the restarted disk is stored -/
theorem PhI.next {vk : Value} {N : Nat} (h : PhI w0 g gj gc G secs d s p dl db l m k vj uR sp lf w5) (hd : DRestS (fun b => b ≠ g ∧ b ≠ gj) w5 d' (dv s' p' (-1) false)) (hk : NRestS (fun b => b ≠ g ∧ b ≠ gj) w5 (recsL d'.secs) vk)
    (hr : Row w6 g 25 [s', p', .int .i64 (-1), .bool false]) (hb : Below g w5 w6) (hf : ∀ b, b ≠ g → w6.heap[b]? = w5.heap[b]?) (hl : d'.left = -1) (hfi : Fine d' G') (hn : d'.secs.length = N) : SvI w0 g N G' d' s' p' vk w6 :=
  ⟨hr, (hd.keep (fun b hb _ => hf b hb.1)).weak (fun b h _ => h.1), (hk.keep (fun b hb _ => hf b hb.1)).weak (fun b h _ => h.1), hl, hfi, hn, h.dk.low, h.dk.bel.trans (hb.mono h.dk.low)⟩
end
/-- the inner loop's head -/
def SaHead (g gj : Nat) (w4 : World) (N : Nat) (kn : Int) (K R : List (List UInt8)) (rn : Nat) (s74 : Value) (wr : World) : Prop :=
  ∃ (q : Nat) (vj : Value), q ≤ rn ∧ s74 = .int .i64 (q : Int) ∧ JnI g gj w4 (addsR N K (R.take q)) N kn vj wr
end Go.Proofs.Ytlaaolbdadempaa

/- JournalSteps' closure: records appended, those that fit. -/
namespace Go.Proofs.Ytlaaolbdadempaa
open Go.RowKit

/-- while records are appended -/
structure AdI (w : World) (r : List (List UInt8)) (v : Value) (m : Nat) (s : Int) (wr : World) : Prop where
  row : Row wr w.heap.size 55 [v, .int .i64 (m : Int), .int .i64 s]
  res : Row wr (w.heap.size + 1) 55 [.slice none 0 0, .int .i64 0, .int .i64 0]
  rest : NRestS (Wset (fun b => b < w.heap.size) w.heap.size) wr r v
  bel : Below w.heap.size w wr
theorem AdI.keep {w wr wr' : World} {r : List (List UInt8)} {v : Value} {m : Nat} {s : Int} (h : AdI w r v m s wr) (hb : Below wr.heap.size wr wr') : AdI w r v m s wr' :=
  ⟨h.row.keep hb, h.res.keep hb, h.rest.keep (.below hb), below_next h.bel hb⟩
theorem wset_no {n : Nat} (h : Wset (fun b => b < n) n n) : False := by
  rcases h with h | h
  · exact absurd h.2 (Nat.lt_irrefl _)
  · omega
theorem wset_no1 {n : Nat} (h : Wset (fun b => b < n) n (n + 1)) : False := by
  rcases h with h | h
  · exact absurd h.2 (by omega)
  · omega
theorem wset_ext {S : Nat → Prop} {n m b : Nat} (hm : n + 2 ≤ m) (h : Ext (Wset S n) m b) : Wset S n b := by
  rcases h with h | h
  · exact h
  · exact .inr (Nat.le_trans hm h)
def AdHead (w : World) (m : Nat) (s : Int) (r bs : List (List UInt8)) (s11 : Value) (wr : World) : Prop :=
  ∃ (k : Nat) (v : Value), k ≤ bs.length ∧ s11 = .int .i64 (k : Int) ∧ AdI w (addsR m r (bs.take k)) v m s wr
set_option maxHeartbeats 8000000 in
set_option maxRecDepth 100000 in
theorem add_call (m : Nat) (s : Int) (r bs : List (List UInt8)) (v u : Value) (w : World) (h : NRest w.heap.size w r v) (hu : NRest w.heap.size w bs u) (hm : 1 ≤ m) (hm2 : m ≤ 4096) (hs : 0 ≤ s) (hs2 : s ≤ (r.length : Int)) (hr : usedL r ≤ m) (hbs : ∀ x ∈ bs, x.length ≤ 1000000000) :
    Calls Try.prog 50 #[.agg #[v, .int .i64 (m : Int), .int .i64 s], u] w fun e w' => ∃ v', e = .returned (.agg #[v', .int .i64 (m : Int), .int .i64 s]) ∧ NRest w'.heap.size w' (addsR m r bs) v' ∧ Below w.heap.size w w' := by
  have HU := Lib.hid hu
  obtain ⟨va, vc, rfl⟩ := nrest_slice h
  obtain ⟨ua, uc, rfl, huc9, huc⟩ := hu.shape
  have HI0 : Hid (AdI w r (.slice va r.length vc) m s ((w.alloc (.cells #[.slice va r.length vc, .int .i64 (m : Int), .int .i64 s] 55)).alloc (.cells #[.slice none 0 0, .int .i64 0, .int .i64 0] 55))) := Lib.hid (by
    have r2 := row_new (w.alloc (.cells #[.slice va r.length vc, .int .i64 (m : Int), .int .i64 s] 55)) 55 [.slice none 0 0, .int .i64 0, .int .i64 0]
    rw [World.size_alloc] at r2
    exact ⟨(row_new w 55 [.slice va r.length vc, .int .i64 (m : Int), .int .i64 s]).keep (Joins.below_alloc1 _ _), r2, (NRestS.later (S := fun b => b < w.heap.size) h (below_two w _ _)).weak (fun b h1 _ => .inl h1), below_two w _ _⟩)
  have HBS := Lib.hid hbs
  have HUSE : Hid (∀ k, usedL (addsR m r (bs.take k)) ≤ m) := Lib.hid (fun k => addsR_used _ hr)
  have HLEN : Hid (∀ k, s ≤ ((addsR m r (bs.take k)).length : Int)) := Lib.hid (fun k => by have := addsR_len (m := m) (bs.take k) r; omega)
  obtain ⟨n, hn⟩ : ∃ n, n = bs.length := ⟨_, rfl⟩
  rw [← hn] at HU huc ⊢
  have HN := Lib.hid hn
  clear h hu hn hbs hr hs2
  go_enter Try.func50, Try.ntmps50
  go_wp2_with fail
  generalize (w.alloc (.cells #[.slice va r.length vc, .int .i64 (m : Int), .int .i64 s] 55)).alloc (.cells #[.slice none 0 0, .int .i64 0, .int .i64 0] 55) = W0 at HI0 ⊢
  go_loopw [11] (fun s11 wr => AdHead w m s r bs s11 wr) (fun s11 _ => n - (intOf s11).toNat)
  case atStart => exact ⟨0, _, Nat.zero_le _, rfl, by simpa [addsR] using HI0.out⟩
  case round =>
    obtain ⟨k, v1, hk, rfl, hi⟩ := hrel
    rw [← HN.out] at hk
    have HI := Lib.hid hi
    obtain ⟨a1, c1, rfl⟩ := nrest_slice hi.rest.rest
    have hlt2 := hi.res.lt
    clear hi
    rcases Nat.lt_or_ge k n with hlt | hge
    · obtain ⟨x, hx⟩ : ∃ x, bs[k]? = some x := ⟨_, List.getElem?_eq_getElem (by rw [← HN.out]; exact hlt)⟩
      obtain ⟨b, off, u, rfl, hbl, hru, hcell⟩ := HU.out.at hx
      have hcu := hcell wr HI.out.bel
      obtain ⟨u0, uc2, rfl, hu1, hu2⟩ := hru.shape
      have hxl := HBS.out x (List.mem_of_getElem? hx)
      have HST := Lib.hid (addsR_snoc (m := m) (r := r) hx)
      have HRU : Hid (Rest wr.heap.size wr x (.slice u0 x.length uc2)) := Lib.hid ((hru.stays HI.out.bel).mono HI.out.bel.size)
      have hu2 := HUSE.out k
      have hl2 := HLEN.out k
      obtain ⟨R, hR⟩ : ∃ R, R = addsR m r (bs.take k) := ⟨_, rfl⟩
      rw [← hR] at HI HST hu2 hl2
      have hjk : jokB ⟨R, (m : Int), s⟩ = true := jok_of hm hm2 hs hl2 hu2
      have HMI : Hid (Mild ⟨R, (m : Int), s⟩) := Lib.hid ⟨by show usedL R ≤ _; omega, fun y hy => by have h9 := len_used (l := R) hy; omega⟩
      have HAP := Lib.hid (app_add hjk x)
      have hki : (k : Int) < (n : Int) := by omega
      have hk0 : (0 : Int) ≤ (k : Int) := by omega
      obtain ⟨xn, hxn⟩ : ∃ xn, xn = x.length := ⟨_, rfl⟩
      rw [← hxn] at HRU hcu
      have HXN := Lib.hid hxn
      obtain ⟨Rn, hRn⟩ : ∃ Rn, Rn = R.length := ⟨_, rfl⟩
      have HAC : Hid (Calls Try.prog 41 #[.agg #[.slice a1 Rn c1, .int .i64 (m : Int), .int .i64 s], .slice u0 xn uc2] wr (JAnsS (Wset (fun b => b < w.heap.size) w.heap.size) wr (appJ ⟨R, m, s⟩ x))) := Lib.hid (by
        rw [hRn]
        exact append_call _ ⟨R, m, s⟩ _ x _ wr HI.out.rest HRU.out HMI.out (by omega))
      rw [← hRn] at HI
      clear hcell hru hx hxn hR hRn hjk hu2 hl2 hu1
      rw [HAP.out] at HAC
      by_cases hfit : usedL R + secsOf x.length ≤ m
      · rw [if_pos hfit] at HAC
        have HADD := Lib.hid (addR_yes (b := x) hfit)
        clear hfit HAP
        go_wp2_with (first
          | (refine wpList_load_jnl rfl (.tmp 2) rfl w.heap.size _ (by rfl) rfl HI.out.row ?_)
          | (go_at_call 41; refine HAC.out.mono ?_; rintro e wB ⟨v4, rfl, hn4, hb4⟩; obtain ⟨a4, c4, rfl⟩ := nrest_slice hn4.rest; unfold jv; obtain ⟨rn, hrn⟩ : ∃ rn, rn = (R ++ [x]).length := ⟨_, rfl⟩; simp only at hn4 ⊢; rw [← hrn] at hn4 ⊢; have HRN := Lib.hid hrn; clear hrn; have HN4 := Lib.hid hn4; replace HI := Lib.hid (HI.out.keep hb4); clear hn4 hb4)
          | (refine wpList_store_ags rfl 55 (.tmp 7) (.tmp 19) rfl wB.heap.size [.slice a4 rn c4, .int .i64 (m : Int), .int .i64 s] _ size55 (by rfl) rfl rfl (row_new wB 55 _) (by rfl) (Joins.below_alloc1 wB _) (Nat.le_refl _) ?_; intro w5 hr hb hf; have HR7 := Lib.hid hr; have HN5 := Lib.hid (HN4.out.keep (.below hb)); replace HI := Lib.hid (HI.out.keep hb); clear hr hb hf HN4)
          | (refine wpList_load_jnl rfl (.tmp 7) rfl wB.heap.size _ (by rfl) rfl HR7.out ?_)
          | (refine wpList_store_ags rfl 55 (.tmp 2) (.tmp 23) rfl w.heap.size [.slice a4 rn c4, .int .i64 (m : Int), .int .i64 s] _ size55 (by rfl) rfl rfl HI.out.row (by rfl) HI.out.bel (Nat.le_refl _) ?_; intro w6 hr hb hf; have HI6 : Hid (AdI w (R ++ [x]) (.slice a4 rn c4) m s w6) := Lib.hid ⟨hr, HI.out.res.same (hf _ (by omega)), (HN5.out.keep (.far w.heap.size (fun h => wset_no (wset_ext hlt2 h)) hf)).weak (fun b h _ => wset_ext hlt2 h), hb⟩; clear hr hb hf))
        exact ⟨⟨k + 1, _, by rw [← HN.out]; omega, by go_num, by rw [HST.out, HADD.out]; exact HI6.out⟩, by simp [intOf]; omega⟩
      · rw [if_neg hfit] at HAC
        have HADD := Lib.hid (addR_no (b := x) hfit)
        clear hfit HAP
        go_wp2_with (first
          | (refine wpList_load_jnl rfl (.tmp 2) rfl w.heap.size _ (by rfl) rfl HI.out.row ?_)
          | (go_at_call 41; refine HAC.out.mono ?_; rintro e wB ⟨v4, rfl, hn4, hb4⟩; obtain ⟨a4, c4, rfl⟩ := nrest_slice hn4.rest; unfold jv; replace HI := Lib.hid (HI.out.keep hb4); clear hn4 hb4)
          | (refine wpList_store_ags rfl 55 (.tmp 7) (.tmp 19) rfl wB.heap.size [.slice a4 ([] : List (List UInt8)).length c4, .int .i64 0, .int .i64 0] _ size55 (by rfl) rfl rfl (row_new wB 55 _) (by rfl) (Joins.below_alloc1 wB _) (Nat.le_refl _) ?_; intro w5 hr hb hf; replace HI := Lib.hid (HI.out.keep hb); clear hr hb hf))
        exact ⟨⟨k + 1, _, by rw [← HN.out]; omega, by go_num, by rw [HST.out, HADD.out]; exact HI.out⟩, by simp [intOf]; omega⟩
    · obtain rfl : k = n := by omega
      have HALL : Hid (bs.take k = bs) := Lib.hid (by rw [HN.out, List.take_length])
      rw [HALL.out] at HI
      go_wp2_with (first
        | (refine wpList_load_jnl rfl (.tmp 2) rfl w.heap.size _ (by rfl) rfl HI.out.row ?_)
        | (refine wpList_store_ags rfl 55 (.tmp 4) (.tmp 25) rfl (w.heap.size + 1) [.slice a1 (addsR m r bs).length c1, .int .i64 (m : Int), .int .i64 s] _ size55 (by rfl) rfl rfl HI.out.res (by rfl) HI.out.bel (by omega) ?_; intro w6 hr hb hf))
      have hr' : w6.heap[w.heap.size + 1]? = some (.cells #[Value.slice a1 (addsR m r bs).length c1, Value.int .i64 (m : Int), Value.int .i64 s] 55 (0, 0)) := hr
      refine bodyPost_ret (results_cell_row rfl _ _ (w.heap.size + 1) 55 #[Value.slice a1 (addsR m r bs).length c1, Value.int .i64 (m : Int), Value.int .i64 s] (0, 0) _ rfl hr' Try.underlying55 rfl (by kernel_rfl)) rfl ?_
      exact ⟨_, rfl, ((show NRestS (Wset (fun b => b < w.heap.size) w.heap.size) wr (addsR m r bs) (.slice a1 (addsR m r bs).length c1) from HI.out.rest).keep (.far (w.heap.size + 1) (fun h => wset_no1 h) hf)).rest, hb⟩
end Go.Proofs.Ytlaaolbdadempaa

/- The specification's comparison of records draws, and changes nothing else. -/
namespace Go.Proofs.Ytlaaolbdadempaa
open Go.RowKit

set_option maxHeartbeats 4000000 in
set_option maxRecDepth 100000 in
theorem samerec_any (xs ys : List (List UInt8)) (v u : Value) (w : World) (h : NRest w.heap.size w xs v) (h2 : NRest w.heap.size w ys u) :
    Calls Try.prog 49 #[v, u] w fun e w' => e = .returned (.bool (decide (xs = ys))) ∧ ∃ q, w' = w.drewN q := by
  have HV := Lib.hid h
  have HU := Lib.hid h2
  obtain ⟨a, cap, rfl, hc1, hc2⟩ := h.shape
  obtain ⟨a2, cap2, rfl, hc3, hc4⟩ := h2.shape
  clear h h2
  obtain ⟨n, hn⟩ : ∃ n, n = xs.length := ⟨_, rfl⟩
  obtain ⟨m, hm⟩ : ∃ m, m = ys.length := ⟨_, rfl⟩
  rw [← hn] at HV hc2 ⊢
  rw [← hm] at HU hc4 ⊢
  have HN := Lib.hid hn
  have HM := Lib.hid hm
  clear hn hm
  by_cases hnm : n = m
  · subst hnm
    go_enter Try.func49, Try.ntmps49
    go_wp2_with fail
    go_loopw [5] (fun s5 wr => SrHead xs ys w s5 wr) (fun s5 _ => n - (intOf s5).toNat)
    case atStart => exact ⟨0, 0, Nat.zero_le _, rfl, rfl, rfl⟩
    case round =>
      obtain ⟨k, q, hk, rfl, htk, rfl⟩ := hrel
      rw [← HN.out] at hk
      have HTK := Lib.hid htk
      clear htk
      rcases Nat.lt_or_ge k n with hlt | hge
      · obtain ⟨x, hx⟩ : ∃ x, xs[k]? = some x := ⟨_, List.getElem?_eq_getElem (by rw [← HN.out]; exact hlt)⟩
        obtain ⟨y, hy⟩ : ∃ y, ys[k]? = some y := ⟨_, List.getElem?_eq_getElem (by rw [← HM.out]; exact hlt)⟩
        obtain ⟨b, off, xv, rfl, hbl, hrx, hcx⟩ := HV.out.at hx
        obtain ⟨b2, off2, yv, rfl, hbl2, hry, hcy⟩ := HU.out.at hy
        have c1 : ∀ q : Nat, (w.drewN q).cell? ⟨b, off + k, none⟩ = some xv := fun q => hcx _ (below_drewN (Below.refl _ _) q)
        have c2 : ∀ q : Nat, (w.drewN q).cell? ⟨b2, off2 + k, none⟩ = some yv := fun q => hcy _ (below_drewN (Below.refl _ _) q)
        obtain ⟨xa, xc, rfl, _, _⟩ := hrx.shape
        obtain ⟨ya, yc, rfl, _, _⟩ := hry.shape
        have v1 : ∀ q : Nat, _ := fun q => conv_rest (hrx.stays (below_drewN (Below.refl w.heap.size w) q))
        have v2 : ∀ q : Nat, _ := fun q => conv_rest (hry.stays (below_drewN (Below.refl w.heap.size w) q))
        have HE : Hid (((ByteArray.mk x.toArray).toList == (ByteArray.mk y.toArray).toList) = decide (x = y)) := Lib.hid (str_eq x y)
        obtain ⟨r, hr⟩ : ∃ r, r = decide (x = y) := ⟨_, rfl⟩
        have hkm : (k : Int) < (n : Int) := by omega
        have hk0 : (0 : Int) ≤ (k : Int) := by omega
        have HNE : Hid (r = false → xs ≠ ys) := Lib.hid (fun h0 e => by
            subst e; rw [hx] at hy; cases hy; rw [h0] at hr; simp at hr)
        have HEQ : Hid (r = true → xs.take (k + 1) = ys.take (k + 1)) := Lib.hid (fun h0 => by
            have e : x = y := by rw [h0] at hr; simpa using hr.symm
            subst e
            obtain ⟨h1, h2⟩ := List.getElem?_eq_some_iff.1 hx
            obtain ⟨h3, h4⟩ := List.getElem?_eq_some_iff.1 hy
            rw [List.take_succ_eq_append_getElem h1, List.take_succ_eq_append_getElem h3, h2, h4, HTK.out])
        rw [← hr] at HE
        clear hrx hry hcx hcy hx hy hr
        generalize x.length = xn at *
        generalize y.length = yn at *
        generalize ByteArray.mk x.toArray = XA at *
        generalize ByteArray.mk y.toArray = YA at *
        go_wp2_with fail
        go_quiet (fail)
        rw [HE.out]
        cases r
        · have h9 := HNE.out rfl
          go_wp2_with fail
          go_ret
          exact ⟨ret_bool (by simp), q + nq, rfl⟩
        · have h9 := HEQ.out rfl
          go_wp2_with fail
          exact ⟨⟨k + 1, q + nq, by rw [← HN.out]; omega, by go_num, h9, rfl⟩, by simp [intOf]; omega⟩
      · obtain rfl : k = n := by omega
        have HEQ : Hid (xs = ys) := Lib.hid (by have := HTK.out; rwa [List.take_of_length_le (by rw [← HN.out]; exact Nat.le_refl _), List.take_of_length_le (by rw [← HM.out]; exact Nat.le_refl _)] at this)
        go_wp2_with fail
        go_ret
        exact ⟨ret_bool (by simp [HEQ.out]), _, rfl⟩
  · have hnm2 : ¬ (n : Int) = (m : Int) := by omega
    have HNE : Hid (xs ≠ ys) := Lib.hid (fun e => hnm (by rw [HN.out, HM.out, e]))
    clear hnm
    go_enter Try.func49, Try.ntmps49
    go_wp2_with fail
    go_ret
    exact ⟨ret_bool (by simp [HNE.out]), 0, rfl⟩
end Go.Proofs.Ytlaaolbdadempaa

/- The reference's generation. -/
namespace Go.Proofs.Ytlaaolbdadempaa
open Go.RowKit

theorem numR_last (b : List UInt8) (hb : b.length = 128) : numR (b.drop 124) = num4 (b.drop 124) := by
  obtain ⟨a0, a1, a2, a3, c0, c1, c2, c3, x8, x9, m, n, g0, g1, g2, g3, d, hd, rfl⟩ := cut128 b hb
  have t4 : (a0 :: a1 :: a2 :: a3 :: c0 :: c1 :: c2 :: c3 :: x8 :: x9 :: m :: n :: (d ++ [g0, g1, g2, g3])).drop 124 = [g0, g1, g2, g3] := by
    simp only [List.drop_succ_cons]
    rw [List.drop_append_of_le_length (by omega), List.drop_of_length_le (by omega)]; rfl
  rw [t4, numR4]; rfl
def GnHead (l : List (List UInt8)) (w : World) (s3 s4 : Value) (wr : World) : Prop := ∃ k q : Nat, k ≤ l.length ∧ s3 = .int .u64 (lgK l k : Int) ∧ s4 = .int .i64 (k : Int) ∧ wr = w.drewN q
set_option maxHeartbeats 8000000 in
set_option maxRecDepth 100000 in
theorem refgeneration_call (l : List (List UInt8)) (v : Value) (w : World) (h : NRest w.heap.size w l v) (hl : ∀ x ∈ l, x.length = 128) :
    Calls Try.prog 72 #[v] w fun e w' => e = .returned (.int .u64 ((lastGen l + 1 : Nat) : Int)) ∧ Below w.heap.size w w' := by
  have HV := Lib.hid h
  obtain ⟨va, vc, rfl⟩ := nrest_slice h
  have HL := Lib.hid hl
  have hlast := lastGen_lt l
  have hS63 : l.length ≤ 9223372036854775807 := by
    obtain ⟨_, _, he, h1, h2, _⟩ := h
    unfold maxLen at h2; omega
  have hlk : lgK l l.length = lastGen l := by unfold lgK; rw [List.take_length]
  obtain ⟨S, hS⟩ : ∃ S, S = l.length := ⟨_, rfl⟩
  rw [← hS] at HV hlk hS63 ⊢
  have HS := Lib.hid hS
  have HLK := Lib.hid hlk
  clear h hl hS hlk
  go_enter Try.func72, Try.ntmps72
  go_wp2_with fail
  go_loopw [3, 4] (fun s3 s4 wr => GnHead l w s3 s4 wr) (fun _ s4 _ => S - (intOf s4).toNat)
  case atStart => exact ⟨0, 0, Nat.zero_le _, rfl, rfl, rfl⟩
  case round =>
    obtain ⟨k, q, hk, rfl, rfl, hwq⟩ := hrel
    have hbw : Below w.heap.size w wr := by rw [hwq]; exact below_drewN (Below.refl _ _) q
    have HWQ := Lib.hid hwq
    clear hwq
    rw [← HS.out] at hk
    rcases Nat.lt_or_ge k S with hlt | hge
    · obtain ⟨b, hx⟩ : ∃ x, l[k]? = some x := ⟨_, List.getElem?_eq_getElem (by rw [← HS.out]; exact hlt)⟩
      have hbl := HL.out b (List.mem_of_getElem? hx)
      obtain ⟨vb, vo, u, rfl, _, hru, hcu⟩ := HV.out.at hx
      obtain ⟨u0, uc, rfl, huc, huc2⟩ := hru.shape
      obtain ⟨ub, uo, rfl, _⟩ := rest_some hru (by omega)
      have HU := Lib.hid hru
      have HBL := Lib.hid hbl
      have HSUC := Lib.hid (lgK_succ hx)
      have h1 : ∀ q : Nat, Below w.heap.size w (wr.drewN q) := fun q => below_drewN hbw q
      have H1 := Lib.hid h1
      obtain ⟨g, hg⟩ : ∃ g, g = num4 b := ⟨_, rfl⟩
      obtain ⟨g2, hg2⟩ : ∃ g, g = num4 (b.drop 124) := ⟨_, rfl⟩
      have HG1 : Hid (∀ q, Calls Try.prog 83 #[.slice (some ⟨ub, uo, none⟩) 4 uc] (wr.drewN q) fun e w' => e = .returned (.int .u64 (g : Int)) ∧ w' = wr.drewN q) := Lib.hid (fun q => by
        have hr := HU.out.stays (H1.out q)
        have := refnumber_call ((b.drop 0).take 4) (.slice (some ⟨ub, uo + 0, none⟩) 4 uc) _ _ (rest_part hr 0 4 uc (by omega) (by omega) (by omega)) (by rw [List.length_take]; omega)
        rw [List.drop_zero, Nat.add_zero, numR_take4 b HBL.out, ← hg] at this
        exact this)
      have HG2 : Hid (∀ q, Calls Try.prog 83 #[.slice (some ⟨ub, uo + 124, none⟩) 4 (uc - 124)] (wr.drewN q) fun e w' => e = .returned (.int .u64 (g2 : Int)) ∧ w' = wr.drewN q) := Lib.hid (fun q => by
        have hr := HU.out.stays (H1.out q)
        have := refnumber_call ((b.drop 124).take 4) _ _ _ (rest_part hr 124 4 (uc - 124) (by omega) (by omega) (by omega)) (by rw [List.length_take]; omega)
        rw [List.take_of_length_le (by rw [List.length_drop, HBL.out]; omega), numR_last b HBL.out, ← hg2] at this
        exact this)
      rw [← hg, ← hg2] at HSUC
      rw [hbl] at hcu huc2
      have c0 : ∀ q : Nat, (wr.drewN q).cell? ⟨vb, vo + k, none⟩ = some (.slice (some ⟨ub, uo, none⟩) 128 uc) := fun q => hcu _ (H1.out q)
      have hki : (k : Int) < (S : Int) := by omega
      have hk0 : (0 : Int) ≤ (k : Int) := by omega
      have huc4 : (4 : Int) ≤ (uc : Int) := by omega
      have hu124 : ¬ uc = 124 := by omega
      obtain ⟨z, hz⟩ : ∃ z, z = lgK l k := ⟨_, rfl⟩
      rw [← hz] at HSUC ⊢
      obtain ⟨z2, hz2⟩ : ∃ z, z = lgK l (k + 1) := ⟨_, rfl⟩
      rw [← hz2] at HSUC
      have HZ2 := Lib.hid hz2
      clear hru hcu hbl h1 hg hg2 hx hz hz2
      go_upto_region 5 with (fail)
      go_quiet ((go_at_call 83; first | (with_reducible exact Calls.quiet_of_same (HG1.out _)) | (with_reducible exact Calls.quiet_of_same (HG2.out _))))
      have hmx : (if (if z < g then (g : Int) else (z : Int)) < (g2 : Int) then (g2 : Int) else if z < g then (g : Int) else (z : Int)) = (z2 : Int) := by
        have h9 := HSUC.out
        by_cases e1 : z < g
        · rw [if_pos e1]
          by_cases e2 : g < g2
          · rw [if_pos (by omega)]; omega
          · rw [if_neg (by omega)]; omega
        · rw [if_neg e1]
          by_cases e2 : z < g2
          · rw [if_pos (by omega)]; omega
          · rw [if_neg (by omega)]; omega
      rw [hmx]
      go_wp2_with fail
      exact ⟨⟨k + 1, q + nq, by rw [← HS.out]; omega, by rw [HZ2.out], by go_num, by rw [HWQ.out, World.drewN_drewN]⟩, by simp [intOf]; omega⟩
    · obtain rfl : k = S := by omega
      have hwr : IntKind.u64.wrap ((lastGen l : Int) + 1) = (lastGen l : Int) + 1 := by rw [IntKind.wrap_u64]; omega
      rw [HLK.out]
      go_wp2_with fail
      go_ret
      exact ⟨ret_u64 (by push_cast; rfl), hbw⟩
end Go.Proofs.Ytlaaolbdadempaa

/- The reference's numeral: a number as so many bytes. -/
namespace Go.Proofs.Ytlaaolbdadempaa
open Go.RowKit

/-- the last k bytes of a number -/
def tailN (n : Nat) : Nat → List UInt8
  | 0 => []
  | k + 1 => UInt8.ofNat (n / 256 ^ k) :: tailN n k
theorem tailN_len (n : Nat) : ∀ k, (tailN n k).length = k
  | 0 => rfl
  | k + 1 => by rw [tailN, List.length_cons, tailN_len n k]
theorem tailN_4 (n : Nat) : tailN n 4 = digs n := by
  simp [tailN, digs]
theorem tailN_2 (n : Nat) : tailN n 2 = [UInt8.ofNat (n / 256), UInt8.ofNat n] := by
  simp [tailN]
def nmK (m n k : Nat) : List UInt8 := List.replicate (m - k) 0 ++ tailN n k
theorem nmK_len {m n k : Nat} (h : k ≤ m) : (nmK m n k).length = m := by unfold nmK; rw [List.length_append, List.length_replicate, tailN_len]; omega
theorem nmK_set {i n k : Nat} (x : Int) (hx : x = ((n / 256 ^ k % 256 : Nat) : Int)) : (cellsOf (nmK (i + 1 + k) n k)).set i (.int .u8 x) = cellsOf (nmK (i + 1 + k) n (k + 1)) := by
  subst hx
  unfold nmK
  rw [show i + 1 + k - k = i + 1 by omega, show i + 1 + k - (k + 1) = i by omega, List.replicate_succ', List.append_assoc, cellsOf_append, cellsOf_append]
  rw [List.set_append_right _ _ (by simp [cellsOf]), show i - (cellsOf (List.replicate i 0)).length = 0 by simp [cellsOf]]
  simp only [tailN, cellsOf, List.map_append, List.map_cons, List.map_nil, List.cons_append, List.nil_append, List.set_cons_zero, UInt8.toNat_ofNat']
theorem owns_of_row {w : World} {g base : Nat} {xs : List UInt8} {n : Nat} (h : Row w g 5 (cellsOf xs)) (hl : xs.length = n) (hn : n ≤ 1000000) (hg : base ≤ g) : w.ownsRow base 5 1 (.slice (some ⟨g, 0, none⟩) n n) n (cellsOf xs) := by
  subst hl
  refine ⟨by rw [cellsOf_len, Nat.mul_one], .inr ⟨g, xs.length, (cellsOf xs).toArray, rfl, hg, h, Nat.le_refl _, by unfold maxLen; omega, by simp [cellsOf_len], ?_⟩⟩
  rw [Nat.mul_one]
  exact List.take_of_length_le (by simp [cellsOf_len])
def NmHead (m n g : Nat) (w : World) (s0 s6 : Value) (wr : World) : Prop := ∃ (k : Nat) (j : Int), k ≤ m ∧ j = (m : Int) - 1 - (k : Int) ∧ s0 = .int .u64 ((n / 256 ^ k : Nat) : Int) ∧ s6 = .int .i64 j ∧ Row wr g 5 (cellsOf (nmK m n k)) ∧ Below w.heap.size w wr
/-- what numeral answers -/
def NmAns (w : World) (l : List UInt8) (m : Nat) (e : Ending) (w' : World) : Prop := ∃ g, e = .returned (.slice (some ⟨g, 0, none⟩) m m) ∧ Row w' g 5 (cellsOf l) ∧ w.heap.size ≤ g ∧ Below w.heap.size w w'
set_option maxHeartbeats 2000000 in
set_option maxRecDepth 100000 in
theorem numeral_call (n m : Nat) (hn : n < 18446744073709551616) (hm : m ≤ 8) (w : World) :
    Calls Try.prog 90 #[.int .u64 (n : Int), .int .i64 (m : Int)] w (NmAns w (tailN n m) m) := by
  go_enter Try.func90, Try.ntmps90
  go_wp2_with (refine wpList_make rfl (.tmp 7) rfl m (by omega) rfl ?_; intro g w1 hr hg hb; have HR := Lib.hid hr; have HB := Lib.hid hb; have HG := Lib.hid hg; clear hr hg hb)
  go_loopw [0, 6] (fun s0 s6 wr => NmHead m n g w s0 s6 wr) (fun _ s6 _ => (intOf s6 + 1).toNat)
  case atStart => exact ⟨0, _, Nat.zero_le _, rfl, by simp, by simp, by simpa [nmK, tailN] using HR.out, HB.out⟩
  case round =>
    obtain ⟨k, j, hk, hj, rfl, rfl, hr, hb⟩ := hrel
    replace HR := Lib.hid hr
    replace HB := Lib.hid hb
    clear hr hb
    rcases Nat.lt_or_ge k m with hlt | hge
    · obtain ⟨i, him⟩ : ∃ i, m = i + 1 + k := ⟨m - 1 - k, by omega⟩
      have HIM := Lib.hid him
      obtain rfl : j = (i : Int) := by omega
      have hlm : (i : Int) < (m : Int) := by omega
      clear hj
      obtain ⟨z, hz⟩ : ∃ z, z = n / 256 ^ k := ⟨_, rfl⟩
      have hz1 : z ≤ n := by rw [hz]; exact Nat.div_le_self _ _
      have HZ := Lib.hid hz
      rw [← hz]
      obtain ⟨q, hq⟩ : ∃ q, q = z / 256 := ⟨_, rfl⟩
      obtain ⟨r, hr⟩ : ∃ r, r = z % 256 := ⟨_, rfl⟩
      have hr8 : r < 256 := by omega
      have hq8 : q ≤ n := by omega
      have hmod : (z : Int).tmod 256 = (r : Int) := by rw [Int.tmod_eq_emod_of_nonneg (by omega)]; omega
      have hdiv : (z : Int).tdiv 256 = (q : Int) := by rw [Int.tdiv_eq_ediv_of_nonneg (by omega)]; omega
      have hw8 : IntKind.u8.wrap (r : Int) = (r : Int) := by rw [IntKind.wrap_u8]; omega
      have hwq : IntKind.u64.wrap (q : Int) = (q : Int) := by rw [IntKind.wrap_u64]; omega
      have HQ := Lib.hid hq
      have HR8 := Lib.hid hr
      have hi0 : (0 : Int) ≤ (i : Int) := by omega
      obtain ⟨y, c0⟩ : ∃ y, wr.cell? ⟨g, i, none⟩ = some y := ⟨_, HR.out.cell (i := i) (cellsOf_get (by rw [nmK_len (by omega)]; omega))⟩
      have f0 := HR.out.free i
      clear hz hq hr hz1
      clear hn hr8 hq8 him hlt hk
      go_wp2_with fail
      have h9 := HIM.out
      exact ⟨⟨k + 1, _, by omega, by push_cast; omega, by rw [Nat.pow_succ, ← Nat.div_div_eq_div_mul, ← HZ.out, HQ.out], rfl, HR.out.set i _ (by have h8 := nmK_set (i := i) (n := n) (k := k) (r : Int) (by rw [← HZ.out, HR8.out]); rwa [← h9] at h8), HB.out.setCell HG.out _⟩, by simp [intOf]⟩
    · obtain rfl : k = m := by omega
      obtain rfl : j = -1 := by omega
      go_wp2_with fail
      go_ret
      exact ⟨g, rfl, by have := HR.out; unfold nmK at this; rwa [Nat.sub_self, List.replicate_zero, List.nil_append] at this, HG.out, HB.out⟩
end Go.Proofs.Ytlaaolbdadempaa
