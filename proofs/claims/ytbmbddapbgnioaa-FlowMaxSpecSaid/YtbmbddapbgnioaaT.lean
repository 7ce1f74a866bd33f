/- Flow is pushed till nothing more gets through. -/
import Derived.Test.YtbmbddapbgnioaaS
import Derived.Laws.OwnMore
import Derived.Deep.DeepCutAuto
import Derived.Laws.EntriesVeiled
namespace Go.Proofs.Ytbmbddapbgnioaa
open Go.RowKit Go.Shelf

theorem Try.infoI : (Try.prog.info? 3).map (fun i => (i.zero, i.size, i.bytes)) = some (some (.int .i64 0), 1, 8) := by kernel_rfl
theorem info_parts {α : Type} {f : TypeInfo → α} {o : Option TypeInfo} {a : α} (h : o.map f = some a) : ∃ i, o = some i ∧ f i = a := by
  cases o with
  | none => cases h
  | some i => exact ⟨i, rfl, by simpa using h⟩
theorem made_ints (n : Nat) : madeCells (Value.int .i64 0).cells (n * 1) = (nums (List.replicate n 0)).toArray := by
  apply Array.ext'
  rw [Nat.mul_one, show (Value.int .i64 0).cells = #[Value.int .i64 0] from rfl, toList_madeCells_one]
  simp [nums]
theorem wpList_make {ops : Array Oper} {rest : List Oper} {o : Oper} {a : Act} {w : World} {Q : Exit → Act → World → Prop} (hgd : o.guard = none) (x : Operand) (ho : o.op = .makeSlice 25 x x) (n : Nat) (hn : n ≤ 1000000) (hx : a.eval x = .int .i64 (n : Int))
    (h : ∀ g w', g = w.heap.size → Row w' g 3 (nums (List.replicate n 0)) → w'.heap.size = w.heap.size + 1 → Below w.heap.size w w' → wpList Try.prog ops Q rest (a.put o.dst (.slice (some ⟨g, 0, none⟩) n n)) w') : wpList Try.prog ops Q (o :: rest) a w :=
  wpList_plain hgd fun _ hK => by
    obtain ⟨i0, hi, hz⟩ := info_parts Try.infoI
    simp only [Prod.mk.injEq] at hz
    obtain ⟨hz0, hz1, hz2⟩ := hz
    have hr := run_makeSlice (P := Try.prog) w 25 3 i0 (.int .i64 0) Try.underlying25 hi hz0 .i64 .i64 (n : Int) (n : Int) (by omega) (by omega) (by rw [hz1, Int.toNat_natCast]; omega) (by rw [hz2]; omega) (by omega)
    rw [hz1, Int.toNat_natCast, made_ints] at hr
    have h1 := hK _ _ (h _ _ rfl (row_new w 3 _) (by simp) (Joins.below_alloc1 w _))
    unfold Oper.wp execOp
    have e : (nums (List.replicate n 0)).toArray = Array.replicate n (Value.int .i64 0) := by simp [nums]
    rw [e] at h1 hr
    simp [ho, hx, hr, Sem.run_bind]
    exact h1
/-- the network and its memory, as fill finds them -/
structure Net (w : World) (g K N s t : Nat) (A : List Ar) (va : Value) (sb : Nat → Option Addr) (sc : Nat → Nat) (X : List Int) : Prop where
  gm : GM w g N s t A va sb sc (lft A X)
  sm : SM w K g A sb sc
  gK : g < K
  Kw : K ≤ w.heap.size
  inn : Inn N A
  few : A.length ≤ 512
  caps : ∀ a, a ∈ A → 0 ≤ a.2.2 ∧ a.2.2 ≤ 1073741824
  N64 : N ≤ 64
  sN : s < N
  tN : t < N
  st : s ≠ t
theorem Net.keep {w w' : World} {g K N s t : Nat} {A : List Ar} {va : Value} {sb : Nat → Option Addr} {sc : Nat → Nat} {X : List Int} (h : Net w g K N s t A va sb sc X) (hb : Below w.heap.size w w') : Net w' g K N s t A va sb sc X :=
  { h with gm := h.gm.keep hb, sm := h.sm.keep (fun b hk _ => hb.block b (by have := h.Kw; omega)), Kw := Nat.le_trans h.Kw hb.size }
set_option maxRecDepth 100000 in
set_option maxHeartbeats 4000000 in
theorem fill_call {g K N s t l : Nat} {A : List Ar} {va : Value} {sb : Nat → Option Addr} {sc : Nat → Nat} {X L : List Int} (w : World) (h : Net w g K N s t A va sb sc X) (hl : Row w l 3 (nums L)) (hKl : K ≤ l) (hL : Lv N s t A X L) (hok : okF A X) :
    Calls Try.prog 34 #[.pointer (some ⟨g, 0, none⟩), .slice (some ⟨l, 0, none⟩) N N] w fun e w' => (∃ r, e = .returned r) ∧ ∃ p X' L' F', PP N t A X L (List.replicate N 0) s 549755813888 p X' L' F' ∧ Net w' g K N s t A va sb sc X' ∧ Kp2 (fun b => b ≠ g ∧ b ≠ l) w w' := by
  have HH := Lib.hid h
  have HL := Lib.hid hL
  have HROW := Lib.hid hl
  have HOK := Lib.hid hok
  have HKL := Lib.hid hKl
  have c0 := h.gm.n
  have c1 := h.gm.s
  have l1 := h.gm.lt
  have l2 := hl.lt
  have hN64 := h.N64
  obtain ⟨W1, hW1⟩ : ∃ W1, W1 = (w.alloc (.cells #[.pointer (some ⟨g, 0, none⟩)] 56)).alloc (.cells #[.slice (some ⟨l, 0, none⟩) N N] 25) := ⟨_, rfl⟩
  have hB : Below w.heap.size w W1 := by rw [hW1]; exact below_next (Joins.below_alloc1 w _) (Joins.below_alloc1 _ _)
  have hS : W1.heap.size = w.heap.size + 2 := by rw [hW1]; simp
  have r0 : Row W1 w.heap.size 56 [.pointer (some ⟨g, 0, none⟩)] := by rw [hW1]; exact (row_new w 56 _).keep (Joins.below_alloc1 _ _)
  have r1 : Row W1 (w.heap.size + 1) 25 [.slice (some ⟨l, 0, none⟩) N N] := by
    have := row_new (w.alloc (.cells #[.pointer (some ⟨g, 0, none⟩)] 56)) 25 [.slice (some ⟨l, 0, none⟩) N N]
    rw [hW1]; rwa [World.size_alloc] at this
  have HW := Lib.hid hW1
  have HB := Lib.hid hB
  have HS := Lib.hid hS
  have HR := Lib.hid (And.intro r0 r1)
  have d0 := r0.cell (i := 0) rfl
  have d1 := (hB.cell (p := ⟨g, 0, none⟩) l1).trans c0
  have HC := Lib.hid (And.intro l1 l2)
  clear h hL hl hok hKl c0 c1 l1 l2 hW1 hB hS r0 r1
  go_enter Try.func34, Try.ntmps34
  go_upto_region 1 with (fail)
  rw [← HW.out]
  go_upto_region 4 with (first | (refine wpList_make rfl (.tmp 10) rfl N (by omega) rfl ?_; intro f W2 hf hrow hsz hb; have HF := Lib.hid (And.intro hf (And.intro hrow (And.intro hsz hb))); clear hf hrow hsz hb) | fail)
  obtain ⟨rfl, hrow, hsz, hb⟩ := HF.out
  rw [HS.out] at hrow
  have hn2 : W2.heap.size = w.heap.size + 3 := by have := HS.out; omega
  obtain ⟨W3, hW3⟩ : ∃ W3, W3 = W2.alloc (.cells #[.slice (some ⟨w.heap.size + 2, 0, none⟩) N N] 25) := ⟨_, rfl⟩
  obtain ⟨pv, hpv⟩ : ∃ pv, pv = Value.func (.func 41) #[] #[.pointer (some ⟨w.heap.size, 0, none⟩), .pointer (some ⟨w.heap.size + 3, 0, none⟩), .pointer (some ⟨w.heap.size + 1, 0, none⟩), .pointer (some ⟨w.heap.size + 3 + 1, 0, none⟩)] := ⟨_, rfl⟩
  obtain ⟨W4, hW4⟩ : ∃ W4, W4 = W3.alloc (.cells #[pv] 76) := ⟨_, rfl⟩
  have hb3 : Below W2.heap.size W2 W3 := by rw [hW3]; exact Joins.below_alloc1 W2 _
  have hb4 : Below W3.heap.size W3 W4 := by rw [hW4]; exact Joins.below_alloc1 W3 _
  have hs3 : W3.heap.size = w.heap.size + 3 + 1 := by rw [hW3, World.size_alloc, hn2]
  have hs4 : W4.heap.size = w.heap.size + 5 := by rw [hW4, World.size_alloc, hs3]
  have q3 : Row W3 (w.heap.size + 3) 25 [.slice (some ⟨w.heap.size + 2, 0, none⟩) N N] := by rw [← hn2, hW3]; exact row_new W2 25 _
  have q4 : Row W4 (w.heap.size + 3 + 1) 76 [pv] := by rw [← hs3, hW4]; exact row_new W3 76 _
  have hb24 := below_next hb3 hb4
  have hb14 := below_next hb hb24
  have hb04 := below_next HB.out hb14
  have HN4 := Lib.hid (HH.out.keep hb04)
  have hKl := HKL.out
  have hlw := HC.out.2
  have hcok : Ctx.Ok { g := g, f := w.heap.size + 2, l := l, Br := w.heap.size, Bf := w.heap.size + 3, Bl := w.heap.size + 1, Bp := w.heap.size + 3 + 1, K := K, N := N, s := s, t := t, A := A, va := va, sb := sb, sc := sc } := by
    have h9 := HH.out
    exact ⟨h9.gK, hKl, hlw, by simp, by simp, by simp, by simp, h9.inn, h9.few, h9.caps, h9.N64, h9.sN, h9.tN, h9.st⟩
  have hpm : PM { g := g, f := w.heap.size + 2, l := l, Br := w.heap.size, Bf := w.heap.size + 3, Bl := w.heap.size + 1, Bp := w.heap.size + 3 + 1, K := K, N := N, s := s, t := t, A := A, va := va, sb := sb, sc := sc } W4.drew X L (List.replicate N 0) := by
    have hd : Below W4.heap.size W4 W4.drew := (Below.refl _ _).drew
    refine ⟨(HN4.out.keep hd).gm, (HN4.out.keep hd).sm, ((HROW.out.keep hb04).keep hd), (hrow.keep hb24).keep hd, (HR.out.1.keep hb14).keep hd, (q3.keep hb4).keep hd, (HR.out.2.keep hb14).keep hd, ?_⟩
    rw [hpv] at q4
    exact q4.keep hd
  have hpi : PI N A X L (List.replicate N 0) := ⟨HOK.out, HL.out.len, by simp, HL.out.rng, fun u hu => by
    rw [List.getD_eq_getElem?_getD, List.getElem?_replicate, if_pos hu]; simp⟩
  have hcall := push_call _ hcok 64 s 549755813888 X L (List.replicate N 0) W4.drew HH.out.sN (by omega) (by omega) (by rw [HL.out.src]; omega) (by rw [HL.out.src]; omega) hpi hpm
  have HCALL : Hid (Calls Try.prog 41 #[.int .i64 (s : Int), .int .i64 549755813888, .pointer (some ⟨w.heap.size, 0, none⟩), .pointer (some ⟨w.heap.size + 3, 0, none⟩), .pointer (some ⟨w.heap.size + 1, 0, none⟩), .pointer (some ⟨w.heap.size + 3 + 1, 0, none⟩)] W4.drew fun e w' => ∃ p X' L' F', e = .returned (.int .i64 p) ∧ Net w' g K N s t A va sb sc X' ∧ PP N t A X L (List.replicate N 0) s 549755813888 p X' L' F' ∧ Kp2 (fun b => b ≠ g ∧ b ≠ w.heap.size + 2 ∧ b ≠ l) W4.drew w') := Lib.hid (hcall.mono fun e w' hp => by
    obtain ⟨p, X', L', F', h1, h2, h3, h4⟩ := hp
    have h9 := HN4.out
    exact ⟨p, X', L', F', h1, ⟨h2.gm, h2.sm, h9.gK, Nat.le_trans h9.Kw h4.1, h9.inn, h9.few, h9.caps, h9.N64, h9.sN, h9.tN, h9.st⟩, h3, h4⟩)
  have HB04 := Lib.hid hb04
  have d4 := q4.cell (i := 0) rfl
  have d5 := (HR.out.1.keep hb14).cell (i := 0) rfl
  have d6 := HN4.out.gm.s
  rw [hn2, HS.out, ← hpv, ← hW3, ← hW4]
  rw [hpv] at d4
  have HPV := Lib.hid hpv
  clear hrow hsz hb hn2 hW3 hpv hW4 hb3 hb4 hs3 hs4 q3 q4 hb24 hb14 hb04 hcok hpm hpi hcall d0 d1 hKl hlw HF
  go_still_tail 6, (by kernel_rfl)
  go_wp2_with (go_at_call 41; refine HCALL.out.mono ?_; rintro e w5 ⟨p, X', L', F', rfl, h1, h2, h3⟩; have HE := Lib.hid (And.intro h1 (And.intro h2 h3)); clear h1 h2 h3)
  go_end0
  have h4 := HE.out.2.2
  have hb := HB04.out
  exact ⟨⟨_, rfl⟩, p, X', L', F', HE.out.2.1, HE.out.1, ⟨Nat.le_trans hb.size h4.1, fun b hn hl => (h4.2 b ⟨hn.1, by omega, hn.2⟩ (by have := hb.size; show b < W4.heap.size; omega)).trans (hb.block b hl), h4.os.trans hb.os, h4.tape.trans hb.tape, h4.output.trans hb.output⟩⟩
end Go.Proofs.Ytbmbddapbgnioaa
