/- What a flow leaves of a network, laid: wholeRest. -/
import Derived.Test.YtbmbddapbgnioaaW0
import Derived.Laws.Tables
namespace Go.Proofs.Ytbmbddapbgnioaa
open Go.RowKit Go.Shelf

def netV (N s t : Int) (va : Value) : Value := .agg #[.int .i64 N, .int .i64 s, .int .i64 t, va]
def restC (N s t : Int) (va : Value) : List Value := .int .i64 N :: .int .i64 s :: .int .i64 t :: va :: (List.replicate 1024 (.int .i64 0) ++ List.replicate 64 (.slice none 0 0))
theorem built_rest (N s t : Int) (a : Option Addr) (n c : Nat) : Try.prog.built 70 [(0, netV N s t (.slice a n c))] = some (restC N s t (.slice a n c)).toArray := by kernel_rfl
theorem wpList_rest {ops : Array Oper} {rest : List Oper} {o : Oper} {a : Act} {w : World} {Q : Exit → Act → World → Prop} (hgd : o.guard = none) (x : Operand) (ho : o.op = .build 70 #[(0, x)]) {N s t : Int} {ad : Option Addr} {n c : Nat} (hx : a.eval x = netV N s t (.slice ad n c))
    (h : ∀ cs : Array Value, cs = (restC N s t (.slice ad n c)).toArray → wpList Try.prog ops Q rest (a.put o.dst (.agg cs)) w) : wpList Try.prog ops Q (o :: rest) a w :=
  wpList_plain hgd fun _ hK => by
    have hr := run_build (P := Try.prog) w 70 #[(0, netV N s t (.slice ad n c))] _ (built_rest N s t ad n c)
    have h1 := hK _ _ (h _ rfl)
    unfold Oper.wp execOp
    simp [ho, hx, hr, Sem.run_bind]
    exact h1
/-- what the arcs take, the first k of them laid -/
def lfk (A : List Ar) (k : Nat) (k' b : Nat) : Int := if k' < k ∧ b = 0 then (A.getD k' (0, 0, 0)).2.2 else 0
theorem RMem.congr {w W : World} {g N s t : Nat} {va : Value} {lf lf' : Nat → Nat → Int} {SV : Nat → Value} {SL SL' : Nat → List St} (h : RMem w g N s t va lf SV SL W) (he : ∀ k b, k < 512 → b < 2 → lf k b = lf' k b) (hs : ∀ v, v < 64 → SL v = SL' v) : RMem w g N s t va lf' SV SL' W :=
  { h with
    lf := fun k b hk hb => by rw [← he k b hk hb]; exact h.lf k b hk hb
    buf := fun v hv => by rw [← hs v hv]; exact h.buf v hv }
theorem lfk_next (A : List Ar) (k k' b' : Nat) (hb : b' < 2) : upd (lfk A k) k 0 (A.getD k (0, 0, 0)).2.2 k' b' = lfk A (k + 1) k' b' := by
  unfold upd lfk
  by_cases e : k' = k ∧ b' = 0
  · obtain ⟨rfl, rfl⟩ := e
    rw [if_pos ⟨rfl, rfl⟩, if_pos ⟨by omega, rfl⟩]
  · rw [if_neg e]
    by_cases e2 : k' < k ∧ b' = 0
    · rw [if_pos e2, if_pos ⟨by omega, e2.2⟩]
    · rw [if_neg e2, if_neg (by omega)]
set_option maxRecDepth 100000 in
theorem restC_cell {w : World} {g : Nat} {N s t : Int} {va : Value} {cs : Array Value} (hcs : cs = (restC N s t va).toArray) (h : w.heap[g]? = some (.cells cs 70 (0, 0))) :
    w.cell? ⟨g, 0, none⟩ = some (.int .i64 N) ∧ w.cell? ⟨g, 1, none⟩ = some (.int .i64 s) ∧ w.cell? ⟨g, 2, none⟩ = some (.int .i64 t) ∧ w.cell? ⟨g, 3, none⟩ = some va ∧ (∀ k b, k < 512 → b < 2 → w.cell? ⟨g, 4 + k * 2 + b, none⟩ = some (.int .i64 0)) ∧ (∀ v, v < 64 → w.cell? ⟨g, 1028 + v, none⟩ = some (.slice none 0 0)) ∧ ∀ o, w.frozen? ⟨g, o, none⟩ = false := by
  have hr : Row w g 70 (restC N s t va) := by unfold Row; rw [h, hcs]
  refine ⟨hr.cell (i := 0) rfl, hr.cell (i := 1) rfl, hr.cell (i := 2) rfl, hr.cell (i := 3) rfl, fun k b hk hb => hr.cell ?_, fun v hv => hr.cell ?_, fun o => hr.free o⟩
  · unfold restC
    rw [show 4 + k * 2 + b = (k * 2 + b) + 1 + 1 + 1 + 1 by omega]
    simp only [List.getElem?_cons_succ]
    rw [List.getElem?_append_left (by rw [List.length_replicate]; omega), List.getElem?_replicate, if_pos (by omega)]
  · unfold restC
    rw [show 1028 + v = (1024 + v) + 1 + 1 + 1 + 1 by omega]
    simp only [List.getElem?_cons_succ]
    rw [List.getElem?_append_right (by rw [List.length_replicate]; omega), List.length_replicate, List.getElem?_replicate, if_pos (by omega)]
theorem stK_next (A : List Ar) (k v f t : Nat) (h1 : (A.getD k (0, 0, 0)).1 = (f : Int)) (h2 : (A.getD k (0, 0, 0)).2.1 = (t : Int)) (hne : f ≠ t) :
    (if v = t then stK A k t ++ [((k, 1, f) : St)] else if v = f then stK A k f ++ [(k, 0, t)] else stK A k v) = stK A (k + 1) v := by
  rw [stK, stO, h1, h2, Int.toNat_natCast, Int.toNat_natCast]
  by_cases e : v = t
  · subst e
    rw [if_pos rfl, if_neg (by omega), if_pos rfl]; rfl
  · by_cases e2 : v = f
    · subst e2
      rw [if_neg e, if_pos rfl, if_pos rfl, if_neg (by omega)]; simp
    · rw [if_neg e, if_neg e2, if_neg (by omega), if_neg (by omega)]; simp
theorem rest_net {w w' : World} {N s t n : Nat} {A : List Ar} {va : Value} {SV : Nat → Value} (h : RMem w (w.heap.size + 1) N s t va (lfk A n) SV (stK A n) w') (hinn : Inn N A)
    (hst : A.length ≤ 512 ∧ (∀ a, a ∈ A → 0 ≤ a.2.2 ∧ a.2.2 ≤ 1073741824) ∧ N ≤ 64 ∧ s < N ∧ t < N ∧ s ≠ t ∧ ∀ a, a ∈ A → a.1 ≠ a.2.1) (hn : n = A.length) :
    ∃ g K sb sc, Ending.returned (.pointer (some ⟨w.heap.size + 1, 0, none⟩)) = .returned (.pointer (some ⟨g, 0, none⟩)) ∧ Net w' g K N s t A va sb sc (List.replicate n 0) ∧ Below w.heap.size w w' ∧ w.heap.size ≤ g := by
  subst hn
  have hx : ∀ v, ∃ p : Option Addr × Nat, v < 64 → SV v = .slice p.1 (stK A A.length v).length p.2 ∧ (stK A A.length v).length ≤ p.2 ∧ p.2 ≤ maxLen ∧ ∀ j e, (stK A A.length v)[j]? = some e → ∃ b, p.1 = some ⟨b, 0, none⟩ ∧ (SV v).ownBlock = some b ∧ w'.cell? ⟨b, j * 3, none⟩ = some (.int .i64 (e.1 : Int)) ∧ w'.cell? ⟨b, j * 3 + 1, none⟩ = some (.int .i64 (e.2.1 : Int)) ∧ w'.cell? ⟨b, j * 3 + 2, none⟩ = some (.int .i64 (e.2.2 : Int)) := fun v => by
    by_cases hv : v < 64
    · obtain ⟨a, c, h1⟩ := (h.buf v hv).shape
      exact ⟨(a, c), fun _ => h1⟩
    · exact ⟨(none, 0), fun h2 => absurd h2 hv⟩
  obtain ⟨f, hf⟩ := Classical.axiomOfChoice hx
  refine ⟨w.heap.size + 1, w'.heap.size, fun v => (f v).1, fun v => (f v).2, rfl, ⟨⟨h.n, h.s, h.t, h.a, fun k b hk hb => ?_, fun v hv => ?_, h.fr⟩, ⟨fun v hv => ⟨(hf v hv).2.1, (hf v hv).2.2.1⟩, fun v j e hv he => ?_⟩, h.lt, Nat.le_refl _, hinn, hst.1, hst.2.1, hst.2.2.1, hst.2.2.2.1, hst.2.2.2.2.1, hst.2.2.2.2.2.1⟩, h.bw, by omega⟩
  · rw [h.lf k b hk hb]
    congr 2
    unfold lfk lft
    have hrep : (List.replicate A.length (0 : Int)).getD k 0 = 0 := by
      rw [List.getD_eq_getElem?_getD, List.getElem?_replicate]; split <;> rfl
    rw [hrep]
    by_cases hb0 : b = 0
    · subst hb0
      by_cases hk2 : k < A.length
      · rw [if_pos ⟨hk2, rfl⟩, if_pos rfl]; omega
      · rw [if_neg (by omega), if_pos rfl, List.getD_eq_getElem?_getD, List.getElem?_eq_none (by omega)]; simp
    · rw [if_neg (by omega), if_neg hb0]
  · rw [h.st v hv, (hf v hv).1]; rfl
  · obtain ⟨b, h1, h2, h3, h4, h5⟩ := (hf v hv).2.2.2 j e he
    exact ⟨b, h1, owns_lt (h.buf v hv) b h2, by have := h.own v hv b h2; omega, h3, h4, h5⟩
theorem cut3 {α β γ : Type} {F G : α → β → γ → Prop} {R : Prop} (rest : (∀ a b c, F a b c → G a b c) → R) (kk : ∀ a b c, F a b c → G a b c) : R := rest kk
theorem getD_mem {A : List Ar} {k : Nat} (h : k < A.length) : A.getD k (0, 0, 0) ∈ A := by
  rw [List.getD_eq_getElem?_getD, List.getElem?_eq_getElem h]; exact List.getElem_mem h
def SameB (bx : Nat) (w W : World) : Prop := W.heap[bx]? = w.heap[bx]?
theorem same_alloc {bx : Nat} {w : World} (h : bx < w.heap.size) (o : Obj) : SameB bx w (w.alloc o).drew := Below.heap_alloc _ _ _ h
set_option maxRecDepth 100000 in
set_option maxHeartbeats 40000000 in
theorem whole_call (N s t : Nat) (A : List Ar) (va : Value) (w : World) (hA : ARest w.heap.size w A va) (hinn : Inn N A) (hfew : A.length ≤ 512) (hcaps : ∀ a, a ∈ A → 0 ≤ a.2.2 ∧ a.2.2 ≤ 1073741824) (hN64 : N ≤ 64) (hsN : s < N) (htN : t < N) (hst : s ≠ t) (hloops : ∀ a, a ∈ A → a.1 ≠ a.2.1) :
    Calls Try.prog 32 #[netV N s t va] w fun e w' => ∃ g K sb sc, e = .returned (.pointer (some ⟨g, 0, none⟩)) ∧ Net w' g K N s t A va sb sc (List.replicate A.length 0) ∧ Below w.heap.size w w' ∧ w.heap.size ≤ g := by
  obtain ⟨a, c, rfl, -⟩ := id hA
  have HA := Lib.hid hA
  have HIN := Lib.hid hinn
  have HST := Lib.hid (And.intro hfew (And.intro hcaps (And.intro hN64 (And.intro hsN (And.intro htN (And.intro hst hloops))))))
  obtain ⟨-, hac, ham, hat⟩ := arcs_at hA
  have HAT := Lib.hid hat
  obtain ⟨n, hn⟩ : ∃ n, n = A.length := ⟨_, rfl⟩
  rw [← hn] at hac HAT ⊢
  have HNL := Lib.hid hn
  have hnn : n ≤ 512 := by omega
  clear hA hinn hfew hcaps hN64 hsN htN hst hloops hat hn
  unfold netV
  have hB : Below w.heap.size w (w.alloc (.cells #[.int .i64 (N : Int), .int .i64 (s : Int), .int .i64 (t : Int), .slice a n c] 24)) := Joins.below_alloc1 w _
  have q0 : Row (w.alloc (.cells #[.int .i64 (N : Int), .int .i64 (s : Int), .int .i64 (t : Int), .slice a n c] 24)) w.heap.size 24 [.int .i64 (N : Int), .int .i64 (s : Int), .int .i64 (t : Int), .slice a n c] := row_new w 24 _
  have hs0 : (w.alloc (.cells #[.int .i64 (N : Int), .int .i64 (s : Int), .int .i64 (t : Int), .slice a n c] 24)).heap.size = w.heap.size + 1 := World.size_alloc ..
  obtain ⟨W1, hW1⟩ : ∃ W1, W1 = w.alloc (.cells #[.int .i64 (N : Int), .int .i64 (s : Int), .int .i64 (t : Int), .slice a n c] 24) := ⟨_, rfl⟩
  rw [← hW1] at hB q0 hs0
  have HW1 := Lib.hid hW1
  have HB := Lib.hid hB
  have HQ0 := Lib.hid q0
  have HS0 := Lib.hid hs0
  clear hW1 hB q0 hs0
  go_enter Try.func32, Try.ntmps32
  go_upto_region 2 with (first | (refine wpList_rest rfl (.tmp 6) rfl (N := N) (s := s) (t := t) (ad := a) (n := n) (c := c) rfl ?_; intro cs hcs; have HCS := Lib.hid hcs; clear hcs) | fail)
  rw [← HW1.out]
  have hb2 : Below W1.heap.size W1 (W1.alloc (.cells cs 70)) := Joins.below_alloc1 W1 _
  have hg2 : (W1.alloc (.cells cs 70)).heap[w.heap.size + 1]? = some (.cells cs 70 (0, 0)) := by rw [← HS0.out]; exact heap_alloc_new W1 _
  obtain ⟨m1, m2, m3, m4, m5, m6, m7⟩ := restC_cell HCS.out hg2
  have HRM : Hid (RMem w (w.heap.size + 1) N s t (.slice a n c) (lfk A 0) (fun _ => .slice none 0 0) (stK A 0) (W1.alloc (.cells cs 70))) := Lib.hid ⟨m1, m2, m3, m4, fun k b hk hb => by rw [m5 k b hk hb]; unfold lfk; rw [if_neg (by omega)], m6, m7, fun v _ => sbuf_nil _, fun v _ b hb => (by cases hb), fun v v' _ _ _ b hb => (by cases hb), below_next HB.out hb2, by omega⟩
  have HQ2 := Lib.hid (HQ0.out.keep hb2)
  have d0 := HQ2.out.cell (i := 3) rfl
  clear hb2 hg2 m1 m2 m3 m4 m5 m6 m7 HCS HQ0 HB
  generalize W1.alloc (.cells cs 70) = W2 at *
  go_wp2_with fail
  go_loopw [12] (fun s12 wr => ∃ (k : Nat) (SV : Nat → Value), k ≤ n ∧ s12 = .int .i64 (k : Int) ∧ RMem w (w.heap.size + 1) N s t (.slice a n c) (lfk A k) SV (stK A k) wr) (fun s12 _ => n - (intOf s12).toNat)
  case atStart => exact ⟨0, _, by omega, rfl, HRM.out⟩
  case round =>
    obtain ⟨k, SV, hk, rfl, hR⟩ := hrel
    have HR := Lib.hid hR
    have HK := Lib.hid hk
    clear hR hk HRM
    by_cases hlt : k < n
    · have hki : (k : Int) < (n : Int) := by omega
      obtain ⟨hI, ba, off, hae, hba, e1, e2, e3⟩ := HAT.out k (by have := HNL.out; omega)
      subst hae
      have hrA := inn_get HIN.out (show k < A.length by have := HNL.out; omega)
      have hlp : (A.getD k (0, 0, 0)).1 ≠ (A.getD k (0, 0, 0)).2.1 := HST.out.2.2.2.2.2.2 _ (getD_mem (show k < A.length by have := HNL.out; omega))
      obtain ⟨fN, hfN⟩ : ∃ x : Nat, (A.getD k (0, 0, 0)).1 = (x : Int) := ⟨(A.getD k (0, 0, 0)).1.toNat, by omega⟩
      obtain ⟨tN', htN'⟩ : ∃ x : Nat, (A.getD k (0, 0, 0)).2.1 = (x : Int) := ⟨(A.getD k (0, 0, 0)).2.1.toNat, by omega⟩
      obtain ⟨cp, hcp⟩ : ∃ x, x = (A.getD k (0, 0, 0)).2.2 := ⟨_, rfl⟩
      rw [hfN] at e1 hrA hlp
      rw [htN'] at e2 hrA hlp
      rw [← hcp] at e3
      have hN64 := HST.out.2.2.1
      have HFT : Hid (fN < 64 ∧ tN' < 64 ∧ fN ≠ tN' ∧ k < 512) := Lib.hid (by omega)
      have HAE : Hid ((A.getD k (0, 0, 0)).1 = (fN : Int) ∧ (A.getD k (0, 0, 0)).2.1 = (tN' : Int) ∧ (A.getD k (0, 0, 0)).2.2 = cp) := Lib.hid ⟨hfN, htN', hcp.symm⟩
      have HLT := Lib.hid hlt
      have c1 := (HR.out.bw.cell (p := ⟨ba, off + k * 3, none⟩) hba).trans e1
      have c2 := (HR.out.bw.cell (p := ⟨ba, off + k * 3 + 1, none⟩) hba).trans e2
      have c3 := (HR.out.bw.cell (p := ⟨ba, off + k * 3 + 2, none⟩) hba).trans e3
      have hb4 : Below wr.heap.size wr (wr.alloc (.cells #[.int .i64 (fN : Int), .int .i64 (tN' : Int), .int .i64 cp] 43)) := Joins.below_alloc1 wr _
      have q4 : Row (wr.alloc (.cells #[.int .i64 (fN : Int), .int .i64 (tN' : Int), .int .i64 cp] 43)) wr.heap.size 43 [.int .i64 (fN : Int), .int .i64 (tN' : Int), .int .i64 cp] := row_new wr 43 _
      obtain ⟨w4, hw4⟩ : ∃ w4, w4 = wr.alloc (.cells #[.int .i64 (fN : Int), .int .i64 (tN' : Int), .int .i64 cp] 43) := ⟨_, rfl⟩
      rw [← hw4] at hb4 q4
      have HR4 := Lib.hid (HR.out.keep hb4)
      have HQ4 := Lib.hid q4
      have HW4 := Lib.hid hw4
      have HNX : Hid (∀ v, v < 64 → ∀ b, (SV v).ownBlock = some b → b < wr.heap.size) := Lib.hid (fun v hv b hb => owns_lt (HR.out.buf v hv) b hb)
      have HGX : Hid (w.heap.size + 1 < wr.heap.size) := Lib.hid HR.out.lt
      obtain ⟨bx, hbx⟩ : ∃ bx, bx = wr.heap.size := ⟨_, rfl⟩
      clear hI hba e1 e2 e3 hrA hlp hfN htN' hN64 hb4 q4 hw4 HR hlt hcp
      go_upto_region 5 with (fail)
      rw [← HW4.out, ← hbx]
      rw [← hbx] at HQ4 HGX HNX
      clear hbx c1 c2 c3
      have c1 := HQ4.out.cell (i := 2) rfl
      have c4 : w4.cell? ⟨w.heap.size + 1, 4 + k * 2, none⟩ = some (.int .i64 (lfk A k k 0)) := HR4.out.lf k 0 HFT.out.2.2.2 (by omega)
      have c5 : w4.frozen? ⟨w.heap.size + 1, 4 + k * 2, none⟩ = false := HR4.out.fr (4 + k * 2 + 0)
      have hk5 : (k : Int) < 512 := by have := HFT.out; omega
      go_still_tail 8, (by kernel_rfl)
      go_upto_region 6 with (fail)
      have HR5 : Hid (RMem w (w.heap.size + 1) N s t (.slice (some ⟨ba, off, none⟩) n c) (lfk A (k + 1)) SV (stK A k) (w4.setCell ⟨w.heap.size + 1, 4 + k * 2, none⟩ (.int .i64 cp)).drew) := Lib.hid (((HR4.out.left HFT.out.2.2.2 (b := 0) (by omega) cp).congr (fun k' b' _ hb' => by have h9 := lfk_next A k k' b' hb'; rw [HAE.out.2.2] at h9; exact h9) (fun _ _ => rfl)).keep (Below.refl _ _).drew)
      have HQ5 : Hid (Row (w4.setCell ⟨w.heap.size + 1, 4 + k * 2, none⟩ (.int .i64 cp)).drew bx 43 [.int .i64 (fN : Int), .int .i64 (tN' : Int), .int .i64 cp]) := Lib.hid ((HQ4.out.setFar _ _ (by have := HGX.out; omega)).keep (Below.refl _ _).drew)
      clear c1 c4 c5 HR4 HQ4 HW4
      generalize (w4.setCell ⟨w.heap.size + 1, 4 + k * 2, none⟩ (.int .i64 cp)).drew = w5 at *
      have HFB : Hid (∀ v, v < 64 → ∀ b, (SV v).ownBlock = some b → b = bx → False) := Lib.hid (fun v hv b hb e => by have := HNX.out v hv b hb; omega)
      obtain ⟨a6, c6, hv6, -⟩ := (HR5.out.buf fN HFT.out.1).shape
      have c1 := HR5.out.st fN HFT.out.1
      have c2 := HR5.out.fr (1028 + fN)
      rw [hv6] at c1
      have HV6 := Lib.hid hv6
      have HBUF6 : Hid (SBuf w5 (.slice a6 (stK A k fN).length c6) (stK A k fN)) := Lib.hid (by have h9 := HR5.out.buf fN HFT.out.1; rw [hv6] at h9; exact h9)
      have HLN6 : Hid ((stK A k fN).length ≤ 100000) := Lib.hid (by have := stK_len A fN k; have := HFT.out; omega)
      have HLT5 : Hid (bx < w5.heap.size ∧ w.heap.size + 1 < w5.heap.size) := Lib.hid ⟨HQ5.out.lt, HR5.out.lt⟩
      obtain ⟨ln6, hln6⟩ : ∃ x, x = (stK A k fN).length := ⟨_, rfl⟩
      rw [← hln6] at c1 HBUF6 HV6
      clear hv6 hln6
      have hbxl := HLT5.out.1
      have hgl := HLT5.out.2
      have c1' : ∀ o, ((w5.alloc o).drew).cell? ⟨w.heap.size + 1, 1028 + fN, none⟩ = some (.slice a6 ln6 c6) := fun o => ((Joins.below_alloc1 w5 o).cell (p := ⟨w.heap.size + 1, 1028 + fN, none⟩) hgl).trans c1
      have q0 : ∀ W, SameB bx w5 W → W.cell? ⟨bx, 0, none⟩ = some (.int .i64 (fN : Int)) := fun W h => (cell_same h).trans (HQ5.out.cell (i := 0) rfl)
      have q1 : ∀ W, SameB bx w5 W → W.cell? ⟨bx, 1, none⟩ = some (.int .i64 (tN' : Int)) := fun W h => (cell_same h).trans (HQ5.out.cell (i := 1) rfl)
      have hf64 : (fN : Int) < 64 := by have := HFT.out; omega
      have HFAR6 : Hid (∀ b, (Value.slice a6 ln6 c6).ownBlock = some b → b = bx → False) := Lib.hid (fun b hb e => HFB.out fN HFT.out.1 b (by rw [HV6.out]; exact hb) e)
      have HG1 : Hid (∀ v7 w7, SBuf w7 v7 (stK A k fN ++ [(k, 0, tN')]) → Wrote (w5.alloc (.cells #[.int .i64 (k : Int), .int .i64 0, .int .i64 (tN' : Int)] 72)).drew w7 (.slice a6 ln6 c6) v7 → w7.cell? ⟨w.heap.size + 1, 1028 + fN, none⟩ = some (.slice a6 ln6 c6)) := Lib.hid (fun v7 w7 h1 h2 => h2.cell (p := ⟨w.heap.size + 1, 1028 + fN, none⟩) (c1' _) (fun e => by have h9 := HR5.out.own fN HFT.out.1 (w.heap.size + 1) (by rw [HV6.out]; exact e.symm); omega))
      have HG2 : Hid (∀ v7 w7, SBuf w7 v7 (stK A k fN ++ [(k, 0, tN')]) → Wrote (w5.alloc (.cells #[.int .i64 (k : Int), .int .i64 0, .int .i64 (tN' : Int)] 72)).drew w7 (.slice a6 ln6 c6) v7 → w7.frozen? ⟨w.heap.size + 1, 1028 + fN, none⟩ = false) := Lib.hid (fun v7 w7 h1 h2 => (frozen_same ((h2.grown.block (w.heap.size + 1) (by show _ < (w5.alloc _).heap.size; rw [World.size_alloc]; omega) (fun e => by have h9 := HR5.out.own fN HFT.out.1 (w.heap.size + 1) (by rw [HV6.out]; exact e.symm); omega)).trans (Below.heap_alloc _ _ _ hgl))).trans c2)
      obtain ⟨nn6, hnn6⟩ : ∃ x, (stK A k fN ++ [((k, 0, tN') : St)]).length = x := ⟨_, rfl⟩
      have HNN6 := Lib.hid hnn6
      clear hnn6
      refine' cut3 (F := fun (a7 : Option Addr) (c7 : Nat) (w7 : World) => SBuf w7 (.slice a7 nn6 c7) (stK A k fN ++ [(k, 0, tN')]) ∧ Wrote (w5.alloc (.cells #[.int .i64 (k : Int), .int .i64 0, .int .i64 (tN' : Int)] 72)).drew w7 (.slice a6 ln6 c6) (.slice a7 nn6 c7)) ?rest6 ?kk6
      case rest6 =>
        intro K7
        go_wp2_with fail
        refine wp_region_held (S := fun W => SameB bx w5 W) (by kernel_rfl) ?_
        have HS0 : Hid (SameB bx w5 w5.drew) := Lib.hid rfl
        change wpAnyH _ _ _ _ _ _ _ _ (World.drew _)
        refine wpAnyH_take (i := 0) (v := ?_) rfl (by kernel_rfl) (by kernel_rfl) (by kernel_rfl) (fun _ _ _ h => h) (Or.inl ⟨by rfl, ?_⟩) HS0.out ?_
        rotate_left
        · (intro w hSw; (try dsimp only at hSw); go_simp; first | done | with_reducible rfl)
        try simp only [Act.put, List.setIfInBounds_toArray, List.set_cons_zero, List.set_cons_succ]
        refine wpAnyH_take (i := 1) (v := ?_) rfl (by kernel_rfl) (by kernel_rfl) (by kernel_rfl) (fun _ _ _ h => h) (Or.inl ⟨by rfl, ?_⟩) HS0.out ?_
        rotate_left
        · (intro w hSw; (try dsimp only at hSw); go_simp; first | done | with_reducible rfl)
        try simp only [Act.put, List.setIfInBounds_toArray, List.set_cons_zero, List.set_cons_succ]
        refine wpAnyH_take (i := 2) (v := ?_) rfl (by kernel_rfl) (by kernel_rfl) (by kernel_rfl) (fun _ _ _ h => h) (Or.inl ⟨by rfl, ?_⟩) HS0.out ?_
        rotate_left
        · (intro w hSw; (try dsimp only at hSw); go_simp; first | done | with_reducible rfl)
        try simp only [Act.put, List.setIfInBounds_toArray, List.set_cons_zero, List.set_cons_succ]
        refine wpAnyH_take (i := 3) (v := ?_) rfl (by kernel_rfl) (by kernel_rfl) (by kernel_rfl) (fun _ _ _ h => h) (Or.inl ⟨by rfl, ?_⟩) HS0.out ?_
        rotate_left
        · (intro w hSw; (try dsimp only at hSw); go_simp; first | done | with_reducible rfl)
        try simp only [Act.put, List.setIfInBounds_toArray, List.set_cons_zero, List.set_cons_succ]
        refine wpAnyH_take (i := 4) (v := ?_) rfl (by kernel_rfl) (by kernel_rfl) (by kernel_rfl) (fun _ _ _ h => h) (Or.inl ⟨by rfl, ?_⟩) HS0.out ?_
        rotate_left
        · (intro w hSw; (try dsimp only at hSw); go_simp; first | done | with_reducible rfl)
        try simp only [Act.put, List.setIfInBounds_toArray, List.set_cons_zero, List.set_cons_succ]
        refine wpAnyH_take (i := 5) (v := ?_) rfl (by kernel_rfl) (by kernel_rfl) (by kernel_rfl) (fun _ _ _ h => h) (Or.inl ⟨by rfl, ?_⟩) HS0.out ?_
        rotate_left
        · (intro w hSw; (try dsimp only at hSw); go_simp; first | done | with_reducible rfl)
        try simp only [Act.put, List.setIfInBounds_toArray, List.set_cons_zero, List.set_cons_succ]
        refine wpAnyH_take (i := 6) (v := ?_) rfl (by kernel_rfl) (by kernel_rfl) (by kernel_rfl) (fun _ _ _ h => h) (Or.inl ⟨by rfl, ?_⟩) HS0.out ?_
        rotate_left
        · (intro w hSw; (try dsimp only at hSw); go_simp; first | done | with_reducible rfl)
        try simp only [Act.put, List.setIfInBounds_toArray, List.set_cons_zero, List.set_cons_succ]
        refine wpAnyH_take (i := 7) (v := ?_) rfl (by kernel_rfl) (by kernel_rfl) (by kernel_rfl) (fun _ _ _ h => h) (Or.inl ⟨by rfl, ?_⟩) HS0.out ?_
        rotate_left
        · (intro w hSw; (try dsimp only at hSw); go_simp; first | done | with_reducible rfl)
        try simp only [Act.put, List.setIfInBounds_toArray, List.set_cons_zero, List.set_cons_succ]
        refine wpAnyH_take (i := 8) (v := ?_) rfl (by kernel_rfl) (by kernel_rfl) (by kernel_rfl) (fun _ _ _ h => h) (Or.inl ⟨by rfl, ?_⟩) HS0.out ?_
        rotate_left
        · (intro w hSw; (try dsimp only at hSw); go_simp; first | done | with_reducible rfl)
        try simp only [Act.put, List.setIfInBounds_toArray, List.set_cons_zero, List.set_cons_succ]
        refine wpAnyH_take (i := 10) (v := ?_) rfl (by kernel_rfl) (by kernel_rfl) (by kernel_rfl) (fun _ _ _ h => h) (Or.inl ⟨by rfl, ?_⟩) HS0.out ?_
        rotate_left
        · (intro w hSw; (try dsimp only at hSw); go_simp; first | done | with_reducible rfl)
        try simp only [Act.put, List.setIfInBounds_toArray, List.set_cons_zero, List.set_cons_succ]
        refine wpAnyH_take (i := 11) (v := ?_) rfl (by kernel_rfl) (by kernel_rfl) (by kernel_rfl) (fun _ _ _ h => h) (Or.inl ⟨by rfl, ?_⟩) HS0.out ?_
        rotate_left
        · (intro w hSw; (try dsimp only at hSw); go_simp; first | done | with_reducible rfl)
        try simp only [Act.put, List.setIfInBounds_toArray, List.set_cons_zero, List.set_cons_succ]
        refine wpAnyH_take (i := 12) (v := ?_) rfl (by kernel_rfl) (by kernel_rfl) (by kernel_rfl) (fun _ _ _ h => h) (Or.inl ⟨by rfl, ?_⟩) HS0.out ?_
        rotate_left
        · (intro w hSw; (try dsimp only at hSw); go_simp; first | done | with_reducible rfl)
        try simp only [Act.put, List.setIfInBounds_toArray, List.set_cons_zero, List.set_cons_succ]
        refine wpAnyH_take (i := 13) (v := ?_) rfl (by kernel_rfl) (by kernel_rfl) (by kernel_rfl) (fun _ _ _ h => h) (Or.inl ⟨by rfl, ?_⟩) HS0.out ?_
        rotate_left
        · (intro w hSw; (try dsimp only at hSw); go_simp; first | done | with_reducible rfl)
        try simp only [Act.put, List.setIfInBounds_toArray, List.set_cons_zero, List.set_cons_succ]
        refine wpAnyH_take (i := 16) (v := ?_) rfl (by kernel_rfl) (by kernel_rfl) (by kernel_rfl) (fun _ _ _ h => h) (Or.inl ⟨by rfl, ?_⟩) HS0.out ?_
        rotate_left
        · (intro w hSw; (try dsimp only at hSw); go_simp; first | done | with_reducible rfl)
        try simp only [Act.put, List.setIfInBounds_toArray, List.set_cons_zero, List.set_cons_succ]
        refine wpAnyH_take (i := 17) (v := ?_) rfl (by kernel_rfl) (by kernel_rfl) (by kernel_rfl) (fun _ _ _ h => h) (Or.inl ⟨by rfl, ?_⟩) HS0.out ?_
        rotate_left
        · (intro w hSw; (try dsimp only at hSw); go_simp; first | done | with_reducible rfl)
        try simp only [Act.put, List.setIfInBounds_toArray, List.set_cons_zero, List.set_cons_succ]
        refine wpAnyH_ready (rs := [9, 14]) (by kernel_rfl) (by simp) ?_
        refine AllReadyH.cons rfl (fun K hK => ?_) ?_
        · rw [if_pos (by rfl)]
          go_simp
          refine hK.out _ _ HS0.out (fun _ => ?_)
          clear hK K
          try simp only [Act.put, List.setIfInBounds_toArray, List.set_cons_zero, List.set_cons_succ]
          refine wpAnyH_ready (rs := [14]) (by kernel_rfl) (by simp) ?_
          refine AllReadyH.cons rfl (fun K hK => ?_) ?_
          · rw [if_pos (by rfl)]
            go_simp
            have HSA := Lib.hid (same_alloc (bx := bx) (w := w5) hbxl (.cells #[.int .i64 (k : Int), .int .i64 0, .int .i64 (tN' : Int)] 72))
            refine hK.out _ _ HSA.out (fun _ => ?_)
            clear hK K
            try simp only [Act.put, List.setIfInBounds_toArray, List.set_cons_zero, List.set_cons_succ]
            refine wpAnyH_ready (rs := [15]) (by kernel_rfl) (by simp) ?_
            refine AllReadyH.cons rfl (fun K hK => ?_) ?_
            · refine step_st rfl (.tmp 34) (.tmp 39) rfl (.slice a6 ln6 c6) (stK A k fN) rfl (HBUF6.out.keep (Joins.below_alloc1 w5 _).drew) _ (k, 0, tN') rfl (row_new w5 72 _) HLN6.out ?_
              intro v7 w7 h1 h2
              have hS7 : SameB bx w5 w7 := (h2.grown.block bx (by show bx < (World.alloc _ _).heap.size; rw [World.size_alloc]; omega) (fun e => HFAR6.out bx e.symm rfl)).trans (Below.heap_alloc _ _ _ hbxl)
              have HS7 := Lib.hid hS7
              obtain ⟨az, cz, hv7, -⟩ := h1.shape
              rw [HNN6.out] at hv7
              subst hv7
              have HAP := Lib.hid (And.intro h1 h2)
              have g1 := HG1.out _ _ h1 h2
              have g2 := HG2.out _ _ h1 h2
              clear h1 h2 hS7
              refine hK.out _ _ HS7.out (fun _ => ?_)
              clear hK K
              try simp only [Act.put, List.setIfInBounds_toArray, List.set_cons_zero, List.set_cons_succ]
              refine wpAnyH_take (i := 18) (v := ?_) rfl (by kernel_rfl) (by kernel_rfl) (by kernel_rfl) (fun _ _ _ h => h) (Or.inl ⟨by rfl, ?_⟩) HS7.out ?_
              rotate_left
              · (intro w hSw; (try dsimp only at hSw); go_simp; first | done | with_reducible rfl)
              try simp only [Act.put, List.setIfInBounds_toArray, List.set_cons_zero, List.set_cons_succ]
              refine wpAnyH_ready (rs := [19]) (by kernel_rfl) (by simp) ?_
              refine AllReadyH.cons rfl (fun K hK => ?_) ?_
              · rw [if_pos (by rfl)]
                go_simp
                have HS8 : Hid (SameB bx w5 (w7.setCell ⟨w.heap.size + 1, 1028 + fN, none⟩ (.slice az nn6 cz))) := Lib.hid ((heap_setCell_other w7 ⟨w.heap.size + 1, _, none⟩ bx _ (by have := HGX.out; simp; omega)).trans HS7.out)
                refine hK.out _ _ HS8.out (fun _ => ?_)
                clear hK K
                try simp only [Act.put, List.setIfInBounds_toArray, List.set_cons_zero, List.set_cons_succ]
                refine wpAnyH_done (by kernel_rfl) ?_ _
                exact K7 _ _ _ HAP.out
              exact AllReadyH.nil
            exact AllReadyH.nil
          exact AllReadyH.nil
        refine AllReadyH.cons rfl (fun K hK => ?_) ?_
        · rw [if_pos (by rfl)]
          go_simp
          have HSA := Lib.hid (same_alloc (bx := bx) (w := w5) hbxl (.cells #[.int .i64 (k : Int), .int .i64 0, .int .i64 (tN' : Int)] 72))
          refine hK.out _ _ HSA.out (fun _ => ?_)
          clear hK K
          try simp only [Act.put, List.setIfInBounds_toArray, List.set_cons_zero, List.set_cons_succ]
          refine wpAnyH_ready (rs := [9]) (by kernel_rfl) (by simp) ?_
          refine AllReadyH.cons rfl (fun K hK => ?_) ?_
          · rw [if_pos (by rfl)]
            go_simp
            refine hK.out _ _ HSA.out (fun _ => ?_)
            clear hK K
            try simp only [Act.put, List.setIfInBounds_toArray, List.set_cons_zero, List.set_cons_succ]
            refine wpAnyH_ready (rs := [15]) (by kernel_rfl) (by simp) ?_
            refine AllReadyH.cons rfl (fun K hK => ?_) ?_
            · refine step_st rfl (.tmp 34) (.tmp 39) rfl (.slice a6 ln6 c6) (stK A k fN) rfl (HBUF6.out.keep (Joins.below_alloc1 w5 _).drew) _ (k, 0, tN') rfl (row_new w5 72 _) HLN6.out ?_
              intro v7 w7 h1 h2
              have hS7 : SameB bx w5 w7 := (h2.grown.block bx (by show bx < (World.alloc _ _).heap.size; rw [World.size_alloc]; omega) (fun e => HFAR6.out bx e.symm rfl)).trans (Below.heap_alloc _ _ _ hbxl)
              have HS7 := Lib.hid hS7
              obtain ⟨az, cz, hv7, -⟩ := h1.shape
              rw [HNN6.out] at hv7
              subst hv7
              have HAP := Lib.hid (And.intro h1 h2)
              have g1 := HG1.out _ _ h1 h2
              have g2 := HG2.out _ _ h1 h2
              clear h1 h2 hS7
              refine hK.out _ _ HS7.out (fun _ => ?_)
              clear hK K
              try simp only [Act.put, List.setIfInBounds_toArray, List.set_cons_zero, List.set_cons_succ]
              refine wpAnyH_take (i := 18) (v := ?_) rfl (by kernel_rfl) (by kernel_rfl) (by kernel_rfl) (fun _ _ _ h => h) (Or.inl ⟨by rfl, ?_⟩) HS7.out ?_
              rotate_left
              · (intro w hSw; (try dsimp only at hSw); go_simp; first | done | with_reducible rfl)
              try simp only [Act.put, List.setIfInBounds_toArray, List.set_cons_zero, List.set_cons_succ]
              refine wpAnyH_ready (rs := [19]) (by kernel_rfl) (by simp) ?_
              refine AllReadyH.cons rfl (fun K hK => ?_) ?_
              · rw [if_pos (by rfl)]
                go_simp
                have HS8 : Hid (SameB bx w5 (w7.setCell ⟨w.heap.size + 1, 1028 + fN, none⟩ (.slice az nn6 cz))) := Lib.hid ((heap_setCell_other w7 ⟨w.heap.size + 1, _, none⟩ bx _ (by have := HGX.out; simp; omega)).trans HS7.out)
                refine hK.out _ _ HS8.out (fun _ => ?_)
                clear hK K
                try simp only [Act.put, List.setIfInBounds_toArray, List.set_cons_zero, List.set_cons_succ]
                refine wpAnyH_done (by kernel_rfl) ?_ _
                exact K7 _ _ _ HAP.out
              exact AllReadyH.nil
            exact AllReadyH.nil
          exact AllReadyH.nil
        exact AllReadyH.nil
      case kk6 =>
        intro ax cx wx hap
        obtain ⟨hx1, hx2⟩ := hap
        have hr5 := HR5.out.keep (Joins.below_alloc1 w5 (.cells #[.int .i64 (k : Int), .int .i64 0, .int .i64 (tN' : Int)] 72)).drew
        rw [← HV6.out] at hx2
        have hr6 := hr5.app HFT.out.1 hx1 hx2
        have hs6 : SameB bx w5 (wx.setCell ⟨w.heap.size + 1, 1028 + fN, none⟩ (.slice ax nn6 cx)) := (heap_setCell_other wx ⟨w.heap.size + 1, _, none⟩ bx _ (by have := HGX.out; simp; omega)).trans ((hx2.grown.block bx (by show bx < (World.alloc _ _).heap.size; rw [World.size_alloc]; omega) (fun e => HFB.out fN HFT.out.1 bx e.symm rfl)).trans (Below.heap_alloc _ _ _ hbxl))
        obtain ⟨w6, hw6⟩ : ∃ w6, w6 = wx.setCell ⟨w.heap.size + 1, 1028 + fN, none⟩ (.slice ax nn6 cx) := ⟨_, rfl⟩
        rw [← hw6] at hr6 hs6 ⊢
        obtain ⟨SV6, hSV6⟩ : ∃ f, f = (fun v => if v = fN then Value.slice ax nn6 cx else SV v) := ⟨_, rfl⟩
        obtain ⟨SL6, hSL6⟩ : ∃ f, f = (fun v => if v = fN then stK A k fN ++ [((k, 0, tN') : St)] else stK A k v) := ⟨_, rfl⟩
        rw [← hSV6, ← hSL6] at hr6
        have HFB7 : Hid (∀ b, (SV6 tN').ownBlock = some b → b = bx → False) := Lib.hid (fun b hb e => by
          rw [hSV6] at hb
          simp only [if_neg (Ne.symm HFT.out.2.2.1)] at hb
          exact HFB.out tN' HFT.out.2.1 b hb e)
        have hst7 : SL6 tN' = stK A k tN' := by rw [hSL6]; simp only [if_neg (Ne.symm HFT.out.2.2.1)]
        have HQ6 : Hid (Row w6 bx 43 [.int .i64 (fN : Int), .int .i64 (tN' : Int), .int .i64 cp]) := Lib.hid (Eq.trans hs6 HQ5.out)
        have HR6 := Lib.hid hr6
        have HSL6 := Lib.hid hSL6
        have HST7 := Lib.hid hst7
        clear hx1 hx2 hr5 hr6 hs6 hw6 hSV6 hSL6 hst7 HG1 HG2 HNN6 HFAR6 HBUF6 HV6 HLN6 HQ5 HFB HR5 HLT5 c1 c1' c2 q0 q1 hbxl hgl
        obtain ⟨a7, c7, hv7, -⟩ := (HR6.out.buf tN' HFT.out.2.1).shape
        have c1 := HR6.out.st tN' HFT.out.2.1
        have c2 := HR6.out.fr (1028 + tN')
        rw [hv7] at c1
        have HV7 := Lib.hid hv7
        have HBUF7 : Hid (SBuf w6 (.slice a7 (SL6 tN').length c7) (SL6 tN')) := Lib.hid (by have h9 := HR6.out.buf tN' HFT.out.2.1; rw [hv7] at h9; exact h9)
        have HLN7 : Hid ((SL6 tN').length ≤ 100000) := Lib.hid (by rw [HST7.out]; have := stK_len A tN' k; have := HFT.out; omega)
        have HLT6 : Hid (bx < w6.heap.size ∧ w.heap.size + 1 < w6.heap.size) := Lib.hid ⟨HQ6.out.lt, HR6.out.lt⟩
        obtain ⟨ln7, hln7⟩ : ∃ x, x = (SL6 tN').length := ⟨_, rfl⟩
        rw [← hln7] at c1 HBUF7 HV7
        clear hv7 hln7
        have hbxl := HLT6.out.1
        have hgl := HLT6.out.2
        have c1' : ∀ o, ((w6.alloc o).drew).cell? ⟨w.heap.size + 1, 1028 + tN', none⟩ = some (.slice a7 ln7 c7) := fun o => ((Joins.below_alloc1 w6 o).cell (p := ⟨w.heap.size + 1, 1028 + tN', none⟩) hgl).trans c1
        have q0 : ∀ W, SameB bx w6 W → W.cell? ⟨bx, 0, none⟩ = some (.int .i64 (fN : Int)) := fun W h => (cell_same h).trans (HQ6.out.cell (i := 0) rfl)
        have q1 : ∀ W, SameB bx w6 W → W.cell? ⟨bx, 1, none⟩ = some (.int .i64 (tN' : Int)) := fun W h => (cell_same h).trans (HQ6.out.cell (i := 1) rfl)
        have ht64 : (tN' : Int) < 64 := by have := HFT.out; omega
        have HFAR7 : Hid (∀ b, (Value.slice a7 ln7 c7).ownBlock = some b → b = bx → False) := Lib.hid (fun b hb e => HFB7.out b (by rw [HV7.out]; exact hb) e)
        have HG1 : Hid (∀ v7 w7, SBuf w7 v7 (SL6 tN' ++ [(k, 1, fN)]) → Wrote (w6.alloc (.cells #[.int .i64 (k : Int), .int .i64 1, .int .i64 (fN : Int)] 72)).drew w7 (.slice a7 ln7 c7) v7 → w7.cell? ⟨w.heap.size + 1, 1028 + tN', none⟩ = some (.slice a7 ln7 c7)) := Lib.hid (fun v7 w7 h1 h2 => h2.cell (p := ⟨w.heap.size + 1, 1028 + tN', none⟩) (c1' _) (fun e => by have h9 := HR6.out.own tN' HFT.out.2.1 (w.heap.size + 1) (by rw [HV7.out]; exact e.symm); omega))
        have HG2 : Hid (∀ v7 w7, SBuf w7 v7 (SL6 tN' ++ [(k, 1, fN)]) → Wrote (w6.alloc (.cells #[.int .i64 (k : Int), .int .i64 1, .int .i64 (fN : Int)] 72)).drew w7 (.slice a7 ln7 c7) v7 → w7.frozen? ⟨w.heap.size + 1, 1028 + tN', none⟩ = false) := Lib.hid (fun v7 w7 h1 h2 => (frozen_same ((h2.grown.block (w.heap.size + 1) (by show _ < (w6.alloc _).heap.size; rw [World.size_alloc]; omega) (fun e => by have h9 := HR6.out.own tN' HFT.out.2.1 (w.heap.size + 1) (by rw [HV7.out]; exact e.symm); omega)).trans (Below.heap_alloc _ _ _ hgl))).trans c2)
        obtain ⟨nn7, hnn7⟩ : ∃ x, (SL6 tN' ++ [((k, 1, fN) : St)]).length = x := ⟨_, rfl⟩
        have HNN7 := Lib.hid hnn7
        clear hnn7
        refine' cut3 (F := fun (az : Option Addr) (cz : Nat) (w7 : World) => SBuf w7 (.slice az nn7 cz) (SL6 tN' ++ [(k, 1, fN)]) ∧ Wrote (w6.alloc (.cells #[.int .i64 (k : Int), .int .i64 1, .int .i64 (fN : Int)] 72)).drew w7 (.slice a7 ln7 c7) (.slice az nn7 cz)) ?rest7 ?kk7
        case rest7 =>
          intro K8
          go_wp2_with fail
          refine wp_region_held (S := fun W => SameB bx w6 W) (by kernel_rfl) ?_
          have HS0 : Hid (SameB bx w6 w6.drew) := Lib.hid rfl
          change wpAnyH _ _ _ _ _ _ _ _ (World.drew _)
          refine wpAnyH_take (i := 0) (v := ?_) rfl (by kernel_rfl) (by kernel_rfl) (by kernel_rfl) (fun _ _ _ h => h) (Or.inl ⟨by rfl, ?_⟩) HS0.out ?_
          rotate_left
          · (intro w hSw; (try dsimp only at hSw); go_simp; first | done | with_reducible rfl)
          try simp only [Act.put, List.setIfInBounds_toArray, List.set_cons_zero, List.set_cons_succ]
          refine wpAnyH_take (i := 1) (v := ?_) rfl (by kernel_rfl) (by kernel_rfl) (by kernel_rfl) (fun _ _ _ h => h) (Or.inl ⟨by rfl, ?_⟩) HS0.out ?_
          rotate_left
          · (intro w hSw; (try dsimp only at hSw); go_simp; first | done | with_reducible rfl)
          try simp only [Act.put, List.setIfInBounds_toArray, List.set_cons_zero, List.set_cons_succ]
          refine wpAnyH_take (i := 2) (v := ?_) rfl (by kernel_rfl) (by kernel_rfl) (by kernel_rfl) (fun _ _ _ h => h) (Or.inl ⟨by rfl, ?_⟩) HS0.out ?_
          rotate_left
          · (intro w hSw; (try dsimp only at hSw); go_simp; first | done | with_reducible rfl)
          try simp only [Act.put, List.setIfInBounds_toArray, List.set_cons_zero, List.set_cons_succ]
          refine wpAnyH_take (i := 3) (v := ?_) rfl (by kernel_rfl) (by kernel_rfl) (by kernel_rfl) (fun _ _ _ h => h) (Or.inl ⟨by rfl, ?_⟩) HS0.out ?_
          rotate_left
          · (intro w hSw; (try dsimp only at hSw); go_simp; first | done | with_reducible rfl)
          try simp only [Act.put, List.setIfInBounds_toArray, List.set_cons_zero, List.set_cons_succ]
          refine wpAnyH_take (i := 4) (v := ?_) rfl (by kernel_rfl) (by kernel_rfl) (by kernel_rfl) (fun _ _ _ h => h) (Or.inl ⟨by rfl, ?_⟩) HS0.out ?_
          rotate_left
          · (intro w hSw; (try dsimp only at hSw); go_simp; first | done | with_reducible rfl)
          try simp only [Act.put, List.setIfInBounds_toArray, List.set_cons_zero, List.set_cons_succ]
          refine wpAnyH_take (i := 5) (v := ?_) rfl (by kernel_rfl) (by kernel_rfl) (by kernel_rfl) (fun _ _ _ h => h) (Or.inl ⟨by rfl, ?_⟩) HS0.out ?_
          rotate_left
          · (intro w hSw; (try dsimp only at hSw); go_simp; first | done | with_reducible rfl)
          try simp only [Act.put, List.setIfInBounds_toArray, List.set_cons_zero, List.set_cons_succ]
          refine wpAnyH_take (i := 6) (v := ?_) rfl (by kernel_rfl) (by kernel_rfl) (by kernel_rfl) (fun _ _ _ h => h) (Or.inl ⟨by rfl, ?_⟩) HS0.out ?_
          rotate_left
          · (intro w hSw; (try dsimp only at hSw); go_simp; first | done | with_reducible rfl)
          try simp only [Act.put, List.setIfInBounds_toArray, List.set_cons_zero, List.set_cons_succ]
          refine wpAnyH_take (i := 7) (v := ?_) rfl (by kernel_rfl) (by kernel_rfl) (by kernel_rfl) (fun _ _ _ h => h) (Or.inl ⟨by rfl, ?_⟩) HS0.out ?_
          rotate_left
          · (intro w hSw; (try dsimp only at hSw); go_simp; first | done | with_reducible rfl)
          try simp only [Act.put, List.setIfInBounds_toArray, List.set_cons_zero, List.set_cons_succ]
          refine wpAnyH_take (i := 8) (v := ?_) rfl (by kernel_rfl) (by kernel_rfl) (by kernel_rfl) (fun _ _ _ h => h) (Or.inl ⟨by rfl, ?_⟩) HS0.out ?_
          rotate_left
          · (intro w hSw; (try dsimp only at hSw); go_simp; first | done | with_reducible rfl)
          try simp only [Act.put, List.setIfInBounds_toArray, List.set_cons_zero, List.set_cons_succ]
          refine wpAnyH_take (i := 10) (v := ?_) rfl (by kernel_rfl) (by kernel_rfl) (by kernel_rfl) (fun _ _ _ h => h) (Or.inl ⟨by rfl, ?_⟩) HS0.out ?_
          rotate_left
          · (intro w hSw; (try dsimp only at hSw); go_simp; first | done | with_reducible rfl)
          try simp only [Act.put, List.setIfInBounds_toArray, List.set_cons_zero, List.set_cons_succ]
          refine wpAnyH_take (i := 11) (v := ?_) rfl (by kernel_rfl) (by kernel_rfl) (by kernel_rfl) (fun _ _ _ h => h) (Or.inl ⟨by rfl, ?_⟩) HS0.out ?_
          rotate_left
          · (intro w hSw; (try dsimp only at hSw); go_simp; first | done | with_reducible rfl)
          try simp only [Act.put, List.setIfInBounds_toArray, List.set_cons_zero, List.set_cons_succ]
          refine wpAnyH_take (i := 12) (v := ?_) rfl (by kernel_rfl) (by kernel_rfl) (by kernel_rfl) (fun _ _ _ h => h) (Or.inl ⟨by rfl, ?_⟩) HS0.out ?_
          rotate_left
          · (intro w hSw; (try dsimp only at hSw); go_simp; first | done | with_reducible rfl)
          try simp only [Act.put, List.setIfInBounds_toArray, List.set_cons_zero, List.set_cons_succ]
          refine wpAnyH_take (i := 13) (v := ?_) rfl (by kernel_rfl) (by kernel_rfl) (by kernel_rfl) (fun _ _ _ h => h) (Or.inl ⟨by rfl, ?_⟩) HS0.out ?_
          rotate_left
          · (intro w hSw; (try dsimp only at hSw); go_simp; first | done | with_reducible rfl)
          try simp only [Act.put, List.setIfInBounds_toArray, List.set_cons_zero, List.set_cons_succ]
          refine wpAnyH_take (i := 16) (v := ?_) rfl (by kernel_rfl) (by kernel_rfl) (by kernel_rfl) (fun _ _ _ h => h) (Or.inl ⟨by rfl, ?_⟩) HS0.out ?_
          rotate_left
          · (intro w hSw; (try dsimp only at hSw); go_simp; first | done | with_reducible rfl)
          try simp only [Act.put, List.setIfInBounds_toArray, List.set_cons_zero, List.set_cons_succ]
          refine wpAnyH_take (i := 17) (v := ?_) rfl (by kernel_rfl) (by kernel_rfl) (by kernel_rfl) (fun _ _ _ h => h) (Or.inl ⟨by rfl, ?_⟩) HS0.out ?_
          rotate_left
          · (intro w hSw; (try dsimp only at hSw); go_simp; first | done | with_reducible rfl)
          try simp only [Act.put, List.setIfInBounds_toArray, List.set_cons_zero, List.set_cons_succ]
          refine wpAnyH_ready (rs := [9, 14]) (by kernel_rfl) (by simp) ?_
          refine AllReadyH.cons rfl (fun K hK => ?_) ?_
          · rw [if_pos (by rfl)]
            go_simp
            refine hK.out _ _ HS0.out (fun _ => ?_)
            clear hK K
            try simp only [Act.put, List.setIfInBounds_toArray, List.set_cons_zero, List.set_cons_succ]
            refine wpAnyH_ready (rs := [14]) (by kernel_rfl) (by simp) ?_
            refine AllReadyH.cons rfl (fun K hK => ?_) ?_
            · rw [if_pos (by rfl)]
              go_simp
              have HSA := Lib.hid (same_alloc (bx := bx) (w := w6) hbxl (.cells #[.int .i64 (k : Int), .int .i64 1, .int .i64 (fN : Int)] 72))
              refine hK.out _ _ HSA.out (fun _ => ?_)
              clear hK K
              try simp only [Act.put, List.setIfInBounds_toArray, List.set_cons_zero, List.set_cons_succ]
              refine wpAnyH_ready (rs := [15]) (by kernel_rfl) (by simp) ?_
              refine AllReadyH.cons rfl (fun K hK => ?_) ?_
              · refine step_st rfl (.tmp 53) (.tmp 58) rfl (.slice a7 ln7 c7) (SL6 tN') rfl (HBUF7.out.keep (Joins.below_alloc1 w6 _).drew) _ (k, 1, fN) rfl (row_new w6 72 _) HLN7.out ?_
                intro v7 w7 h1 h2
                have hS7 : SameB bx w6 w7 := (h2.grown.block bx (by show bx < (World.alloc _ _).heap.size; rw [World.size_alloc]; omega) (fun e => HFAR7.out bx e.symm rfl)).trans (Below.heap_alloc _ _ _ hbxl)
                have HS7 := Lib.hid hS7
                obtain ⟨az, cz, hv7, -⟩ := h1.shape
                rw [HNN7.out] at hv7
                subst hv7
                have HAP := Lib.hid (And.intro h1 h2)
                have g1 := HG1.out _ _ h1 h2
                have g2 := HG2.out _ _ h1 h2
                clear h1 h2 hS7
                refine hK.out _ _ HS7.out (fun _ => ?_)
                clear hK K
                try simp only [Act.put, List.setIfInBounds_toArray, List.set_cons_zero, List.set_cons_succ]
                refine wpAnyH_take (i := 18) (v := ?_) rfl (by kernel_rfl) (by kernel_rfl) (by kernel_rfl) (fun _ _ _ h => h) (Or.inl ⟨by rfl, ?_⟩) HS7.out ?_
                rotate_left
                · (intro w hSw; (try dsimp only at hSw); go_simp; first | done | with_reducible rfl)
                try simp only [Act.put, List.setIfInBounds_toArray, List.set_cons_zero, List.set_cons_succ]
                refine wpAnyH_ready (rs := [19]) (by kernel_rfl) (by simp) ?_
                refine AllReadyH.cons rfl (fun K hK => ?_) ?_
                · rw [if_pos (by rfl)]
                  go_simp
                  have HS8 : Hid (SameB bx w6 (w7.setCell ⟨w.heap.size + 1, 1028 + tN', none⟩ (.slice az nn7 cz))) := Lib.hid ((heap_setCell_other w7 ⟨w.heap.size + 1, _, none⟩ bx _ (by have := HGX.out; simp; omega)).trans HS7.out)
                  refine hK.out _ _ HS8.out (fun _ => ?_)
                  clear hK K
                  try simp only [Act.put, List.setIfInBounds_toArray, List.set_cons_zero, List.set_cons_succ]
                  refine wpAnyH_done (by kernel_rfl) ?_ _
                  exact K8 _ _ _ HAP.out
                exact AllReadyH.nil
              exact AllReadyH.nil
            exact AllReadyH.nil
          refine AllReadyH.cons rfl (fun K hK => ?_) ?_
          · rw [if_pos (by rfl)]
            go_simp
            have HSA := Lib.hid (same_alloc (bx := bx) (w := w6) hbxl (.cells #[.int .i64 (k : Int), .int .i64 1, .int .i64 (fN : Int)] 72))
            refine hK.out _ _ HSA.out (fun _ => ?_)
            clear hK K
            try simp only [Act.put, List.setIfInBounds_toArray, List.set_cons_zero, List.set_cons_succ]
            refine wpAnyH_ready (rs := [9]) (by kernel_rfl) (by simp) ?_
            refine AllReadyH.cons rfl (fun K hK => ?_) ?_
            · rw [if_pos (by rfl)]
              go_simp
              refine hK.out _ _ HSA.out (fun _ => ?_)
              clear hK K
              try simp only [Act.put, List.setIfInBounds_toArray, List.set_cons_zero, List.set_cons_succ]
              refine wpAnyH_ready (rs := [15]) (by kernel_rfl) (by simp) ?_
              refine AllReadyH.cons rfl (fun K hK => ?_) ?_
              · refine step_st rfl (.tmp 53) (.tmp 58) rfl (.slice a7 ln7 c7) (SL6 tN') rfl (HBUF7.out.keep (Joins.below_alloc1 w6 _).drew) _ (k, 1, fN) rfl (row_new w6 72 _) HLN7.out ?_
                intro v7 w7 h1 h2
                have hS7 : SameB bx w6 w7 := (h2.grown.block bx (by show bx < (World.alloc _ _).heap.size; rw [World.size_alloc]; omega) (fun e => HFAR7.out bx e.symm rfl)).trans (Below.heap_alloc _ _ _ hbxl)
                have HS7 := Lib.hid hS7
                obtain ⟨az, cz, hv7, -⟩ := h1.shape
                rw [HNN7.out] at hv7
                subst hv7
                have HAP := Lib.hid (And.intro h1 h2)
                have g1 := HG1.out _ _ h1 h2
                have g2 := HG2.out _ _ h1 h2
                clear h1 h2 hS7
                refine hK.out _ _ HS7.out (fun _ => ?_)
                clear hK K
                try simp only [Act.put, List.setIfInBounds_toArray, List.set_cons_zero, List.set_cons_succ]
                refine wpAnyH_take (i := 18) (v := ?_) rfl (by kernel_rfl) (by kernel_rfl) (by kernel_rfl) (fun _ _ _ h => h) (Or.inl ⟨by rfl, ?_⟩) HS7.out ?_
                rotate_left
                · (intro w hSw; (try dsimp only at hSw); go_simp; first | done | with_reducible rfl)
                try simp only [Act.put, List.setIfInBounds_toArray, List.set_cons_zero, List.set_cons_succ]
                refine wpAnyH_ready (rs := [19]) (by kernel_rfl) (by simp) ?_
                refine AllReadyH.cons rfl (fun K hK => ?_) ?_
                · rw [if_pos (by rfl)]
                  go_simp
                  have HS8 : Hid (SameB bx w6 (w7.setCell ⟨w.heap.size + 1, 1028 + tN', none⟩ (.slice az nn7 cz))) := Lib.hid ((heap_setCell_other w7 ⟨w.heap.size + 1, _, none⟩ bx _ (by have := HGX.out; simp; omega)).trans HS7.out)
                  refine hK.out _ _ HS8.out (fun _ => ?_)
                  clear hK K
                  try simp only [Act.put, List.setIfInBounds_toArray, List.set_cons_zero, List.set_cons_succ]
                  refine wpAnyH_done (by kernel_rfl) ?_ _
                  exact K8 _ _ _ HAP.out
                exact AllReadyH.nil
              exact AllReadyH.nil
            exact AllReadyH.nil
          exact AllReadyH.nil
        case kk7 =>
          intro ay cy wy hap
          obtain ⟨hy1, hy2⟩ := hap
          have hr6 := HR6.out.keep (Joins.below_alloc1 w6 (.cells #[.int .i64 (k : Int), .int .i64 1, .int .i64 (fN : Int)] 72)).drew
          rw [← HV7.out] at hy2
          have hr7 := hr6.app HFT.out.2.1 hy1 hy2
          have hr8 := hr7.congr (lf' := lfk A (k + 1)) (SL' := stK A (k + 1)) (fun _ _ _ _ => rfl) (fun v _ => by
            have h9 := stK_next A k v fN tN' HAE.out.1 HAE.out.2.1
            rw [HST7.out, HSL6.out]
            exact h9 HFT.out.2.2.1)
          have HR8 := Lib.hid hr8
          have HLTn := Lib.hid (show k + 1 ≤ n by have := HLT.out; omega)
          clear hy1 hy2 hr6 hr7 hr8 HG1 HG2 HNN7 HFAR7 HBUF7 HV7 HLN7 HQ6 HFB7 HR6 HLT6 HSL6 HST7 c1 c1' c2 q0 q1 hbxl hgl
          generalize wy.setCell ⟨w.heap.size + 1, 1028 + tN', none⟩ (.slice ay nn7 cy) = w8 at *
          generalize (fun v => if v = tN' then Value.slice ay nn7 cy else SV6 v) = SV8 at *
          have hk6 : k < 512 := HFT.out.2.2.2
          go_wp2_with fail
          exact ⟨⟨k + 1, SV8, HLTn.out, by go_num, HR8.out⟩, by have := HLTn.out; simp [intOf]; omega⟩
    · obtain rfl : k = n := by have := HK.out; omega
      go_wp2_with fail
      go_ret
      exact rest_net HR.out HIN.out HST.out HNL.out
end Go.Proofs.Ytbmbddapbgnioaa
