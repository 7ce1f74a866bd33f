/- Whether a value is well-formed, and how deep it is: what the program's functions return, for every value. -/
import Derived.Test.YtgliddedimpgaaaC
namespace Go.Proofs.Ytgliddedimpgaaa
open Go.RowKit

def ListHead (w : World) (l : List V) (s16 : Value) (wr : World) : Prop := ∃ i : Nat, i ≤ l.length ∧ s16 = .int .i64 i ∧ formedL (l.take i) = true ∧ Below w.heap.size w wr

theorem formedL_step {l : List V} {i : Nat} (h : i < l.length) (hf : formedL (l.take i) = true) (hx : formed l[i] = true) : formedL (l.take (i + 1)) = true := by
  rw [formedL_mem] at hf ⊢
  intro x hm
  rw [List.take_succ_eq_append_getElem h, List.mem_append] at hm
  rcases hm with hm | hm
  · exact hf x hm
  · rw [List.mem_singleton] at hm; rw [hm]; exact hx

theorem formedL_no {l : List V} {i : Nat} (h : i < l.length) (hx : formed l[i] = false) : formedL l = false := by
  cases e : formedL l with
  | false => rfl
  | true =>
    rw [formedL_mem] at e
    rw [e l[i] (List.getElem_mem h)] at hx
    cases hx

/-- a round's new block, then a call -/
theorem below_at {w wr w1 : World} {o : Obj} (hb : Below w.heap.size w wr) (hb3 : Below (wr.alloc o).heap.size (wr.alloc o) w1) : Below w.heap.size w w1 :=
  below_next (hb.alloc hb.size o) hb3

/-- An element's four cells, in a later world. -/
theorem elem_cells {w wr : World} {o : Obj} {b off : Nat} {c0 c1 c2 c3 : Value} (hb : Below (w.alloc o).heap.size (w.alloc o) wr) (hl : b < w.heap.size)
    (h : w.cell? ⟨b, off, none⟩ = some c0 ∧ w.cell? ⟨b, off + 1, none⟩ = some c1 ∧ w.cell? ⟨b, off + 2, none⟩ = some c2 ∧ w.cell? ⟨b, off + 3, none⟩ = some c3) :
    wr.cell? ⟨b, off, none⟩ = some c0 ∧ wr.cell? ⟨b, off + 1, none⟩ = some c1 ∧ wr.cell? ⟨b, off + 2, none⟩ = some c2 ∧ wr.cell? ⟨b, off + 3, none⟩ = some c3 := by
  have hb2 : Below w.heap.size w wr := (Joins.below_alloc1 w o).trans (hb.mono (by simp))
  obtain ⟨h0, h1, h2, h3⟩ := h
  exact ⟨(hb2.cell (p := ⟨b, off, none⟩) hl).trans h0, (hb2.cell (p := ⟨b, off + 1, none⟩) hl).trans h1, (hb2.cell (p := ⟨b, off + 2, none⟩) hl).trans h2, (hb2.cell (p := ⟨b, off + 3, none⟩) hl).trans h3⟩

set_option maxHeartbeats 1000000 in
theorem fitsList_loop (l : List V) (a : Option Addr) (cap : Nat) (w : World) (hx : Is w (.mk 3 0 ⟨#[]⟩ l) (val 3 0 ⟨#[]⟩ a l.length cap))
    (ih : Hid (∀ x ∈ l, ∀ v W, Is W x v → Calls Try.prog 29 #[v] W fun e w' => e = .returned (.bool (formed x)) ∧ Below W.heap.size W w')) :
    Calls Try.prog 53 #[val 3 0 ⟨#[]⟩ a l.length cap] w fun e w' => e = .returned (.bool (formedL l)) ∧ Below w.heap.size w w' := by
  obtain ⟨_, _, _, _, _, _, fk, fn, fs, fa, fl, fc, hk, hn, hs, hl, hc, he⟩ := hx
  go_enter Try.func53, Try.ntmps53
  go_wp2_with fail
  go_loopw [16] (fun s16 wr => ListHead (w.alloc (.cells #[.int .i64 3, .int .i64 0, .string ⟨#[]⟩, .slice a l.length cap] 24)) l s16 wr) (fun s16 _ => l.length - (intOf s16).toNat)
  case atStart => exact ⟨0, by omega, rfl, rfl, Below.refl _ _⟩
  case round =>
    obtain ⟨i, hi, rfl, hf, hb⟩ := hrel
    rcases Nat.lt_or_ge i l.length with hlt | hge
    · rcases hc with h0 | ⟨b, off, rfl, hbl, hc⟩
      · omega
      obtain ⟨c0, c1, c2, c3⟩ := elem_cells hb hbl (hc i hlt)
      have HC := Lib.hid hc
      clear hc
      have H := Lib.hid he
      clear he
      go_wp2_with fail
      have hb2 : Below w.heap.size w (wr.alloc (.cells #[.int .i64 (fk i), .int .i64 (fn i), .string (fs i), .slice (fa i) (fl i) (fc i)] 24)) :=
        ((Joins.below_alloc1 w _).trans (hb.mono (by simp))).alloc (by have := hb.size; simp at this; omega) _
      refine (ih.out l[i] (List.getElem_mem hlt) _ _ (Is.stays (H.out i hlt) hb2)).mono ?_
      rintro e w1 ⟨rfl, hb3⟩
      have hb4 := below_next hb2 hb3
      cases hfx : formed l[i] with
      | true =>
        go_wp2_with fail
        go_roundw
        case rel => exact ⟨i + 1, by omega, by simp, formedL_step hlt hf hfx, below_at hb hb3⟩
        case measure => simp [intOf]; omega
      | false =>
        go_wp2_with fail
        go_ret
        exact ⟨by rw [formedL_no hlt hfx]; rfl, hb4⟩
    · obtain rfl : i = l.length := by omega
      rw [List.take_length] at hf
      go_wp2_with fail
      go_ret
      exact ⟨by rw [hf]; rfl, (Joins.below_alloc1 w _).trans (hb.mono (by simp))⟩

theorem fitsList_n (n : Int) (hn : ¬ n = 0) (s : ByteArray) (a : Option Addr) (len cap : Nat) (w : World) :
    Calls Try.prog 53 #[val 3 n s a len cap] w fun e w' => e = .returned (.bool false) ∧ Below w.heap.size w w' := by
  have h1 : (n != 0) = true := by simpa using hn
  go_enter Try.func53, Try.ntmps53
  go_wp2_with fail
  go_ret
  exact ⟨rfl, Joins.below_alloc1 _ _⟩

theorem fitsList_s (s : ByteArray) (hs : ¬ s.size = 0) (a : Option Addr) (len cap : Nat) (w : World) :
    Calls Try.prog 53 #[val 3 0 s a len cap] w fun e w' => e = .returned (.bool false) ∧ Below w.heap.size w w' := by
  obtain ⟨h1, h2⟩ := str_cons hs
  go_enter Try.func53, Try.ntmps53
  go_wp2_with fail
  go_ret
  exact ⟨rfl, Joins.below_alloc1 _ _⟩

set_option maxHeartbeats 1000000 in
theorem wellFormed_lo (k : Int) (hk : k < 1) (n : Int) (s : ByteArray) (a : Option Addr) (len cap : Nat) (w : World) :
    Calls Try.prog 29 #[val k n s a len cap] w fun e w' => e = .returned (.bool false) ∧ Below w.heap.size w w' := by
  have h1 : decide (1 ≤ k) = false := by simpa using hk
  go_enter Try.func29, Try.ntmps29
  go_wp2_with fail
  go_quiet (fail)
  go_wp2_with fail
  go_ret
  exact ⟨rfl, (Joins.below_alloc1 _ _).trans ((Joins.below_draws _ _ _))⟩

set_option maxHeartbeats 1000000 in
theorem wellFormed_hi (k : Int) (hk : 3 < k) (n : Int) (s : ByteArray) (a : Option Addr) (len cap : Nat) (w : World) :
    Calls Try.prog 29 #[val k n s a len cap] w fun e w' => e = .returned (.bool false) ∧ Below w.heap.size w w' := by
  have h1 : decide (1 ≤ k) = true := by simp; omega
  have h2 : decide (k ≤ 3) = false := by simpa using hk
  go_enter Try.func29, Try.ntmps29
  go_wp2_with fail
  go_quiet (fail)
  go_wp2_with fail
  go_ret
  exact ⟨rfl, (Joins.below_alloc1 _ _).trans ((Joins.below_draws _ _ _))⟩

theorem retB {a b : Bool} (h : a = b) : Ending.returned (.bool a) = .returned (.bool b) := by rw [h]

theorem wellFormed_call (x : V) : ∀ v W, Is W x v → Calls Try.prog 29 #[v] W fun e w' => e = .returned (.bool (formed x)) ∧ Below W.heap.size W w' := by
  refine V.ind (P := fun x => ∀ v W, Is W x v → Calls Try.prog 29 #[v] W fun e w' => e = .returned (.bool (formed x)) ∧ Below W.heap.size W w') ?_ x
  intro k n s l ih v W hx
  have hx2 := hx
  obtain ⟨_, _, _, _, a, cap, _, _, _, _, _, _, _, _, _, _, _, _⟩ := hx
  rcases Int.lt_or_le k 1 with h1 | h1
  · refine (wellFormed_lo k h1 n s a _ cap W).mono fun e w' ⟨h, hb⟩ => ⟨h.trans (retB ?_), hb⟩
    have e1 : (k == 1) = false := by simp; omega
    have e2 : (k == 2) = false := by simp; omega
    have e3 : (k == 3) = false := by simp; omega
    rw [formed, e1, e2, e3]; rfl
  rcases Int.lt_or_le 3 k with h3 | h3
  · refine (wellFormed_hi k h3 n s a _ cap W).mono fun e w' ⟨h, hb⟩ => ⟨h.trans (retB ?_), hb⟩
    have e1 : (k == 1) = false := by simp; omega
    have e2 : (k == 2) = false := by simp; omega
    have e3 : (k == 3) = false := by simp; omega
    rw [formed, e1, e2, e3]; rfl
  obtain h | h | h : k = 1 ∨ k = 2 ∨ k = 3 := by omega
  · subst h
    refine (wellFormed_1 n s a _ cap W).mono fun e w' ⟨h, hb⟩ => ⟨h.trans (retB ?_), hb⟩
    rw [formed]; simp
  · subst h
    refine (wellFormed_2 n s a _ cap W).mono fun e w' ⟨h, hb⟩ => ⟨h.trans (retB ?_), hb⟩
    rw [formed]; simp
  · subst h
    have ef : formed (.mk 3 n s l) = ((n == 0 && s.size == 0) && formedL l) := by rw [formed]; simp
    refine (wellFormed_3 n s a _ cap W (formed (.mk 3 n s l)) (Lib.hid fun W' hb => ?_))
    by_cases hn : n = 0
    · subst hn
      by_cases hs : s.size = 0
      · obtain rfl := str_nil hs
        refine (fitsList_loop l a cap W' (Is.stays hx2 hb) (Lib.hid ih)).mono fun e w' ⟨h, hb⟩ => ⟨h.trans (retB ?_), hb⟩
        rw [ef]; rfl
      · refine (fitsList_s s hs a _ cap W').mono fun e w' ⟨h, hb⟩ => ⟨h.trans (retB ?_), hb⟩
        have e2 : (s.size == 0) = false := by simpa using hs
        rw [ef, e2]; rfl
    · refine (fitsList_n n hn s a _ cap W').mono fun e w' ⟨h, hb⟩ => ⟨h.trans (retB ?_), hb⟩
      have e2 : (n == 0) = false := by simpa using hn
      rw [ef, e2]; rfl
end Go.Proofs.Ytgliddedimpgaaa
