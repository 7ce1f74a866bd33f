/- How deep a value is: what the program's function returns, for every value; and what Check returns. -/
import Derived.Test.YtgliddedimpgaaaD
namespace Go.Proofs.Ytgliddedimpgaaa
open Go.RowKit

def DeepHead (w : World) (l : List V) (n : Nat) (s15 : Value) (wr : World) : Prop := ∃ i : Nat, i ≤ l.length ∧ s15 = .int .i64 i ∧ (∀ x ∈ l.take i, ¬ n < depth x) ∧ Below w.heap.size w wr

theorem deep_step {l : List V} {i n : Nat} (h : i < l.length) (hf : ∀ x ∈ l.take i, ¬ n < depth x) (hx : ¬ n < depth l[i]) : ∀ x ∈ l.take (i + 1), ¬ n < depth x := by
  intro x hm
  rw [List.take_succ_eq_append_getElem h, List.mem_append] at hm
  rcases hm with hm | hm
  · exact hf x hm
  · rw [List.mem_singleton] at hm; rw [hm]; exact hx

theorem deep_yes {l : List V} {i n : Nat} (h : i < l.length) (hx : n < depth l[i]) : n < depthL l := by
  rcases Nat.lt_or_ge n (depthL l) with h1 | h1
  · exact h1
  · have := (depthL_le l n).1 h1 _ (List.getElem_mem h); omega

theorem deep_no {l : List V} {n : Nat} (h : ∀ x ∈ l, ¬ n < depth x) : ¬ n < depthL l := by
  have := (depthL_le l n).2 fun x hx => by have := h x hx; omega
  omega

set_option maxHeartbeats 1000000 in
theorem deeper_loop (l : List V) (n : Nat) (hn0 : n ≤ 1000) (N : Int) (s : ByteArray) (a : Option Addr) (cap : Nat) (w : World) (hx : Is w (.mk 3 N s l) (val 3 N s a l.length cap))
    (ih : Hid (∀ x ∈ l, ∀ v W, Is W x v → Calls Try.prog 30 #[v, .int .i64 (n : Int)] W fun e w' => e = .returned (.bool (decide (n < depth x))) ∧ Below W.heap.size W w')) :
    Calls Try.prog 30 #[val 3 N s a l.length cap, .int .i64 ((n : Int) + 1)] w fun e w' => e = .returned (.bool (decide (n < depthL l))) ∧ Below w.heap.size w w' := by
  obtain ⟨_, _, _, _, _, _, fk, fn, fs, fa, fl, fc, hk, hn, hs, hl, hc, he⟩ := hx
  have hz : (((n : Nat) : Int) + 1 == 0) = false := by simp; omega
  go_enter Try.func30, Try.ntmps30
  go_wp2_with fail
  go_loopw [15] (fun s15 wr => DeepHead (w.alloc (.cells #[.int .i64 3, .int .i64 N, .string s, .slice a l.length cap] 24)) l n s15 wr) (fun s15 _ => l.length - (intOf s15).toNat)
  case atStart => exact ⟨0, by omega, rfl, by simp, Below.refl _ _⟩
  case round =>
    obtain ⟨i, hi, rfl, hf, hb⟩ := hrel
    have HF := Lib.hid hf
    clear hf
    rcases Nat.lt_or_ge i l.length with hlt | hge
    · rcases hc with h0 | ⟨b, off, rfl, hbl, hc⟩
      · omega
      obtain ⟨c0, c1, c2, c3⟩ := elem_cells hb hbl (hc i hlt)
      have HC := Lib.hid hc
      clear hc
      have H := Lib.hid he
      clear he
      go_wp2_with fail
      have hb2 : Below w.heap.size w (wr.alloc (.cells #[.int .i64 (fk i), .int .i64 (fn i), .string (fs i), .slice (fa i) (fl i) (fc i)] 24)) :=
        ((Joins.below_alloc1 w _).trans (hb.mono (by simp))).alloc (by have := hb.size; simp at this; omega) _
      refine (ih.out l[i] (List.getElem_mem hlt) _ _ (Is.stays (H.out i hlt) hb2)).mono ?_
      rintro e w1 ⟨rfl, hb3⟩
      have hb4 := below_next hb2 hb3
      by_cases hfx : n < depth l[i]
      · have hd : decide (n < depth l[i]) = true := by simpa using hfx
        have HR : Hid (decide (n < depthL l) = true) := by simpa [Hid] using deep_yes hlt hfx
        clear hfx
        rw [hd]
        go_wp2_with fail
        go_ret
        exact ⟨by rw [HR.out]; rfl, hb4⟩
      · have hd : decide (n < depth l[i]) = false := by simpa using hfx
        have HR := Lib.hid (deep_step hlt HF.out hfx)
        clear hfx
        rw [hd]
        go_wp2_with fail
        go_roundw
        case rel => exact ⟨i + 1, by omega, by simp, HR.out, below_at hb hb3⟩
        case measure => simp [intOf]; omega
    · obtain rfl : i = l.length := by omega
      have HR : Hid (decide (n < depthL l) = false) := by
        have h := HF.out
        rw [List.take_length] at h
        simpa [Hid] using deep_no h
      go_wp2_with fail
      go_ret
      exact ⟨by rw [HR.out]; rfl, (Joins.below_alloc1 w _).trans (hb.mono (by simp))⟩

theorem deeper_not (k : Int) (hk : ¬ k = 3) (n N : Int) (s : ByteArray) (a : Option Addr) (len cap : Nat) (w : World) :
    Calls Try.prog 30 #[val k N s a len cap, .int .i64 n] w fun e w' => e = .returned (.bool false) ∧ Below w.heap.size w w' := by
  have h1 : (k != 3) = true := by simpa using hk
  go_enter Try.func30, Try.ntmps30
  go_wp2_with fail
  go_ret
  exact ⟨rfl, Joins.below_alloc1 _ _⟩

theorem deeper_zero (N : Int) (s : ByteArray) (a : Option Addr) (len cap : Nat) (w : World) :
    Calls Try.prog 30 #[val 3 N s a len cap, .int .i64 0] w fun e w' => e = .returned (.bool true) ∧ Below w.heap.size w w' := by
  go_enter Try.func30, Try.ntmps30
  go_wp2_with fail
  go_ret
  exact ⟨rfl, Joins.below_alloc1 _ _⟩

theorem deeper_call (n : Nat) : ∀ (x : V) v W, n ≤ 1000 → Is W x v → Calls Try.prog 30 #[v, .int .i64 (n : Int)] W fun e w' => e = .returned (.bool (decide (n < depth x))) ∧ Below W.heap.size W w' := by
  induction n with
  | zero =>
    intro x v W _ hx
    obtain ⟨k, N, s, l, a, cap, _, _, _, _, _, _, _, _, _, _, _, _⟩ := hx
    by_cases hk : k = 3
    · subst hk
      refine (deeper_zero N s a _ cap W).mono fun e w' ⟨h, hb⟩ => ⟨h.trans (retB ?_), hb⟩
      rw [depth]; simp
    · refine (deeper_not k hk _ N s a _ cap W).mono fun e w' ⟨h, hb⟩ => ⟨h.trans (retB ?_), hb⟩
      rw [depth, if_neg hk]; simp
  | succ n ih =>
    intro x v W hn hx
    have hx2 := hx
    obtain ⟨k, N, s, l, a, cap, _, _, _, _, _, _, _, _, _, _, _, _⟩ := hx
    by_cases hk : k = 3
    · subst hk
      have e : ((n + 1 : Nat) : Int) = (n : Int) + 1 := by omega
      rw [e]
      refine (deeper_loop l n (by omega) N s a cap W hx2 (Lib.hid fun x _ v W h => ih x v W (by omega) h)).mono fun e w' ⟨h, hb⟩ => ⟨h.trans (retB ?_), hb⟩
      rw [depth]; simp
    · refine (deeper_not k hk _ N s a _ cap W).mono fun e w' ⟨h, hb⟩ => ⟨h.trans (retB ?_), hb⟩
      rw [depth, if_neg hk]; simp

/-- what Check returns -/
def code (x : V) : Int := if formed x = true then (if 16 < depth x then 2 else 0) else 1

theorem check_call (x : V) (v : Value) (w : World) (hx : Is w x v) : Calls Try.prog 16 #[v] w fun e w' => e = .returned (.int .i64 (code x)) ∧ Below w.heap.size w w' := by
  have hx2 := hx
  obtain ⟨k, N, s, l, a, cap, _, _, _, _, _, _, _, _, _, _, _, _⟩ := hx
  have HX := Lib.hid hx2
  clear hx2
  go_enter Try.func16, Try.ntmps16
  go_wp2_with fail
  refine (wellFormed_call (.mk k N s l) _ _ (Is.stays HX.out (Joins.below_alloc1 w _))).mono ?_
  rintro e w1 ⟨rfl, hb⟩
  have hb1 := below_next (Joins.below_alloc1 w _) hb
  obtain ⟨hc, _⟩ := bcell hb
  cases hf : formed (.mk k N s l) with
  | false =>
    have HR : Hid (code (.mk k N s l) = 1) := by unfold Hid code; rw [hf]; rfl
    go_wp2_with fail
    go_ret
    exact ⟨by rw [HR.out]; rfl, hb1⟩
  | true =>
    go_wp2_with fail
    refine (deeper_call 16 (.mk k N s l) _ _ (by omega) (Is.stays HX.out hb1)).mono ?_
    rintro e w2 ⟨rfl, hb2⟩
    by_cases hd : 16 < depth (.mk k N s l)
    · have HR : Hid (code (.mk k N s l) = 2) := by unfold Hid code; rw [hf, if_pos rfl, if_pos hd]
      rw [show decide (16 < depth (.mk k N s l)) = true by simpa using hd]
      clear hd
      go_wp2_with fail
      go_ret
      exact ⟨by rw [HR.out]; rfl, below_next hb1 hb2⟩
    · have HR : Hid (code (.mk k N s l) = 0) := by unfold Hid code; rw [hf, if_pos rfl, if_neg hd]
      rw [show decide (16 < depth (.mk k N s l)) = false by simpa using hd]
      clear hd
      go_wp2_with fail
      go_ret
      exact ⟨by rw [HR.out]; rfl, below_next hb1 hb2⟩
end Go.Proofs.Ytgliddedimpgaaa
