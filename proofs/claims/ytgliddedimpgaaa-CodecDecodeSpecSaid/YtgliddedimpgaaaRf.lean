/- The specification's Formed, Depth and Check: what they return, for every value. -/
import Derived.Test.YtgliddedimpgaaaO
import Derived.Test.YtgliddedimpgaaaN
namespace Go.Proofs.Ytgliddedimpgaaa
open Go.RowKit

theorem reff_1 (n : Int) (s : ByteArray) (a : Option Addr) (len cap : Nat) (w : World) :
    Calls Try.prog 31 #[val 1 n s a len cap] w fun e w' => e = .returned (.bool (s.size == 0 && len == 0)) ∧ Below w.heap.size w w' := by
  by_cases hs : s.size = 0
  · obtain rfl := str_nil hs
    clear hs
    by_cases hl : len = 0
    · subst hl
      go_enter Try.func31, Try.ntmps31
      go_wp2
      go_ret
      exact ⟨rfl, Joins.below_alloc1 _ _⟩
    · have hl' : ((len : Int) == 0) = false := by simp; omega
      have hl2 : (len == 0) = false := by simp; omega
      go_enter Try.func31, Try.ntmps31
      go_wp2
      go_ret
      exact ⟨by rw [hl2]; rfl, Joins.below_alloc1 _ _⟩
  · obtain ⟨h1, h2⟩ := str_cons hs
    have hs2 : (s.size == 0) = false := by simpa using hs
    clear hs
    go_enter Try.func31, Try.ntmps31
    go_wp2
    go_ret
    exact ⟨by rw [hs2]; rfl, Joins.below_alloc1 _ _⟩

theorem reff_2 (n : Int) (s : ByteArray) (a : Option Addr) (len cap : Nat) (w : World) :
    Calls Try.prog 31 #[val 2 n s a len cap] w fun e w' => e = .returned (.bool (n == 0 && len == 0)) ∧ Below w.heap.size w w' := by
  by_cases hs : n = 0
  · subst hs
    by_cases hl : len = 0
    · subst hl
      go_enter Try.func31, Try.ntmps31
      go_wp2
      go_ret
      exact ⟨rfl, Joins.below_alloc1 _ _⟩
    · have hl' : ((len : Int) == 0) = false := by simp; omega
      have hl2 : (len == 0) = false := by simp; omega
      go_enter Try.func31, Try.ntmps31
      go_wp2
      go_ret
      exact ⟨by rw [hl2]; rfl, Joins.below_alloc1 _ _⟩
  · have h1 : (n == 0) = false := by simpa using hs
    go_enter Try.func31, Try.ntmps31
    go_wp2
    go_ret
    exact ⟨by rw [h1]; rfl, Joins.below_alloc1 _ _⟩

theorem reff_else (k : Int) (h1 : ¬ k = 1) (h2 : ¬ k = 2) (h3 : ¬ k = 3) (n : Int) (s : ByteArray) (a : Option Addr) (len cap : Nat) (w : World) :
    Calls Try.prog 31 #[val k n s a len cap] w fun e w' => e = .returned (.bool false) ∧ Below w.heap.size w w' := by
  have g1 : (k == 1) = false := by simpa using h1
  have g2 : (k == 2) = false := by simpa using h2
  have g3 : (k == 3) = false := by simpa using h3
  go_enter Try.func31, Try.ntmps31
  go_wp2
  go_ret
  exact ⟨rfl, Joins.below_alloc1 _ _⟩

theorem formed_3 (n : Int) (s : ByteArray) (l : List V) : formed (.mk 3 n s l) = ((n == 0 && s.size == 0) && formedL l) := by rw [formed]; simp

set_option maxHeartbeats 1000000 in
theorem reff_3 (l : List V) (n : Int) (s : ByteArray) (a : Option Addr) (cap : Nat) (w : World) (hx : Is w (.mk 3 n s l) (val 3 n s a l.length cap))
    (ih : Hid (∀ x ∈ l, ∀ v W, Is W x v → Calls Try.prog 31 #[v] W fun e w' => e = .returned (.bool (formed x)) ∧ Below W.heap.size W w')) :
    Calls Try.prog 31 #[val 3 n s a l.length cap] w fun e w' => e = .returned (.bool (formed (.mk 3 n s l))) ∧ Below w.heap.size w w' := by
  obtain ⟨_, _, _, _, _, _, fk, fn, fs, fa, fl, fc, hk, hn, hs, hl, hc, he⟩ := hx
  go_enter Try.func31, Try.ntmps31
  go_wp2_with fail
  go_loopw [3] (fun s3 wr => ListHead (w.alloc (.cells #[.int .i64 3, .int .i64 n, .string s, .slice a l.length cap] 24)) l s3 wr) (fun s3 _ => l.length - (intOf s3).toNat)
  case atStart => exact ⟨0, by omega, rfl, rfl, Below.refl _ _⟩
  case round =>
    obtain ⟨i, hi, rfl, hf, hb⟩ := hrel
    have HF := Lib.hid hf
    clear hf
    obtain ⟨t0, t1, t2, t3⟩ := cells4_kept2 hb
    rcases Nat.lt_or_ge i l.length with hlt | hge
    · rcases hc with h0 | ⟨b, off, rfl, hbl, hc⟩
      · omega
      obtain ⟨c0, c1, c2, c3⟩ := elem_cells hb hbl (hc i hlt)
      clear hc
      have H := Lib.hid (he i hlt)
      clear he
      have hb2 := Lib.hid ((Joins.below_alloc1 w _).trans (hb.mono (by simp)))
      go_wp2_with fail
      refine (ih.out l[i] (List.getElem_mem hlt) _ _ (Is.stays H.out hb2.out)).mono ?_
      rintro e w1 ⟨rfl, hb3⟩
      have hb4 := below_next hb2.out hb3
      cases hfx : formed l[i] with
      | true =>
        have HR := Lib.hid (formedL_step hlt HF.out hfx)
        clear hfx
        go_wp2_with fail
        go_roundw
        case rel => exact ⟨i + 1, by omega, by simp, HR.out, below_next hb hb3⟩
        case measure => simp [intOf]; omega
      | false =>
        have HR : Hid (formed (.mk 3 n s l) = false) := by unfold Hid; rw [formed_3, formedL_no hlt hfx]; simp
        clear hfx
        go_wp2_with fail
        go_ret
        exact ⟨by rw [HR.out]; rfl, hb4⟩
    · obtain rfl : i = l.length := by omega
      have HR : Hid (formedL l = true) := by have h := HF.out; rw [List.take_length] at h; exact h
      have HB := Lib.hid ((Joins.below_alloc1 w _).trans (hb.mono (by simp)))
      by_cases hn0 : n = 0
      · subst hn0
        by_cases hs0 : s.size = 0
        · obtain rfl := str_nil hs0
          clear hs0
          have HE : Hid (formed (.mk 3 0 ⟨#[]⟩ l) = true) := by unfold Hid; rw [formed_3, HR.out]; rfl
          go_wp2_with fail
          go_ret
          exact ⟨by rw [HE.out]; rfl, HB.out⟩
        · obtain ⟨h1, h2⟩ := str_cons hs0
          have HE : Hid (formed (.mk 3 0 s l) = false) := by
            have hs2 : (s.size == 0) = false := by simpa using hs0
            unfold Hid; rw [formed_3, hs2]; simp
          clear hs0
          go_wp2_with fail
          go_ret
          exact ⟨by rw [HE.out]; rfl, HB.out⟩
      · have h1 : (n == 0) = false := by simpa using hn0
        have HE : Hid (formed (.mk 3 n s l) = false) := by unfold Hid; rw [formed_3, h1]; simp
        clear hn0
        go_wp2_with fail
        go_ret
        exact ⟨by rw [HE.out]; rfl, HB.out⟩

theorem refformed_call (x : V) : ∀ v W, Is W x v → Calls Try.prog 31 #[v] W fun e w' => e = .returned (.bool (formed x)) ∧ Below W.heap.size W w' := by
  refine V.ind (P := fun x => ∀ v W, Is W x v → Calls Try.prog 31 #[v] W fun e w' => e = .returned (.bool (formed x)) ∧ Below W.heap.size W w') ?_ x
  intro k n s l ih v W hx
  have hx2 := hx
  obtain ⟨_, _, _, _, a, cap, _, _, _, _, _, _, _, _, _, _, _, _⟩ := hx
  by_cases h1 : k = 1
  · subst h1
    refine (reff_1 n s a _ cap W).mono fun e w' ⟨h, hb⟩ => ⟨h.trans (retB ?_), hb⟩
    rw [formed]; simp
  by_cases h2 : k = 2
  · subst h2
    refine (reff_2 n s a _ cap W).mono fun e w' ⟨h, hb⟩ => ⟨h.trans (retB ?_), hb⟩
    rw [formed]; simp
  by_cases h3 : k = 3
  · subst h3
    exact reff_3 l n s a cap W hx2 (Lib.hid ih)
  · refine (reff_else k h1 h2 h3 n s a _ cap W).mono fun e w' ⟨h, hb⟩ => ⟨h.trans (retB ?_), hb⟩
    have e1 : (k == 1) = false := by simpa using h1
    have e2 : (k == 2) = false := by simpa using h2
    have e3 : (k == 3) = false := by simpa using h3
    rw [formed, e1, e2, e3]; rfl

theorem depth_not {k : Int} (hk : ¬ k = 3) (n : Int) (s : ByteArray) (l : List V) : depth (.mk k n s l) = 0 := by rw [depth, if_neg hk]
theorem depth_3 (n : Int) (s : ByteArray) (l : List V) : depth (.mk 3 n s l) = depthL l + 1 := by rw [depth, if_pos rfl]

theorem refd_else (k : Int) (h3 : ¬ k = 3) (n : Int) (s : ByteArray) (a : Option Addr) (len cap : Nat) (w : World) :
    Calls Try.prog 32 #[val k n s a len cap] w fun e w' => e = .returned (.int .i64 0) ∧ Below w.heap.size w w' := by
  have g3 : (k != 3) = true := by simpa using h3
  go_enter Try.func32, Try.ntmps32
  go_wp2
  go_ret
  exact ⟨rfl, Joins.below_alloc1 _ _⟩

theorem depthL_append : ∀ a b : List V, depthL (a ++ b) = max (depthL a) (depthL b)
  | [], b => by simp [depthL]
  | x :: a, b => by rw [List.cons_append, depthL, depthL, depthL_append a b]; omega
theorem depthL_take (l : List V) (i : Nat) (h : i < l.length) : depthL (l.take (i + 1)) = max (depthL (l.take i)) (depth l[i]) := by
  rw [List.take_succ_eq_append_getElem h, depthL_append]; simp [depthL]
theorem depth_mem {l : List V} {i : Nat} (h : i < l.length) : depth l[i] ≤ depthL l := (depthL_le l (depthL l)).1 (Nat.le_refl _) _ (List.getElem_mem h)
theorem depthL_takele (l : List V) (i : Nat) : depthL (l.take i) ≤ depthL l := by
  have e : depthL l = max (depthL (l.take i)) (depthL (l.drop i)) := by rw [← depthL_append, List.take_append_drop]
  omega

def DepHead (w : World) (l : List V) (s3 s4 : Value) (wr : World) : Prop := ∃ i : Nat, i ≤ l.length ∧ s4 = .int .i64 (i : Int) ∧ s3 = .int .i64 ((depthL (l.take i) : Nat) : Int) ∧ Below w.heap.size w wr

set_option maxHeartbeats 1000000 in
theorem refd_3 (l : List V) (n : Int) (s : ByteArray) (a : Option Addr) (cap : Nat) (w : World) (hx : Is w (.mk 3 n s l) (val 3 n s a l.length cap)) (hd : depthL l ≤ 1000)
    (ih : Hid (∀ x ∈ l, depth x ≤ 1000 → ∀ v W, Is W x v → Calls Try.prog 32 #[v] W fun e w' => e = .returned (.int .i64 ((depth x : Nat) : Int)) ∧ Below W.heap.size W w')) :
    Calls Try.prog 32 #[val 3 n s a l.length cap] w fun e w' => e = .returned (.int .i64 ((depthL l + 1 : Nat) : Int)) ∧ Below w.heap.size w w' := by
  obtain ⟨_, _, _, _, _, _, fk, fn, fs, fa, fl, fc, hk, hn, hs, hl, hc, he⟩ := hx
  go_enter Try.func32, Try.ntmps32
  go_wp2_with fail
  go_loopw [3, 4] (fun s3 s4 wr => DepHead (w.alloc (.cells #[.int .i64 3, .int .i64 n, .string s, .slice a l.length cap] 24)) l s3 s4 wr) (fun _ s4 _ => l.length - (intOf s4).toNat)
  case atStart => exact ⟨0, by omega, rfl, rfl, Below.refl _ _⟩
  case round =>
    obtain ⟨i, hi, rfl, rfl, hb⟩ := hrel
    obtain ⟨t0, t1, t2, t3⟩ := cells4_kept2 hb
    have hdt := depthL_takele l i
    rcases Nat.lt_or_ge i l.length with hlt | hge
    · rcases hc with h0 | ⟨b, off, rfl, hbl, hc⟩
      · omega
      obtain ⟨c0, c1, c2, c3⟩ := elem_cells hb hbl (hc i hlt)
      clear hc
      have H := Lib.hid (he i hlt)
      clear he
      have hdi := depth_mem hlt
      have HT := Lib.hid (depthL_take l i hlt)
      have hb2 := Lib.hid ((Joins.below_alloc1 w _).trans (hb.mono (by simp)))
      go_wp2_with fail
      refine (ih.out l[i] (List.getElem_mem hlt) (by omega) _ _ (Is.stays H.out hb2.out)).mono ?_
      rintro e w1 ⟨rfl, hb3⟩
      go_wp2_with fail
      go_roundw
      case rel => exact ⟨i + 1, by omega, by simp, by rw [HT.out]; congr 1; omega, below_next hb hb3⟩
      case measure => simp [intOf]; omega
    · obtain rfl : i = l.length := by omega
      have HB := Lib.hid ((Joins.below_alloc1 w _).trans (hb.mono (by simp)))
      rw [List.take_length] at hdt ⊢
      go_wp2_with fail
      go_ret
      exact ⟨ret_i64 (by omega), HB.out⟩

theorem refdepth_call (x : V) : depth x ≤ 1000 → ∀ v W, Is W x v → Calls Try.prog 32 #[v] W fun e w' => e = .returned (.int .i64 ((depth x : Nat) : Int)) ∧ Below W.heap.size W w' := by
  refine V.ind (P := fun x => depth x ≤ 1000 → ∀ v W, Is W x v → Calls Try.prog 32 #[v] W fun e w' => e = .returned (.int .i64 ((depth x : Nat) : Int)) ∧ Below W.heap.size W w') ?_ x
  intro k n s l ih hd v W hx
  have hx2 := hx
  obtain ⟨_, _, _, _, a, cap, _, _, _, _, _, _, _, _, _, _, _, _⟩ := hx
  by_cases h3 : k = 3
  · subst h3
    rw [depth_3] at hd
    rw [depth_3]
    exact refd_3 l n s a cap W hx2 (by omega) (Lib.hid ih)
  · refine (refd_else k h3 n s a _ cap W).mono fun e w' ⟨h, hb⟩ => ⟨h.trans ?_, hb⟩
    rw [depth_not h3]; rfl

set_option maxHeartbeats 1000000 in
theorem refcheck_call (x : V) (hd : depth x ≤ 1000) (v : Value) (W : World) (hx : Is W x v) : Calls Try.prog 17 #[v] W fun e w' => e = .returned (.int .i64 (code x)) ∧ Below W.heap.size W w' := by
  have HX := Lib.hid hx
  obtain ⟨k, N, s, l, a, cap, _, _, _, _, _, _, _, _, _, _, _, _⟩ := hx
  go_enter Try.func17, Try.ntmps17
  go_wp2_with fail
  refine (refformed_call (.mk k N s l) _ _ (Is.stays HX.out (Joins.below_alloc1 W _))).mono ?_
  rintro e w1 ⟨rfl, hb⟩
  have hb1 := Lib.hid (below_next (Joins.below_alloc1 W _) hb)
  obtain ⟨t0, t1, t2, t3⟩ := cells4_kept2 hb
  clear hb
  cases hf : formed (.mk k N s l) with
  | false =>
    have HC : Hid (code (.mk k N s l) = 1) := by unfold Hid code; rw [hf]; rfl
    clear hf
    go_wp2_with fail
    go_ret
    exact ⟨by rw [HC.out]; rfl, hb1.out⟩
  | true =>
    go_wp2_with fail
    refine (refdepth_call (.mk k N s l) hd _ _ (Is.stays HX.out hb1.out)).mono ?_
    rintro e w2 ⟨rfl, hb2⟩
    have hb3 := Lib.hid (below_next hb1.out hb2)
    clear hb2
    by_cases h16 : 16 < depth (.mk k N s l)
    · have hd1 : decide ((16 : Int) < ((depth (.mk k N s l) : Nat) : Int)) = true := by simp; omega
      have HC : Hid (code (.mk k N s l) = 2) := by unfold Hid code; rw [hf, if_pos rfl, if_pos h16]
      clear hf h16
      go_wp2_with fail
      go_ret
      exact ⟨by rw [HC.out]; rfl, hb3.out⟩
    · have hd1 : decide ((16 : Int) < ((depth (.mk k N s l) : Nat) : Int)) = false := by simp; omega
      have HC : Hid (code (.mk k N s l) = 0) := by unfold Hid code; rw [hf, if_pos rfl, if_neg h16]
      clear hf h16
      go_wp2_with fail
      go_ret
      exact ⟨by rw [HC.out]; rfl, hb3.out⟩

theorem cntL_lt {f : V → Nat} : ∀ (l : List V) (n : Nat), cntL f n l < 1000 → ∀ x ∈ l, f x < 1000
  | [], _, _, x, hx => by simp at hx
  | y :: l, n, h, x, hx => by
    rw [cntL] at h
    split at h
    · rcases List.mem_cons.1 hx with rfl | hx
      · have := cntL_ge f l (n + f x); omega
      · exact cntL_lt l _ h x hx
    · omega

/-- what has few parts is not deep -/
theorem cnt_depth : ∀ (e : Nat) (x : V), cnt e x < 1000 → depth x ≤ e
  | 0, x, h => by rw [cnt] at h; omega
  | e + 1, .mk k n s l, h => by
    rw [cnt] at h
    split at h
    · omega
    · by_cases h3 : k = 3
      · subst h3
        rw [depth_3]
        have := (depthL_le l e).2 (fun x hx => cnt_depth e x (cntL_lt l _ h x hx))
        omega
      · rw [depth_not h3]; omega
end Go.Proofs.Ytgliddedimpgaaa
