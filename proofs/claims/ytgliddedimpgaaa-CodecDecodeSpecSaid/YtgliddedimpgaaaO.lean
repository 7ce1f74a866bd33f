/- How many parts a value has, up to a limit: what the laws' own bound says, and that what keeps it has a short encoding. -/
import Derived.Test.YtgliddedimpgaaaS
import Derived.Test.YtgliddedimpgaaaX
import Derived.Test.YtgliddedimpgaaaF
namespace Go.Proofs.Ytgliddedimpgaaa
open Go.RowKit

def cntL (f : V → Nat) : Nat → List V → Nat
  | n, [] => n
  | n, x :: l => if n ≤ 1000 then cntL f (n + f x) l else n

def cnt : Nat → V → Nat
  | 0, _ => 1000
  | e + 1, .mk _ _ s l => if 150 < l.length then 1000 else cntL (cnt e) (1 + s.size / 200) l

theorem cntL_ge (f : V → Nat) : ∀ (l : List V) (n : Nat), n ≤ cntL f n l
  | [], n => Nat.le_refl n
  | x :: l, n => by
    rw [cntL]
    split
    · exact Nat.le_trans (by omega) (cntL_ge f l (n + f x))
    · exact Nat.le_refl n

theorem cntL_le (f : V → Nat) (b : Nat) : ∀ (l : List V) (n : Nat), (∀ x ∈ l, f x ≤ b) → cntL f n l ≤ max n (1000 + b)
  | [], n, _ => by rw [cntL]; omega
  | x :: l, n, h => by
    rw [cntL]
    split
    · have h1 := h x (by simp)
      have h2 := cntL_le f b l (n + f x) (fun y hy => h y (by simp [hy]))
      omega
    · omega

theorem cnt_le : ∀ (e : Nat) {B : Nat} {w : World} {x : V} {v : Value}, IsB B w x v → cnt e x ≤ 46116860184273881 + 1000 * (e + 1)
  | 0, _, _, _, _, _ => by rw [cnt]; omega
  | e + 1, B, w, _, _, h => by
    obtain ⟨k, n, s, l, a, cap, fk, fn, fs, fa, fl, fc, hk, hn, hs, hl, hc, he⟩ := h
    rw [cnt]
    split
    · omega
    · have h2 := cntL_le (cnt e) (46116860184273881 + 1000 * (e + 1)) l (1 + s.size / 200) (fun x hx => by
        obtain ⟨i, hi, rfl⟩ := List.getElem_of_mem hx
        exact cnt_le e (he i hi))
      unfold maxLen at hs
      omega

set_option maxRecDepth 20000 in
/-- where the count stays below its limit it is a sum, and the encoding is short -/
theorem cntL_enc (f : V → Nat) : ∀ (l : List V) (n : Nat), cntL f n l < 1000 → (∀ x ∈ l, f x < 1000 → (enc x).length ≤ 300 * f x) → n * 300 + (encL l).length ≤ 300 * cntL f n l
  | [], n, _, _ => by rw [cntL, encL]; simp; omega
  | x :: l, n, h, hx => by
    rw [cntL] at h ⊢
    have hn : n ≤ 1000 := by
      rcases Nat.lt_or_ge 1000 n with h1 | h1
      · rw [if_neg (by omega)] at h; omega
      · exact h1
    rw [if_pos hn] at h ⊢
    have h1 := cntL_ge f l (n + f x)
    have h2 := cntL_enc f l (n + f x) h (fun y hy => hx y (by simp [hy]))
    have h3 := hx x (by simp) (by omega)
    rw [encL, List.length_append]
    clear h hx hn h1
    generalize cntL f (n + f x) l = t at h2 ⊢
    generalize f x = y at h2 h3
    generalize (enc x).length = p at h3 ⊢
    generalize (encL l).length = q at h2 ⊢
    omega

set_option maxRecDepth 20000 in
theorem cnt_enc : ∀ (e : Nat) {B : Nat} {w : World} {x : V} {v : Value}, IsB B w x v → cnt e x < 1000 → (enc x).length ≤ 300 * cnt e x
  | 0, _, _, _, _, _, h => by rw [cnt] at h; omega
  | e + 1, B, w, _, _, hi, h => by
    obtain ⟨k, n, s, l, a, cap, fk, fn, fs, fa, fl, fc, hk, hn, hs, hl, hc, he⟩ := hi
    rw [cnt] at h ⊢
    split at h
    · omega
    · rename_i h150
      rw [if_neg h150]
      have h2 := cntL_enc (cnt e) l (1 + s.size / 200) h (fun x hx hlt => by
        obtain ⟨i, hi, rfl⟩ := List.getElem_of_mem hx
        exact cnt_enc e (he i hi) hlt)
      have hsl : s.data.toList.length = s.size := by rw [Array.length_toList]; rfl
      have d1 : (digits (uns n)).length ≤ 10 := by rw [digits_len]; exact num_len _ (uns_lt n hn.1 hn.2)
      have d2 : (digits s.size).length ≤ 10 := by rw [digits_len]; exact num_len _ (by unfold maxLen at hs; omega)
      have d3 : (digits l.length).length ≤ 10 := by rw [digits_len]; exact num_len _ (by omega)
      rw [enc, List.length_cons]
      split
      · omega
      · split
        · rw [List.length_append, hsl]; omega
        · rw [List.length_append]; omega

theorem cells4_kept2 {w w' : World} {a b c d : Value} {T : TypeId} (h : Below (w.alloc (.cells #[a, b, c, d] T)).heap.size (w.alloc (.cells #[a, b, c, d] T)) w') :
    w'.cell? ⟨w.heap.size, 0, none⟩ = some a ∧ w'.cell? ⟨w.heap.size, 1, none⟩ = some b ∧ w'.cell? ⟨w.heap.size, 2, none⟩ = some c ∧ w'.cell? ⟨w.heap.size, 3, none⟩ = some d := by
  have hb : w'.heap[w.heap.size]? = some (.cells #[a, b, c, d] T) := (h.block w.heap.size (by simp)).trans (heap_alloc_new w _)
  exact ⟨by rw [Joins.cell_of_block hb]; rfl, by rw [Joins.cell_of_block hb]; rfl, by rw [Joins.cell_of_block hb]; rfl, by rw [Joins.cell_of_block hb]; rfl⟩

def CountSaid (e : Nat) (d : Int) : Prop := ∀ (x : V) (v : Value) (W : World), Is W x v → Calls Try.prog 37 #[v, .int .i64 d] W fun en w' => en = .returned (.int .i64 ((cnt e x : Nat) : Int)) ∧ Below W.heap.size W w'

theorem count_zero : CountSaid 0 (-1) := by
  intro x v W hx
  obtain ⟨k, N, s, l, a, cap, _, _, _, _, _, _, _, _, hs, _, _, _⟩ := hx
  unfold maxLen at hs
  go_enter Try.func37, Try.ntmps37
  go_wp2_with fail
  go_ret
  exact ⟨rfl, Joins.below_alloc1 _ _⟩

def CntHead (w : World) (f : V → Nat) (l : List V) (t : Nat) (s5 s6 : Value) (wr : World) : Prop :=
  ∃ i N : Nat, i ≤ l.length ∧ s6 = .int .i64 (i : Int) ∧ s5 = .int .i64 (N : Int) ∧ N ≤ 4611686018427387904 ∧ cntL f N (l.drop i) = t ∧ Below w.heap.size w wr

theorem cntL_step {f : V → Nat} {l : List V} {i N t : Nat} (h : i < l.length) (hN : N ≤ 1000) (ht : cntL f N (l.drop i) = t) : cntL f (N + f l[i]) (l.drop (i + 1)) = t := by
  rw [List.drop_eq_getElem_cons h, cntL, if_pos hN] at ht; exact ht
theorem cntL_stop {f : V → Nat} {l : List V} {N t : Nat} (hN : 1000 < N) (ht : cntL f N l = t) : N = t := by
  cases l with
  | nil => exact ht
  | cons x l => rw [cntL, if_neg (by omega)] at ht; exact ht

set_option maxHeartbeats 2000000 in
theorem count_succ (e : Nat) (he1000 : e ≤ 1000) (ih : CountSaid e ((e : Int) - 1)) : CountSaid (e + 1) (e : Int) := by
  intro x v W hx
  have hx2 := Lib.hid hx
  obtain ⟨k, N, s, l, a, cap, fk, fn, fs, fa, fl, fc, hk, hn, hs, hl, hc, he⟩ := hx
  unfold maxLen at hs
  have hd0 : decide ((e : Int) < 0) = false := by simp
  by_cases h150 : 150 < l.length
  · have hd1 : decide ((150 : Int) < (l.length : Int)) = true := by simp; omega
    have HR : Hid (cnt (e + 1) (.mk k N s l) = 1000) := by unfold Hid; rw [cnt, if_pos h150]
    clear h150
    go_enter Try.func37, Try.ntmps37
    go_wp2_with fail
    go_ret
    exact ⟨by rw [HR.out]; rfl, Joins.below_alloc1 _ _⟩
  · have hd1 : decide ((150 : Int) < (l.length : Int)) = false := by simp; omega
    have HR : Hid (cnt (e + 1) (.mk k N s l) = cntL (cnt e) (1 + s.size / 200) l) := by unfold Hid; rw [cnt, if_neg h150]
    have HB : Hid (∀ i (h : i < l.length), cnt e l[i] ≤ 46116860184273881 + 1000 * (e + 1)) := fun i h => cnt_le e (he i h)
    clear h150
    go_enter Try.func37, Try.ntmps37
    go_wp2_with fail
    go_loopw [5, 6] (fun s5 s6 wr => CntHead (W.alloc (.cells #[.int .i64 k, .int .i64 N, .string s, .slice a l.length cap] 24)) (cnt e) l (cnt (e + 1) (.mk k N s l)) s5 s6 wr) (fun _ s6 _ => l.length - (intOf s6).toNat)
    case atStart => exact ⟨0, 1 + s.size / 200, by omega, rfl, by simp, by omega, by rw [HR.out]; rfl, Below.refl _ _⟩
    case round =>
      obtain ⟨i, M, hi, rfl, rfl, hM, ht, hb⟩ := hrel
      have HT := Lib.hid ht
      clear ht
      obtain ⟨t0, t1, t2, t3⟩ := cells4_kept2 hb
      rcases Nat.lt_or_ge i l.length with hlt | hge
      · rcases Nat.lt_or_ge 1000 M with hM2 | hM2
        · have HE := Lib.hid (cntL_stop hM2 HT.out)
          have hd2 : decide ((M : Int) ≤ 1000) = false := by simp; omega
          go_wp2_with fail
          go_ret
          exact ⟨by rw [← HE.out]; rfl, (Joins.below_alloc1 W _).trans (hb.mono (by simp))⟩
        · rcases hc with h0 | ⟨b, off, rfl, hbl, hc⟩
          · omega
          obtain ⟨c0, c1, c2, c3⟩ := elem_cells hb hbl (hc i hlt)
          have HEL := Lib.hid (he i hlt)
          have HS := Lib.hid (cntL_step hlt hM2 HT.out)
          have hcb := HB.out i hlt
          have hd2 : decide ((M : Int) ≤ 1000) = true := by simp; omega
          clear hc he
          go_wp2_with fail
          refine (ih l[i] _ _ (Is.stays HEL.out ((Joins.below_alloc1 W _).trans (hb.mono (by simp))))).mono ?_
          rintro en w1 ⟨rfl, hb3⟩
          go_wp2_with fail
          go_roundw
          case rel => exact ⟨i + 1, M + cnt e l[i], by omega, by simp, by simp, by omega, HS.out, below_next hb hb3⟩
          case measure => simp [intOf]; omega
      · obtain rfl : i = l.length := by omega
        have HE : Hid (M = cnt (e + 1) (.mk k N s l)) := by
          have h := HT.out
          rw [List.drop_length] at h; exact h
        go_wp2_with fail
        go_ret
        exact ⟨by rw [← HE.out]; rfl, (Joins.below_alloc1 W _).trans (hb.mono (by simp))⟩

theorem counts : ∀ e : Nat, e ≤ 1000 → CountSaid e ((e : Int) - 1)
  | 0, _ => count_zero
  | e + 1, h => by
    have e1 : ((e + 1 : Nat) : Int) - 1 = (e : Int) := by omega
    rw [e1]
    exact count_succ e (by omega) (counts e (by omega))

theorem few_one (x : V) (v : Value) (W : World) (h : Is W x v) : Calls Try.prog 25 #[v, .int .i64 20] W fun en w' => en = .returned (.bool (decide (cnt 21 x ≤ 200))) ∧ Below W.heap.size W w' := by
  have HX := Lib.hid h
  obtain ⟨k, N, s, l, a, cap, fk, fn, fs, fa, fl, fc, hk, hn, hs, hl, hc, he⟩ := h
  have hle := cnt_le 21 HX.out
  go_enter Try.func25, Try.ntmps25
  go_wp2_with fail
  refine (counts 21 (by omega) (.mk k N s l) _ _ (Is.stays HX.out (Joins.below_alloc1 W _))).mono ?_
  rintro en w1 ⟨rfl, hb⟩
  have hb1 := below_next (Joins.below_alloc1 W _) hb
  by_cases h200 : cnt 21 (.mk k N s l) ≤ 200
  · have hd : decide (((cnt 21 (.mk k N s l) : Nat) : Int) ≤ 200) = true := by simp; omega
    have HD : Hid (decide (cnt 21 (.mk k N s l) ≤ 200) = true) := by simpa [Hid] using h200
    clear h200
    go_wp2_with fail
    go_ret
    exact ⟨by rw [HD.out]; rfl, hb1⟩
  · have hd : decide (((cnt 21 (.mk k N s l) : Nat) : Int) ≤ 200) = false := by simp; omega
    have HD : Hid (decide (cnt 21 (.mk k N s l) ≤ 200) = false) := by simpa [Hid] using h200
    clear h200
    go_wp2_with fail
    go_ret
    exact ⟨by rw [HD.out]; rfl, hb1⟩

def fewL (l : List V) : Bool := l.all fun x => decide (cnt 21 x ≤ 200)

def FewHead (w : World) (l : List V) (s7 : Value) (wr : World) : Prop := ∃ i : Nat, i ≤ l.length ∧ s7 = .int .i64 (i : Int) ∧ fewL (l.take i) = true ∧ Below w.heap.size w wr

theorem fewL_step {l : List V} {i : Nat} (h : i < l.length) (hf : fewL (l.take i) = true) (hx : cnt 21 l[i] ≤ 200) : fewL (l.take (i + 1)) = true := by
  rw [List.take_succ_eq_append_getElem h]
  unfold fewL at hf ⊢
  rw [List.all_append, hf]
  simpa using hx
theorem fewL_no {l : List V} {i : Nat} (h : i < l.length) (hx : ¬ cnt 21 l[i] ≤ 200) : fewL l = false := by
  cases hf : fewL l with
  | false => rfl
  | true =>
    unfold fewL at hf
    rw [List.all_eq_true] at hf
    have := hf l[i] (List.getElem_mem h)
    simp at this; omega
theorem fewL_mem {l : List V} (h : fewL l = true) : ∀ x ∈ l, cnt 21 x ≤ 200 := by
  intro x hx
  unfold fewL at h
  rw [List.all_eq_true] at h
  simpa using h x hx

set_option maxHeartbeats 1000000 in
theorem few_call (l : List V) (a : Option Addr) (cap : Nat) (W : World) (hx : Is W (.mk 3 0 ⟨#[]⟩ l) (val 3 0 ⟨#[]⟩ a l.length cap)) :
    Calls Try.prog 11 #[.slice a l.length cap] W fun en w' => en = .returned (.bool (fewL l)) ∧ Below W.heap.size W w' := by
  obtain ⟨_, _, _, _, _, _, fk, fn, fs, fa, fl, fc, _, _, _, hl, hc, he⟩ := hx
  go_enter Try.func11, Try.ntmps11
  go_wp2_with fail
  go_loopw [7] (fun s7 wr => FewHead W l s7 wr) (fun s7 _ => l.length - (intOf s7).toNat)
  case atStart => exact ⟨0, by omega, rfl, rfl, Below.refl _ _⟩
  case round =>
    obtain ⟨i, hi, rfl, hf, hb⟩ := hrel
    have HF := Lib.hid hf
    clear hf
    rcases Nat.lt_or_ge i l.length with hlt | hge
    · rcases hc with h0 | ⟨b, off, rfl, hbl, hc⟩
      · omega
      obtain ⟨c0, c1, c2, c3⟩ := elem_cellsB hb hbl (hc i hlt)
      have HEL := Lib.hid (he i hlt)
      clear hc he
      have hb2 : Below W.heap.size W (wr.alloc (.cells #[.int .i64 (fk i), .int .i64 (fn i), .string (fs i), .slice (fa i) (fl i) (fc i)] 24)) := hb.alloc hb.size _
      go_wp2_with fail
      refine (few_one l[i] _ _ (Is.stays HEL.out hb2)).mono ?_
      rintro en w1 ⟨rfl, hb3⟩
      have hb4 := below_next hb2 hb3
      by_cases h200 : cnt 21 l[i] ≤ 200
      · have hd : decide (cnt 21 l[i] ≤ 200) = true := by simpa using h200
        have HS := Lib.hid (fewL_step hlt HF.out h200)
        clear h200
        rw [hd]
        go_wp2_with fail
        go_roundw
        case rel => exact ⟨i + 1, by omega, by simp, HS.out, hb4⟩
        case measure => simp [intOf]; omega
      · have hd : decide (cnt 21 l[i] ≤ 200) = false := by simpa using h200
        have HS := Lib.hid (fewL_no hlt h200)
        clear h200
        rw [hd]
        go_wp2_with fail
        go_ret
        exact ⟨by rw [HS.out]; rfl, hb4⟩
    · obtain rfl : i = l.length := by omega
      have HS : Hid (fewL l = true) := by have h := HF.out; rw [List.take_length] at h; exact h
      go_wp2_with fail
      go_ret
      exact ⟨by rw [HS.out]; rfl, hb⟩
end Go.Proofs.Ytgliddedimpgaaa
