/- The examples that every statement checks first: what the program's functions return for them. -/
import Derived.Defers
import Derived.Recover
import Derived.Laws.Pointers
import Derived.Test.YtbcfmpohempkpaaDoorZc28
import Derived.Test.YtbcfmpohempkpaaDoorZc30
import Derived.Test.YtbcfmpohempkpaaDoorZc27
namespace Go.Proofs.YtbcfmpohempkpaaDoor.Cod
open Go.RowKit

set_option maxRecDepth 100000 in
theorem is_int (w : World) (n : Int) (hn : -9223372036854775808 ≤ n ∧ n ≤ 9223372036854775807) : Is w (.mk 1 n ⟨#[]⟩ []) (val 1 n ⟨#[]⟩ none 0 0) := (sure_int (fun _ => True) w n hn).is
set_option maxRecDepth 100000 in
theorem is_text (w : World) (s : ByteArray) (hs : s.size ≤ maxLen) : Is w (.mk 2 0 s []) (val 2 0 s none 0 0) := (sure_text (fun _ => True) w s hs).is
set_option maxRecDepth 100000 in
/-- string(b) of a buffer -/
theorem conv_buf {w : World} {v : Value} {xs : List UInt8} (h : Buf w v xs) : (convert 22 9 v).run Tryd.prog w = .ok (.string ⟨xs.toArray⟩) w := by
  rcases h.2 with ⟨rfl, h0⟩ | ⟨g, cap, cur, rfl, _, hg, hnc, hcm, hcs, htake⟩
  · obtain rfl : xs = [] := List.eq_nil_of_length_eq_zero h0
    rw [run_convert_bytes_string w 22 9 5 none 0 0 Tryd.underlying22 Tryd.underlying5 Tryd.underlying9]
    simp [Conv.bytesToString]
    rfl
  · refine run_convert_bytes_back w 22 9 5 ⟨g, 0, none⟩ cap xs Tryd.underlying22 Tryd.underlying5 Tryd.underlying9 (fun j hj => ?_)
    have hc := World.ownsRow.cells h (g := g) rfl j (.int .u8 (xs[j].toNat : Int)) (by simp [cellsOf, hj])
    exact hc

set_option maxRecDepth 100000 in
/-- '[]byte(s)' -/
theorem conv_str (W : World) (s : ByteArray) (hs : s.size ≤ maxLen) : ∃ (cap : Nat) (W' : World), (convert 9 22 (.string s)).run Tryd.prog W = .ok (.slice (some ⟨W.heap.size, 0, none⟩) s.data.toList.length cap) W' ∧ Below W.heap.size W W' ∧
    Rest W'.heap.size W' s.data.toList (.slice (some ⟨W.heap.size, 0, none⟩) s.data.toList.length cap) := by
  have hl : s.data.toList.length = s.size := by rw [Array.length_toList]; rfl
  have hr := run_bytes_of_string (P := Tryd.prog) W 9 22 5 s Tryd.underlying9 Tryd.underlying22 Tryd.underlying5
  refine ⟨_, _, by rw [hl]; exact hr, ((Below.refl _ _).drew).alloc (Nat.le_refl _) _, some ⟨W.heap.size, 0, none⟩, _, rfl, by rw [hl]; exact grownCap_ge W s.size 0 5, grownCap_le_maxLen W s.size 0 5 hs, (fun h => by cases h), ?_⟩
  refine .inr ⟨W.heap.size, 0, rfl, by simp, fun i hi => ?_⟩
  rw [show (0 + i) = i by omega]
  have hb : ∀ (C : Array Value) (fr : Nat × Nat), (W.drew.alloc (.cells C 5 fr)).cell? ⟨W.heap.size, i, none⟩ = C[i]? := fun C fr => World.cell?_alloc_mark W.drew C 5 fr i
  rw [hb]
  have hi2 : i < s.data.size := by simpa using hi
  rw [bytesRow, Array.getElem?_append_left (by simpa using hi2)]
  simp
  exact ⟨_, Array.getElem?_eq_getElem hi2, rfl⟩

end Go.Proofs.YtbcfmpohempkpaaDoor.Cod

/- How many parts a value has, up to a limit: what the laws' own bound says, and that what keeps it has a short encoding. -/
namespace Go.Proofs.YtbcfmpohempkpaaDoor.Cod
open Go.RowKit

set_option maxRecDepth 100000 in
theorem cells4_kept2 {w w' : World} {a b c d : Value} {T : TypeId} (h : Below (w.alloc (.cells #[a, b, c, d] T)).heap.size (w.alloc (.cells #[a, b, c, d] T)) w') :
    w'.cell? ⟨w.heap.size, 0, none⟩ = some a ∧ w'.cell? ⟨w.heap.size, 1, none⟩ = some b ∧ w'.cell? ⟨w.heap.size, 2, none⟩ = some c ∧ w'.cell? ⟨w.heap.size, 3, none⟩ = some d := by
  have hb : w'.heap[w.heap.size]? = some (.cells #[a, b, c, d] T) := (h.block w.heap.size (by simp)).trans (heap_alloc_new w _)
  exact ⟨by rw [Joins.cell_of_block hb]; rfl, by rw [Joins.cell_of_block hb]; rfl, by rw [Joins.cell_of_block hb]; rfl, by rw [Joins.cell_of_block hb]; rfl⟩

end Go.Proofs.YtbcfmpohempkpaaDoor.Cod

/- The specification's Formed, Depth and Check: what they return, for every value. -/
namespace Go.Proofs.YtbcfmpohempkpaaDoor.Cod
open Go.RowKit

set_option maxRecDepth 100000 in
theorem reff_1 (n : Int) (s : ByteArray) (a : Option Addr) (len cap : Nat) (w : World) :
    Calls Tryd.prog 57 #[val 1 n s a len cap] w fun e w' => e = .returned (.bool (s.size == 0 && len == 0)) ∧ Below w.heap.size w w' := by
  by_cases hs : s.size = 0
  · obtain rfl := str_nil hs
    clear hs
    by_cases hl : len = 0
    · subst hl
      go_enter Tryd.func57, Tryd.ntmps57
      go_wp2
      go_ret
      exact ⟨rfl, Joins.below_alloc1 _ _⟩
    · have hl' : ((len : Int) == 0) = false := by simp; omega
      have hl2 : (len == 0) = false := by simp; omega
      go_enter Tryd.func57, Tryd.ntmps57
      go_wp2
      go_ret
      exact ⟨by rw [hl2]; rfl, Joins.below_alloc1 _ _⟩
  · obtain ⟨h1, h2⟩ := str_cons hs
    have hs2 : (s.size == 0) = false := by simpa using hs
    clear hs
    go_enter Tryd.func57, Tryd.ntmps57
    go_wp2
    go_ret
    exact ⟨by rw [hs2]; rfl, Joins.below_alloc1 _ _⟩

set_option maxRecDepth 100000 in
theorem reff_2 (n : Int) (s : ByteArray) (a : Option Addr) (len cap : Nat) (w : World) :
    Calls Tryd.prog 57 #[val 2 n s a len cap] w fun e w' => e = .returned (.bool (n == 0 && len == 0)) ∧ Below w.heap.size w w' := by
  by_cases hs : n = 0
  · subst hs
    by_cases hl : len = 0
    · subst hl
      go_enter Tryd.func57, Tryd.ntmps57
      go_wp2
      go_ret
      exact ⟨rfl, Joins.below_alloc1 _ _⟩
    · have hl' : ((len : Int) == 0) = false := by simp; omega
      have hl2 : (len == 0) = false := by simp; omega
      go_enter Tryd.func57, Tryd.ntmps57
      go_wp2
      go_ret
      exact ⟨by rw [hl2]; rfl, Joins.below_alloc1 _ _⟩
  · have h1 : (n == 0) = false := by simpa using hs
    go_enter Tryd.func57, Tryd.ntmps57
    go_wp2
    go_ret
    exact ⟨by rw [h1]; rfl, Joins.below_alloc1 _ _⟩

set_option maxRecDepth 100000 in
theorem reff_else (k : Int) (h1 : ¬ k = 1) (h2 : ¬ k = 2) (h3 : ¬ k = 3) (n : Int) (s : ByteArray) (a : Option Addr) (len cap : Nat) (w : World) :
    Calls Tryd.prog 57 #[val k n s a len cap] w fun e w' => e = .returned (.bool false) ∧ Below w.heap.size w w' := by
  have g1 : (k == 1) = false := by simpa using h1
  have g2 : (k == 2) = false := by simpa using h2
  have g3 : (k == 3) = false := by simpa using h3
  go_enter Tryd.func57, Tryd.ntmps57
  go_wp2
  go_ret
  exact ⟨rfl, Joins.below_alloc1 _ _⟩

set_option maxRecDepth 100000 in
theorem formed_3 (n : Int) (s : ByteArray) (l : List V) : formed (.mk 3 n s l) = ((n == 0 && s.size == 0) && formedL l) := by rw [formed]; simp

set_option maxRecDepth 100000 in
set_option maxHeartbeats 1000000 in
theorem reff_3 (l : List V) (n : Int) (s : ByteArray) (a : Option Addr) (cap : Nat) (w : World) (hx : Is w (.mk 3 n s l) (val 3 n s a l.length cap))
    (ih : Hid (∀ x ∈ l, ∀ v W, Is W x v → Calls Tryd.prog 57 #[v] W fun e w' => e = .returned (.bool (formed x)) ∧ Below W.heap.size W w')) :
    Calls Tryd.prog 57 #[val 3 n s a l.length cap] w fun e w' => e = .returned (.bool (formed (.mk 3 n s l))) ∧ Below w.heap.size w w' := by
  obtain ⟨_, _, _, _, _, _, fk, fn, fs, fa, fl, fc, hk, hn, hs, hl, hc, he⟩ := hx
  go_enter Tryd.func57, Tryd.ntmps57
  go_wp2_with fail
  go_loopw [3] (fun s3 wr => ListHead (w.alloc (.cells #[.int .i64 3, .int .i64 n, .string s, .slice a l.length cap] 41)) l s3 wr) (fun s3 _ => l.length - (intOf s3).toNat)
  case atStart => exact ⟨0, by omega, rfl, rfl, Below.refl _ _⟩
  case round =>
    obtain ⟨i, hi, rfl, hf, hb⟩ := hrel
    have HF := Lib.hid hf
    clear hf
    obtain ⟨t0, t1, t2, t3⟩ := cells4_kept2 hb
    rcases Nat.lt_or_ge i l.length with hlt | hge
    · rcases hc with h0 | ⟨b, off, rfl, hbl, hc⟩
      · omega
      obtain ⟨c0, c1, c2, c3⟩ := elem_cells hb hbl (hc i hlt)
      clear hc
      have H := Lib.hid (he i hlt)
      clear he
      have hb2 := Lib.hid ((Joins.below_alloc1 w _).trans (hb.mono (by simp)))
      go_wp2_with fail
      refine (ih.out l[i] (List.getElem_mem hlt) _ _ (Is.stays H.out hb2.out)).mono ?_
      rintro e w1 ⟨rfl, hb3⟩
      have hb4 := below_next hb2.out hb3
      cases hfx : formed l[i] with
      | true =>
        have HR := Lib.hid (formedL_step hlt HF.out hfx)
        clear hfx
        go_wp2_with fail
        go_roundw
        case rel => exact ⟨i + 1, by omega, by simp, HR.out, below_next hb hb3⟩
        case measure => simp [intOf]; omega
      | false =>
        have HR : Hid (formed (.mk 3 n s l) = false) := by unfold Hid; rw [formed_3, formedL_no hlt hfx]; simp
        clear hfx
        go_wp2_with fail
        go_ret
        exact ⟨by rw [HR.out]; rfl, hb4⟩
    · obtain rfl : i = l.length := by omega
      have HR : Hid (formedL l = true) := by have h := HF.out; rw [List.take_length] at h; exact h
      have HB := Lib.hid ((Joins.below_alloc1 w _).trans (hb.mono (by simp)))
      by_cases hn0 : n = 0
      · subst hn0
        by_cases hs0 : s.size = 0
        · obtain rfl := str_nil hs0
          clear hs0
          have HE : Hid (formed (.mk 3 0 ⟨#[]⟩ l) = true) := by unfold Hid; rw [formed_3, HR.out]; rfl
          go_wp2_with fail
          go_ret
          exact ⟨by rw [HE.out]; rfl, HB.out⟩
        · obtain ⟨h1, h2⟩ := str_cons hs0
          have HE : Hid (formed (.mk 3 0 s l) = false) := by
            have hs2 : (s.size == 0) = false := by simpa using hs0
            unfold Hid; rw [formed_3, hs2]; simp
          clear hs0
          go_wp2_with fail
          go_ret
          exact ⟨by rw [HE.out]; rfl, HB.out⟩
      · have h1 : (n == 0) = false := by simpa using hn0
        have HE : Hid (formed (.mk 3 n s l) = false) := by unfold Hid; rw [formed_3, h1]; simp
        clear hn0
        go_wp2_with fail
        go_ret
        exact ⟨by rw [HE.out]; rfl, HB.out⟩

set_option maxRecDepth 100000 in
theorem refformed_call (x : V) : ∀ v W, Is W x v → Calls Tryd.prog 57 #[v] W fun e w' => e = .returned (.bool (formed x)) ∧ Below W.heap.size W w' := by
  refine V.ind (P := fun x => ∀ v W, Is W x v → Calls Tryd.prog 57 #[v] W fun e w' => e = .returned (.bool (formed x)) ∧ Below W.heap.size W w') ?_ x
  intro k n s l ih v W hx
  have hx2 := hx
  obtain ⟨_, _, _, _, a, cap, _, _, _, _, _, _, _, _, _, _, _, _⟩ := hx
  by_cases h1 : k = 1
  · subst h1
    refine (reff_1 n s a _ cap W).mono fun e w' ⟨h, hb⟩ => ⟨h.trans (retB ?_), hb⟩
    rw [formed]; simp
  by_cases h2 : k = 2
  · subst h2
    refine (reff_2 n s a _ cap W).mono fun e w' ⟨h, hb⟩ => ⟨h.trans (retB ?_), hb⟩
    rw [formed]; simp
  by_cases h3 : k = 3
  · subst h3
    exact reff_3 l n s a cap W hx2 (Lib.hid ih)
  · refine (reff_else k h1 h2 h3 n s a _ cap W).mono fun e w' ⟨h, hb⟩ => ⟨h.trans (retB ?_), hb⟩
    have e1 : (k == 1) = false := by simpa using h1
    have e2 : (k == 2) = false := by simpa using h2
    have e3 : (k == 3) = false := by simpa using h3
    rw [formed, e1, e2, e3]; rfl

set_option maxRecDepth 100000 in
theorem depth_not {k : Int} (hk : ¬ k = 3) (n : Int) (s : ByteArray) (l : List V) : depth (.mk k n s l) = 0 := by rw [depth, if_neg hk]
set_option maxRecDepth 100000 in
theorem depth_3 (n : Int) (s : ByteArray) (l : List V) : depth (.mk 3 n s l) = depthL l + 1 := by rw [depth, if_pos rfl]

set_option maxRecDepth 100000 in
theorem refd_else (k : Int) (h3 : ¬ k = 3) (n : Int) (s : ByteArray) (a : Option Addr) (len cap : Nat) (w : World) :
    Calls Tryd.prog 58 #[val k n s a len cap] w fun e w' => e = .returned (.int .i64 0) ∧ Below w.heap.size w w' := by
  have g3 : (k != 3) = true := by simpa using h3
  go_enter Tryd.func58, Tryd.ntmps58
  go_wp2
  go_ret
  exact ⟨rfl, Joins.below_alloc1 _ _⟩

set_option maxRecDepth 100000 in
theorem depthL_append : ∀ a b : List V, depthL (a ++ b) = max (depthL a) (depthL b)
  | [], b => by simp [depthL]
  | x :: a, b => by rw [List.cons_append, depthL, depthL, depthL_append a b]; omega
set_option maxRecDepth 100000 in
theorem depthL_take (l : List V) (i : Nat) (h : i < l.length) : depthL (l.take (i + 1)) = max (depthL (l.take i)) (depth l[i]) := by
  rw [List.take_succ_eq_append_getElem h, depthL_append]; simp [depthL]
set_option maxRecDepth 100000 in
theorem depth_mem {l : List V} {i : Nat} (h : i < l.length) : depth l[i] ≤ depthL l := (depthL_le l (depthL l)).1 (Nat.le_refl _) _ (List.getElem_mem h)
set_option maxRecDepth 100000 in
theorem depthL_takele (l : List V) (i : Nat) : depthL (l.take i) ≤ depthL l := by
  have e : depthL l = max (depthL (l.take i)) (depthL (l.drop i)) := by rw [← depthL_append, List.take_append_drop]
  omega

def DepHead (w : World) (l : List V) (s3 s4 : Value) (wr : World) : Prop := ∃ i : Nat, i ≤ l.length ∧ s4 = .int .i64 (i : Int) ∧ s3 = .int .i64 ((depthL (l.take i) : Nat) : Int) ∧ Below w.heap.size w wr

set_option maxRecDepth 100000 in
set_option maxHeartbeats 1000000 in
theorem refd_3 (l : List V) (n : Int) (s : ByteArray) (a : Option Addr) (cap : Nat) (w : World) (hx : Is w (.mk 3 n s l) (val 3 n s a l.length cap)) (hd : depthL l ≤ 1000)
    (ih : Hid (∀ x ∈ l, depth x ≤ 1000 → ∀ v W, Is W x v → Calls Tryd.prog 58 #[v] W fun e w' => e = .returned (.int .i64 ((depth x : Nat) : Int)) ∧ Below W.heap.size W w')) :
    Calls Tryd.prog 58 #[val 3 n s a l.length cap] w fun e w' => e = .returned (.int .i64 ((depthL l + 1 : Nat) : Int)) ∧ Below w.heap.size w w' := by
  obtain ⟨_, _, _, _, _, _, fk, fn, fs, fa, fl, fc, hk, hn, hs, hl, hc, he⟩ := hx
  go_enter Tryd.func58, Tryd.ntmps58
  go_wp2_with fail
  go_loopw [3, 4] (fun s3 s4 wr => DepHead (w.alloc (.cells #[.int .i64 3, .int .i64 n, .string s, .slice a l.length cap] 41)) l s3 s4 wr) (fun _ s4 _ => l.length - (intOf s4).toNat)
  case atStart => exact ⟨0, by omega, rfl, rfl, Below.refl _ _⟩
  case round =>
    obtain ⟨i, hi, rfl, rfl, hb⟩ := hrel
    obtain ⟨t0, t1, t2, t3⟩ := cells4_kept2 hb
    have hdt := depthL_takele l i
    rcases Nat.lt_or_ge i l.length with hlt | hge
    · rcases hc with h0 | ⟨b, off, rfl, hbl, hc⟩
      · omega
      obtain ⟨c0, c1, c2, c3⟩ := elem_cells hb hbl (hc i hlt)
      clear hc
      have H := Lib.hid (he i hlt)
      clear he
      have hdi := depth_mem hlt
      have HT := Lib.hid (depthL_take l i hlt)
      have hb2 := Lib.hid ((Joins.below_alloc1 w _).trans (hb.mono (by simp)))
      go_wp2_with fail
      refine (ih.out l[i] (List.getElem_mem hlt) (by omega) _ _ (Is.stays H.out hb2.out)).mono ?_
      rintro e w1 ⟨rfl, hb3⟩
      go_wp2_with fail
      go_roundw
      case rel => exact ⟨i + 1, by omega, by simp, by rw [HT.out]; congr 1; omega, below_next hb hb3⟩
      case measure => simp [intOf]; omega
    · obtain rfl : i = l.length := by omega
      have HB := Lib.hid ((Joins.below_alloc1 w _).trans (hb.mono (by simp)))
      rw [List.take_length] at hdt ⊢
      go_wp2_with fail
      go_ret
      exact ⟨ret_i64 (by omega), HB.out⟩

set_option maxRecDepth 100000 in
theorem refdepth_call (x : V) : depth x ≤ 1000 → ∀ v W, Is W x v → Calls Tryd.prog 58 #[v] W fun e w' => e = .returned (.int .i64 ((depth x : Nat) : Int)) ∧ Below W.heap.size W w' := by
  refine V.ind (P := fun x => depth x ≤ 1000 → ∀ v W, Is W x v → Calls Tryd.prog 58 #[v] W fun e w' => e = .returned (.int .i64 ((depth x : Nat) : Int)) ∧ Below W.heap.size W w') ?_ x
  intro k n s l ih hd v W hx
  have hx2 := hx
  obtain ⟨_, _, _, _, a, cap, _, _, _, _, _, _, _, _, _, _, _, _⟩ := hx
  by_cases h3 : k = 3
  · subst h3
    rw [depth_3] at hd
    rw [depth_3]
    exact refd_3 l n s a cap W hx2 (by omega) (Lib.hid ih)
  · refine (refd_else k h3 n s a _ cap W).mono fun e w' ⟨h, hb⟩ => ⟨h.trans ?_, hb⟩
    rw [depth_not h3]; rfl

set_option maxRecDepth 100000 in
set_option maxHeartbeats 1000000 in
theorem refcheck_call (x : V) (hd : depth x ≤ 1000) (v : Value) (W : World) (hx : Is W x v) : Calls Tryd.prog 44 #[v] W fun e w' => e = .returned (.int .i64 (code x)) ∧ Below W.heap.size W w' := by
  have HX := Lib.hid hx
  obtain ⟨k, N, s, l, a, cap, _, _, _, _, _, _, _, _, _, _, _, _⟩ := hx
  go_enter Tryd.func44, Tryd.ntmps44
  go_wp2_with fail
  refine (refformed_call (.mk k N s l) _ _ (Is.stays HX.out (Joins.below_alloc1 W _))).mono ?_
  rintro e w1 ⟨rfl, hb⟩
  have hb1 := Lib.hid (below_next (Joins.below_alloc1 W _) hb)
  obtain ⟨t0, t1, t2, t3⟩ := cells4_kept2 hb
  clear hb
  cases hf : formed (.mk k N s l) with
  | false =>
    have HC : Hid (code (.mk k N s l) = 1) := by unfold Hid code; rw [hf]; rfl
    clear hf
    go_wp2_with fail
    go_ret
    exact ⟨by rw [HC.out]; rfl, hb1.out⟩
  | true =>
    go_wp2_with fail
    refine (refdepth_call (.mk k N s l) hd _ _ (Is.stays HX.out hb1.out)).mono ?_
    rintro e w2 ⟨rfl, hb2⟩
    have hb3 := Lib.hid (below_next hb1.out hb2)
    clear hb2
    by_cases h16 : 16 < depth (.mk k N s l)
    · have hd1 : decide ((16 : Int) < ((depth (.mk k N s l) : Nat) : Int)) = true := by simp; omega
      have HC : Hid (code (.mk k N s l) = 2) := by unfold Hid code; rw [hf, if_pos rfl, if_pos h16]
      clear hf h16
      go_wp2_with fail
      go_ret
      exact ⟨by rw [HC.out]; rfl, hb3.out⟩
    · have hd1 : decide ((16 : Int) < ((depth (.mk k N s l) : Nat) : Int)) = false := by simp; omega
      have HC : Hid (code (.mk k N s l) = 0) := by unfold Hid code; rw [hf, if_pos rfl, if_neg h16]
      clear hf h16
      go_wp2_with fail
      go_ret
      exact ⟨by rw [HC.out]; rfl, hb3.out⟩

end Go.Proofs.YtbcfmpohempkpaaDoor.Cod

/- The specification's encode: what it returns, for every well-formed value that is not large. -/
namespace Go.Proofs.YtbcfmpohempkpaaDoor.Cod
open Go.RowKit

set_option maxRecDepth 100000 in
theorem refunsigned_call (n : Int) (w : World) (h0 : -9223372036854775808 ≤ n) (h1 : n ≤ 9223372036854775807) :
    Calls Tryd.prog 60 #[.int .i64 n] w fun e w' => e = .returned (.int .u64 (uns n)) ∧ w' = w := by
  by_cases h : 0 ≤ n
  · have hd : decide (0 ≤ n) = true := by simpa using h
    go_enter Tryd.func60, Tryd.ntmps60
    go_wp2
    go_ret
    refine ⟨ret_u64 ?_, rfl⟩
    unfold uns
    rw [if_pos (by omega)]
    first | omega | (simp only [IntKind.wrap_u64]; omega)
  · have hd : decide (0 ≤ n) = false := by simpa using h
    go_enter Tryd.func60, Tryd.ntmps60
    go_wp2
    go_ret
    refine ⟨ret_u64 ?_, rfl⟩
    unfold uns
    rw [if_neg (by omega)]
    first | omega | (simp only [IntKind.wrap_u64, wrap64]; omega)

/-- a new row of one's own -/
def Fresh (w w' : World) (xs : List UInt8) (e : Ending) : Prop := ∃ v, e = .returned v ∧ Buf w' v xs ∧ (∀ k, v.ownBlock = some k → w.heap.size ≤ k) ∧ Below w.heap.size w w'

set_option maxRecDepth 100000 in
theorem own_new1 (w : World) (x : Value) : (w.alloc (.cells #[x] 5)).ownsRow 0 5 1 (.slice (some ⟨w.heap.size, 0, none⟩) 1 1) 1 [x] :=
  ⟨rfl, .inr ⟨w.heap.size, 1, #[x], rfl, Nat.zero_le _, heap_alloc_new w _, Nat.le_refl _, by simp [maxLen], rfl, rfl⟩⟩

set_option maxRecDepth 100000 in
theorem buf_cons {w : World} {v : Value} {n m : Nat} {x : Int} {ys : List UInt8} (hn : n < 256) (hx : x = (n : Int)) (hm : m = 1 + ys.length) (h : w.ownsRow 0 5 1 v m ([.int .u8 x] ++ cellsOf ys)) : Buf w v (UInt8.ofNat n :: ys) := by
  subst hx hm
  have e : cellsOf (UInt8.ofNat n :: ys) = [.int .u8 (n : Int)] ++ cellsOf ys := by
    simp only [cellsOf, List.map_cons, byte_nat n hn]; rfl
  unfold Buf
  rw [e, List.length_cons, Nat.add_comm]; exact h

set_option maxRecDepth 100000 in
theorem own_at {g c n : Nat} {B : Nat} (h : B ≤ g) : ∀ k, (Value.slice (some ⟨g, 0, none⟩) n c).ownBlock = some k → B ≤ k := fun k hk => by simp [Value.ownBlock] at hk; omega

set_option maxRecDepth 100000 in
set_option maxHeartbeats 1000000 in
theorem refnumeral_call (u : Nat) : ∀ (z : Int) (w : World), z = (u : Int) → u ≤ 18446744073709551615 → Calls Tryd.prog 59 #[.int .u64 z] w fun e w' => Fresh w w' (digits u) e := by
  induction u using Nat.strongRecOn with
  | ind u ih =>
    intro z w hz h1
    subst hz
    obtain ⟨i5, hi5, hz50, hz51, hz52⟩ := info_parts Tryd.info5
    by_cases hlt : u < 128
    · have hd : decide ((u : Int) < 128) = true := by simp; omega
      have HD := Lib.hid (digits_lo u hlt)
      go_enter Tryd.func59, Tryd.ntmps59
      go_wp2_with fail
      go_ret
      refine ⟨_, rfl, ?_, own_at (Nat.le_refl _), Joins.below_alloc1 w _⟩
      rw [HD.out]
      exact buf_cons (ys := []) (by omega) (by omega) (by simp) (own_new1 w _)
    · have hd : decide ((u : Int) < 128) = false := by simp; omega
      have HD := Lib.hid (digits_hi u (by omega))
      have hlen : (digits (u / 128)).length ≤ 10 := by rw [digits_len]; exact num_len _ (by omega)
      have hpos : 0 < (digits (u / 128)).length := by rw [digits_len]; have := num_pos (u / 128); omega
      go_enter Tryd.func59, Tryd.ntmps59
      go_wp2_with fail
      refine (ih (u / 128) (by omega) _ _ (by omega) (by omega)).mono ?_
      rintro e w1 ⟨v1, rfl, hB, hlo, hb⟩
      obtain ⟨g, c, rfl⟩ := Joins.ownsRow_form hB hpos
      have HB := Lib.hid hB
      have HW := Lib.hid hb
      clear hB hlo hb
      go_wp2_with (at_builtin; refine wpList_append_mine _ rfl (.tmp 12) (.tmp 15) 22 rfl 5 i5 (.int .u8 0) 1 1 Tryd.underlying22 hi5 hz50 hz51 hz52 rfl (by decide) _ _ _ rfl (owns_below (own_new1 w _) HW.out) ⟨g, 0, none⟩ (digits (u / 128)).length c (cellsOf (digits (u / 128))) rfl ?c1 ?c2 ?c3 ?c4 ?c5 ?_)
      case c1 => simp [cellsOf_len]
      case c2 => exact fun j x hx => World.ownsRow.cells HB.out (g := g) rfl j x hx
      case c3 => intro x hx; unfold cellsOf at hx; rw [List.mem_map] at hx; obtain ⟨c, _, rfl⟩ := hx; rfl
      case c4 => simp [maxLen]; omega
      case c5 => omega
      intro v2 w2 ho2 hw2
      have hs : w.heap.size ≤ w1.heap.size := by have := HW.out.size; simp at this; omega
      go_wp2_with fail
      go_ret
      refine ⟨_, rfl, ?_, wrote_own hw2 hs (own_at (Nat.le_refl _)), (below_next (Joins.below_alloc1 w _) HW.out).trans (hw2.toBelow hs (own_at (Nat.le_refl _)))⟩
      rw [HD.out]
      exact buf_cons (by omega) (by omega) rfl ho2

set_option maxRecDepth 100000 in
theorem fresh_app {w w1 w2 : World} {v v2 : Value} {xs ys zs : List UInt8} {n : Nat} {e : Ending} (he : e = .returned v2) (hzs : zs = xs ++ ys) (hn : n = xs.length + ys.length) (ho : w2.ownsRow 0 5 1 v2 n (cellsOf xs ++ cellsOf ys)) (hb : Below w.heap.size w w1) (hw : Wrote w1 w2 v v2) (hv : ∀ k, v.ownBlock = some k → w.heap.size ≤ k) : Fresh w w2 zs e := by
  subst hzs hn
  refine ⟨v2, he, ?_, wrote_own hw hb.size hv, hb.trans (hw.toBelow hb.size hv)⟩
  unfold Buf
  rw [List.length_append, cellsOf_append]; exact ho

set_option maxRecDepth 100000 in
theorem own_new2 (w : World) (x : Value) (g : Nat) (hg : g = w.heap.size) : (w.alloc (.cells #[x] 5)).ownsRow 0 5 1 (.slice (some ⟨g, 0, none⟩) 1 1) 1 [x] := hg ▸ own_new1 w x
set_option maxRecDepth 100000 in
theorem own_ne1 {n c m N : Nat} (h : N < n) : some N ≠ Value.ownBlock (.slice (some ⟨n, 0, none⟩) m c) := by
  intro hk; simp [Value.ownBlock] at hk; omega

set_option maxRecDepth 100000 in
theorem owns1 (w : World) (o : Obj) (x : Value) : ((w.alloc o).alloc (.cells #[x] 5)).ownsRow 0 5 1 (.slice (some ⟨w.heap.size + 1, 0, none⟩) 1 1) 1 [x] := by
  have := own_new1 (w.alloc o) x
  simpa using this

set_option maxRecDepth 100000 in
theorem buf_cells3 {w : World} {g n c : Nat} {xs : List UInt8} (h : Buf w (.slice (some ⟨g, 0, none⟩) n c) xs) : ∀ j u, (cellsOf xs)[j]? = some u → w.cell? ((⟨g, 0, none⟩ : Addr).add j) = some u :=
  fun j u hu => World.ownsRow.cells h (g := g) rfl j u hu

set_option maxRecDepth 100000 in
theorem cells_one3 (xs : List UInt8) : ∀ u ∈ cellsOf xs, u.oneCell' = true := by
  intro u hu
  unfold cellsOf at hu
  rw [List.mem_map] at hu
  obtain ⟨c, _, rfl⟩ := hu
  rfl

def RefEncSaid (x : V) : Prop := ∀ (v : Value) (w : World), Is w x v → formed x = true → (enc x).length ≤ 1000000 → Calls Tryd.prog 45 #[v] w fun e w' => Fresh w w' (enc x) e

set_option maxRecDepth 100000 in
set_option maxHeartbeats 1000000 in
theorem refenc_1 (n : Int) (hn : -9223372036854775808 ≤ n ∧ n ≤ 9223372036854775807) (a : Option Addr) (cap : Nat) (w : World) :
    Calls Tryd.prog 45 #[val 1 n ⟨#[]⟩ a 0 cap] w fun e w' => Fresh w w' (enc (.mk 1 n ⟨#[]⟩ [])) e := by
  obtain ⟨i5, hi5, hz50, hz51, hz52⟩ := info_parts Tryd.info5
  have hu := uns_lt n hn.1 hn.2
  have hlen : (digits (uns n)).length ≤ 10 := by rw [digits_len]; exact num_len _ hu
  have hpos : 0 < (digits (uns n)).length := by rw [digits_len]; have := num_pos (uns n); omega
  go_enter Tryd.func45, Tryd.ntmps45
  go_wp2_with (first | (go_at_call 60; refine (refunsigned_call n _ hn.1 hn.2).mono ?_; rintro e w' ⟨rfl, rfl⟩))
  refine (refnumeral_call (uns n) _ _ rfl (by omega)).mono ?_
  rintro e w1 ⟨v1, rfl, hB, hlo, hb⟩
  obtain ⟨g, c, rfl⟩ := Joins.ownsRow_form hB hpos
  have HB := Lib.hid hB
  have HW := Lib.hid hb
  clear hB hlo hb
  go_wp2_with (at_builtin; refine wpList_append_mine _ rfl (.tmp 9) (.tmp 13) 22 rfl 5 i5 (.int .u8 0) 1 1 Tryd.underlying22 hi5 hz50 hz51 hz52 rfl (by decide) _ _ _ rfl (owns_below (owns1 w _ _) HW.out) ⟨g, 0, none⟩ (digits (uns n)).length c (cellsOf (digits (uns n))) rfl ?c1 ?c2 ?c3 ?c4 ?c5 ?_)
  case c1 => simp [cellsOf_len]
  case c2 => exact buf_cells3 HB.out
  case c3 => exact cells_one3 _
  case c4 => simp [maxLen]; omega
  case c5 => omega
  intro v2 w2 ho2 hw2
  go_wp2_with fail
  go_ret
  exact fresh_app (xs := [1]) rfl (by rw [enc_1]; rfl) (by simp) ho2 (below_next (Joins.below_alloc2 w _ _) HW.out) hw2 (own_at (Nat.le_succ _))

def REHead (w : World) (l : List V) (s3 s4 : Value) (wr : World) : Prop := ∃ i : Nat, i ≤ l.length ∧ s4 = .int .i64 (i : Int) ∧ Buf wr s3 (3 :: (digits l.length ++ encL (l.take i))) ∧ (∀ k, s3.ownBlock = some k → w.heap.size ≤ k) ∧ Below w.heap.size w wr

set_option maxRecDepth 100000 in
theorem buf_join {w : World} {v : Value} {xs ys zs : List UInt8} {n : Nat} (hz : zs = xs ++ ys) (hn : n = xs.length + ys.length) (ho : w.ownsRow 0 5 1 v n (cellsOf xs ++ cellsOf ys)) : Buf w v zs := by
  subst hz hn
  unfold Buf
  rw [List.length_append, cellsOf_append]; exact ho

set_option maxRecDepth 100000 in
set_option maxHeartbeats 2000000 in
theorem refenc_3 (l : List V) (a : Option Addr) (cap : Nat) (w : World) (hx : Is w (.mk 3 0 ⟨#[]⟩ l) (val 3 0 ⟨#[]⟩ a l.length cap)) (hf : ∀ x ∈ l, formed x = true) (hlen : (enc (.mk 3 0 ⟨#[]⟩ l)).length ≤ 1000000) (ih : Hid (∀ x ∈ l, RefEncSaid x)) :
    Calls Tryd.prog 45 #[val 3 0 ⟨#[]⟩ a l.length cap] w fun e w' => Fresh w w' (enc (.mk 3 0 ⟨#[]⟩ l)) e := by
  obtain ⟨_, _, _, _, _, _, fk, fn, fs, fa, fl, fc, hk, hn, hs, hl, hc, he⟩ := hx
  obtain ⟨i5, hi5, hz50, hz51, hz52⟩ := info_parts Tryd.info5
  have hle : (enc (.mk 3 0 ⟨#[]⟩ l)).length = 1 + (digits l.length).length + (encL l).length := by rw [enc_3, List.length_cons, List.length_append]; omega
  rw [hle] at hlen
  have hll := encL_len l
  have HT : Hid ((encL l).length ≤ 1000000) := by unfold Hid; omega
  have hdlen : (digits l.length).length ≤ 10 := by rw [digits_len]; exact num_len _ (by omega)
  have hpos : 0 < (digits l.length).length := by rw [digits_len]; have := num_pos l.length; omega
  have hwr : IntKind.u64.wrap ((l.length : Nat) : Int) = ((l.length : Nat) : Int) := by rw [IntKind.wrap_u64]; omega
  have HF := Lib.hid hf
  have HE := Lib.hid he
  clear hf he hlen hle
  go_enter Tryd.func45, Tryd.ntmps45
  go_wp2_with fail
  refine (refnumeral_call l.length _ _ rfl (by omega)).mono ?_
  rintro e w1 ⟨v1, rfl, hB, hlo, hb⟩
  obtain ⟨g, c, rfl⟩ := Joins.ownsRow_form hB hpos
  have HB := Lib.hid hB
  have HW := Lib.hid hb
  clear hB hlo hb
  go_wp2_with (at_builtin; refine wpList_append_mine _ rfl (.tmp 27) (.tmp 32) 22 rfl 5 i5 (.int .u8 0) 1 1 Tryd.underlying22 hi5 hz50 hz51 hz52 rfl (by decide) _ _ _ rfl (owns_below (owns1 w _ _) HW.out) ⟨g, 0, none⟩ (digits l.length).length c (cellsOf (digits l.length)) rfl ?c1 ?c2 ?c3 ?c4 ?c5 ?_)
  case c1 => simp [cellsOf_len]
  case c2 => exact buf_cells3 HB.out
  case c3 => exact cells_one3 _
  case c4 => simp [maxLen]; omega
  case c5 => omega
  intro v2 w2 ho2 hw2
  have hs1 : w.heap.size + 2 ≤ w1.heap.size := by have := HW.out.size; simp at this; omega
  have HLO2 : Hid (∀ k, v2.ownBlock = some k → (w.alloc (.cells #[.int .i64 3, .int .i64 0, .string ⟨#[]⟩, .slice a l.length cap] 41)).heap.size ≤ k) := by simpa [Hid] using wrote_own (B := w.heap.size + 1) hw2 (by omega) (own_at (Nat.le_refl _))
  have HA1 : Hid (Below (w.alloc (.cells #[.int .i64 3, .int .i64 0, .string ⟨#[]⟩, .slice a l.length cap] 41)).heap.size (w.alloc (.cells #[.int .i64 3, .int .i64 0, .string ⟨#[]⟩, .slice a l.length cap] 41)) w2) :=
    (((Below.refl _ _).alloc (by simp) _).trans (HW.out.mono (by simp))).trans (hw2.toBelow (by simp; omega) (own_at (by simp)))
  have HB2 : Hid (Buf w2 v2 (3 :: (digits l.length ++ encL (l.take 0)))) := by
    unfold Hid
    rw [List.take_zero, encL, List.append_nil]
    exact buf_cons (n := 3) (by omega) rfl rfl ho2
  clear ho2 hw2
  go_wp2_with fail
  go_loopw [3, 4] (fun s3 s4 wr => REHead (w.alloc (.cells #[.int .i64 3, .int .i64 0, .string ⟨#[]⟩, .slice a l.length cap] 41)) l s3 s4 wr) (fun _ s4 _ => l.length - (intOf s4).toNat)
  case atStart => exact ⟨0, by omega, rfl, HB2.out, HLO2.out, HA1.out⟩
  case round =>
    obtain ⟨i, hi, rfl, hbuf, hlo, hb⟩ := hrel
    obtain ⟨t0, t1, t2, t3⟩ := cells4_kept2 hb
    have HBUF := Lib.hid hbuf
    have HLO := Lib.hid hlo
    have HBL := Lib.hid hb
    have HWr := Lib.hid ((Joins.below_alloc1 w _).trans (hb.mono (by simp)))
    clear hbuf hlo
    rcases Nat.lt_or_ge i l.length with hlt | hge
    · rcases hc with h0 | ⟨b, off, rfl, hbl, hc⟩
      · omega
      obtain ⟨c0, c1, c2, c3⟩ := elem_cells hb hbl (hc i hlt)
      clear hc hb
      have hT := HT.out
      have hlei := encL_le l i hlt
      go_wp2_with fail
      refine (ih.out l[i] (List.getElem_mem hlt) _ _ (Is.stays (HE.out i hlt) HWr.out) (HF.out _ (List.getElem_mem hlt)) (by omega)).mono ?_
      rintro e w3 ⟨v3, rfl, hB3, hlo3, hb3⟩
      obtain ⟨g3, q3, rfl⟩ := Joins.ownsRow_form hB3 (enc_pos _)
      have HB3 := Lib.hid hB3
      have HW3 := Lib.hid hb3
      clear hB3 hlo3 hb3
      go_wp2_with (at_builtin; refine wpList_append_mine _ rfl (.tmp 41) (.tmp 47) 22 rfl 5 i5 (.int .u8 0) 1 1 Tryd.underlying22 hi5 hz50 hz51 hz52 rfl (by decide) _ _ _ rfl (buf_stays HBUF.out HW3.out) ⟨g3, 0, none⟩ (enc l[i]).length q3 (cellsOf (enc l[i])) rfl ?d1 ?d2 ?d3 ?d4 ?d5 ?_)
      case d1 => simp [cellsOf_len]
      case d2 => exact buf_cells3 HB3.out
      case d3 => exact cells_one3 _
      case d4 => simp [maxLen]; omega
      case d5 => simp; omega
      intro v4 w4 ho4 hw4
      have hs3 := Nat.le_trans HBL.out.size HW3.out.size
      have HB4 : Hid (Buf w4 v4 (3 :: (digits l.length ++ encL (l.take (i + 1))))) := buf_join (xs := 3 :: (digits l.length ++ encL (l.take i))) (ys := enc l[i]) (by rw [encL_take l i hlt]; simp) (by simp) ho4
      have HLO4 := Lib.hid (wrote_own hw4 hs3 HLO.out)
      have HBL4 := Lib.hid ((below_next HBL.out HW3.out).trans (hw4.toBelow hs3 HLO.out))
      clear ho4 hw4
      go_wp2_with fail
      go_roundw
      case rel => exact ⟨i + 1, by omega, by simp, HB4.out, HLO4.out, HBL4.out⟩
      case measure => simp [intOf]; omega
    · obtain rfl : i = l.length := by omega
      go_wp2_with fail
      go_ret
      refine ⟨_, rfl, ?_, fun k hk => by have := HLO.out k hk; simp at this; omega, HWr.out⟩
      have h := HBUF.out
      rw [List.take_length] at h
      rw [enc_3]; exact h

set_option maxRecDepth 100000 in
theorem own_ne_of {v : Value} {N : Nat} (h : ∀ k, v.ownBlock = some k → N + 1 ≤ k) : some N ≠ v.ownBlock := fun e => by have := h N e.symm; omega

set_option maxRecDepth 100000 in
set_option maxHeartbeats 4000000 in
theorem refenc_2 (s : ByteArray) (hs : s.size ≤ 1000000) (a : Option Addr) (cap : Nat) (w : World) :
    Calls Tryd.prog 45 #[val 2 0 s a 0 cap] w fun e w' => Fresh w w' (enc (.mk 2 0 s [])) e := by
  obtain ⟨i5, hi5, hz50, hz51, hz52⟩ := info_parts Tryd.info5
  have hdlen : (digits s.size).length ≤ 10 := by rw [digits_len]; exact num_len _ (by omega)
  have hpos : 0 < (digits s.size).length := by rw [digits_len]; have := num_pos s.size; omega
  have hwr : IntKind.u64.wrap ((s.size : Nat) : Int) = ((s.size : Nat) : Int) := by rw [IntKind.wrap_u64]; omega
  go_enter Tryd.func45, Tryd.ntmps45
  go_wp2_with fail
  go_region_held3 (fun w' => w'.cell? ⟨w.heap.size, 0, none⟩ = some (.int .i64 2) ∧ w'.cell? ⟨w.heap.size, 1, none⟩ = some (.int .i64 0) ∧ w'.cell? ⟨w.heap.size, 2, none⟩ = some (.string s) ∧ w'.cell? ⟨w.heap.size, 3, none⟩ = some (.slice a 0 cap))
    (first | go_keep | (exact wrote4 hw3 (by assumption) (own_ne_of hlo2)) | (exact wrote4 hw2 (by assumption) hne) | (exact keep4 hb1 (by assumption)))
    (first | (go_at_call 59; refine (refnumeral_call s.size _ _ rfl (by omega)).mono ?_; rintro e w1 ⟨v1, rfl, hB1, hlo1, hb1⟩; obtain ⟨g1, q1, rfl⟩ := Joins.ownsRow_form hB1 hpos; have hsz1 := hb1.size)
           | (refine step_append_mine _ rfl _ _ 22 rfl 5 i5 _ 1 1 Tryd.underlying22 hi5 hz50 hz51 hz52 rfl Nat.one_pos _ 1 [.int .u8 2] rfl (owns_below (own_new2 ((w.alloc (.cells #[.int .i64 2, .int .i64 0, .string s, .slice a 0 cap] 41)).drew) (.int .u8 2) (w.heap.size + 1) ?_) hb1) ⟨g1, 0, none⟩ (digits s.size).length q1 (cellsOf (digits s.size)) rfl ?_ ?_ ?_ ?_ ?_ ?_; (simp); (simp [cellsOf_len]); (exact buf_cells3 hB1); (exact cells_one3 _); (simp [maxLen]; omega); (omega); intro v2 w2 ho2 hw2
              have hne : some w.heap.size ≠ Value.ownBlock (.slice (some ⟨w.heap.size + 1, 0, none⟩) 1 1) := own_ne1 (Nat.lt_succ_self _)
              have hs1 : w.heap.size + 2 ≤ w1.heap.size := by simp at hsz1; omega
              have hlo2 : ∀ k, v2.ownBlock = some k → w.heap.size + 1 ≤ k := wrote_own hw2 (Nat.le_trans (Nat.le_succ _) hs1) (own_at (Nat.le_refl _))
              have hbw : Below w.heap.size w w2 := (below_next (((Joins.below_alloc1 w _).drew).alloc (Nat.le_of_lt (by simp)) _) hb1).trans (hw2.toBelow (by omega) (own_at (Nat.le_succ _)))
              have hs2 : w.heap.size < w2.heap.size := by have := hw2.grown.size; (try simp at this); omega
              have hB2 : Buf w2 v2 (2 :: digits s.size) := buf_cons (n := 2) (by omega) rfl rfl ho2)
           | (refine step_append_mine _ rfl _ _ 22 rfl 5 i5 _ 1 1 Tryd.underlying22 hi5 hz50 hz51 hz52 rfl Nat.one_pos _ 1 [.int .u8 2] rfl (own_new2 w1 (.int .u8 2) w1.heap.size rfl) ⟨g1, 0, none⟩ (digits s.size).length q1 (cellsOf (digits s.size)) rfl ?_ ?_ ?_ ?_ ?_ ?_; (simp [cellsOf_len]); (exact buf_cells3 (buf_stays hB1 (Joins.below_alloc1 w1 _))); (exact cells_one3 _); (simp [maxLen]; omega); (omega); intro v2 w2 ho2 hw2
              have hs1 : w.heap.size + 1 ≤ w1.heap.size := by simpa using hsz1
              have hne : some w.heap.size ≠ Value.ownBlock (.slice (some ⟨w1.heap.size, 0, none⟩) 1 1) := own_ne1 hs1
              have hlo2 : ∀ k, v2.ownBlock = some k → w.heap.size + 1 ≤ k := wrote_own hw2 (by simp; omega) (own_at hs1)
              have hbw : Below w.heap.size w w2 := ((below_next ((Joins.below_alloc1 w _).drew) hb1).alloc (Nat.le_of_lt hs1) _).trans (hw2.toBelow (by simp; omega) (own_at (Nat.le_of_lt hs1)))
              have hs2 : w.heap.size < w2.heap.size := by have := hw2.grown.size; (try simp at this); omega
              have hB2 : Buf w2 v2 (2 :: digits s.size) := buf_cons (n := 2) (by omega) rfl rfl ho2)
           | (refine step_append_src _ rfl _ _ 22 9 rfl 5 i5 _ 1 1 Tryd.underlying22 hi5 hz50 hz51 hz52 rfl v2 _ _ rfl hB2 ?_ (.string s) rfl s.size (byteCells s) (Src.ofString _ Tryd.underlying9 s) ?_ ?_ ?_; (exact buf_ne hB2 (Nat.succ_pos _)); (simp [maxLen]; omega); (simp; omega); intro v3 w3 ho3 hw3))
  all_goals go_wp2_with fail
  all_goals go_ret
  all_goals refine ⟨v3, rfl, ?_, fun k hk => Nat.le_trans (Nat.le_succ _) (wrote_own hw3 hs2 hlo2 k hk), hbw.trans (hw3.toBelow hbw.size fun k hk => Nat.le_trans (Nat.le_succ _) (hlo2 k hk))⟩
  all_goals rw [enc_2]
  all_goals exact buf_app (w := w) (v := v2) (xs := [2]) (ys := digits s.size) hB2 ho3 rfl

set_option maxRecDepth 100000 in
theorem refenc_call (x : V) : RefEncSaid x := by
  refine V.ind (P := fun x => RefEncSaid x) ?_ x
  intro k n s l ih v w hx hf hlen
  have hx2 := hx
  obtain ⟨_, _, _, _, a, cap, _, _, _, _, _, _, _, hn, hs, hl, _, _⟩ := hx
  rcases formed_cases hf with ⟨rfl, rfl, rfl⟩ | ⟨rfl, rfl, rfl⟩ | ⟨rfl, rfl, rfl, hel⟩
  · exact refenc_1 n hn a cap w
  · refine refenc_2 s ?_ a cap w
    have hsl : s.data.toList.length = s.size := by rw [Array.length_toList]; rfl
    rw [enc_2, List.length_cons, List.length_append, hsl] at hlen
    omega
  · exact refenc_3 l a cap w hx2 hel hlen (Lib.hid ih)

/-- the specification's Encode: with an error no bytes -/
def REncR (w w' : World) (x : V) (e : Ending) : Prop :=
  ∃ v, e = .returned (.tuple #[v, .int .i64 (code x)]) ∧ Below w.heap.size w w' ∧ Buf w' v (if code x = 0 then enc x else [])

set_option maxRecDepth 100000 in
set_option maxHeartbeats 1000000 in
theorem refEncode_call (x : V) (v : Value) (w : World) (hx : Is w x v) (hd : depth x ≤ 1000) (hlen : (enc x).length ≤ 1000000) : Calls Tryd.prog 23 #[v] w fun e w' => REncR w w' x e := by
  have HX := Lib.hid hx
  obtain ⟨k, N, s, l, a, cap, _, _, _, _, _, _, _, _, _, _, _, _⟩ := hx
  go_enter Tryd.func23, Tryd.ntmps23
  go_wp2_with fail
  refine (refcheck_call (.mk k N s l) hd _ _ (Is.stays HX.out (Joins.below_alloc1 w _))).mono ?_
  rintro e w1 ⟨rfl, hb⟩
  have hb1 := Lib.hid (below_next (Joins.below_alloc1 w _) hb)
  obtain ⟨t0, t1, t2, t3⟩ := cells4_kept2 hb
  clear hb
  by_cases h0 : code (.mk k N s l) = 0
  · have hne : (code (.mk k N s l) != 0) = false := by rw [h0]; rfl
    have H0 := Lib.hid h0
    have HF : Hid (formed (.mk k N s l) = true) := by
      unfold Hid
      unfold code at h0
      cases hf : formed (.mk k N s l) with
      | true => rfl
      | false => rw [hf] at h0; simp at h0
    clear h0
    go_wp2_with fail
    refine (refenc_call (.mk k N s l) _ _ (Is.stays HX.out hb1.out) HF.out hlen).mono ?_
    rintro e w2 ⟨v2, rfl, hB, hlo, hb2⟩
    go_wp2_with fail
    go_ret2
    exact ⟨v2, by rw [H0.out]; rfl, below_next hb1.out hb2, by rw [if_pos H0.out]; exact hB⟩
  · have hne : (code (.mk k N s l) != 0) = true := by simpa using h0
    have H0 := Lib.hid h0
    clear h0
    go_wp2_with fail
    go_ret2
    exact ⟨_, rfl, hb1.out, by rw [if_neg H0.out]; exact World.ownsRow_nil _ _ _ _⟩

end Go.Proofs.YtbcfmpohempkpaaDoor.Cod
