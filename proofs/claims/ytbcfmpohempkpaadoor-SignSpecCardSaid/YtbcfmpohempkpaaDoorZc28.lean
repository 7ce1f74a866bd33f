/- Reading a value: what the reader's functions return, or that they panic, for all bytes. -/
import Derived.Laws.IdiomStrings
import Derived.Test.YtbcfmpohempkpaaDoorZc27
namespace Go.Proofs.YtbcfmpohempkpaaDoor.Cod
open Go.RowKit

set_option maxRecDepth 100000 in
theorem sure_int (p : Nat → Prop) (w : World) (n : Int) (hn : -9223372036854775808 ≤ n ∧ n ≤ 9223372036854775807) : Sure p w (.mk 1 n ⟨#[]⟩ []) (val 1 n ⟨#[]⟩ none 0 0) :=
  fun _ _ _ => .mk 1 n ⟨#[]⟩ [] none 0 (fun _ => 0) (fun _ => 0) (fun _ => ⟨#[]⟩) (fun _ => none) (fun _ => 0) (fun _ => 0) (by omega) hn (Nat.zero_le _) (by simp) (.inl rfl) (fun i h => by simp at h)
set_option maxRecDepth 100000 in
theorem sure_text (p : Nat → Prop) (w : World) (s : ByteArray) (hs : s.size ≤ maxLen) : Sure p w (.mk 2 0 s []) (val 2 0 s none 0 0) :=
  fun _ _ _ => .mk 2 0 s [] none 0 (fun _ => 0) (fun _ => 0) (fun _ => ⟨#[]⟩) (fun _ => none) (fun _ => 0) (fun _ => 0) (by omega) (by omega) hs (by simp) (.inl rfl) (fun i h => by simp at h)

end Go.Proofs.YtbcfmpohempkpaaDoor.Cod

/- How many bytes the encoding of a well-formed value takes: what the program's functions return. -/
namespace Go.Proofs.YtbcfmpohempkpaaDoor.Cod
open Go.RowKit

set_option maxRecDepth 100000 in
theorem sizeInt_call (k n : Int) (hn : -9223372036854775808 ≤ n ∧ n ≤ 9223372036854775807) (s : ByteArray) (a : Option Addr) (len cap : Nat) (w : World) :
    Calls Tryd.prog 64 #[val k n s a len cap] w fun e w' => e = .returned (.int .i64 (digits (uns n)).length) ∧ Below w.heap.size w w' := by
  have hu := uns_lt n hn.1 hn.2
  go_enter Tryd.func64, Tryd.ntmps64
  go_wp2_with (first | (go_at_call 81; refine (unsigned_call _ _ hn.1 hn.2).mono ?_; rintro e w' ⟨rfl, rfl⟩) | (go_at_call 80; refine (sizeNumeral_call _ _ (by omega)).mono ?_; rintro e w' ⟨rfl, rfl⟩))
  go_ret
  exact ⟨ret_i64 (by rw [digits_len]), Joins.below_alloc1 _ _⟩

set_option maxRecDepth 100000 in
set_option maxHeartbeats 1000000 in
theorem sizeText_call (k n : Int) (s : ByteArray) (hs : s.size ≤ 70368744177664) (a : Option Addr) (len cap : Nat) (w : World) :
    Calls Tryd.prog 67 #[val k n s a len cap] w fun e w' => e = .returned (.int .i64 ((digits s.size ++ s.data.toList).length : Nat)) ∧ Below w.heap.size w w' := by
  have h10 := num_len s.size (by omega)
  go_enter Tryd.func67, Tryd.ntmps67
  go_wp2_with fail
  go_quiet ((go_at_call 80; exact Calls.quiet_of_same (sizeNumeral_same _ _ (by omega))))
  go_wp2_with fail
  go_ret
  exact ⟨ret_i64 (by rw [List.length_append, digits_len]; simp), (Joins.below_alloc1 _ _).trans (Joins.below_draws _ _ _)⟩

def SizeHead (w : World) (l : List V) (s3 s14 : Value) (wr : World) : Prop :=
  ∃ i : Nat, i ≤ l.length ∧ s14 = .int .i64 i ∧ s3 = .int .i64 (((digits l.length).length + (encL (l.take i)).length : Nat) : Int) ∧ Below w.heap.size w wr

set_option maxRecDepth 100000 in
theorem encL_le (l : List V) (i : Nat) (h : i < l.length) : (encL (l.take i)).length + (enc l[i]).length ≤ (encL l).length := by
  have e := congrArg encL (List.take_append_drop (i + 1) l)
  rw [encL_append, encL_take l i h] at e
  rw [← e]; simp only [List.length_append]; omega

set_option maxRecDepth 100000 in
set_option maxHeartbeats 1000000 in
theorem sizeList_call (l : List V) (a : Option Addr) (cap : Nat) (w : World) (hx : Is w (.mk 3 0 ⟨#[]⟩ l) (val 3 0 ⟨#[]⟩ a l.length cap))
    (hB : (digits l.length).length + (encL l).length ≤ 70368744177664) (hll : l.length ≤ 70368744177664)
    (ih : Hid (∀ x ∈ l, ∀ v W, Is W x v → Calls Tryd.prog 40 #[v] W fun e w' => e = .returned (.int .i64 ((enc x).length : Nat)) ∧ Below W.heap.size W w')) :
    Calls Tryd.prog 70 #[val 3 0 ⟨#[]⟩ a l.length cap] w fun e w' => e = .returned (.int .i64 (((digits l.length).length + (encL l).length : Nat) : Int)) ∧ Below w.heap.size w w' := by
  obtain ⟨_, _, _, _, _, _, fk, fn, fs, fa, fl, fc, hk, hn, hs, hl, hc, he⟩ := hx
  go_enter Tryd.func70, Tryd.ntmps70
  go_wp2_with (go_at_call 80; refine (sizeNumeral_call _ _ (by omega)).mono ?_; rintro e w' ⟨rfl, rfl⟩)
  go_loopw [3, 14] (fun s3 s14 wr => SizeHead (w.alloc (.cells #[.int .i64 3, .int .i64 0, .string ⟨#[]⟩, .slice a l.length cap] 41)) l s3 s14 wr) (fun _ s14 _ => l.length - (intOf s14).toNat)
  case atStart => exact ⟨0, by omega, rfl, by rw [digits_len]; rfl, Below.refl _ _⟩
  case round =>
    obtain ⟨i, hi, rfl, rfl, hb⟩ := hrel
    rcases Nat.lt_or_ge i l.length with hlt | hge
    · rcases hc with h0 | ⟨b, off, rfl, hbl, hc⟩
      · omega
      obtain ⟨c0, c1, c2, c3⟩ := elem_cells hb hbl (hc i hlt)
      have HC := Lib.hid hc
      clear hc
      have H := Lib.hid he
      clear he
      have hle := encL_le l i hlt
      have HT := Lib.hid (encL_take l i hlt)
      go_wp2_with fail
      have hb2 : Below w.heap.size w (wr.alloc (.cells #[.int .i64 (fk i), .int .i64 (fn i), .string (fs i), .slice (fa i) (fl i) (fc i)] 41)) :=
        ((Joins.below_alloc1 w _).trans (hb.mono (by simp))).alloc (by have := hb.size; simp at this; omega) _
      refine (ih.out l[i] (List.getElem_mem hlt) _ _ (Is.stays (H.out i hlt) hb2)).mono ?_
      rintro e w1 ⟨rfl, hb3⟩
      go_wp2_with fail
      go_roundw
      case rel => exact ⟨i + 1, by omega, by simp, by rw [HT.out, List.length_append]; simp; omega, below_at hb hb3⟩
      case measure => simp [intOf]; omega
    · obtain rfl : i = l.length := by omega
      go_wp2_with fail
      go_ret
      exact ⟨ret_i64 (by rw [List.take_length]), (Joins.below_alloc1 w _).trans (hb.mono (by simp))⟩

set_option maxRecDepth 100000 in
theorem wrap_one (x : Int) (n : Nat) (h : n ≤ 140737488355328) (hx : x = (n : Int)) : IntKind.i64.wrap (1 + x) = ((1 + n : Nat) : Int) := by
  subst hx
  rw [IntKind.wrap_i64]; omega

set_option maxRecDepth 100000 in
set_option maxHeartbeats 4000000 in
theorem size_1 (n : Int) (s : ByteArray) (a : Option Addr) (len cap : Nat) (w : World) (hn : -9223372036854775808 ≤ n ∧ n ≤ 9223372036854775807) :
    Calls Tryd.prog 40 #[val 1 n s a len cap] w fun e w' => e = .returned (.int .i64 ((1 + (digits (uns n)).length : Nat) : Int)) ∧ Below w.heap.size w w' := by
  have k1 := kindAt1
  have k2 := kindFn11
  go_enter Tryd.func40, Tryd.ntmps40
  go_wp2_with fail
  go_region_held3 (fun w' => w'.cell? ⟨w.heap.size, 0, none⟩ = some (.int .i64 1) ∧ w'.cell? ⟨w.heap.size, 1, none⟩ = some (.int .i64 n) ∧ w'.cell? ⟨w.heap.size, 2, none⟩ = some (.string s) ∧ w'.cell? ⟨w.heap.size, 3, none⟩ = some (.slice a len cap))
    (first | go_keep | (exact keep4 hb2 (by assumption)) | (exact keep4 hb1 (by assumption)))
    (first | (go_at_call 54; refine (kinds_call _).mono ?_; rintro e w' ⟨rfl, hb1⟩) | (go_at_call 64; refine (sizeInt_call _ _ hn _ _ _ _ _).mono ?_; rintro e w' ⟨rfl, hb2⟩))
  go_wp2
  go_ret
  exact ⟨ret_i64 (wrap_one _ (digits (uns n)).length (by have := num_len _ (uns_lt n hn.1 hn.2); rw [digits_len]; omega) rfl), below_next (below_next ((Joins.below_alloc1 w _).drew) hb1) hb2⟩

set_option maxRecDepth 100000 in
set_option maxHeartbeats 4000000 in
theorem size_2 (n : Int) (s : ByteArray) (a : Option Addr) (len cap : Nat) (w : World) (hs : s.size ≤ 70368744177664) :
    Calls Tryd.prog 40 #[val 2 n s a len cap] w fun e w' => e = .returned (.int .i64 ((1 + (digits s.size ++ s.data.toList).length : Nat) : Int)) ∧ Below w.heap.size w w' := by
  have k1 := kindAt2
  have k2 := kindFn21
  go_enter Tryd.func40, Tryd.ntmps40
  go_wp2_with fail
  go_region_held3 (fun w' => w'.cell? ⟨w.heap.size, 0, none⟩ = some (.int .i64 2) ∧ w'.cell? ⟨w.heap.size, 1, none⟩ = some (.int .i64 n) ∧ w'.cell? ⟨w.heap.size, 2, none⟩ = some (.string s) ∧ w'.cell? ⟨w.heap.size, 3, none⟩ = some (.slice a len cap))
    (first | go_keep | (exact keep4 hb2 (by assumption)) | (exact keep4 hb1 (by assumption)))
    (first | (go_at_call 54; refine (kinds_call _).mono ?_; rintro e w' ⟨rfl, hb1⟩) | (go_at_call 67; refine (sizeText_call _ _ _ hs _ _ _ _).mono ?_; rintro e w' ⟨rfl, hb2⟩))
  go_wp2
  go_ret
  exact ⟨ret_i64 (wrap_one _ (digits s.size ++ s.data.toList).length (by have := num_len s.size (by omega); rw [List.length_append, digits_len]; simp; omega) (by simp)), below_next (below_next ((Joins.below_alloc1 w _).drew) hb1) hb2⟩

set_option maxRecDepth 100000 in
set_option maxHeartbeats 4000000 in
theorem size_3 (n : Int) (s : ByteArray) (a : Option Addr) (len cap : Nat) (w : World)
    (r : Nat) (hr : r ≤ 70368744177664) (HF : Hid (∀ W, Below w.heap.size w W → Calls Tryd.prog 70 #[val 3 n s a len cap] W fun e w' => e = .returned (.int .i64 (r : Int)) ∧ Below W.heap.size W w')) :
    Calls Tryd.prog 40 #[val 3 n s a len cap] w fun e w' => e = .returned (.int .i64 ((1 + r : Nat) : Int)) ∧ Below w.heap.size w w' := by
  have k1 := kindAt3
  have k2 := kindFn31
  go_enter Tryd.func40, Tryd.ntmps40
  go_wp2_with fail
  go_region_held3 (fun w' => w'.cell? ⟨w.heap.size, 0, none⟩ = some (.int .i64 3) ∧ w'.cell? ⟨w.heap.size, 1, none⟩ = some (.int .i64 n) ∧ w'.cell? ⟨w.heap.size, 2, none⟩ = some (.string s) ∧ w'.cell? ⟨w.heap.size, 3, none⟩ = some (.slice a len cap))
    (first | go_keep | (exact keep4 hb2 (by assumption)) | (exact keep4 hb1 (by assumption)))
    (first | (go_at_call 54; refine (kinds_call _).mono ?_; rintro e w' ⟨rfl, hb1⟩) | (go_at_call 70; refine (HF.out _ (below_next ((Joins.below_alloc1 w _).drew) hb1)).mono ?_; rintro e w' ⟨rfl, hb2⟩))
  go_wp2
  go_ret
  exact ⟨ret_i64 (wrap_one _ r (by omega) rfl), below_next (below_next ((Joins.below_alloc1 w _).drew) hb1) hb2⟩


set_option maxRecDepth 100000 in
theorem enc_1 (n : Int) (s : ByteArray) (l : List V) : enc (.mk 1 n s l) = 1 :: digits (uns n) := by rw [enc]; rfl
set_option maxRecDepth 100000 in
theorem enc_2 (n : Int) (s : ByteArray) (l : List V) : enc (.mk 2 n s l) = 2 :: (digits s.size ++ s.data.toList) := by rw [enc]; rfl
set_option maxRecDepth 100000 in
theorem enc_3 (n : Int) (s : ByteArray) (l : List V) : enc (.mk 3 n s l) = 3 :: (digits l.length ++ encL l) := by rw [enc]; rfl

set_option maxRecDepth 100000 in
/-- what a well-formed value is -/
theorem formed_cases {k n : Int} {s : ByteArray} {l : List V} (h : formed (.mk k n s l) = true) :
    (k = 1 ∧ s = ⟨#[]⟩ ∧ l = []) ∨ (k = 2 ∧ n = 0 ∧ l = []) ∨ (k = 3 ∧ n = 0 ∧ s = ⟨#[]⟩ ∧ ∀ x ∈ l, formed x = true) := by
  rw [formed] at h
  simp only [Bool.or_eq_true, Bool.and_eq_true, beq_iff_eq, List.length_eq_zero_iff] at h
  rcases h with ⟨h1, h2, h3⟩ | ⟨h1, h2, h3⟩ | ⟨h1, ⟨h2, h3⟩, h4⟩
  · exact .inl ⟨h1, str_nil h2, h3⟩
  · exact .inr (.inl ⟨h1, h2, h3⟩)
  · exact .inr (.inr ⟨h1, h2, str_nil h3, (formedL_mem l).1 h4⟩)

set_option maxRecDepth 100000 in
theorem enc_pos (x : V) : 1 ≤ (enc x).length := by cases x; rw [enc]; simp

set_option maxRecDepth 100000 in
theorem encL_len (l : List V) : l.length ≤ (encL l).length := by
  induction l with
  | nil => simp
  | cons x l ih => have := enc_pos x; rw [encL, List.length_append, List.length_cons]; omega

set_option maxRecDepth 100000 in
theorem size_call (x : V) : ∀ v W, Is W x v → formed x = true → (enc x).length ≤ 70368744177664 → Calls Tryd.prog 40 #[v] W fun e w' => e = .returned (.int .i64 ((enc x).length : Nat)) ∧ Below W.heap.size W w' := by
  refine V.ind (P := fun x => ∀ v W, Is W x v → formed x = true → (enc x).length ≤ 70368744177664 → Calls Tryd.prog 40 #[v] W fun e w' => e = .returned (.int .i64 ((enc x).length : Nat)) ∧ Below W.heap.size W w') ?_ x
  intro k n s l ih v W hx hf hB
  have hx2 := hx
  obtain ⟨_, _, _, _, a, cap, _, _, _, _, _, _, _, hn, _, _, _, _⟩ := hx
  rcases formed_cases hf with ⟨rfl, rfl, rfl⟩ | ⟨rfl, rfl, rfl⟩ | ⟨rfl, rfl, rfl, hl⟩
  · refine (size_1 n ⟨#[]⟩ a _ cap W hn).mono fun e w' ⟨h, hb⟩ => ⟨h.trans (ret_i64 ?_), hb⟩
    rw [enc_1, List.length_cons, Nat.add_comm]
  · rw [enc_2, List.length_cons, List.length_append] at hB
    refine (size_2 0 s a _ cap W (by simp at hB; omega)).mono fun e w' ⟨h, hb⟩ => ⟨h.trans (ret_i64 ?_), hb⟩
    rw [enc_2, List.length_cons, Nat.add_comm]
  · rw [enc_3, List.length_cons, List.length_append] at hB
    have hll := encL_len l
    refine (size_3 0 ⟨#[]⟩ a _ cap W ((digits l.length).length + (encL l).length) (by omega) (Lib.hid fun W' hb => sizeList_call l a cap W' (Is.stays hx2 hb) (by omega) (by omega) (Lib.hid fun x hm v W hi => ?_))).mono fun e w' ⟨h, hb⟩ => ⟨h.trans (ret_i64 ?_), hb⟩
    · refine ih x hm v W hi (hl x hm) ?_
      obtain ⟨i, hil, rfl⟩ := List.getElem_of_mem hm
      have := encL_le l i hil
      omega
    · rw [enc_3, List.length_cons, Nat.add_comm, List.length_append]
end Go.Proofs.YtbcfmpohempkpaaDoor.Cod
