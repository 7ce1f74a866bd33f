/- The reference's classes of bytes, and names. -/
import Derived.Test.YtilpcchcccbfcaaDoorE
namespace Go.Proofs.YtilpcchcccbfcaaDoor
open Go.RowKit

theorem space_nat (c : UInt8) : isSpace c = decide (c.toNat = 32 ∨ c.toNat = 9 ∨ c.toNat = 10 ∨ c.toNat = 13) := all_bytes (p := fun c => isSpace c = decide (c.toNat = 32 ∨ c.toNat = 9 ∨ c.toNat = 10 ∨ c.toNat = 13)) (by decide +kernel) c
theorem letter_nat (c : UInt8) : isLetter c = decide ((97 ≤ c.toNat ∧ c.toNat ≤ 122) ∨ (65 ≤ c.toNat ∧ c.toNat ≤ 90)) := all_bytes (p := fun c => isLetter c = decide ((97 ≤ c.toNat ∧ c.toNat ≤ 122) ∨ (65 ≤ c.toNat ∧ c.toNat ≤ 90))) (by decide +kernel) c
theorem digit_nat (c : UInt8) : isDigit c = decide (48 ≤ c.toNat ∧ c.toNat ≤ 57) := all_bytes (p := fun c => isDigit c = decide (48 ≤ c.toNat ∧ c.toNat ≤ 57)) (by decide +kernel) c
theorem part_nat (c : UInt8) : isPart c = (isLetter c || isDigit c || decide (c.toNat = 95)) := all_bytes (p := fun c => isPart c = (isLetter c || isDigit c || decide (c.toNat = 95))) (by decide +kernel) c

set_option maxHeartbeats 400000 in
set_option maxRecDepth 100000 in
theorem refspace_call (c : UInt8) (w : World) : Calls Tryd.prog 22 #[.int .u8 (c.toNat : Int)] w fun e w' => e = .returned (.bool (isSpace c)) ∧ w = w' := by
  rw [space_nat]
  generalize c.toNat = n
  go_enter Tryd.func22, Tryd.ntmps22
  go_wp2
  all_goals (go_ret; exact ⟨ret_bool (by rw [Bool.eq_iff_iff]; simp; try omega), rfl⟩)
set_option maxHeartbeats 400000 in
set_option maxRecDepth 100000 in
theorem refletter_call (c : UInt8) (w : World) : Calls Tryd.prog 26 #[.int .u8 (c.toNat : Int)] w fun e w' => e = .returned (.bool (isLetter c)) ∧ w = w' := by
  rw [letter_nat]
  generalize c.toNat = n
  go_enter Tryd.func26, Tryd.ntmps26
  go_wp2
  all_goals (go_ret; exact ⟨ret_bool (by rw [Bool.eq_iff_iff]; simp; try omega), rfl⟩)
set_option maxHeartbeats 400000 in
set_option maxRecDepth 100000 in
theorem refdigit_call (c : UInt8) (w : World) : Calls Tryd.prog 28 #[.int .u8 (c.toNat : Int)] w fun e w' => e = .returned (.bool (isDigit c)) ∧ w = w' := by
  rw [digit_nat]
  generalize c.toNat = n
  go_enter Tryd.func28, Tryd.ntmps28
  go_wp2
  all_goals (go_ret; exact ⟨ret_bool (by rw [Bool.eq_iff_iff]; simp; try omega), rfl⟩)
set_option maxHeartbeats 400000 in
set_option maxRecDepth 100000 in
theorem refpart_call (c : UInt8) (w : World) : Calls Tryd.prog 27 #[.int .u8 (c.toNat : Int)] w fun e w' => e = .returned (.bool (isPart c)) ∧ w = w' := by
  have H1 : Hid (∀ W, Calls Tryd.prog 26 #[.int .u8 (c.toNat : Int)] W fun e w' => e = .returned (.bool (isLetter c)) ∧ W = w') := fun W => refletter_call c W
  have H2 : Hid (∀ W, Calls Tryd.prog 28 #[.int .u8 (c.toNat : Int)] W fun e w' => e = .returned (.bool (isDigit c)) ∧ W = w') := fun W => refdigit_call c W
  rw [part_nat]
  generalize isLetter c = l at H1 ⊢
  generalize isDigit c = d at H2 ⊢
  generalize c.toNat = n at H1 H2 ⊢
  go_enter Tryd.func27, Tryd.ntmps27
  go_wp2_with (first | (go_at_call 26; refine (H1.out _).mono ?_; rintro e w' ⟨rfl, rfl⟩) | (go_at_call 28; refine (H2.out _).mono ?_; rintro e w' ⟨rfl, rfl⟩))
  · rename_i h
    go_ret
    exact ⟨ret_bool (by simp [h]), rfl⟩
  · rename_i h1 h2
    go_ret
    exact ⟨ret_bool (by simp [h2]), rfl⟩
  · rename_i h1 h2
    have h3 : l = false := by simpa using h1
    have h4 : d = false := by simpa using h2
    go_ret
    exact ⟨ret_bool (by rw [h3, h4, Bool.eq_iff_iff]; simp; omega), rfl⟩

def signsB : ByteArray := ⟨#[123, 125, 40, 41, 59, 44, 61, 58, 46, 60, 62, 33, 43, 45, 42, 47]⟩
theorem index_str (s : ByteArray) (k : Nat) (W : World) (h : k < s.size) : (Instr.index 9 (.string s) (.int .i64 (k : Int))).run Tryd.prog W = .ok (.int .u8 (s[k].toNat : Int)) W := by
  go_simp
theorem signs_len : signs.length = 16 := rfl
theorem sign_nat (c : UInt8) : isSign c = signs.any fun d => decide (d.toNat = c.toNat) := all_bytes (p := fun c => isSign c = signs.any fun d => decide (d.toNat = c.toNat)) (by decide +kernel) c
def SgHead (n : Nat) (s4 : Value) : Prop := ∃ k : Nat, k ≤ 16 ∧ s4 = .int .i64 (k : Int) ∧ (signs.any fun d => decide (d.toNat = n)) = ((signs.drop k).any fun d => decide (d.toNat = n))
set_option maxHeartbeats 1000000 in
set_option maxRecDepth 100000 in
theorem refsign_call (c : UInt8) (w : World) : Calls Tryd.prog 30 #[.int .u8 (c.toNat : Int)] w fun e w' => e = .returned (.bool (isSign c)) ∧ w = w' := by
  rw [sign_nat]
  have hn : c.toNat < 256 := UInt8.toNat_lt c
  generalize c.toNat = n at hn ⊢
  go_enter Tryd.func30, Tryd.ntmps30
  go_wp2
  go_loop [4] (fun s4 => SgHead n s4) (fun s4 => 16 - (intOf s4).toNat)
  case atStart => exact ⟨0, by omega, rfl, rfl⟩
  case round =>
    obtain ⟨k, hk, rfl, he⟩ := hrel
    have HE := Lib.hid he
    clear he
    have hsz : (⟨#[123, 125, 40, 41, 59, 44, 61, 58, 46, 60, 62, 33, 43, 45, 42, 47]⟩ : ByteArray).size = 16 := rfl
    rcases Nat.lt_or_ge k 16 with hlt | hge
    · obtain ⟨m, hm⟩ : ∃ m, m = (signsB[k]'hlt).toNat := ⟨_, rfl⟩
      have hix : ∀ W : World, (Instr.index 9 (.string ⟨#[123, 125, 40, 41, 59, 44, 61, 58, 46, 60, 62, 33, 43, 45, 42, 47]⟩) (.int .i64 (k : Int))).run Tryd.prog W = .ok (.int .u8 (m : Int)) W := fun W => by rw [hm]; exact index_str signsB k W hlt
      have hst : ((signs.drop k).any fun d => decide (d.toNat = n)) = (decide (m = n) || ((signs.drop (k + 1)).any fun d => decide (d.toNat = n))) := by
        have h := drop_at (s := signsB) (k := k) hlt
        rw [show signs.drop k = signsB[k]'hlt :: signs.drop (k + 1) from h, List.any_cons, hm]
      have HST := Lib.hid hst
      have hk0 : (0 : Int) ≤ (k : Int) ∧ (k : Int) < 16 := by omega
      clear hm hst
      go_wp2
      · rename_i h _
        have h2 : m = n := by have h3 : (m : Int) = (n : Int) := by simpa using h
                              omega
        go_ret
        exact ⟨ret_bool (by rw [HE.out, HST.out, h2]; simp), rfl⟩
      · rename_i h
        have h2 : ¬ m = n := by have h3 : ¬ (m : Int) = (n : Int) := by simpa using h
                                omega
        exact ⟨⟨k + 1, by omega, by go_num, by rw [HE.out, HST.out, decide_eq_false h2]; simp⟩, by simp [intOf]; omega⟩
    · obtain rfl : k = 16 := by omega
      go_wp2
      go_ret
      exact ⟨ret_bool (by rw [HE.out]; rfl), rfl⟩

/-- names, as the reference reads them -/
def allFrom (p : UInt8 → Bool) (s : ByteArray) (k : Nat) : Bool := ((bs s).drop k).all p
def RnHead (s : ByteArray) (s3 : Value) : Prop := ∃ k : Nat, k ≤ s.size ∧ s3 = .int .i64 (k : Int) ∧ (bs s).all isPart = ((bs s).drop k).all isPart
set_option maxHeartbeats 1000000 in
set_option maxRecDepth 100000 in
theorem refname_call (s : ByteArray) (w : World) (hs : s.size ≤ 281474976710656) : Calls Tryd.prog 21 #[.string s] w fun e w' => e = .returned (.bool (isName (bs s))) ∧ w = w' := by
  have HSZ := Lib.hid (Lib.size_eq s)
  rcases Nat.eq_zero_or_pos s.size with h0 | h0
  · have hn : isName (bs s) = false := by
      have : bs s = [] := List.eq_nil_of_length_eq_zero (by rw [← HSZ.out]; exact h0)
      rw [this]; rfl
    rw [hn]
    go_enter Tryd.func21, Tryd.ntmps21
    go_wp2
    go_ret
    exact ⟨rfl, rfl⟩
  · have hh := name_head s h0
    have hin : isName (bs s) = (isLetter s[0] && decide (s.size ≤ 32) && (bs s).all isPart) := by
      rw [HSZ.out]
      conv => lhs; rw [hh]
      unfold isName
      simp only
      rw [← hh]
    rw [hin]
    have HL : Hid (∀ W, Calls Tryd.prog 26 #[.int .u8 (s[0].toNat : Int)] W fun e w' => e = .returned (.bool (isLetter s[0])) ∧ W = w') := fun W => refletter_call s[0] W
    clear hh hin
    by_cases h32 : s.size ≤ 32
    · cases hl : isLetter s[0] with
      | false =>
        rw [hl] at HL
        go_enter Tryd.func21, Tryd.ntmps21
        go_wp2_with (go_at_call 26; refine (HL.out _).mono ?_; rintro e w' ⟨rfl, rfl⟩)
        go_ret
        exact ⟨rfl, rfl⟩
      | true =>
        rw [hl] at HL
        rw [decide_eq_true h32, Bool.true_and, Bool.true_and]
        obtain ⟨r, hr⟩ : ∃ r, r = (bs s).all isPart := ⟨_, rfl⟩
        rw [← hr]
        have HR := Lib.hid hr
        clear hr
        go_enter Tryd.func21, Tryd.ntmps21
        go_wp2_with (go_at_call 26; refine (HL.out _).mono ?_; rintro e w' ⟨rfl, rfl⟩)
        go_loop [3] (fun s3 => RnHead s s3) (fun s3 => s.size - (intOf s3).toNat)
        case atStart => exact ⟨0, by omega, rfl, rfl⟩
        case round =>
          obtain ⟨k, hk, rfl, he⟩ := hrel
          have HE := Lib.hid he
          clear he
          rcases Nat.lt_or_ge k s.size with hlt | hge
          · have hst : ((bs s).drop k).all isPart = (isPart s[k] && ((bs s).drop (k + 1)).all isPart) := by rw [drop_at hlt, List.all_cons]
            have HST := Lib.hid hst
            have HP : Hid (∀ W, Calls Tryd.prog 27 #[.int .u8 (s[k].toNat : Int)] W fun e w' => e = .returned (.bool (isPart s[k])) ∧ W = w') := fun W => refpart_call s[k] W
            clear hst
            cases hp : isPart s[k] with
            | false =>
              rw [hp] at HP HST
              go_wp2_with (go_at_call 27; refine (HP.out _).mono ?_; rintro e w' ⟨rfl, rfl⟩)
              go_ret
              exact ⟨ret_bool (by rw [HR.out, HE.out, HST.out]; rfl), rfl⟩
            | true =>
              rw [hp] at HP HST
              go_wp2_with (go_at_call 27; refine (HP.out _).mono ?_; rintro e w' ⟨rfl, rfl⟩)
              exact ⟨⟨k + 1, by omega, by go_num, by rw [HE.out, HST.out]; simp⟩, by simp [intOf]; omega⟩
          · obtain rfl : k = s.size := by omega
            go_wp2
            go_ret
            exact ⟨ret_bool (by rw [HR.out, HE.out, List.drop_eq_nil_of_le (by rw [← HSZ.out]; exact Nat.le_refl _)]; rfl), rfl⟩
    · rw [decide_eq_false h32]
      have h33 : (32 : Int) < (s.size : Int) := by omega
      go_enter Tryd.func21, Tryd.ntmps21
      go_wp2_with (go_at_call 26; refine (HL.out _).mono ?_; rintro e w' ⟨rfl, rfl⟩)
      go_ret
      exact ⟨ret_bool (by simp), rfl⟩
end Go.Proofs.YtilpcchcccbfcaaDoor
