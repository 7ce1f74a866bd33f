/- The end of a line, what is passed over, and names: the program's functions. -/
import Derived.Test.YtilpcchcccbfcaaDoorD
import Derived.Test.YtilpcchcccbfcaaDoorShelf
namespace Go.Proofs.YtilpcchcccbfcaaDoor
open Go.RowKit

theorem bs_extract (s : ByteArray) (a b : Nat) : bs (s.extract a b) = ((bs s).drop a).take (b - a) := by
  rw [← Lib.extract_toList, Lib.toList_data]
theorem bs_rest (s : ByteArray) (a : Nat) : bs (s.extract a s.size) = (bs s).drop a := by
  rw [bs_extract, List.take_of_length_le]
  rw [List.length_drop, ← Lib.size_eq]; omega

/-- where the line ends -/
def lineTo (s : ByteArray) (k : Nat) : Nat := k + lineLen ((bs s).drop k)
theorem indexByte_line : ∀ (l : List UInt8), Lib.indexByte l 10 = if lineLen l < l.length then (lineLen l : Int) else -1
  | [] => rfl
  | b :: l => by
    have ih := indexByte_line l
    have hle := lineLen_le l
    rw [Lib.indexByte, ih]
    by_cases hb : b = 10
    · subst hb
      simp [lineLen, notLine]
    · have h1 : (b == 10) = false := by simp [hb]
      have h2 : notLine b = true := by simp [notLine, hb]
      have h3 : lineLen (b :: l) = lineLen l + 1 := by simp [lineLen, h2]
      simp only [h1, h3, List.length_cons, Bool.false_eq_true, if_false, Nat.add_lt_add_iff_right]
      by_cases hl : lineLen l < l.length
      · have : ((lineLen l : Int) == -1) = false := by simp
        simp [hl, this]
      · simp [hl]

theorem index_call (s : ByteArray) (k : Nat) (w : World) :
    Calls Tryd.prog 63 #[.string (s.extract k s.size), .int .u8 10] w fun e w' => e = .returned (.int .i64 (if lineLen ((bs s).drop k) < ((bs s).drop k).length then (lineLen ((bs s).drop k) : Int) else -1)) ∧ w = w' := by
  have h := Tryd.strings_IndexByte (s.extract k s.size) 10 w
  rw [show (s.extract k s.size).data.toList = (bs s).drop k from bs_rest s k, show (Int.toNat 10).toUInt8 = 10 from rfl, indexByte_line] at h
  exact h.mono fun e w' ⟨a, b⟩ => ⟨a, b.symm⟩

set_option maxHeartbeats 1000000 in
set_option maxRecDepth 100000 in
theorem lineEnd_call (s : ByteArray) (k : Nat) (w : World) (hk : k ≤ s.size) (hs : s.size ≤ 281474976710656) :
    Calls Tryd.prog 56 #[.string s, .int .i64 (k : Int)] w fun e w' => e = .returned (.int .i64 (lineTo s k : Int)) ∧ w = w' := by
  have hI := index_call s k w
  have hl := lineLen_le ((bs s).drop k)
  have hd : ((bs s).drop k).length = s.size - k := by rw [List.length_drop, ← Lib.size_eq]
  unfold lineTo
  rw [hd] at hI hl
  generalize lineLen ((bs s).drop k) = n at hI hl
  by_cases h : n < s.size - k
  · rw [if_pos h] at hI
    have hkn : IntKind.i64.wrap ((k : Int) + n) = ((k + n : Nat) : Int) := by rw [IntKind.wrap_i64]; omega
    go_enter Tryd.func56, Tryd.ntmps56
    go_wp2_with (go_at_call 63; refine hI.mono ?_; rintro e w' ⟨rfl, rfl⟩)
    go_ret
    exact ⟨ret_i64 (by omega), rfl⟩
  · rw [if_neg h] at hI
    obtain rfl : n = s.size - k := by omega
    go_enter Tryd.func56, Tryd.ntmps56
    go_wp2_with (go_at_call 63; refine hI.mono ?_; rintro e w' ⟨rfl, rfl⟩)
    go_ret
    exact ⟨ret_i64 (by omega), rfl⟩

/-- the place at which neither white space nor a comment is -/
structure Passed (s : ByteArray) (k k2 : Nat) : Prop where
  le : k2 ≤ s.size
  ge : k ≤ k2
  same : lexL k ((bs s).drop k) = lexL k2 ((bs s).drop k2)
  here : k2 = s.size ∨ Begins ((bs s).drop k2)

theorem noteCall (s : ByteArray) (k : Nat) (w : World) :
    Calls Tryd.prog 55 #[.string (s.extract k s.size), .string ⟨#[47, 47]⟩] w fun e w' => e = .returned (.bool (isNote ((bs s).drop k))) ∧ w = w' := by
  have h := Tryd.strings_HasPrefix (s.extract k s.size) ⟨#[47, 47]⟩ w
  have e : Lib.hasPrefix (s.extract k s.size).data.toList [47, 47] = isNote ((bs s).drop k) := by
    rw [show (s.extract k s.size).data.toList = (bs s).drop k from bs_rest s k, Bool.eq_iff_iff]
    generalize (bs s).drop k = l
    unfold Lib.hasPrefix
    rw [List.isPrefixOf_iff_prefix]
    constructor
    · rintro ⟨r, rfl⟩; rfl
    · intro h
      obtain ⟨r, rfl⟩ := isNote_not_space h
      exact ⟨r, rfl⟩
  exact h.mono fun e' w' ⟨a, b⟩ => ⟨by rw [a, ← e], b.symm⟩

/-- the loop's state: no white space stands here -/
def PassHead (s : ByteArray) (k0 : Nat) (s1 : Value) : Prop := ∃ k : Nat, s1 = .int .i64 (k : Int) ∧ k ≤ s.size ∧ k0 ≤ k ∧ lexL k0 ((bs s).drop k0) = lexL k ((bs s).drop k) ∧ runEnd isSpace s k = k
theorem runEnd_idem (s : ByteArray) (k : Nat) : runEnd isSpace s (runEnd isSpace s k) = runEnd isSpace s k := by
  rcases takeWhile_stop (p := isSpace) ((bs s).drop k) with h | ⟨c, r, h, hc⟩
  · unfold runEnd
    rw [← List.drop_drop, h]; rfl
  · unfold runEnd
    rw [← List.drop_drop, h, List.takeWhile_cons, hc]; simp
theorem runEnd_lex (s : ByteArray) (k : Nat) : lexL k ((bs s).drop k) = lexL (runEnd isSpace s k) ((bs s).drop (runEnd isSpace s k)) := by
  rw [lexL_spaces, List.drop_drop]; rfl
theorem here_of {s : ByteArray} {k : Nat} (hk : k ≤ s.size) (h : runEnd isSpace s k = k) (hn : isNote ((bs s).drop k) = false) : k = s.size ∨ Begins ((bs s).drop k) := by
  rcases Nat.lt_or_ge k s.size with hlt | hge
  · refine .inr ⟨s[k], (bs s).drop (k + 1), drop_at hlt, ?_, hn⟩
    cases hc : isSpace s[k] with
    | false => rfl
    | true =>
      have h2 := runEnd_next (p := isSpace) hlt hc
      rw [h] at h2
      unfold runEnd at h2; omega
  · exact .inl (by omega)

set_option maxHeartbeats 1000000 in
set_option maxRecDepth 100000 in
theorem pass_call (s : ByteArray) (k0 : Nat) (w : World) (hk : k0 ≤ s.size) (hs : s.size ≤ 281474976710656) (hT : Cls w) :
    Calls Tryd.prog 41 #[.string s, .int .i64 (k0 : Int)] w fun e w' => ∃ k2 : Nat, Passed s k0 k2 ∧ e = .returned (.int .i64 (k2 : Int)) ∧ w = w' := by
  have HT := Lib.hid hT
  clear hT
  go_enter Tryd.func41, Tryd.ntmps41
  go_wp2_with (go_at_call 39; refine (endOf_space s k0 _ hk hs HT.out).mono ?_; rintro e w' ⟨rfl, rfl⟩)
  go_loop [1] (fun s1 => PassHead s k0 s1) (fun s1 => s.size - (intOf s1).toNat)
  case atStart => exact ⟨_, rfl, runEnd_le _ _ _ hk, by unfold runEnd; omega, runEnd_lex s k0, runEnd_idem s k0⟩
  case round =>
    obtain ⟨k, rfl, hk2, hge, he, hr⟩ := hrel
    have HE := Lib.hid he
    have HR := Lib.hid hr
    clear he hr
    cases hn : isNote ((bs s).drop k) with
    | true =>
      have HN := Lib.hid hn
      have hp := noteCall s k w
      rw [hn] at hp
      have h2 := lineLen_pos hn
      have h3 := lineLen_le ((bs s).drop k)
      have hd : ((bs s).drop k).length = s.size - k := by rw [List.length_drop, ← Lib.size_eq]
      rw [hd] at h3
      have hto : lineTo s k = k + lineLen ((bs s).drop k) := rfl
      have hlex : lexL k ((bs s).drop k) = lexL (lineTo s k) ((bs s).drop (lineTo s k)) := by rw [lexL_note hn, List.drop_drop]; rfl
      have hl := lineEnd_call s k w hk2 hs
      generalize lineTo s k = q at hto hlex hl
      have HL := Lib.hid hlex
      have hq : q ≤ s.size := by omega
      have hs2 := endOf_space s q w hq hs HT.out
      have hle := runEnd_le isSpace s q hq
      have hge2 : q ≤ runEnd isSpace s q := by unfold runEnd; omega
      obtain ⟨e2, he2⟩ : ∃ e2, e2 = runEnd isSpace s q := ⟨_, rfl⟩
      rw [← he2] at hs2 hle hge2
      have HQ := Lib.hid he2
      have hqk : k + 2 ≤ q := by omega
      clear hlex hn he2 hto h2 h3 hd
      go_wp2_with (first | (go_at_call 55; refine hp.mono ?_; rintro e w' ⟨rfl, rfl⟩) | (go_at_call 56; refine hl.mono ?_; rintro e w' ⟨rfl, rfl⟩) | (go_at_call 39; refine hs2.mono ?_; rintro e w' ⟨rfl, rfl⟩))
      exact ⟨⟨e2, rfl, hle, by omega, by rw [HE.out, HL.out, HQ.out, runEnd_lex], by rw [HQ.out]; exact runEnd_idem s q⟩, by simp [intOf]; omega⟩
    | false =>
      have HN := Lib.hid hn
      have hp := noteCall s k w
      rw [hn] at hp
      clear hn
      go_wp2_with (go_at_call 55; refine hp.mono ?_; rintro e w' ⟨rfl, rfl⟩)
      go_ret
      exact ⟨k, ⟨hk2, hge, HE.out, here_of hk2 HR.out HN.out⟩, rfl, rfl⟩

theorem name_head (s : ByteArray) (h : 0 < s.size) : bs s = s[0] :: (bs s).drop 1 := by
  have := drop_at (s := s) (k := 0) h
  rwa [List.drop_zero] at this
theorem toList_none (s : ByteArray) : s.toList = [] ↔ s.size = 0 := by
  rw [Lib.toList_data, Lib.size_eq]; exact List.length_eq_zero_iff.symm
set_option maxHeartbeats 1000000 in
set_option maxRecDepth 100000 in
theorem name_call (s : ByteArray) (w : World) (hs : s.size ≤ 281474976710656) (hT : Cls w) :
    Calls Tryd.prog 20 #[.string s] w fun e w' => e = .returned (.bool (isName (bs s))) ∧ w = w' := by
  have HT := Lib.hid hT
  have HS := Lib.hid (isName_iff (bs s))
  have HZ := Lib.hid (toList_none s)
  have HL := Lib.hid (Lib.size_eq s)
  clear hT
  go_enter Tryd.func20, Tryd.ntmps20
  go_wp2_with (first | (go_at_call 38; refine (classOf_call _ _ HT.out).mono ?_; rintro e w' ⟨rfl, rfl⟩) | (go_at_call 39; refine (endOf_name s 0 _ (Nat.zero_le _) hs HT.out).mono ?_; rintro e w' ⟨rfl, rfl⟩))
  · rename_i h
    have h0 := HZ.out.1 h
    rw [HL.out] at h0
    have h1 : bs s = [] := List.length_eq_zero_iff.1 h0
    go_ret
    exact ⟨ret_bool (by rw [HS.out, h1]; rfl), rfl⟩
  · rename_i h1 h2 h3 h4
    have h5 : s.toList.isEmpty = false := by simpa using h1
    have h6 : cls s[0] = 1 := by omega
    have h7 : (bs s) ≠ [] := fun h => h1 ((Lib.toList_data s).trans h)
    have h8 := HL.out
    go_ret
    refine ⟨ret_bool ?_, rfl⟩
    rw [HS.out, h5]
    have h9 : runEnd isPart s 0 = ((bs s).takeWhile isPart).length := by unfold runEnd; rw [List.drop_zero]; omega
    rw [h9, h8]
    rw [h8] at h2
    have h10 : letterHead (bs s) = true := by rw [name_head s h3]; simp [letterHead, h6]
    rw [h10]
    rw [Bool.eq_iff_iff]
    simp [h7]
    omega
  · rename_i h1 h2 h3 h4
    have h6 : cls s[0] ≠ 1 := by omega
    have h10 : letterHead (bs s) = false := by rw [name_head s h3]; simp [letterHead, h6]
    go_ret
    exact ⟨ret_bool (by rw [HS.out, h10]; simp), rfl⟩
  · rename_i h1
    refine absurd (HZ.out.2 ?_) (by assumption)
    omega
  · rename_i h1 h2
    have h8 := HL.out
    rw [h8] at h2
    go_ret
    exact ⟨ret_bool (by rw [HS.out]; simp; omega), rfl⟩
end Go.Proofs.YtilpcchcccbfcaaDoor
