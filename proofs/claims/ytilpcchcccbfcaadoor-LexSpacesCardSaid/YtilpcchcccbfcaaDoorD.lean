/- The class of a byte, and what belongs to a run: the program's functions. -/
import Derived.Test.YtilpcchcccbfcaaDoorB
import Derived.IntWalk
namespace Go.Proofs.YtilpcchcccbfcaaDoor
open Go.RowKit

/-- the table of classes -/
def Cls (w : World) : Prop := 0 < w.heap.size ∧ ∀ i, i < 128 → w.cell? ⟨0, i, none⟩ = some (.int .u8 (clsTab.getD i 0 : Int))
theorem Cls.keep {w w' : World} (h : Cls w) (hb : Below w.heap.size w w') : Cls w' :=
  ⟨by have := hb.size; have := h.1; omega, fun i hi => (hb.cell (p := ⟨0, i, none⟩) h.1).trans (h.2 i hi)⟩

set_option maxHeartbeats 400000 in
set_option maxRecDepth 100000 in
theorem classOf_call (c : UInt8) (w : World) (hT : Cls w) :
    Calls Tryd.prog 38 #[.int .u8 (c.toNat : Int)] w fun e w' => e = .returned (.int .u8 (cls c : Int)) ∧ w = w' := by
  have hlt : c.toNat < 256 := UInt8.toNat_lt c
  by_cases h : c.toNat < 128
  · have hc := hT.2 c.toNat h
    rw [clsTab_get c h] at hc
    generalize c.toNat = n at hlt h hc ⊢
    generalize cls c = k at hc ⊢
    go_enter Tryd.func38, Tryd.ntmps38
    go_wp2
    go_ret
    exact ⟨rfl, rfl⟩
  · rw [cls_high c (by omega)]
    generalize c.toNat = n at hlt h ⊢
    go_enter Tryd.func38, Tryd.ntmps38
    go_wp2
    go_ret
    exact ⟨rfl, rfl⟩

theorem ret_bool {a b : Bool} (h : a = b) : Ending.returned (.bool a) = .returned (.bool b) := by rw [h]
set_option maxHeartbeats 400000 in
set_option maxRecDepth 100000 in
theorem inSpace_call (c : UInt8) (w : World) : Calls Tryd.prog 54 #[.int .u8 (cls c : Int)] w fun e w' => e = .returned (.bool (isSpace c)) ∧ w = w' := by
  rw [← cls_space]
  generalize cls c = k
  go_enter Tryd.func54, Tryd.ntmps54
  go_wp2
  go_ret
  exact ⟨ret_bool (by rw [Bool.eq_iff_iff]; simp; omega), rfl⟩
set_option maxHeartbeats 400000 in
set_option maxRecDepth 100000 in
theorem inNumber_call (c : UInt8) (w : World) : Calls Tryd.prog 57 #[.int .u8 (cls c : Int)] w fun e w' => e = .returned (.bool (isDigit c)) ∧ w = w' := by
  rw [← cls_digit]
  generalize cls c = k
  go_enter Tryd.func57, Tryd.ntmps57
  go_wp2
  go_ret
  exact ⟨ret_bool (by rw [Bool.eq_iff_iff]; simp; omega), rfl⟩
set_option maxHeartbeats 400000 in
set_option maxRecDepth 100000 in
theorem inName_call (c : UInt8) (w : World) : Calls Tryd.prog 40 #[.int .u8 (cls c : Int)] w fun e w' => e = .returned (.bool (isPart c)) ∧ w = w' := by
  rw [← cls_part]
  have h := cls_lt c
  generalize cls c = k at h
  go_enter Tryd.func40, Tryd.ntmps40
  go_wp2
  all_goals (go_ret; exact ⟨ret_bool (by rw [Bool.eq_iff_iff]; simp; omega), rfl⟩)

/-- the bytes of a string -/
abbrev bs (s : ByteArray) : List UInt8 := s.data.toList
/-- where the bytes end that follow from a place on and belong together -/
def runEnd (p : UInt8 → Bool) (s : ByteArray) (k : Nat) : Nat := k + (((bs s).drop k).takeWhile p).length
theorem runEnd_le (p : UInt8 → Bool) (s : ByteArray) (k : Nat) (h : k ≤ s.size) : runEnd p s k ≤ s.size := by
  have h1 := (List.takeWhile_sublist p (l := (bs s).drop k)).length_le
  rw [List.length_drop, ← Lib.size_eq] at h1
  unfold runEnd; omega
theorem drop_at {s : ByteArray} {k : Nat} (h : k < s.size) : (bs s).drop k = s[k] :: (bs s).drop (k + 1) := by
  have h2 : k < (bs s).length := by rw [← Lib.size_eq]; exact h
  rw [List.drop_eq_getElem_cons h2]; rfl
theorem runEnd_next {p : UInt8 → Bool} {s : ByteArray} {k : Nat} (h : k < s.size) (hp : p s[k] = true) : runEnd p s k = runEnd p s (k + 1) := by
  unfold runEnd
  rw [drop_at h, List.takeWhile_cons, hp]
  simp; omega
theorem runEnd_stop {p : UInt8 → Bool} {s : ByteArray} {k : Nat} (h : k < s.size) (hp : p s[k] = false) : runEnd p s k = k := by
  unfold runEnd
  rw [drop_at h, List.takeWhile_cons, hp]
  simp
theorem runEnd_end {p : UInt8 → Bool} {s : ByteArray} {k : Nat} (h : s.size ≤ k) : runEnd p s k = k := by
  unfold runEnd
  rw [List.drop_eq_nil_of_le (by rw [← Lib.size_eq]; exact h)]; rfl

def EndHead (p : UInt8 → Bool) (s : ByteArray) (k0 : Nat) (s1 : Value) : Prop := ∃ k : Nat, s1 = .int .i64 (k : Int) ∧ k ≤ s.size ∧ runEnd p s k = runEnd p s k0

theorem ret_i64 {a b : Int} (h : a = b) : Ending.returned (.int .i64 a) = .returned (.int .i64 b) := by rw [h]
set_option maxHeartbeats 1000000 in
set_option maxRecDepth 100000 in
theorem endOf_space (s : ByteArray) (k0 : Nat) (w : World) (hk : k0 ≤ s.size) (hs : s.size ≤ 281474976710656) (hT : Cls w) :
    Calls Tryd.prog 39 #[.string s, .int .i64 (k0 : Int), .func (.func 54) #[] #[]] w fun e w' => e = .returned (.int .i64 (runEnd isSpace s k0 : Int)) ∧ w = w' := by
  have HT := Lib.hid hT
  clear hT
  go_enter Tryd.func39, Tryd.ntmps39
  go_wp2
  go_loop [1] (fun s1 => EndHead isSpace s k0 s1) (fun s1 => s.size - (intOf s1).toNat)
  case atStart => exact ⟨k0, rfl, hk, rfl⟩
  case round =>
    obtain ⟨k, rfl, hk2, he⟩ := hrel
    have HE := Lib.hid he
    clear he
    rcases Nat.lt_or_ge k s.size with hlt | hge
    · go_wp2_with (first | (go_at_call 38; refine (classOf_call _ _ HT.out).mono ?_; rintro e w' ⟨rfl, rfl⟩) | (go_at_call 54; refine (inSpace_call _ _).mono ?_; rintro e w' ⟨rfl, rfl⟩))
      · rename_i hb
        exact ⟨⟨k + 1, by go_num, by omega, by rw [← HE.out, runEnd_next hlt hb]⟩, by simp [intOf]; omega⟩
      · rename_i hb
        go_ret
        exact ⟨ret_i64 (by rw [← HE.out, runEnd_stop hlt hb]), rfl⟩
    · obtain rfl : k = s.size := by omega
      go_wp2
      go_ret
      exact ⟨ret_i64 (by rw [← HE.out, runEnd_end (Nat.le_refl _)]), rfl⟩
set_option maxHeartbeats 1000000 in
set_option maxRecDepth 100000 in
theorem endOf_number (s : ByteArray) (k0 : Nat) (w : World) (hk : k0 ≤ s.size) (hs : s.size ≤ 281474976710656) (hT : Cls w) :
    Calls Tryd.prog 39 #[.string s, .int .i64 (k0 : Int), .func (.func 57) #[] #[]] w fun e w' => e = .returned (.int .i64 (runEnd isDigit s k0 : Int)) ∧ w = w' := by
  have HT := Lib.hid hT
  clear hT
  go_enter Tryd.func39, Tryd.ntmps39
  go_wp2
  go_loop [1] (fun s1 => EndHead isDigit s k0 s1) (fun s1 => s.size - (intOf s1).toNat)
  case atStart => exact ⟨k0, rfl, hk, rfl⟩
  case round =>
    obtain ⟨k, rfl, hk2, he⟩ := hrel
    have HE := Lib.hid he
    clear he
    rcases Nat.lt_or_ge k s.size with hlt | hge
    · go_wp2_with (first | (go_at_call 38; refine (classOf_call _ _ HT.out).mono ?_; rintro e w' ⟨rfl, rfl⟩) | (go_at_call 57; refine (inNumber_call _ _).mono ?_; rintro e w' ⟨rfl, rfl⟩))
      · rename_i hb
        exact ⟨⟨k + 1, by go_num, by omega, by rw [← HE.out, runEnd_next hlt hb]⟩, by simp [intOf]; omega⟩
      · rename_i hb
        go_ret
        exact ⟨ret_i64 (by rw [← HE.out, runEnd_stop hlt hb]), rfl⟩
    · obtain rfl : k = s.size := by omega
      go_wp2
      go_ret
      exact ⟨ret_i64 (by rw [← HE.out, runEnd_end (Nat.le_refl _)]), rfl⟩
set_option maxHeartbeats 1000000 in
set_option maxRecDepth 100000 in
theorem endOf_name (s : ByteArray) (k0 : Nat) (w : World) (hk : k0 ≤ s.size) (hs : s.size ≤ 281474976710656) (hT : Cls w) :
    Calls Tryd.prog 39 #[.string s, .int .i64 (k0 : Int), .func (.func 40) #[] #[]] w fun e w' => e = .returned (.int .i64 (runEnd isPart s k0 : Int)) ∧ w = w' := by
  have HT := Lib.hid hT
  clear hT
  go_enter Tryd.func39, Tryd.ntmps39
  go_wp2
  go_loop [1] (fun s1 => EndHead isPart s k0 s1) (fun s1 => s.size - (intOf s1).toNat)
  case atStart => exact ⟨k0, rfl, hk, rfl⟩
  case round =>
    obtain ⟨k, rfl, hk2, he⟩ := hrel
    have HE := Lib.hid he
    clear he
    rcases Nat.lt_or_ge k s.size with hlt | hge
    · go_wp2_with (first | (go_at_call 38; refine (classOf_call _ _ HT.out).mono ?_; rintro e w' ⟨rfl, rfl⟩) | (go_at_call 40; refine (inName_call _ _).mono ?_; rintro e w' ⟨rfl, rfl⟩))
      · rename_i hb
        exact ⟨⟨k + 1, by go_num, by omega, by rw [← HE.out, runEnd_next hlt hb]⟩, by simp [intOf]; omega⟩
      · rename_i hb
        go_ret
        exact ⟨ret_i64 (by rw [← HE.out, runEnd_stop hlt hb]), rfl⟩
    · obtain rfl : k = s.size := by omega
      go_wp2
      go_ret
      exact ⟨ret_i64 (by rw [← HE.out, runEnd_end (Nat.le_refl _)]), rfl⟩
end Go.Proofs.YtilpcchcccbfcaaDoor
