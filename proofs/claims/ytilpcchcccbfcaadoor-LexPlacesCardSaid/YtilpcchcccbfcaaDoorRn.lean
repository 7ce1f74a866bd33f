/- The number of digits, as the reference reads it. -/
import Derived.Test.YtilpcchcccbfcaaDoorRa
import Derived.Test.YtilpcchcccbfcaaDoorF
namespace Go.Proofs.YtilpcchcccbfcaaDoor
open Go.RowKit

theorem results_tmps {fn : Func} {p q : Tmp} (h : fn.results = #[.tmp p, .tmp q]) (tmps : Array Value) (w : World) (x y : Value) (hx : tmps.getD p undef = x) (hy : tmps.getD q undef = y) :
    (results fn tmps).run Tryd.prog w = .ok (.tuple #[x, y]) w := by
  have hx' : tmps[p]?.getD undef = x := by simpa using hx
  have hy' : tmps[q]?.getD undef = y := by simpa using hy
  simp [results, h, hx', hy']
theorem num_take (s : ByteArray) (k : Nat) (h : k < s.size) : num ((bs s).take (k + 1)) = 10 * num ((bs s).take k) + (s[k].toNat - 48) := by
  have h2 : (bs s)[k]? = some s[k] := by
    have := drop_at h
    have h3 := congrArg (fun l => l[0]?) this
    simpa using h3
  unfold num
  rw [List.take_add_one, h2, List.foldl_append]
  rfl
theorem num_le (s : ByteArray) (k : Nat) : num ((bs s).take k) ≤ num (bs s) := by
  have h := numFrom_ge ((bs s).drop k) (num ((bs s).take k))
  have h2 : numFrom (num ((bs s).take k)) ((bs s).drop k) = num (bs s) := by
    unfold numFrom num
    rw [← List.foldl_append, List.take_append_drop]
  omega
def RnumHead (s : ByteArray) (s4 s5 : Value) : Prop := ∃ k : Nat, k ≤ s.size ∧ s5 = .int .i64 (k : Int) ∧ s4 = .int .i64 (num ((bs s).take k) : Int) ∧ num ((bs s).take k) ≤ 1099511627776

set_option maxHeartbeats 2000000 in
set_option maxRecDepth 100000 in
theorem refnum_call (s : ByteArray) (w : World) (h0 : 0 < s.size) (hs : s.size ≤ 281474976710656) (hd : (bs s).all isDigit = true) :
    Calls Tryd.prog 29 #[.string s] w fun e w' => (∃ x : Int, e = .returned (.tuple #[.int .i64 x, .bool (numOk (bs s))]) ∧ (numOk (bs s) = true → x = num (bs s))) ∧ ∃ n, w' = w.drewN n := by
  have HDG : Hid (∀ k (h : k < s.size), 48 ≤ s[k].toNat ∧ s[k].toNat ≤ 57) := Lib.hid (fun k h => by
    refine (isDigit_iff _).1 ?_
    refine List.all_eq_true.1 hd _ ?_
    have := drop_at h
    exact List.mem_of_mem_drop (i := k) (by rw [this]; simp))
  have HSZ := Lib.hid (Lib.size_eq s)
  have hok : numOk (bs s) = ((decide (s.size = 1) || !(decide (s[0].toNat = 48))) && decide (num (bs s) ≤ 1099511627776)) := by
    rw [name_head s h0, numOk_one, ← name_head s h0]
    have : (decide (((bs s).drop 1).length = 0)) = decide (s.size = 1) := by
      rw [List.length_drop, ← Lib.size_eq, Bool.eq_iff_iff]; simp; omega
    rw [this]
  obtain ⟨z, hz⟩ : ∃ z, z = num (bs s) := ⟨_, rfl⟩
  obtain ⟨r, hr⟩ : ∃ r, r = numOk (bs s) := ⟨_, rfl⟩
  rw [← hz, ← hr] at hok
  rw [← hz, ← hr]
  have HOK := Lib.hid hok
  have HZ := Lib.hid hz
  clear hok hz hr hd
  go_enter Tryd.func29, Tryd.ntmps29
  go_wp2
  go_loop [4, 5] (fun s4 s5 => RnumHead s s4 s5) (fun _ s5 => s.size - (intOf s5).toNat)
  case atStart => exact ⟨0, by omega, rfl, rfl, by simp [num]⟩
  case round =>
    obtain ⟨k, hk, rfl, rfl, hn⟩ := hrel
    rcases Nat.lt_or_ge k s.size with hlt | hge
    · obtain ⟨hd1, hd2⟩ := HDG.out k hlt
      have HT := Lib.hid (num_take s k hlt)
      have HLE := Lib.hid (num_le s (k + 1))
      obtain ⟨y, hy⟩ : ∃ y, y = num ((bs s).take k) := ⟨_, rfl⟩
      have HY := Lib.hid hy
      rw [← hy] at hn HT ⊢
      obtain ⟨c, hc⟩ : ∃ c, c = s[k].toNat := ⟨_, rfl⟩
      have hix : ∀ W : World, (Instr.index 9 (.string s) (.int .i64 (k : Int))).run Tryd.prog W = .ok (.int .u8 (c : Int)) W := fun W => by rw [hc]; exact index_str s k W hlt
      rw [← hc] at hd1 hd2 HT
      clear hy hc
      have hw1 : IntKind.u8.wrap ((c : Int) - 48) = (c : Int) - 48 := by rw [IntKind.wrap_u8]; omega
      by_cases hbig : (1099511627776 : Int) < 10 * (y : Int) + ((c : Int) - 48)
      · go_wp2
        have hr : r = false := by
          have h1 := HT.out; have h2 := HLE.out; have h3 := HZ.out
          rw [HOK.out, decide_eq_false (show ¬ z ≤ 1099511627776 by omega), Bool.and_false]
        exact bodyPost_ret (results_tmps rfl _ _ _ _ rfl rfl) rfl ⟨⟨0, (by rw [hr]; try rfl), fun h => by rw [hr] at h; cases h⟩, 0, rfl⟩
      · go_wp2
        have h1 := HT.out
        exact ⟨⟨k + 1, by omega, by go_num, by rw [h1]; exact congrArg (Value.int .i64) (by omega), by rw [h1]; omega⟩, by simp [intOf]; omega⟩
    · obtain rfl : k = s.size := by omega
      have htk : (bs s).take s.size = bs s := List.take_of_length_le (by rw [← Lib.size_eq]; exact Nat.le_refl _)
      rw [htk, ← HZ.out] at hn ⊢
      by_cases h1 : s.size = 1
      · have h1i : ((s.size : Int) == 1) = true := by simp; omega
        go_wp2_with fail
        go_quiet (fail)
        have hr : r = true := by rw [HOK.out, decide_eq_true h1, decide_eq_true hn]; rfl
        go_wp2_with fail
        exact bodyPost_ret (results_tmps rfl _ _ _ _ rfl rfl) rfl ⟨⟨z, (by rw [hr]; try rfl), fun _ => rfl⟩, _, rfl⟩
      · have h1i : ((s.size : Int) == 1) = false := by simp; omega
        go_wp2_with fail
        go_quiet (fail)
        have hr : r = (((s[0].toNat : Nat) : Int) != 48) := by
          rw [HOK.out, decide_eq_false h1, decide_eq_true hn, Bool.false_or, Bool.and_true, Bool.eq_iff_iff]; simp; omega
        go_wp2_with fail
        exact bodyPost_ret (results_tmps rfl _ _ _ _ rfl rfl) rfl ⟨⟨z, (by rw [hr]; try rfl), fun _ => rfl⟩, _, rfl⟩
end Go.Proofs.YtilpcchcccbfcaaDoor
