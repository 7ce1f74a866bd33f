/- Hashes as exponents: the law of hashes. -/
import Derived.Test.YtcoboacjcnjdoaaDoorW
import Derived.Test.YtcoboacjcnjdoaaDoorI
namespace Go.Proofs.YtcoboacjcnjdoaaDoor.Dig
open Go.RowKit

def RHead (d : List UInt8) (W0 : World) (s7 s26 : Value) (wr : World) : Prop := ∃ k : Nat, k ≤ 8 ∧ s7 = .int .i64 (hsh d k) ∧ s26 = .int .i64 (k : Int) ∧ wr = W0
set_option maxHeartbeats 2000000 in
set_option maxRecDepth 100000 in
theorem hash_walk (tag : ByteArray) (l : List UInt8) (v : Value) (w : World) (hr : Rest w.heap.size w l v) (hT : Tab w) :
    Calls Tryd.prog 4 #[.string tag, v] w fun e w' => e = .returned (.bool true) ∧ Below w.heap.size w w' := by
  have HT := Lib.hid hT
  have HR := Lib.hid hr
  obtain ⟨va, vc, rfl⟩ : ∃ a cap, v = .slice a l.length cap := by obtain ⟨a, cap, h, _⟩ := hr; exact ⟨a, cap, h⟩
  obtain ⟨ln, hln⟩ : ∃ ln, ln = l.length := ⟨_, rfl⟩
  have HLN := Lib.hid hln
  have hlm : (ln : Int) ≤ 9223372036854775807 := by
    obtain ⟨_, _, h, h1, h2, _⟩ := hr
    unfold maxLen at h2
    injection h with _ h3 h4
    omega
  rw [← hln]
  clear hr hT hln
  by_cases h1 : (2000 : Int) < (ln : Int)
  · go_enter Tryd.func4, Tryd.ntmps4
    go_wp2_with fail
    refine (sane_call w).mono ?_
    rintro e w1 ⟨rfl, hb1⟩
    go_wp2_with fail
    go_ret
    exact ⟨rfl, hb1⟩
  · by_cases h2 : (200 : Int) < (tag.size : Int)
    · go_enter Tryd.func4, Tryd.ntmps4
      go_wp2_with fail
      refine (sane_call w).mono ?_
      rintro e w1 ⟨rfl, hb1⟩
      go_wp2_with fail
      go_ret
      exact ⟨rfl, hb1⟩
    · have HC1 : Hid (∀ W, Below w.heap.size w W → Calls Tryd.prog 10 #[.string tag, .slice va ln vc] W fun e w' => e = .returned (.int .i64 (hsh (tagged tag.data.toList l) 8)) ∧ Below W.heap.size W w') := Lib.hid (fun W hW => by
        have := Hash_call tag l (.slice va l.length vc) W (by omega) (by rw [← HLN.out]; omega) (rest_keep HR.out hW) (HT.out.keep hW)
        rwa [← HLN.out] at this)
      have HC2 : Hid (∀ W, Below w.heap.size w W → Calls Tryd.prog 12 #[.string tag, .slice va ln vc] W fun e w' => e = .returned (dg (tagged tag.data.toList l)) ∧ Below W.heap.size W w') := Lib.hid (fun W hW => by
        have := tagged_call tag l (.slice va l.length vc) W (by omega) (by rw [← HLN.out]; omega) (rest_keep HR.out hW) (HT.out.keep hW)
        rwa [← HLN.out] at this)
      obtain ⟨d, hd⟩ : ∃ d, d = tagged tag.data.toList l := ⟨_, rfl⟩
      have HLD : Hid (d.length = 32) := Lib.hid (by rw [hd]; exact tagged_len _ _)
      rw [← hd] at HC1 HC2
      obtain ⟨r8, hr8⟩ : ∃ r8, r8 = hsh d 8 := ⟨_, rfl⟩
      rw [← hr8] at HC1
      have HR8 := Lib.hid hr8
      have hr0 : 0 ≤ r8 := by rw [hr8]; exact (hsh_rng d 8).1
      have hr1 : r8 < 1073741789 := by rw [hr8]; exact (hsh_rng d 8).2
      clear hd hr8
      go_enter Tryd.func4, Tryd.ntmps4
      go_wp2_with fail
      refine (sane_call w).mono ?_
      rintro e w1 ⟨rfl, hb1⟩
      have HB1 := Lib.hid hb1
      clear hb1
      go_wp2_with fail
      refine (HC1.out w1 HB1.out).mono ?_
      rintro e w2 ⟨rfl, hb2⟩
      have HB2 := Lib.hid (below_next HB1.out hb2)
      clear hb2
      go_wp2_with fail
      refine (HC2.out w2 HB2.out).mono ?_
      rintro e w3 ⟨rfl, hb3⟩
      have HB3 := Lib.hid (below_next HB2.out hb3)
      clear hb3
      go_wp2_with (first
        | (refine wpList_alloc_dig rfl 6 rfl rfl ?_; intro g5 w4 hg hrow hb; have H5 := Lib.hid hrow; have hg5 : w.heap.size ≤ g5 := (by have := HB3.out.size; omega); have HB4 := Lib.hid (below_next HB3.out hb); clear hg hrow hb)
        | (refine wpList_store_dig rfl (.tmp 6) (.tmp 25) rfl g5 d HLD.out rfl rfl H5.out HB4.out hg5 ?_; intro w5 hrow hb hoth; have H6 := Lib.hid hrow; have HB5 := Lib.hid hb; clear hrow hb hoth)
        | fail)
      go_loopw [7, 26] (fun s7 s26 wr => RHead d w5 s7 s26 wr) (fun _ s26 _ => 8 - (intOf s26).toNat)
      case atStart => exact ⟨0, by omega, rfl, rfl, rfl⟩
      case round =>
        obtain ⟨k, hk, rfl, rfl, rfl⟩ := hrel
        rcases Nat.lt_or_ge k 8 with hlt | hge
        · have hki : (k : Int) < 8 := by omega
          have HRG := Lib.hid (hsh_rng d k)
          have HS : Hid (hsh d (k + 1) = (hsh d k * 256 + (dm d k : Int)) % 1073741789) := Lib.hid rfl
          have HLT := Lib.hid (UInt8.toNat_lt (d.getD k 0))
          have ck := row_at0 H6.out HLD.out k (by omega)
          obtain ⟨y, hy⟩ : ∃ y, y = hsh d k := ⟨_, rfl⟩
          obtain ⟨x, hx⟩ : ∃ x : Int, x = ((d.getD k 0).toNat : Int) := ⟨_, rfl⟩
          rw [← hy] at HRG HS ⊢
          rw [← hx] at ck
          have hx0 : 0 ≤ x := by omega
          have hx1 : x < 256 := by have := HLT.out; omega
          have hy0 : 0 ≤ y := HRG.out.1
          have hy1 : y < 1073741789 := HRG.out.2
          have hw1 : wrap64 (y * 256) = y * 256 := by unfold wrap64; omega
          by_cases hk0 : k = 0
          · have HD : Hid ((dm d k : Int) = x % 128) := Lib.hid (by rw [hx, hk0]; unfold dm; rw [if_pos rfl]; rfl)
            have hw2 : wrap64 (y * 256 + x % 128) = y * 256 + x % 128 := by unfold wrap64; omega
            have hp : 0 ≤ y * 256 + x % 128 := by omega
            have hm0 : 0 ≤ x % 128 := by omega
            clear hy hx hk
            have hkb : (k : Int) = 0 := by omega
            have hkc : ((k : Int) == 0) = true := by simp [hkb]
            have HK0 := Lib.hid hk0
            rw [hk0] at ck
            clear hk0
            go_wp2_with fail
            exact ⟨⟨k + 1, by omega, by rw [HS.out, HD.out], by go_num, rfl⟩, by simp [intOf]; omega⟩
          · have HD : Hid ((dm d k : Int) = x) := Lib.hid (by rw [hx]; unfold dm; rw [if_neg hk0])
            have hw2 : wrap64 (y * 256 + x) = y * 256 + x := by unfold wrap64; omega
            have hp : 0 ≤ y * 256 + x := by omega
            clear hy hx hk
            have hkb : ¬ (k : Int) = 0 := by omega
            have hkc : ((k : Int) == 0) = false := by simp; omega
            have HK0 := Lib.hid hk0
            clear hk0
            go_wp2_with fail
            exact ⟨⟨k + 1, by omega, by rw [HS.out, HD.out], by go_num, rfl⟩, by simp [intOf]; omega⟩
        · obtain rfl : k = 8 := by omega
          rw [← HR8.out]
          go_wp2_with fail
          go_ret
          exact ⟨rfl, HB5.out⟩
end Go.Proofs.YtcoboacjcnjdoaaDoor.Dig
