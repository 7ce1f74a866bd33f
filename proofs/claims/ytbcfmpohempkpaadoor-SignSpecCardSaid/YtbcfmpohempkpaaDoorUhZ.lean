/- Hashes as exponents: the specification's function. -/
import Derived.Test.YtbcfmpohempkpaaDoorZc22
import Derived.Test.YtbcfmpohempkpaaDoorXRtZ
namespace Go.Proofs.YtbcfmpohempkpaaDoor.Dig
open Go.RowKit

/-- the number that k + 1 bytes form -/
def rN (d : List UInt8) : Nat → Nat
  | 0 => dm d 0
  | k + 1 => rN d k * 256 + dm d (k + 1)
theorem rN_mod (d : List UInt8) : ∀ k, (rN d k : Int) % 1073741789 = hsh d (k + 1)
  | 0 => by simp [rN, hsh]
  | k + 1 => by
    rw [hsh, ← rN_mod d k, rN]
    omega
theorem rN_lt (d : List UInt8) : ∀ k, rN d k < 128 * 256 ^ k
  | 0 => by unfold rN dm; simp; omega
  | k + 1 => by
    have h1 := rN_lt d k
    have h2 := dm_lt d (k + 1)
    rw [rN, Nat.pow_succ]
    omega
def QHead (d : List UInt8) (W0 : World) (s6 s7 : Value) (wr : World) : Prop := ∃ k : Nat, k ≤ 7 ∧ s6 = .int .i64 (rN d k : Int) ∧ s7 = .int .i64 ((k + 1 : Nat) : Int) ∧ wr = W0
set_option maxHeartbeats 1000000 in
set_option maxRecDepth 100000 in
theorem refHash_call (tag : ByteArray) (l : List UInt8) (v : Value) (w : World) (ht : tag.size ≤ 549755813888) (hl : l.length ≤ 549755813888) (hr : Rest w.heap.size w l v) :
    Calls Tryd.prog 27 #[.string tag, v] w fun e w' => e = .returned (.int .i64 (hsh (tagged tag.data.toList l) 8)) ∧ Below w.heap.size w w' := by
  have HC := Lib.hid (reftagged_call tag l v w ht hl hr)
  obtain ⟨d, hd⟩ : ∃ d, d = tagged tag.data.toList l := ⟨_, rfl⟩
  have HLD : Hid (d.length = 32) := Lib.hid (by rw [hd]; exact tagged_len _ _)
  rw [← hd] at HC ⊢
  clear hr hd ht hl
  obtain ⟨n0, hn0⟩ : ∃ n0, n0 = (d.getD 0 0).toNat := ⟨_, rfl⟩
  have HN0 := Lib.hid hn0
  have HD0 : Hid ((rN d 0 : Nat) = n0 % 128) := Lib.hid (by rw [hn0]; unfold rN dm; rw [if_pos rfl])
  have HN1 : Hid (n0 < 256) := Lib.hid (by rw [hn0]; exact UInt8.toNat_lt _)
  clear hn0
  go_enter Tryd.func27, Tryd.ntmps27
  go_wp2_with fail
  refine HC.out.mono ?_
  rintro e w1 ⟨rfl, hb1⟩
  have HB1 := Lib.hid hb1
  have hn0i : (n0 : Int) < 256 := by have := HN1.out; omega
  clear hb1 HC
  go_wp2_with (first
    | (refine wpList_alloc_dig rfl 5 rfl rfl ?_; intro g5 w4 hg hrow hb; have H5 := Lib.hid hrow; have hg5 : w.heap.size ≤ g5 := (by have := HB1.out.size; omega); have HB2 := Lib.hid (below_next HB1.out hb); clear hg hrow hb)
    | (refine wpList_store_dig rfl (.tmp 5) (.tmp 10) rfl g5 d HLD.out rfl rfl H5.out HB2.out hg5 ?_; intro w5 hrow hb hoth; have H6 := Lib.hid hrow; have HB3 := Lib.hid hb; have c0 : w5.cell? ⟨g5, 0, none⟩ = some (.int .u8 (n0 : Int)) := (by rw [HN0.out]; exact row_at0 hrow HLD.out 0 (by omega)); clear hrow hb hoth)
    | fail)
  clear c0
  go_loopw [6, 7] (fun s6 s7 wr => QHead d w5 s6 s7 wr) (fun _ s7 _ => 8 - (intOf s7).toNat)
  case atStart => exact ⟨0, by omega, by rw [HD0.out]; rfl, rfl, rfl⟩
  case round =>
    obtain ⟨k, hk, rfl, rfl, rfl⟩ := hrel
    obtain ⟨j, hj⟩ : ∃ j, j = k + 1 := ⟨_, rfl⟩
    rw [← hj]
    have HJ := Lib.hid hj
    rcases Nat.lt_or_ge j 8 with hlt | hge
    · have hki : (j : Int) < 8 := by omega
      have hj0 : ¬ j = 0 := by omega
      have HLT := Lib.hid (UInt8.toNat_lt (d.getD j 0))
      have HRL := Lib.hid (rN_lt d k)
      have HPW : Hid (256 ^ k ≤ 256 ^ 6) := Lib.hid (Nat.pow_le_pow_right (by omega) (by omega))
      have ck := row_at0 H6.out HLD.out j (by omega)
      have HD : Hid (rN d (k + 1) = rN d k * 256 + (d.getD j 0).toNat) := Lib.hid (by rw [rN, ← hj]; unfold dm; rw [if_neg hj0])
      obtain ⟨y, hy⟩ : ∃ y : Int, y = (rN d k : Int) := ⟨_, rfl⟩
      obtain ⟨x, hx⟩ : ∃ x : Int, x = ((d.getD j 0).toNat : Int) := ⟨_, rfl⟩
      rw [← hy]
      rw [← hx] at ck
      have HE : Hid (((rN d (k + 1) : Nat) : Int) = y * 256 + x) := Lib.hid (by rw [HD.out, hy, hx]; omega)
      have hx0 : 0 ≤ x := by omega
      have hx1 : x < 256 := by have := HLT.out; omega
      have hy0 : 0 ≤ y := by omega
      have hy1 : y < 36028797018963968 := by have := HRL.out; have := HPW.out; omega
      have hw1 : wrap64 (y * 256) = y * 256 := by unfold wrap64; omega
      have hw2 : wrap64 (y * 256 + x) = y * 256 + x := by unfold wrap64; omega
      clear hy hx hj hj0 hk
      go_wp2_with fail
      exact ⟨⟨k + 1, by have := HJ.out; omega, by rw [HE.out], by rw [HJ.out]; go_num, rfl⟩, by simp [intOf]; omega⟩
    · obtain rfl : k = 7 := by omega
      subst hj
      have HM := Lib.hid (rN_mod d 7)
      obtain ⟨y, hy⟩ : ∃ y : Int, y = (rN d 7 : Int) := ⟨_, rfl⟩
      rw [← hy] at HM ⊢
      have hy0 : 0 ≤ y := by omega
      clear hy
      go_wp2_with fail
      go_ret
      exact ⟨ret_i64 HM.out, HB3.out⟩
end Go.Proofs.YtbcfmpohempkpaaDoor.Dig
