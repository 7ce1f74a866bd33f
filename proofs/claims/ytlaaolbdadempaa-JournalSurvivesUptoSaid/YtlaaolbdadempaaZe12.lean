/- Numbers, digits and the checksum: the program's functions. -/
import Derived.Laws.ShiftsVarLaws
import Derived.Laws.Wrap64
import Derived.IntWalk
import Derived.Test.YtlaaolbdadempaaZe11
namespace Go.Proofs.Ytlaaolbdadempaa
open Go.RowKit

theorem ret_u32 {a b : Int} (h : a = b) : Ending.returned (.int .u32 a) = .returned (.int .u32 b) := by rw [h]
def numK (l : List UInt8) : Nat → Nat
  | 0 => 0
  | k + 1 => numK l k * 256 + (l.getD k 0).toNat
theorem numK_lt (l : List UInt8) : ∀ k, numK l k < 256 ^ k
  | 0 => by simp [numK]
  | k + 1 => by
    have := numK_lt l k
    have h2 := (l.getD k 0).toNat_lt
    rw [numK, Nat.pow_succ]; omega
theorem numK_4 (l : List UInt8) : numK l 4 = num4 l := by simp [numK, num4]
theorem num4_lt (l : List UInt8) : num4 l < 4294967296 := by rw [← numK_4]; exact numK_lt l 4
theorem numK_or (l : List UInt8) (k : Nat) (hk : k < 4) : bits .or .u32 ((numK l k : Int) * 256 % 4294967296) (((l[k]?.getD 0).toNat : Int) % 4294967296) = (numK l (k + 1) : Int) := by
  rw [← List.getD_eq_getElem?_getD]
  have h1 := numK_lt l k
  have h1' : numK l k < 16777216 := Nat.lt_of_lt_of_le h1 (by rw [show (16777216 : Nat) = 256 ^ 3 from rfl]; exact Nat.pow_le_pow_right (by omega) (by omega))
  have h2 := (l.getD k 0).toNat_lt
  have e : (numK l k : Int) * 256 % 4294967296 = ((numK l k * 256 : Nat) : Int) := by omega
  have e2 : ((l.getD k 0).toNat : Int) % 4294967296 = (((l.getD k 0).toNat : Nat) : Int) := by omega
  rw [e, e2, u32_or_nat _ _ (by omega) (by omega), nat_join 8 _ _ (by omega) (by omega)]; rfl
def NumHead (l : List UInt8) (w : World) (s2 s8 : Value) (wr : World) : Prop := ∃ k : Nat, k ≤ 4 ∧ s2 = .int .u32 (numK l k : Int) ∧ s8 = .int .i64 (k : Int) ∧ wr = w
set_option maxHeartbeats 1000000 in
set_option maxRecDepth 100000 in
theorem number_call (xs : List UInt8) (v : Value) (B : Nat) (w : World) (h : Rest B w xs v) (h4 : 4 ≤ xs.length) :
    Calls Try.prog 87 #[v] w fun e w' => e = .returned (.int .u32 (num4 xs : Int)) ∧ w' = w := by
  obtain ⟨a, cap, rfl, hl, hm, _, hc⟩ := h
  rcases hc with hc | ⟨b, off, rfl, _, hc⟩
  · omega
  have HC : Hid (∀ i, i < 4 → w.cell? ⟨b, off + i, none⟩ = some (.int .u8 ((xs[i]?.getD 0).toNat : Int))) := Lib.hid (fun i hi => by rw [hc i (by omega)]; simp [List.getElem?_eq_getElem (show i < xs.length by omega)])
  have HN := Lib.hid (numK_4 xs)
  have HL := Lib.hid hl
  have hcap : (4 : Int) ≤ (cap : Int) := by omega
  unfold maxLen at hm
  clear hc
  generalize xs.length = n at *
  go_enter Try.func87, Try.ntmps87
  go_wp2_with fail
  go_loopw [2, 8] (fun s2 s8 wr => NumHead xs w s2 s8 wr) (fun _ s8 _ => 4 - (intOf s8).toNat)
  case atStart => exact ⟨0, by omega, rfl, rfl, rfl⟩
  case round =>
    obtain ⟨k, hk, rfl, rfl, rfl⟩ := hrel
    rcases Nat.lt_or_ge k 4 with hlt | hge
    · have hcu := HC.out k hlt
      have hor := Lib.hid (numK_or xs k hlt)
      have hki : (k : Int) < 4 := by omega
      go_wp2_with fail
      exact ⟨⟨k + 1, by omega, by rw [← hor.out], by go_num, rfl⟩, by simp [intOf]; omega⟩
    · obtain rfl : k = 4 := by omega
      go_wp2_with fail
      go_ret
      exact ⟨ret_u32 (by rw [HN.out]), rfl⟩

theorem xor_lt {a b : Nat} (h1 : a < 4294967296) (h2 : b < 4294967296) : a ^^^ b < 4294967296 := Nat.xor_lt_two_pow (n := 32) h1 h2
theorem crcBit_lt {n : Nat} (h : n < 4294967296) : crcBit n < 4294967296 := by
  unfold crcBit
  split
  · exact xor_lt (by omega) (by omega)
  · omega
theorem crcBits_lt : ∀ (k : Nat) {n : Nat}, n < 4294967296 → crcBits k n < 4294967296
  | 0, _, h => h
  | k + 1, _, h => crcBit_lt (crcBits_lt k h)
theorem crcByte_lt {n : Nat} (c : UInt8) (h : n < 4294967296) : crcByte n c < 4294967296 := crcBits_lt 8 (xor_lt h (by have := c.toNat_lt; omega))
theorem crcFold_lt : ∀ (l : List UInt8) {n : Nat}, n < 4294967296 → l.foldl crcByte n < 4294967296
  | [], _, h => h
  | c :: l, _, h => crcFold_lt l (crcByte_lt c h)
theorem crc_lt (l : List UInt8) : crc l < 4294967296 := xor_lt (crcFold_lt l (by omega)) (by omega)
/-- the checksum of the first k bytes, on its way -/
def crcK (l : List UInt8) (k : Nat) : Nat := (l.take k).foldl crcByte 4294967295
theorem crcK_lt (l : List UInt8) (k : Nat) : crcK l k < 4294967296 := crcFold_lt _ (by omega)
theorem crcK_succ {l : List UInt8} {k : Nat} {c : UInt8} (h : l[k]? = some c) : crcK l (k + 1) = crcBits 8 (crcK l k ^^^ c.toNat) := by
  obtain ⟨h1, h2⟩ := List.getElem?_eq_some_iff.1 h
  unfold crcK
  rw [List.take_succ_eq_append_getElem h1, List.foldl_append, h2]; rfl
def CrcHead (l : List UInt8) (w : World) (s3 s9 : Value) (wr : World) : Prop := ∃ k : Nat, k ≤ l.length ∧ s3 = .int .u32 (crcK l k : Int) ∧ s9 = .int .i64 (k : Int) ∧ wr = w
def CrcIn (x : Nat) (w : World) (s3 s17 : Value) (wr : World) : Prop := ∃ j : Nat, j ≤ 8 ∧ s3 = .int .u32 (crcBits j x : Int) ∧ s17 = .int .i64 (j : Int) ∧ wr = w
set_option maxHeartbeats 2000000 in
set_option maxRecDepth 100000 in
theorem crc_call (xs : List UInt8) (v : Value) (B : Nat) (w : World) (h : Rest B w xs v) :
    Calls Try.prog 101 #[v] w fun e w' => e = .returned (.int .u32 (crc xs : Int)) ∧ w' = w := by
  obtain ⟨a, cap, rfl, hl, hm, _, hc⟩ := h
  have HC : Hid (∀ i x, xs[i]? = some x → ∃ b off, a = some ⟨b, off, none⟩ ∧ w.cell? ⟨b, off + i, none⟩ = some (.int .u8 (x.toNat : Int))) := Lib.hid (fun i x hi => by
    obtain ⟨h1, rfl⟩ := List.getElem?_eq_some_iff.1 hi
    rcases hc with hc | ⟨b, off, rfl, _, hc⟩
    · omega
    · exact ⟨b, off, rfl, hc i h1⟩)
  have HX : Hid (∀ k, k = xs.length → crc xs = 4294967295 ^^^ crcK xs k) := Lib.hid (fun k hk => by rw [hk]; unfold crcK crc crcFold; rw [List.take_length, Nat.xor_comm])
  unfold maxLen at hm
  obtain ⟨m, hm2⟩ : ∃ m, m = xs.length := ⟨_, rfl⟩
  have HM := Lib.hid hm2
  rw [← hm2] at HX hl ⊢
  clear hc hm2
  go_enter Try.func101, Try.ntmps101
  go_wp2_with fail
  go_loopw [3, 9] (fun s3 s9 wr => CrcHead xs w s3 s9 wr) (fun _ s9 _ => m - (intOf s9).toNat)
  case atStart => exact ⟨0, by omega, rfl, rfl, rfl⟩
  case round =>
    obtain ⟨k, hk, rfl, rfl, rfl⟩ := hrel
    rw [← HM.out] at hk
    rcases Nat.lt_or_ge k m with hlt | hge
    · obtain ⟨x, hx⟩ : ∃ x, xs[k]? = some x := ⟨_, List.getElem?_eq_getElem (by rw [← HM.out]; exact hlt)⟩
      obtain ⟨b, off, rfl, hcu⟩ := HC.out k x hx
      have HS := Lib.hid (crcK_succ hx)
      have hxl := x.toNat_lt
      have hn := crcK_lt xs k
      obtain ⟨y, hy⟩ : ∃ y, y = crcK xs k ^^^ x.toNat := ⟨_, rfl⟩
      have hyl : y < 4294967296 := by rw [hy]; exact xor_lt hn (by omega)
      have hxor : bits .xor .u32 (crcK xs k : Int) ((x.toNat : Int) % 4294967296) = (y : Int) := by
        rw [show (x.toNat : Int) % 4294967296 = ((x.toNat : Nat) : Int) by omega, u32_xor_nat _ _ hn (by omega), hy]
      rw [← hy] at HS
      have hxor2 : bits .xor .u32 (crcK xs k : Int) (x.toNat : Int) = (y : Int) := by
        rw [u32_xor_nat _ _ hn (by omega), hy]
      have HX2 := Lib.hid hxor2
      have hki : (k : Int) < (m : Int) := by omega
      clear hx hy
      go_wp2_with fail
      obtain ⟨wo, rfl⟩ : ∃ wo : World, wo = wr := ⟨_, rfl⟩
      clear hcu hxor hxor2 hn hxl
      go_loopw [3, 17] (fun s3 s17 wr => CrcIn y wo s3 s17 wr) (fun _ s17 _ => 8 - (intOf s17).toNat)
      case atStart => exact ⟨0, by omega, by first | rfl | rw [HX2.out]; rfl, rfl, rfl⟩
      case round =>
        obtain ⟨j, hj, rfl, rfl, rfl⟩ := hrel
        rcases Nat.lt_or_ge j 8 with hlt8 | hge8
        · have hzl := crcBits_lt j hyl
          have HB : Hid (crcBits (j + 1) y = crcBit (crcBits j y)) := Lib.hid rfl
          generalize crcBits j y = z at *
          have hand : bits .and .u32 (z : Int) 1 = ((z % 2 : Nat) : Int) := by
            have := u32_and_nat z 1 hzl (by omega); rw [nat_mask1] at this; exact this
          have hji : (j : Int) < 8 := by omega
          by_cases hz : z % 2 = 1
          · have hcb : Hid (crcBit z = z / 2 ^^^ 3988292384) := Lib.hid (by unfold crcBit; rw [if_pos hz])
            have hx2 : bits .xor .u32 ((z : Int) / 2) 3988292384 = ((z / 2 ^^^ 3988292384 : Nat) : Int) := by
              have h := u32_xor_nat (z / 2) 3988292384 (by omega) (by omega); rw [show ((z / 2 : Nat) : Int) = (z : Int) / 2 by omega] at h; exact h
            rw [hz] at hand
            go_wp2_with fail
            exact ⟨⟨j + 1, by omega, by rw [HB.out, hcb.out], by go_num, rfl⟩, by simp [intOf]; omega⟩
          · have hcb : Hid (crcBit z = z / 2) := Lib.hid (by unfold crcBit; rw [if_neg hz])
            have hz0 : z % 2 = 0 := by omega
            rw [hz0] at hand
            go_wp2_with fail
            exact ⟨⟨j + 1, by omega, by rw [HB.out, hcb.out]; simp, by go_num, rfl⟩, by simp [intOf]; omega⟩
        · obtain rfl : j = 8 := by omega
          go_wp2_with fail
          go_roundw
          case rel => exact ⟨k + 1, by rw [← HM.out]; omega, by rw [HS.out], by go_num, rfl⟩
          case measure => simp [intOf]; omega
    · obtain rfl : k = m := by omega
      have hn := crcK_lt xs k
      go_wp2_with fail
      go_ret
      exact ⟨ret_u32 (by rw [HX.out k rfl]; exact u32_xor_nat 4294967295 _ (by omega) hn), rfl⟩
end Go.Proofs.Ytlaaolbdadempaa
