/- Reading: take and numeral, with the panics that report what is wrong. -/
import Derived.Test.YtgliddedimpgaaaE
namespace Go.Proofs.Ytgliddedimpgaaa
open Go.RowKit

/-- the panic that reports a wrong encoding -/
abbrev badCode : Ending := .panicked [{ v := .iface 28 (.int .i64 10), recovered := false }]

set_option maxHeartbeats 1000000 in
theorem take_some (rb b off len cap n : Nat) (w : World) (hn : n < len) (hl : len ≤ cap) (hm : cap ≤ maxLen) (hc : w.cell? ⟨rb, 0, none⟩ = some (.slice (some ⟨b, off, none⟩) len cap)) (hf : w.frozen? ⟨rb, 0, none⟩ = false) :
    Calls Try.prog 41 #[.pointer (some ⟨rb, 0, none⟩), .int .u64 (n : Int)] w fun e w' => e = .returned (.slice (some ⟨b, off, none⟩) n n) ∧ w' = w.setCell ⟨rb, 0, none⟩ (.slice (some ⟨b, off + n, none⟩) (len - n) (len - n)) := by
  unfold maxLen at hm
  go_enter Try.func41, Try.ntmps41
  go_wp2_with fail
  go_ret
  exact ⟨rfl, rfl⟩

set_option maxHeartbeats 1000000 in
theorem take_all (rb len cap : Nat) (a : Option Addr) (w : World) (ha : a = none → len = 0 ∧ cap = 0) (hl : len ≤ cap) (hm : cap ≤ maxLen) (hc : w.cell? ⟨rb, 0, none⟩ = some (.slice a len cap)) (hf : w.frozen? ⟨rb, 0, none⟩ = false) :
    Calls Try.prog 41 #[.pointer (some ⟨rb, 0, none⟩), .int .u64 (len : Int)] w fun e w' => e = .returned (.slice a len len) ∧ w' = w.setCell ⟨rb, 0, none⟩ (.slice a 0 0) := by
  unfold maxLen at hm
  rcases a with _ | ⟨b, off, sub⟩
  · obtain ⟨rfl, rfl⟩ := ha rfl
    go_enter Try.func41, Try.ntmps41
    go_wp2_with fail
    go_ret
    exact ⟨rfl, rfl⟩
  · clear ha
    go_enter Try.func41, Try.ntmps41
    go_wp2_with fail
    go_ret
    exact ⟨rfl, rfl⟩

theorem take_bad (rb len cap n : Nat) (a : Option Addr) (w : World) (hn : len < n) (hl : len ≤ maxLen) (hc : w.cell? ⟨rb, 0, none⟩ = some (.slice a len cap)) :
    Calls Try.prog 41 #[.pointer (some ⟨rb, 0, none⟩), .int .u64 (n : Int)] w fun e w' => e = badCode ∧ w' = w := by
  unfold maxLen at hl
  go_enter Try.func41, Try.ntmps41
  go_wp2_with fail
  exact ⟨rfl, rfl, rfl⟩

/-- In world w the slice v holds the bytes bs, in a block below B. -/
def Rest (B : Nat) (w : World) (bs : List UInt8) (v : Value) : Prop :=
  ∃ (a : Option Addr) (cap : Nat), v = .slice a bs.length cap ∧ bs.length ≤ cap ∧ cap ≤ maxLen ∧ (a = none → bs.length = 0 ∧ cap = 0) ∧
    (bs.length = 0 ∨ ∃ b off, a = some ⟨b, off, none⟩ ∧ b < B ∧ ∀ i (h : i < bs.length), w.cell? ⟨b, off + i, none⟩ = some (.int .u8 (bs[i].toNat : Int)))

theorem Rest.stays {B : Nat} {w w' : World} {bs : List UInt8} {v : Value} (h : Rest B w bs v) (hb : Below B w w') : Rest B w' bs v := by
  obtain ⟨a, cap, h1, h2, h3, h4, h5⟩ := h
  refine ⟨a, cap, h1, h2, h3, h4, ?_⟩
  rcases h5 with h0 | ⟨b, off, ha, hl, hc⟩
  · exact .inl h0
  · exact .inr ⟨b, off, ha, hl, fun i hi => (hb.cell (p := ⟨b, off + i, none⟩) hl).trans (hc i hi)⟩

/-- The reader at block rb has the bytes bs before it. -/
structure Rd (B rb : Nat) (w : World) (bs : List UInt8) : Prop where
  lo : B ≤ rb
  hi : rb < w.heap.size
  cell : ∃ v, w.cell? ⟨rb, 0, none⟩ = some v ∧ Rest B w bs v
  free : w.frozen? ⟨rb, 0, none⟩ = false

theorem rd_set {B rb : Nat} {w : World} {bs r : List UInt8} {v : Value} (h : Rd B rb w bs) (hv : Rest B w r v) : Rd B rb (w.setCell ⟨rb, 0, none⟩ v) r := by
  obtain ⟨u, hu, _⟩ := h.cell
  exact ⟨h.lo, by have := h.hi; simpa using this, ⟨v, World.cell?_setCell_same w _ v hu, hv.stays ((Below.refl _ _).setCell h.lo _)⟩, (World.frozen?_setCell _ _ _ _).trans h.free⟩

/-- Only block rb, and new blocks, have turned. -/
abbrev Only (rb : Nat) (w w' : World) : Prop := w.grownBy w' (some rb)
theorem Only.refl (rb : Nat) (w : World) : Only rb w w := World.grownBy.refl w _
theorem Only.trans {rb : Nat} {a b c : World} (h : Only rb a b) (k : Only rb b c) : Only rb a c :=
  ⟨k.os.trans h.os, k.tape.trans h.tape, k.output.trans h.output, Nat.le_trans h.size k.size, fun i hi hne => (k.block i (Nat.lt_of_lt_of_le hi h.size) hne).trans (h.block i hi hne)⟩
theorem only_set (rb : Nat) (w : World) (o : Nat) (v : Value) : Only rb w (w.setCell ⟨rb, o, none⟩ v) :=
  ⟨rfl, rfl, rfl, by simp, fun i _ hne => Below.heap_setCell w _ v i (fun e => hne (by rw [e]))⟩
theorem only_below {rb : Nat} {a b : World} (h : Below a.heap.size a b) : Only rb a b := ⟨h.os, h.tape, h.output, h.size, fun i hi _ => h.block i hi⟩
theorem Only.below {rb B : Nat} {a b : World} (h : Only rb a b) (hB : B ≤ rb) (hs : B ≤ a.heap.size) : Below B a b :=
  ⟨h.os, h.tape, h.output, h.size, fun i hi => h.block i (by omega) (fun e => by injection e with e; omega)⟩

/-- one byte taken -/
def Took (B rb : Nat) (w w' : World) (d : UInt8) (r : List UInt8) (e : Ending) : Prop :=
  ∃ b off, e = .returned (.slice (some ⟨b, off, none⟩) 1 1) ∧ w'.cell? ⟨b, off, none⟩ = some (.int .u8 (d.toNat : Int)) ∧ Rd B rb w' r ∧ Only rb w w'

theorem take_byte (B rb : Nat) (w : World) (d : UInt8) (r : List UInt8) (h : Rd B rb w (d :: r)) :
    Calls Try.prog 41 #[.pointer (some ⟨rb, 0, none⟩), .int .u64 1] w fun e w' => Took B rb w w' d r e := by
  obtain ⟨v, hv, hR⟩ := h.cell
  obtain ⟨a, cap, rfl, hl, hm, ha, hc⟩ := hR
  rcases hc with h0 | ⟨b, off, rfl, hb, hc⟩
  · simp at h0
  have hd := hc 0 (by simp)
  have hne : (⟨rb, 0, none⟩ : Addr) ≠ ⟨b, off, none⟩ := fun e => by have e2 := congrArg Addr.block e; simp at e2; have := h.lo; omega
  have hd2 : ∀ u, (w.setCell ⟨rb, 0, none⟩ u).cell? ⟨b, off, none⟩ = some (.int .u8 (d.toNat : Int)) := fun u => by
    rw [((Below.refl B w).setCell (p := ⟨rb, 0, none⟩) h.lo u).cell (p := ⟨b, off, none⟩) hb]; simpa using hd
  cases r with
  | nil =>
    refine (take_all rb 1 cap (some ⟨b, off, none⟩) w (fun h => by cases h) hl hm hv h.free).mono ?_
    rintro e w' ⟨rfl, rfl⟩
    exact ⟨b, off, rfl, hd2 _, rd_set h ⟨_, 0, rfl, Nat.le_refl _, by simp [maxLen], (fun h => by cases h), .inl rfl⟩, only_set rb w 0 _⟩
  | cons d2 r =>
    refine (take_some rb b off _ cap 1 w (by simp) hl hm hv h.free).mono ?_
    rintro e w' ⟨rfl, rfl⟩
    refine ⟨b, off, rfl, hd2 _, rd_set h ⟨_, _, rfl, by simp, by simp at hl ⊢; omega, (fun h => by cases h), .inr ⟨b, off + 1, rfl, hb, fun i hi => ?_⟩⟩, only_set rb w 0 _⟩
    have h3 := hc (i + 1) (by simp at hi ⊢; omega)
    rw [show off + 1 + i = off + (i + 1) by omega]
    simpa using h3

theorem take_none (B rb n : Nat) (w : World) (bs : List UInt8) (h : Rd B rb w bs) (hn : bs.length < n) :
    Calls Try.prog 41 #[.pointer (some ⟨rb, 0, none⟩), .int .u64 (n : Int)] w fun e w' => e = badCode ∧ w' = w := by
  obtain ⟨v, hv, hR⟩ := h.cell
  obtain ⟨a, cap, rfl, hl, hm, ha, hc⟩ := hR
  exact take_bad rb _ cap n a w hn (by omega) hv

/-- a numeral, read digit by digit -/
def rd : Nat → Nat → List UInt8 → Option (Nat × List UInt8)
  | _, _, [] => none
  | j, u, d :: r => if (j = 9 ∧ 1 < d.toNat) ∨ (0 < j ∧ d.toNat = 0) then none else if d.toNat < 128 then some (u + d.toNat % 128 * 128 ^ j, r) else rd (j + 1) (u + d.toNat % 128 * 128 ^ j) r
def readNum (bs : List UInt8) : Option (Nat × List UInt8) := rd 0 0 bs

def NumRead (B rb : Nat) (w w' : World) (o : Option (Nat × List UInt8)) (e : Ending) : Prop :=
  match o with
  | some (u, r) => e = .returned (.int .u64 (u : Int)) ∧ Rd B rb w' r ∧ Only rb w w' ∧ u ≤ 18446744073709551615
  | none => e = badCode ∧ Only rb w w'

theorem wrap_0 (x : Nat) : (x : Int) % 128 = IntKind.u64.wrap (((x % 128 : Nat) : Int) * 2 ^ 0) := by
  rw [IntKind.wrap_u64]; omega

def NumHead2 (B rb : Nat) (w : World) (bs : List UInt8) (s2 s3 : Value) (wr : World) : Prop :=
  ∃ (j u m : Nat) (r : List UInt8), s3 = .int .i64 (m : Int) ∧ s2 = .int .u64 (u : Int) ∧ m = 7 * j ∧ j ≤ 9 ∧ u < 128 ^ j ∧ Rd B rb wr r ∧ Only rb w wr ∧ rd j u r = readNum bs

theorem pow_128 (j : Nat) : 128 ^ j = 2 ^ (7 * j) := by rw [Nat.pow_mul]

theorem digit_lt (j y : Nat) (hj : j ≤ 9) (hy : y < 128) (h9 : j = 9 → y ≤ 1) : y * 128 ^ j ≤ 9223372036854775808 := by
  rcases Nat.lt_or_ge j 9 with h | h
  · have h1 : 128 ^ j ≤ 128 ^ 8 := Nat.pow_le_pow_right (by omega) (by omega)
    have h2 : y * 128 ^ j ≤ 127 * 128 ^ 8 := Nat.mul_le_mul (by omega) h1
    omega
  · obtain rfl : j = 9 := by omega
    have := h9 rfl
    omega

theorem or_digit (j m u y : Nat) (hm : m = 7 * j) (hj : j ≤ 9) (hu : u < 128 ^ j) (hy : y < 128) (h9 : j = 9 → y ≤ 1) :
    bits .or .u64 (u : Int) (IntKind.u64.wrap (((y : Nat) : Int) * 2 ^ m)) = ((u + y * 128 ^ j : Nat) : Int) := by
  have hlt := digit_lt j y hj hy h9
  have hj9 : 128 ^ j ≤ 128 ^ 9 := Nat.pow_le_pow_right (by omega) hj
  have e1 : ((y : Nat) : Int) * 2 ^ m = ((y * 128 ^ j : Nat) : Int) := by rw [pow_128, hm]; simp
  rw [e1, IntKind.wrap_u64]
  have e2 : ((y * 128 ^ j : Nat) : Int) % 18446744073709551616 = ((y * 128 ^ j : Nat) : Int) := by omega
  rw [e2, u64_or_nat _ _ (by omega) (by omega), Nat.or_comm, nat_join (7 * j) (y * 128 ^ j) u (by rw [← pow_128]; exact Nat.mul_mod_left _ _) (by rw [← pow_128]; exact hu), Nat.add_comm]

theorem sum_lt (j u y : Nat) (hj : j ≤ 8) (hu : u < 128 ^ j) (hy : y < 128) : u + y * 128 ^ j < 128 ^ (j + 1) := by
  have h1 : y * 128 ^ j ≤ 127 * 128 ^ j := Nat.mul_le_mul_right _ (by omega)
  rw [Nat.pow_succ]; omega

theorem sum_le (j u y : Nat) (hj : j ≤ 9) (hu : u < 128 ^ j) (hy : y < 128) (h9 : j = 9 → y ≤ 1) : u + y * 128 ^ j ≤ 18446744073709551615 := by
  have hlt := digit_lt j y hj hy h9
  have hj9 : 128 ^ j ≤ 128 ^ 9 := Nat.pow_le_pow_right (by omega) hj
  omega

theorem numread_bad {B rb : Nat} {w w' : World} {bs : List UInt8} {j u : Nat} {r : List UInt8} (h : rd j u r = readNum bs) (h2 : rd j u r = none) (ho : Only rb w w') : NumRead B rb w w' (readNum bs) badCode := by
  rw [← h, h2]; exact ⟨rfl, ho⟩
theorem numread_ok {B rb : Nat} {w w' : World} {bs : List UInt8} {j u v : Nat} {r r2 : List UInt8} {e : Ending} (h : rd j u r = readNum bs) (h2 : rd j u r = some (v, r2)) (he : e = .returned (.int .u64 (v : Int))) (hr : Rd B rb w' r2) (ho : Only rb w w') (hv : v ≤ 18446744073709551615) : NumRead B rb w w' (readNum bs) e := by
  rw [← h, h2]; exact ⟨he, hr, ho, hv⟩

set_option maxHeartbeats 4000000 in
set_option maxRecDepth 100000 in
theorem numeral_call (B rb : Nat) (w : World) (bs : List UInt8) (h : Rd B rb w bs) :
    Calls Try.prog 43 #[.pointer (some ⟨rb, 0, none⟩)] w fun e w' => NumRead B rb w w' (readNum bs) e := by
  go_enter Try.func43, Try.ntmps43
  go_wp2_with fail
  go_loopw [2, 3] (fun s2 s3 wr => NumHead2 B rb w bs s2 s3 wr) (fun _ s3 _ => (70 - intOf s3).toNat)
  case atStart => exact ⟨0, 0, 0, bs, rfl, rfl, rfl, by omega, by simp, h, Only.refl _ _, rfl⟩
  case round =>
    obtain ⟨j, u, m, r, rfl, rfl, hm, hj, hu, hr, ho, hrd⟩ := hrel
    have HRD := Lib.hid hrd
    have HU := Lib.hid hu
    have hm63 : m ≤ 63 := by omega
    have HM := Lib.hid hm
    clear hrd hu hm
    cases r with
    | nil =>
      go_wp2_with fail
      refine (take_none B rb 1 wr [] hr (by simp)).mono ?_
      rintro e w1 ⟨rfl, rfl⟩
      go_wp2_with fail
      exact ⟨rfl, numread_bad HRD.out rfl ho⟩
    | cons d r =>
      go_wp2_with fail
      refine (take_byte B rb _ d r hr).mono ?_
      rintro e w1 ⟨b, off, rfl, hd, hr1, ho1⟩
      obtain ⟨x, hx⟩ : ∃ x : Nat, x = d.toNat := ⟨_, rfl⟩
      have hx256 : x < 256 := by rw [hx]; exact d.toNat_lt
      rw [← hx] at hd
      have HX := Lib.hid hx
      clear hx
      have HE : Hid (rd j u (d :: r) = if (j = 9 ∧ 1 < x) ∨ (0 < j ∧ x = 0) then none else if x < 128 then some (u + x % 128 * 128 ^ j, r) else rd (j + 1) (u + x % 128 * 128 ^ j) r) := by
        unfold Hid; rw [rd, ← HX.out]
      have hand : bits .and .u8 (x : Int) 127 = ((x % 128 : Nat) : Int) := by
        have := u8_and_nat x 127 hx256 (by omega)
        rw [nat_mask7] at this; exact this
      by_cases hbad : (j = 9 ∧ 1 < x) ∨ (0 < j ∧ x = 0)
      · have HN := Lib.hid (HE.out.trans (if_pos hbad))
        rcases hbad with ⟨h1, h2⟩ | ⟨h1, h2⟩
        · obtain rfl : m = 63 := by have := HM.out; omega
          have t1 : decide ((1 : Int) < (x : Int)) = true := by simp; omega
          clear h1 h2
          go_wp2_with fail
          exact ⟨rfl, numread_bad HRD.out HN.out (ho.trans ho1)⟩
        · have hx0 : (((x : Nat) : Int) == 0) = true := by simp; omega
          have hx1 : decide ((1 : Int) < (x : Int)) = false := by simp; omega
          have hx00 : x ≤ 0 := by omega
          clear h2
          have hmp : 0 < m := by have := HM.out; omega
          have hm1 : decide ((0 : Int) < (m : Int)) = true := by simp; omega
          clear h1
          by_cases h63 : m = 63
          · subst h63
            go_wp2_with fail
            exact ⟨rfl, numread_bad HRD.out HN.out (ho.trans ho1)⟩
          · have hm9 : (((m : Nat) : Int) == 63) = false := by simp; omega
            clear h63
            go_wp2_with fail
            exact ⟨rfl, numread_bad HRD.out HN.out (ho.trans ho1)⟩
      · have HE2 := Lib.hid (HE.out.trans (if_neg hbad))
        have HY9 : Hid (j = 9 → x % 128 ≤ 1) := fun h => by have := hx256; have : ¬ 1 < x := fun h2 => hbad (.inl ⟨h, h2⟩); omega
        have HX0 : Hid (0 < j → ¬ x = 0) := fun h h2 => hbad (.inr ⟨h, h2⟩)
        have HOD := Lib.hid (or_digit j m u (x % 128) HM.out hj HU.out (by omega) HY9.out)
        by_cases hlt : x < 128
        · have HN := Lib.hid (HE2.out.trans (if_pos hlt))
          have HL := Lib.hid (sum_le j u (x % 128) hj HU.out (by omega) HY9.out)
          have hlt2 : decide (((x : Nat) : Int) < 128) = true := by simp; omega
          by_cases hm0 : m = 0
          · subst hm0
            go_wp2_with fail
            go_ret
            exact numread_ok HRD.out HN.out (ret_u64 (by rw [← HOD.out]; exact congrArg _ (wrap_0 x))) hr1 (ho.trans ho1) HL.out
          · have hm1 : decide ((0 : Int) < (m : Int)) = true := by simp; omega
            have hx0 : (((x : Nat) : Int) == 0) = false := by have := HX0.out (by have := HM.out; omega); simp; omega
            by_cases h63 : m = 63
            · have hx1 : decide ((1 : Int) < (x : Int)) = false := by have := HY9.out (by have := HM.out; omega); simp; omega
              subst h63
              go_wp2_with fail
              go_ret
              exact numread_ok HRD.out HN.out (ret_u64 (by rw [← HOD.out]; simp)) hr1 (ho.trans ho1) HL.out
            · have hm9 : (((m : Nat) : Int) == 63) = false := by simp; omega
              go_wp2_with fail
              go_ret
              exact numread_ok HRD.out HN.out (ret_u64 (by rw [← HOD.out]; simp)) hr1 (ho.trans ho1) HL.out
        · have HN := Lib.hid (HE2.out.trans (if_neg hlt))
          have hx0 : (((x : Nat) : Int) == 0) = false := by simp; omega
          have hj8 : m < 63 := by have := HM.out; have : ¬ j = 9 := fun h => hbad (.inl ⟨h, by omega⟩); omega
          have hm9 : (((m : Nat) : Int) == 63) = false := by simp; omega
          have hlt2 : decide (((x : Nat) : Int) < 128) = false := by simp; omega
          have HS := Lib.hid (sum_lt j u (x % 128) (by have := HM.out; omega) HU.out (by omega))
          clear hbad
          by_cases hm0 : m = 0
          · subst hm0
            go_wp2_with fail
            go_roundw
            case rel =>
              have hj0 : j = 0 := by have := HM.out; omega
              subst hj0
              refine ⟨1, u + x % 128 * 128 ^ 0, 7, r, rfl, ?_, rfl, by omega, HS.out, hr1, ho.trans ho1, HN.out.symm.trans HRD.out⟩
              rw [← HOD.out]
              exact congrArg (fun y => Value.int .u64 (bits .or .u64 (u : Int) y)) (wrap_0 x)
            case measure => simp [intOf]
          · have hm1 : decide ((0 : Int) < (m : Int)) = true := by simp; omega
            go_wp2_with fail
            go_roundw
            case rel =>
              refine ⟨j + 1, u + x % 128 * 128 ^ j, m + 7, r, by simp, ?_, by have := HM.out; omega, by have := HM.out; omega, HS.out, hr1, ho.trans ho1, HN.out.symm.trans HRD.out⟩
              rw [← HOD.out]; simp
            case measure => simp [intOf]; omega
end Go.Proofs.Ytgliddedimpgaaa
