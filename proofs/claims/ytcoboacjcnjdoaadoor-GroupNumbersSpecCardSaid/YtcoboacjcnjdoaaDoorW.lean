/- Hashes as exponents: the program's function. -/
import Derived.Test.YtcoboacjcnjdoaaDoorB
import Derived.Test.YtcoboacjcnjdoaaDoorXJ
import Derived.Test.YtcoboacjcnjdoaaDoorXCb
import Derived.Deep.DeepCutAuto
namespace Go.Proofs.YtcoboacjcnjdoaaDoor.Dig
open Go.RowKit

/-- a byte of a digest, the first one without its highest bit -/
def dm (d : List UInt8) (k : Nat) : Nat := if k = 0 then (d.getD 0 0).toNat % 128 else (d.getD k 0).toNat
/-- the number that k bytes form, modulo Q -/
def hsh (d : List UInt8) : Nat → Int
  | 0 => 0
  | k + 1 => (hsh d k * 256 + (dm d k : Int)) % 1073741789
theorem dm_lt (d : List UInt8) (k : Nat) : dm d k < 256 := by
  unfold dm
  split
  · omega
  · exact UInt8.toNat_lt _
theorem hsh_rng (d : List UInt8) : ∀ k, 0 ≤ hsh d k ∧ hsh d k < 1073741789
  | 0 => by simp [hsh]
  | k + 1 => modq_rng _
theorem and_127 (x : Nat) (h : x < 256) : bits .and .u8 (x : Int) 127 = ((x % 128 : Nat) : Int) := by
  have hall : ((List.range 256).all fun x => decide (bits .and .u8 (x : Int) 127 = ((x % 128 : Nat) : Int))) = true := by kernel_rfl
  have := List.all_eq_true.1 hall x (List.mem_range.2 h)
  simpa using this
theorem row_at0 {w : World} {g : Nat} {d : List UInt8} (h : Row w g 30 (cellsOf d)) (hd : d.length = 32) (k : Nat) (hk : k < 32) : w.cell? ⟨g, k, none⟩ = some (.int .u8 ((d.getD k 0).toNat : Int)) := by
  have := row_cells h hd k hk
  rwa [Nat.zero_add] at this
/-- the digest, its first byte without the highest bit -/
def cut0 (d : List UInt8) : List Value := (cellsOf d).set 0 (.int .u8 (((d.getD 0 0).toNat % 128 : Nat) : Int))
theorem cut0_at (d : List UInt8) (hd : d.length = 32) (k : Nat) (hk : k < 32) : (cut0 d)[k]? = some (.int .u8 (dm d k : Int)) := by
  unfold cut0 dm
  rw [List.getElem?_set]
  by_cases h : k = 0
  · subst h
    simp [cellsOf_len, hd]
  · rw [if_neg (by omega), if_neg h, cellsOf_get (show k < d.length by omega)]
    simp [show k < d.length by omega]
def HHead (d : List UInt8) (W0 : World) (s4 s14 : Value) (wr : World) : Prop := ∃ k : Nat, k ≤ 8 ∧ s4 = .int .i64 (hsh d k) ∧ s14 = .int .i64 (k : Int) ∧ Below W0.heap.size W0 wr
set_option maxHeartbeats 1000000 in
set_option maxRecDepth 100000 in
theorem Hash_call (tag : ByteArray) (l : List UInt8) (v : Value) (w : World) (ht : tag.size ≤ 549755813888) (hl : l.length ≤ 549755813888) (hr : Rest w.heap.size w l v) (hT : Tab w) :
    Calls Tryd.prog 10 #[.string tag, v] w fun e w' => e = .returned (.int .i64 (hsh (tagged tag.data.toList l) 8)) ∧ Below w.heap.size w w' := by
  have HC := Lib.hid (tagged_call tag l v w ht hl hr hT)
  obtain ⟨d, hd⟩ : ∃ d, d = tagged tag.data.toList l := ⟨_, rfl⟩
  have HLD : Hid (d.length = 32) := Lib.hid (by rw [hd]; exact tagged_len _ _)
  rw [← hd] at HC ⊢
  obtain ⟨n0, hn0⟩ : ∃ n0, n0 = (d.getD 0 0).toNat := ⟨_, rfl⟩
  have HN0 := Lib.hid hn0
  obtain ⟨z, h127, hz⟩ : ∃ z : Int, bits .and .u8 (n0 : Int) 127 = z ∧ Hid ((cellsOf d).set 0 (.int .u8 z) = cut0 d) := ⟨_, and_127 n0 (by rw [hn0]; exact UInt8.toNat_lt _), by rw [hn0]; rfl⟩
  clear hn0
  clear hr hT hd ht hl
  go_enter Tryd.func10, Tryd.ntmps10
  go_wp2_with fail
  refine HC.out.mono ?_
  rintro e w1 ⟨rfl, hb1⟩
  have HB1 := Lib.hid hb1
  clear hb1 HC
  go_wp2_with (first
    | (refine wpList_alloc_dig rfl 5 rfl rfl ?_; intro g5 w4 hg hrow hb; have H5 := Lib.hid hrow; have hg5 : w.heap.size ≤ g5 := (by have := HB1.out.size; omega); have HB2 := Lib.hid (below_next HB1.out hb); clear hg hrow hb)
    | (refine wpList_store_dig rfl (.tmp 5) (.tmp 9) rfl g5 d HLD.out rfl rfl H5.out HB2.out hg5 ?_; intro w5 hrow hb hoth; have H5 := Lib.hid hrow; have HB3 := Lib.hid hb; have c0 : w5.cell? ⟨g5, 0, none⟩ = some (.int .u8 (n0 : Int)) := (by rw [HN0.out]; exact row_at0 hrow HLD.out 0 (by omega)); have f0 := hrow.free 0; clear hrow hb hoth)
    | fail)
  have H6 := Lib.hid (H5.out.set (cs' := cut0 d) 0 (.int .u8 z) hz.out)
  have HB6 : Hid (Below w.heap.size w (w5.setCell ⟨g5, 0, none⟩ (.int .u8 z))) := Lib.hid (below_setCell HB3.out _ 0 _ hg5)
  obtain ⟨W0, hW0⟩ : ∃ W0, W0 = w5.setCell ⟨g5, 0, none⟩ (.int .u8 z) := ⟨_, rfl⟩
  rw [← hW0] at H6 HB6 ⊢
  clear hW0 c0 f0 h127
  go_loopw [4, 14] (fun s4 s14 wr => HHead d W0 s4 s14 wr) (fun _ s14 _ => 8 - (intOf s14).toNat)
  case atStart => exact ⟨0, by omega, rfl, rfl, Below.refl _ _⟩
  case round =>
    obtain ⟨k, hk, rfl, rfl, hb⟩ := hrel
    rcases Nat.lt_or_ge k 8 with hlt | hge
    · have hki : (k : Int) < 8 := by omega
      have HR := Lib.hid (hsh_rng d k)
      have HS : Hid (hsh d (k + 1) = (hsh d k * 256 + (dm d k : Int)) % 1073741789) := Lib.hid rfl
      have HL := Lib.hid (dm_lt d k)
      have cB := fun W (hW : Below wr.heap.size wr W) => ((H6.out.keep hb).keep hW).cell (cut0_at d HLD.out k (by omega))
      have ck := cB wr (Below.refl _ _)
      have HB := Lib.hid hb
      obtain ⟨y, hy⟩ : ∃ y, y = hsh d k := ⟨_, rfl⟩
      obtain ⟨x, hx⟩ : ∃ x : Int, x = (dm d k : Int) := ⟨_, rfl⟩
      rw [← hy] at HR HS ⊢
      rw [← hx] at HS ck
      have hx0 : 0 ≤ x := by omega
      have hx1 : x < 256 := by have := HL.out; omega
      have hy0 : 0 ≤ y := HR.out.1
      have hy1 : y < 1073741789 := HR.out.2
      clear cB hb hx hy hk
      go_wp2_with fail
      have HB9 := Lib.hid (Joins.below_alloc1 wr (.cells #[.int .i64 (y * 256), .int .i64 x] 3))
      refine (exponent_two (y * 256) x wr.heap.size _ ⟨by omega, by omega⟩ ⟨by omega, by omega⟩ (by simp) (by simp)).mono ?_
      rintro e w9 ⟨rfl, rfl⟩
      go_wp2_with fail
      exact ⟨⟨k + 1, by omega, by rw [HS.out], by go_num, below_next HB.out HB9.out⟩, by simp [intOf]; omega⟩
    · obtain rfl : k = 8 := by omega
      go_wp2_with fail
      go_ret
      exact ⟨rfl, below_next HB6.out hb⟩
end Go.Proofs.YtcoboacjcnjdoaaDoor.Dig
