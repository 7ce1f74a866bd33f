/- The padded bytes: the program's function and the specification's. -/
import Derived.OwnWalk
import Derived.IntWalk
import Derived.Test.YtbceimbcjijfgaaDoorZq4
namespace Go.Proofs.YtbceimbcjijfgaaDoor.Dig
open Go.RowKit

def slen : Value → Nat
  | .slice _ n _ => n
  | _ => 0
/-- a buffer of new memory -/
def New (w0 w : World) (v : Value) (xs : List UInt8) : Prop := Buf w v xs ∧ Below w0.heap.size w0 w ∧ ∀ k, v.ownBlock = some k → w0.heap.size ≤ k
theorem New.alloc {w0 w : World} {v : Value} {xs : List UInt8} (h : New w0 w v xs) (o : Obj) : New w0 (w.alloc o) v xs :=
  ⟨buf_alloc h.1 o, h.2.1.alloc h.2.1.size o, h.2.2⟩
theorem New.app {w0 w w1 : World} {v v' : Value} {xs ys : List UInt8} (h : New w0 w v xs) (hb : Buf w1 v' ys) (hw : Wrote w w1 v v') : New w0 w1 v' ys :=
  ⟨hb, wrote_below hw h.2.1 h.2.2⟩
theorem New.shape {w0 w : World} {v : Value} {xs : List UInt8} (h : New w0 w v xs) : ∃ a c, v = .slice a xs.length c := by
  obtain ⟨a, c, h1, _⟩ := buf_rest h.1; exact ⟨a, c, h1⟩

def pz (l : List UInt8) (z : Nat) : List UInt8 := l ++ 128 :: List.replicate z 0
theorem pz_len (l : List UInt8) (z : Nat) : (pz l z).length = l.length + 1 + z := by unfold pz; simp; omega
theorem pz_succ (l : List UInt8) (z : Nat) : pz l z ++ [0] = pz l (z + 1) := by unfold pz; rw [List.replicate_succ']; simp
def p8 (l : List UInt8) (n i : Nat) : List UInt8 := pz l (zeros n) ++ (len8 n).take i
theorem p8_len (l : List UInt8) (n i : Nat) (hi : i ≤ 8) : (p8 l n i).length = l.length + 1 + zeros n + i := by unfold p8; rw [List.length_append, pz_len, List.length_take]; simp [len8]; omega
theorem p8_8 (l : List UInt8) (n : Nat) : p8 l n 8 = l ++ ends n := by
  unfold p8 pz ends; rw [List.take_of_length_le (by simp [len8])]; simp
theorem p8_succ (l : List UInt8) (n i : Nat) (hi : i < 8) : p8 l n i ++ [UInt8.ofNat ((8 * n) / 2 ^ (56 - 8 * i))] = p8 l n (i + 1) := by
  have hl : i < (len8 n).length := by simp [len8]; omega
  unfold p8
  rw [List.take_succ_eq_append_getElem hl, List.append_assoc]
  simp [len8]

theorem byte_of (k : Nat) : ((UInt8.ofNat k).toNat : Int) = (k : Int) % 256 := by simp

def PadHead (w : World) (l : List UInt8) (n : Nat) (s5 : Value) (wr : World) : Prop := ∃ z : Nat, z ≤ zeros n ∧ New w wr s5 (pz l z)
def PadHead2 (w : World) (l : List UInt8) (n : Nat) (s5 s25 : Value) (wr : World) : Prop := ∃ i : Nat, i ≤ 8 ∧ s25 = .int .i64 (i : Int) ∧ New w wr s5 (p8 l n i)

set_option maxHeartbeats 1000000 in
set_option maxRecDepth 100000 in
theorem padded_call (l : List UInt8) (n : Nat) (hl : l.length < 64) (hn : l.length % 64 = n % 64) (hn2 : n ≤ 1099511627776) (v : Value) (w : World) (hr : Rest w.heap.size w l v) :
    Calls Tryd.prog 38 #[v, .int .i64 (n : Int)] w fun e w' => ∃ v', e = .returned v' ∧ New w w' v' (l ++ ends n) := by
  obtain ⟨i0, hi, hz0, hz1, hz2⟩ := info_parts Tryd.info5
  have HR := Lib.hid hr
  clear hr
  go_enter Tryd.func38, Tryd.ntmps38
  go_wp2_with (refine wpList_make_own _ rfl (.const (.int .i64 0)) (.const (.int .i64 128)) 34 rfl w.heap.size 5 i0 (.int .u8 0) 1 Tryd.underlying34 hi hz0 hz1 .i64 .i64 128 128 rfl rfl rfl (by rw [hz2]; omega) (by unfold maxLen; omega) (Nat.le_refl _) ?_)
  intro w1 ho1 hg1
  have hb1 : Below w.heap.size w w1 := (Below.refl _ w).grown hg1 (Nat.le_refl _) (fun k e => by cases e)
  have HN1 : Hid (New w w1 (.slice (some ⟨w.heap.size, 0, none⟩) 0 128) []) := ⟨Joins.ownsRow_le ho1 (Nat.zero_le _), hb1, fun k hk => by simp [Value.ownBlock] at hk; omega⟩
  have HR1 : Hid (Rest w1.heap.size w1 l v) := rest_keep HR.out hb1
  clear ho1 hg1 hb1
  go_wp2_with (refine wpList_buf rfl (.tmp 9) (.tmp 10) rfl _ [] rfl HN1.out.1 v w1.heap.size l rfl HR1.out (by simp; omega) ?_)
  intro v2 w2 hb2 hw2
  have HN2 := Lib.hid (HN1.out.app hb2 hw2)
  clear hb2 hw2
  go_wp2_with (refine wpList_buf rfl (.tmp 12) (.tmp 13) rfl v2 ([] ++ l) rfl (buf_alloc HN2.out.1 _) _ (w2.heap.size + 1) [128] rfl (rest_one w2 128 _ rfl) (by simp; omega) ?_)
  intro v3 w3 hb3 hw3
  have HN3 := Lib.hid ((HN2.out.alloc _).app hb3 hw3)
  clear hb3 hw3
  have hzz := zeros_eq n
  have hzl : zeros n < 64 := by unfold zeros; omega
  go_wp2_with fail
  go_loopw [5] (fun s5 wr => PadHead w l n s5 wr) (fun s5 _ => 200 - slen s5)
  case atStart => exact ⟨0, by omega, HN3.out⟩
  case round =>
    obtain ⟨z, hz, hnew⟩ := hrel
    obtain ⟨a, c, rfl⟩ := hnew.shape
    obtain ⟨m, hm⟩ : ∃ m, m = (pz l z).length := ⟨_, rfl⟩
    rw [← hm]
    have HN := Lib.hid hnew
    rw [← hm] at HN
    have hm2 : m = l.length + 1 + z := by rw [hm, pz_len]
    clear hnew
    by_cases hzz2 : z = zeros n
    · have hd : (m : Int) % 64 = 56 := by omega
      have HM := Lib.hid hm
      have HZ := Lib.hid hzz2
      clear hm hm2 hzz2
      go_wp2_with fail
      obtain ⟨wo, rfl⟩ : ∃ wo : World, wo = wr := ⟨_, rfl⟩
      clear hd
      go_loopw [5, 25] (fun s5 s25 wr => PadHead2 w l n s5 s25 wr) (fun _ s25 _ => 8 - (intOf s25).toNat)
      case atStart => exact ⟨0, by omega, rfl, by unfold p8; rw [List.take_zero, List.append_nil, ← HZ.out]; exact HN.out⟩
      case round =>
        obtain ⟨i, hi8, rfl, hnew⟩ := hrel
        obtain ⟨a2, c2, rfl⟩ := hnew.shape
        obtain ⟨m2, hm2⟩ : ∃ m2, m2 = (p8 l n i).length := ⟨_, rfl⟩
        rw [← hm2]
        have HN2 := Lib.hid hnew
        rw [← hm2] at HN2
        have hm3 : m2 ≤ 200 := by rw [hm2, p8_len _ _ _ hi8]; omega
        have HM2 := Lib.hid hm2
        clear hnew hm2
        rcases Nat.lt_or_ge i 8 with hlt | hge
        · go_wp2_with (refine wpList_buf rfl (.tmp 28) (.tmp 35) rfl _ (p8 l n i) rfl (buf_alloc HN2.out.1 _) _ (wr.heap.size + 1) [UInt8.ofNat ((8 * n) / 2 ^ (56 - 8 * i))] rfl (rest_one wr _ _ ?c1) (by rw [← HM2.out]; simp; omega) ?_)
          case c1 => rw [byte_of, Nat.mul_comm 8 n]; simp
          intro v4 w4 hb4 hw4
          have HN4 := Lib.hid ((HN2.out.alloc _).app hb4 hw4)
          clear hb4 hw4
          go_wp2_with fail
          go_roundw
          case rel => exact ⟨i + 1, by omega, by go_num, by rw [← p8_succ l n i hlt]; exact HN4.out⟩
          case measure => simp [intOf]; omega
        · obtain rfl : i = 8 := by omega
          go_wp2_with fail
          go_ret
          exact ⟨_, rfl, by rw [← p8_8]; exact HN2.out⟩
    · have hd : ¬ (m : Int) % 64 = 56 := by omega
      have HM := Lib.hid hm
      have hz5 : z < zeros n := by omega
      have hm5 : m ≤ 200 := by omega
      have HM2 := Lib.hid hm2
      clear hm hm2 hzz2
      go_wp2_with (refine wpList_buf rfl (.tmp 19) (.tmp 20) rfl _ (pz l z) rfl (buf_alloc HN.out.1 _) _ (wr.heap.size + 1) [0] rfl (rest_one wr 0 _ rfl) (by rw [← HM.out]; simp; omega) ?_)
      intro v4 w4 hb4 hw4
      have HN4 := Lib.hid ((HN.out.alloc _).app hb4 hw4)
      rw [pz_succ] at HN4
      clear hb4 hw4
      obtain ⟨a4, c4, rfl⟩ := HN4.out.shape
      go_wp2_with fail
      go_roundw
      case rel => exact ⟨z + 1, by omega, HN4.out⟩
      case measure => rw [pz_len]; simp [slen]; have := HM2.out; omega
end Go.Proofs.YtbceimbcjijfgaaDoor.Dig
