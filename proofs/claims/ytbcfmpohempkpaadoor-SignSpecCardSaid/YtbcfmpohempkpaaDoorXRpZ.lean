/- The padded bytes: the reference's function. -/
import Derived.Test.YtbcfmpohempkpaaDoorZc12
import Derived.Test.YtbcfmpohempkpaaDoorZc21
namespace Go.Proofs.YtbcfmpohempkpaaDoor.Dig
open Go.RowKit

set_option maxRecDepth 100000 in
theorem wpList_none' {ops : Array Oper} {rest : List Oper} {o : Oper} {a : Act} {w w0 : World} {Q : Exit → Act → World → Prop} (hgd : o.guard = none) (ho : o.op = .buildSlice 22 0 #[]) (hb : Below w0.heap.size w0 w)
    (h : ∀ v' w', New w0 w' v' [] → wpList Tryd.prog ops Q rest (a.put o.dst v') w') : wpList Tryd.prog ops Q (o :: rest) a w :=
  wpList_plain hgd fun _ hK => wp_none' ho hb fun v' w' hn => hK _ _ (h v' w' hn)
set_option maxRecDepth 100000 in
theorem wpList_buf' {ops : Array Oper} {rest : List Oper} {w w0 : World} {o : Oper} {a : Act} {Q : Exit → Act → World → Prop} (hgd : o.guard = none) (s x : Operand)
    (ho : o.op = .call { callee := .builtin .append, args := #[s, x], argTypes := #[22, 22] })
    (v : Value) (xs : List UInt8) (hs : a.eval s = v) (hn : New w0 w v xs) (sv : Value) (B : Nat) (ys : List UInt8) (hx : a.eval x = sv) (hr : Rest B w ys sv) (hlen : xs.length + ys.length ≤ 70368744177664)
    (h : ∀ v' w', New w0 w' v' (xs ++ ys) → wpList Tryd.prog ops Q rest (a.put o.dst v') w') : wpList Tryd.prog ops Q (o :: rest) a w :=
  wpList_plain hgd fun _ hK => wp_buf' hgd s x ho v xs hs hn sv B ys hx hr hlen fun v' w' hn => hK _ _ (h v' w' hn)

def RpHead (w : World) (l : List UInt8) (s3 : Value) (wr : World) : Prop := ∃ z : Nat, z ≤ zeros l.length ∧ New w wr s3 (pz l z)
def RpHead2 (w : World) (l : List UInt8) (s3 s5 : Value) (wr : World) : Prop := ∃ i : Nat, i ≤ 8 ∧ s5 = .int .i64 (7 - (i : Int)) ∧ New w wr s3 (p8 l l.length i)

set_option maxHeartbeats 1000000 in
set_option maxRecDepth 100000 in
theorem refpadded_call (l : List UInt8) (hl : l.length ≤ 1099511627776) (v : Value) (w : World) (hr : Rest w.heap.size w l v) :
    Calls Tryd.prog 78 #[v] w fun e w' => ∃ v', e = .returned v' ∧ New w w' v' (pad l) := by
  obtain ⟨va, vc, rfl⟩ : ∃ a cap, v = .slice a l.length cap := by obtain ⟨a, cap, h, _⟩ := hr; exact ⟨a, cap, h⟩
  have HR := Lib.hid hr
  obtain ⟨n, hn⟩ : ∃ n, n = l.length := ⟨_, rfl⟩
  have hzz := zeros_eq l.length
  have hzl : zeros l.length < 64 := by unfold zeros; omega
  rw [← hn] at HR hl hzz hzl ⊢
  have HNN := Lib.hid hn
  clear hr hn
  go_enter Tryd.func78, Tryd.ntmps78
  go_wp2_with (first
    | (refine wpList_none' rfl rfl (Below.refl _ w) ?_; intro v1 w1 hn1; have HN1 := Lib.hid hn1; have HR1 := Lib.hid (rest_keep HR.out hn1.2.1); clear hn1)
    | (refine wpList_buf' rfl (.tmp 6) (.tmp 7) rfl v1 [] rfl HN1.out _ _ l rfl HR1.out (by rw [← HNN.out, List.length_nil]; omega) ?_; intro v2 w2 hn2; have HN2 : Hid (New w w2 v2 l) := hn2; clear hn2)
    | (refine wpList_buf' rfl (.tmp 8) (.tmp 9) rfl v2 l rfl (HN2.out.alloc _) _ (w2.heap.size + 1) [128] rfl (rest_one w2 128 _ rfl) (by rw [← HNN.out]; simp; omega) ?_; intro v3 w3 hn3; have HN3 := Lib.hid hn3; clear hn3)
    | fail)
  go_loopw [3] (fun s3 wr => RpHead w l s3 wr) (fun s3 _ => n + 200 - slen s3)
  case atStart => exact ⟨0, by omega, HN3.out⟩
  case round =>
    obtain ⟨z, hz, hnew⟩ := hrel
    obtain ⟨a, c, rfl⟩ := hnew.shape
    obtain ⟨m, hm⟩ : ∃ m, m = (pz l z).length := ⟨_, rfl⟩
    rw [← hm]
    have HN := Lib.hid hnew
    rw [← hm] at HN
    have hm2 : m = n + 1 + z := by rw [hm, pz_len, HNN.out]
    rw [← HNN.out] at hz
    clear hnew
    by_cases hzz2 : z = zeros n
    · have hd : (m : Int) % 64 = 56 := by omega
      have HM := Lib.hid hm
      have HZ := Lib.hid hzz2
      clear hm hm2 hzz2
      go_wp2_with fail
      obtain ⟨wo, rfl⟩ : ∃ wo : World, wo = wr := ⟨_, rfl⟩
      clear hd
      go_loopw [3, 5] (fun s3 s5 wr => RpHead2 w l s3 s5 wr) (fun _ s5 _ => (intOf s5 + 1).toNat)
      case atStart => exact ⟨0, by omega, by go_num, by unfold p8; rw [List.take_zero, List.append_nil, ← HNN.out, ← HZ.out]; exact HN.out⟩
      case round =>
        obtain ⟨i, hi8, rfl, hnew⟩ := hrel
        rw [← HNN.out] at hnew
        obtain ⟨a2, c2, rfl⟩ := hnew.shape
        obtain ⟨m2, hm2⟩ : ∃ m2, m2 = (p8 l n i).length := ⟨_, rfl⟩
        rw [← hm2]
        have HN2' := Lib.hid hnew
        rw [← hm2] at HN2'
        have hm3 : m2 ≤ n + 200 := by rw [hm2, p8_len _ _ _ hi8, ← HNN.out]; omega
        have HM2 := Lib.hid hm2
        clear hnew hm2
        rcases Nat.lt_or_ge i 8 with hlt | hge
        · have hge0 : (7 : Int) - (i : Int) ≥ 0 := by omega
          go_wp2_with (first
            | (refine wpList_buf' rfl (.tmp 26) (.tmp 32) rfl _ (p8 l n i) rfl (HN2'.out.alloc _) _ (wr.heap.size + 1) [UInt8.ofNat ((8 * n) / 2 ^ (56 - 8 * i))] rfl (rest_one wr _ _ (by rw [byte_of, show 56 - 8 * i = 8 * (7 - i) by omega, Nat.mul_comm 8 n]; simp)) (by rw [← HM2.out]; simp; omega) ?_; intro v4 w4 hn4; have HN4 := Lib.hid hn4; clear hn4)
            | fail)
          go_roundw
          case rel => exact ⟨i + 1, by omega, by go_num, by rw [← HNN.out, ← p8_succ l n i hlt]; exact HN4.out⟩
          case measure => simp [intOf]; omega
        · obtain rfl : i = 8 := by omega
          go_wp2_with fail
          go_ret
          exact ⟨_, rfl, by rw [pad, ← p8_8, ← HNN.out]; exact HN2'.out⟩
    · have hd : ¬ (m : Int) % 64 = 56 := by omega
      have HM := Lib.hid hm
      have hz5 : z < zeros n := by omega
      have hm5 : m ≤ n + 200 := by omega
      have HM2 := Lib.hid hm2
      clear hm hm2 hzz2
      go_wp2_with (refine wpList_buf' rfl (.tmp 15) (.tmp 16) rfl _ (pz l z) rfl (HN.out.alloc _) _ (wr.heap.size + 1) [0] rfl (rest_one wr 0 _ rfl) (by rw [← HM.out]; simp; omega) ?_; intro v4 w4 hn4; have HN4 := Lib.hid hn4; clear hn4)
      rw [pz_succ] at HN4
      obtain ⟨a4, c4, rfl⟩ := HN4.out.shape
      go_wp2_with fail
      go_roundw
      case rel => exact ⟨z + 1, by rw [← HNN.out]; omega, HN4.out⟩
      case measure => rw [pz_len]; simp [slen]; have := HM2.out; have := HNN.out; omega
end Go.Proofs.YtbcfmpohempkpaaDoor.Dig
