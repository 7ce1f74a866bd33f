/- The specification's ends. -/
import Derived.Test.YtiicjmbnkjociaaDoorZd
namespace Go.Proofs.YtiicjmbnkjociaaDoor
open Go.RowKit

theorem irest_shape {B : Nat} {w : World} {xs : List Int} {v : Value} (h : IRest B w xs v) : ∃ a n c, v = .slice a n c := by
  obtain ⟨a, c, h, _⟩ := h; exact ⟨a, _, c, h⟩
theorem endsF_take (zs : List Int) (l : List Sp) (k : Nat) (hk : k < l.length) : endsF zs (l.take (k + 1)) = putF (putF (endsF zs (l.take k)) (l.getD k (0, 0)).1) ((l.getD k (0, 0)).2 + 1) := by
  rw [List.take_succ_eq_append_getElem hk, endsF_snoc]
  simp [hk]
set_option maxHeartbeats 4000000 in
set_option maxRecDepth 100000 in
theorem ends_call (zs : List Int) (l : List Sp) (v vl : Value) (B : Nat) (w : World) (hz : IRest B w zs v) (h : PRest B w l vl) (hB : B ≤ w.heap.size) (hzl : zs.length ≤ 2000) (hll : l.length ≤ 2000)
    (hr : ∀ i, i < l.length → (0 ≤ (l.getD i (0, 0)).1 ∧ (l.getD i (0, 0)).1 ≤ 73049) ∧ (0 ≤ (l.getD i (0, 0)).2 ∧ (l.getD i (0, 0)).2 ≤ 73049)) :
    Calls Tryd.prog 50 #[v, vl] w fun e w' => ∃ v', e = .returned v' ∧ IRest w'.heap.size w' (endsF zs l) v' ∧ Below w.heap.size w w' := by
  obtain ⟨a, cap, rfl, -⟩ := id h
  obtain ⟨-, hl, hm, hc⟩ := spans_at h
  have HC := Lib.hid hc
  have HRR := Lib.hid hr
  obtain ⟨az, cz, rfl, -⟩ := id hz
  have HZ0 := Lib.hid ((hz.mono hB))
  unfold maxLen at hm
  obtain ⟨n, hn2⟩ : ∃ n, n = l.length := ⟨_, rfl⟩
  have HLL : Hid (∀ k, k ≤ n → (endsF zs (l.take k)).length ≤ 10000) := Lib.hid (fun k hk => by have := endsF_len (l.take k) zs; simp at this; omega)
  have HEN : Hid (endsF zs (l.take n) = endsF zs l) := Lib.hid (by rw [hn2, List.take_length])
  have HTK : Hid (∀ k, k < n → endsF zs (l.take (k + 1)) = putF (putF (endsF zs (l.take k)) (l.getD k (0, 0)).1) ((l.getD k (0, 0)).2 + 1)) := Lib.hid (fun k hk => endsF_take zs l k (by omega))
  rw [← hn2] at hl hll HC HRR ⊢
  clear h hc hn2 hr hz
  go_enter Tryd.func50, Tryd.ntmps50
  go_wp2_with fail
  go_loopw [0, 5] (fun s0 s5 wr => ∃ (k : Nat) (a0 : Option Addr) (m0 c0 : Nat), k ≤ n ∧ s0 = .slice a0 m0 c0 ∧ s5 = .int .i64 (k : Int) ∧ IRest wr.heap.size wr (endsF zs (l.take k)) (.slice a0 m0 c0) ∧ Below w.heap.size w wr) (fun _ s5 _ => n - (intOf s5).toNat)
  case atStart => exact ⟨0, _, _, _, by omega, rfl, rfl, HZ0.out, Below.refl _ _⟩
  case round =>
    obtain ⟨k, a0, m0, c0, hk, rfl, rfl, hi, hb⟩ := hrel
    have HI := Lib.hid hi
    have HB := Lib.hid hb
    rcases Nat.lt_or_ge k n with hlt | hge
    · obtain ⟨-, b, off, rfl, hbB, hc1, hc2⟩ := HC.out k hlt
      obtain ⟨⟨hx1, hx2⟩, hx3, hx4⟩ := HRR.out k hlt
      have f1 : ∀ W, Below wr.heap.size wr W → W.cell? ⟨b, off + k * 2, none⟩ = some (.int .i64 (l.getD k (0, 0)).1) := fun W hW => ((hb.trans (hW.mono hb.size)).cell (p := ⟨b, off + k * 2, none⟩) (by show b < w.heap.size; omega)).trans hc1
      have f2 : ∀ W, Below wr.heap.size wr W → W.cell? ⟨b, off + k * 2 + 1, none⟩ = some (.int .i64 (l.getD k (0, 0)).2) := fun W hW => ((hb.trans (hW.mono hb.size)).cell (p := ⟨b, off + k * 2 + 1, none⟩) (by show b < w.heap.size; omega)).trans hc2
      have HTE := Lib.hid (HTK.out k hlt)
      have HL0 := Lib.hid (HLL.out k (by omega))
      generalize endsF zs (l.take k) = Z at *
      generalize (l.getD k (0, 0)).1 = x1 at *
      generalize (l.getD k (0, 0)).2 = x2 at *
      have HP1 : Hid (∀ W, Below wr.heap.size wr W → Calls Tryd.prog 55 #[.slice a0 m0 c0, .int .i64 x1] W fun e w' => ∃ v', e = .returned v' ∧ IRest w'.heap.size w' (putF Z x1) v' ∧ Below W.heap.size W w') :=
        Lib.hid (fun W hW => put_call Z (.slice a0 m0 c0) x1 _ W (HI.out.stays hW) hW.size ⟨by omega, by omega⟩ (by have := HL0.out; omega))
      have HP2 : Hid (∀ W v1, IRest W.heap.size W (putF Z x1) v1 → Calls Tryd.prog 55 #[v1, .int .i64 (x2 + 1)] W fun e w' => ∃ v', e = .returned v' ∧ IRest w'.heap.size w' (putF (putF Z x1) (x2 + 1)) v' ∧ Below W.heap.size W w') :=
        Lib.hid (fun W v1 h1 => put_call (putF Z x1) v1 (x2 + 1) _ W h1 (Nat.le_refl _) ⟨by omega, by omega⟩ (by have := HL0.out; have := putF_len Z x1; omega))
      have hki : (k : Int) < (n : Int) := by omega
      have hwk : IntKind.i64.wrap ((k : Int) + 1) = ((k + 1 : Nat) : Int) := by rw [IntKind.wrap_i64]; omega
      have hwx : IntKind.i64.wrap (x2 + 1) = x2 + 1 := by rw [IntKind.wrap_i64]; omega
      have HLT := Lib.hid hlt
      clear hb hk hc1 hc2 hbB hlt hi hx1 hx2 hx3 hx4
      go_upto_region 4 with (fail)
      go_region_held3 (fun W => Below wr.heap.size wr W) (first | assumption | exact (Below.refl _ _).drew | exact below_next (by assumption) (by assumption)) (first
        | (go_at_call 55; with_reducible refine (HP1.out _ (by assumption)).mono ?_; rintro e w1 ⟨v1, rfl, hr1, hb1a⟩; have hb1 : Below wr.heap.size wr w1 := below_next (by assumption) hb1a; have HR1 := Lib.hid hr1; clear hr1 hb1a)
        | (go_at_call 55; with_reducible refine (HP2.out _ _ HR1.out).mono ?_; rintro e w2 ⟨v2, rfl, hr2, hb2a⟩; have hb2 : Below wr.heap.size wr w2 := below_next (by assumption) hb2a; obtain ⟨a2, n2, cz2, hs2⟩ := irest_shape hr2; subst hs2; have HR2 := Lib.hid hr2; clear hr2 hb2a))
      have HB2 := Lib.hid (HB.out.trans (hb2.mono HB.out.size))
      clear f1 f2 HP1 HP2
      rw [← HTE.out] at HR2
      go_wp2_with fail
      exact ⟨⟨k + 1, a2, n2, cz2, by have := HLT.out; omega, by first | rfl | trivial, by first | rfl | trivial, HR2.out, HB2.out⟩, by have := HLT.out; simp [intOf]; omega⟩
    · obtain rfl : k = n := by omega
      rw [HEN.out] at HI
      clear hk hb
      go_wp2_with fail
      go_ret
      exact ⟨_, rfl, HI.out, HB.out⟩
end Go.Proofs.YtiicjmbnkjociaaDoor
