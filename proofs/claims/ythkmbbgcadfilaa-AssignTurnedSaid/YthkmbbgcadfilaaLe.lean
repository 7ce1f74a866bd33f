/- sum: as the loop reckons it, wrapped at each step. -/
import Derived.Test.YthkmbbgcadfilaaC
namespace Go.Proofs.Ythkmbbgcadfilaa
open Go.RowKit Go.Shelf

/-- the sum as a loop of int64 reckons it -/
def sumW (L : List Int) : Int := L.foldl (fun s x => wrap64 (s + x)) 0
theorem sumW_step {L : List Int} {k : Nat} (h : k < L.length) : sumW (L.take (k + 1)) = wrap64 (sumW (L.take k) + L.getD k 0) := by
  unfold sumW
  rw [List.take_succ_eq_append_getElem h, List.foldl_append]
  simp [h]
set_option maxRecDepth 100000 in
set_option maxHeartbeats 4000000 in
theorem sum_at (L : List Int) (a : Option Addr) (c : Nat) (w : World) (hlm : L.length ≤ maxLen) (hat : ∀ i, i < L.length → ∃ b off, a = some ⟨b, off, none⟩ ∧ w.cell? ⟨b, off + i, none⟩ = some (.int .i64 (L.getD i 0))) :
    Calls Try.prog 38 #[.slice a L.length c] w fun e w' => e = .returned (.int .i64 (sumW L)) ∧ w' = w := by
  obtain ⟨n, hn⟩ : ∃ n, n = L.length := ⟨_, rfl⟩
  rw [← hn] at hlm hat ⊢
  have HN := Lib.hid hn
  have HNM := Lib.hid hlm
  have HAT := Lib.hid hat
  clear hn hat
  go_enter Try.func38, Try.ntmps38
  go_upto_region 2 with (fail)
  go_loopw [2, 7] (fun s2 s7 wr => ∃ (k : Nat), k ≤ n ∧ s2 = .int .i64 (sumW (L.take k)) ∧ s7 = .int .i64 (k : Int) ∧ wr = w) (fun _ s7 _ => n - (intOf s7).toNat)
  case atStart => exact ⟨0, by omega, rfl, rfl, rfl⟩
  case round =>
    obtain ⟨k, hk, rfl, rfl, rfl⟩ := hrel
    have HK := Lib.hid hk
    clear hk
    by_cases hlt : k < n
    · have hki : (k : Int) < (n : Int) := by omega
      have HLT := Lib.hid hlt
      have HWK := Lib.hid (wrap_succ hlt HNM.out)
      obtain ⟨b, off, q, f⟩ := HAT.out k (by have := HN.out; omega)
      subst q
      obtain ⟨x, hx⟩ : ∃ x, x = L.getD k 0 := ⟨_, rfl⟩
      obtain ⟨s, hs⟩ : ∃ s, s = sumW (L.take k) := ⟨_, rfl⟩
      rw [← hx] at f
      rw [← hs]
      have HS := Lib.hid (And.intro hx hs)
      clear hx hs hlt
      go_wp2_with fail
      refine ⟨⟨k + 1, by have := HLT.out; omega, by rw [sumW_step (by have := HN.out; have := HLT.out; omega), ← HS.out.1, ← HS.out.2], by first | rw [HWK.out, Int.natCast_succ] | go_num, by first | rfl | trivial⟩, by have := HLT.out; first | exact back_less this HWK.out | (simp [intOf]; omega)⟩
    · obtain rfl : k = n := by have := HK.out; omega
      have HE : Hid (L.take k = L) := Lib.hid (List.take_of_length_le (by have := HN.out; omega))
      rw [HE.out]
      go_wp2_with fail
      go_ret
      exact ⟨rfl, rfl⟩
theorem sum_call {B : Nat} (L : List Int) (v : Value) (w : World) (hL : IRest B w L v) :
    Calls Try.prog 38 #[v] w fun e w' => e = .returned (.int .i64 (sumW L)) ∧ w' = w := by
  obtain ⟨a, c, rfl⟩ := irest_shape hL
  obtain ⟨-, hac, ham, hat⟩ := ints_at hL
  refine sum_at L a c w (by omega) (fun i hi => ?_)
  obtain ⟨-, b, off, h1, -, h2⟩ := hat i hi
  exact ⟨b, off, h1, h2⟩
theorem sum_row {w : World} {g n : Nat} (L : List Int) (hr : Row w g 3 (nums L)) (hl : L.length = n) (hn : n ≤ 1000) :
    Calls Try.prog 38 #[.slice (some ⟨g, 0, none⟩) n n] w fun e w' => e = .returned (.int .i64 (sumW L)) ∧ w' = w := by
  subst hl
  exact sum_at L _ _ w (by unfold maxLen; omega) (fun i hi => ⟨g, 0, rfl, by rw [Nat.zero_add]; exact nrow_cell hr hi⟩)
end Go.Proofs.Ythkmbbgcadfilaa
