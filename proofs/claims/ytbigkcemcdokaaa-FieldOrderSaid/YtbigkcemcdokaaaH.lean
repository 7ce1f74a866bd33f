/- Are the X of points different: the specification's two loops. -/
import Derived.Test.YtbigkcemcdokaaaG
namespace Go.Proofs.Ytbigkcemcdokaaa
open Go.RowKit

def RdHead (xs : List Int) (n : Nat) (w : World) (s3 : Value) (wr : World) : Prop := ∃ i : Nat, i ≤ n ∧ s3 = .int .i64 (i : Int) ∧ DifK xs i ∧ Below w.heap.size w wr
def RdIn (xs : List Int) (i : Nat) (w : World) (s4 : Value) (wr : World) : Prop := ∃ k : Nat, k ≤ i ∧ s4 = .int .i64 (k : Int) ∧ (∀ j, j < k → xs.getD j 0 % 1073741789 ≠ xs.getD i 0 % 1073741789) ∧ Below w.heap.size w wr
set_option maxHeartbeats 2000000 in
set_option maxRecDepth 100000 in
theorem refDifferent_call (l : List (Int × Int)) (v : Value) (w : World) (h : PRest w.heap.size w l v) :
    Calls Try.prog 17 #[v] w fun e w' => (∃ b, e = .returned (.bool b) ∧ (b = true ↔ Dif (l.map (·.1)))) ∧ Below w.heap.size w w' := by
  have HPI : Hid (∀ k, I64 (l.map (·.1) |>.getD k 0)) := Lib.hid (fun k => by rw [← getD_fst]; exact (h.i64 k).1)
  obtain ⟨a, n, cap, rfl⟩ := h.shape
  obtain ⟨hn, hc1, hc2, hcl⟩ := h.cells
  have HN : Hid (n = (l.map (·.1)).length) := Lib.hid (by rw [List.length_map]; exact hn)
  have HCL := Lib.hid hcl
  unfold maxLen at hc2
  have hnm : (n : Int) ≤ 9223372036854775807 := by omega
  clear hn h hcl hc1 hc2
  go_enter Try.func17, Try.ntmps17
  go_wp2_with fail
  go_loopw [3] (fun s3 wr => RdHead (l.map (·.1)) n w s3 wr) (fun s3 _ => n - (intOf s3).toNat)
  case atStart => exact ⟨0, by omega, rfl, difK_zero _, Below.refl _ _⟩
  case round =>
    obtain ⟨i, hi, rfl, hdif, hB⟩ := hrel
    rcases Nat.lt_or_ge i n with hlt | hge
    · have hii : (i : Int) < (n : Int) := by omega
      have hiI := HPI.out i
      go_wp2_with fail
      go_loopw [4] (fun s4 wr => RdIn (l.map (·.1)) i w s4 wr) (fun s4 _ => i - (intOf s4).toNat)
      case atStart => exact ⟨0, by omega, rfl, fun j h => by omega, hB⟩
      case round =>
        obtain ⟨k, hk, rfl, hne, hB2⟩ := hrel
        rcases Nat.lt_or_ge k i with hlt2 | hge2
        · obtain ⟨b, off, rfl, hbl, hcx, _⟩ := HCL.out _ hB2 k (by omega)
          obtain ⟨b', off', he, _, hcx', _⟩ := HCL.out _ hB2 i hlt
          injection he with he
          injection he with e1 e2
          subst e1 e2
          have hkk : (k : Int) < (i : Int) := by omega
          have hkn : (k : Int) < (n : Int) := by omega
          have hkI := HPI.out k
          have HNE := Lib.hid hne
          have HB2 := Lib.hid hB2
          have HD := Lib.hid hdif
          clear hne hB2 hdif hB
          obtain ⟨x, hx⟩ : ∃ x, x = (l.map (·.1)).getD i 0 := ⟨_, rfl⟩
          obtain ⟨y, hy⟩ : ∃ y, y = (l.map (·.1)).getD k 0 := ⟨_, rfl⟩
          rw [← hx] at hcx' hiI
          rw [← hy] at hcx hkI
          have HX := Lib.hid hx
          have HY := Lib.hid hy
          clear hx hy
          have H0 := Lib.hid (fun W => refmod_call x W hiI)
          have H1 := Lib.hid (fun W => refmod_call y W hkI)
          go_wp2_with fail
          go_quiet ((go_at_call 11; first | (with_reducible exact Calls.quiet_of_same (H0.out _)) | (with_reducible exact Calls.quiet_of_same (H1.out _))))
          by_cases hxy : x % 1073741789 = y % 1073741789
          · have e1 : (x % 1073741789 == y % 1073741789) = true := by simpa using hxy
            have HXY := Lib.hid hxy
            rw [e1]
            clear hxy
            go_wp2_with fail
            go_ret
            refine ⟨⟨_, rfl, ⟨fun h => (by cases h), fun hd => ?_⟩⟩, below_drewN HB2.out _⟩
            have h1 := HXY.out
            rw [HX.out, HY.out] at h1
            exact absurd h1.symm (hd k i hlt2 (by rw [← HN.out]; exact hlt))
          · have e1 : (x % 1073741789 == y % 1073741789) = false := by simpa using hxy
            have HXY := Lib.hid hxy
            rw [e1]
            clear hxy
            go_wp2_with fail
            refine ⟨⟨k + 1, by omega, by go_num, fun j hj => ?_, below_drewN HB2.out _⟩, by simp [intOf]; omega⟩
            by_cases hjk : j = k
            · subst hjk
              rw [← HY.out, ← HX.out]
              exact fun h => HXY.out h.symm
            · exact HNE.out j (by omega)
        · obtain rfl : k = i := by omega
          have HD2 : Hid (DifK (l.map (·.1)) (k + 1)) := Lib.hid (difK_succ hdif hne)
          clear hne hdif
          go_wp2_with fail
          go_roundw
          case rel => exact ⟨k + 1, by omega, by go_num, HD2.out, hB2⟩
          case measure => simp [intOf]; omega
    · obtain rfl : i = n := by omega
      go_wp2_with fail
      go_ret
      refine ⟨⟨_, rfl, ?_⟩, hB⟩
      simp only [true_iff]
      rw [← difK_all, ← HN.out]; exact hdif
end Go.Proofs.Ytbigkcemcdokaaa
