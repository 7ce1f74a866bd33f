/- The reference's Few. -/
import Derived.Test.YtlaaolbdadempaaHs
namespace Go.Proofs.Ytlaaolbdadempaa
open Go.RowKit

def FewHead (n : Nat) (W : World) (s3 s4 : Value) (wr : World) : Prop := ∃ (z : Int) (k : Nat), k ≤ n ∧ s3 = .int .i64 z ∧ s4 = .int .i64 (k : Int) ∧ Below W.heap.size W wr
def SomeBool (w : World) (e : Ending) (w' : World) : Prop := ∃ r : Bool, e = .returned (.bool r) ∧ Below w.heap.size w w'
set_option maxHeartbeats 4000000 in
set_option maxRecDepth 100000 in
theorem few_call (d : Dsk) (v : Value) (w : World) (h : DRest w.heap.size w d v) : Calls Try.prog 18 #[v] w (SomeBool w) := by
  obtain ⟨s, p, rfl, hs, hp⟩ := h
  have HR0 := Lib.hid (row_new w 25 (dskCells s p d))
  have HS := Lib.hid hs
  have HP := Lib.hid hp
  obtain ⟨a, cap, rfl, hc1, hc2⟩ := hs.shape
  obtain ⟨a2, cap2, rfl, hc3, hc4⟩ := hp.shape
  clear hs hp
  unfold dskOf dskCells at *
  obtain ⟨xs, ps, left, stop⟩ := d
  simp only at HR0 HS HP hc2 hc4 ⊢
  obtain ⟨n, hn⟩ : ∃ n, n = xs.length := ⟨_, rfl⟩
  obtain ⟨m, hm⟩ : ∃ m, m = ps.length := ⟨_, rfl⟩
  rw [← hn] at HR0 HS hc2 ⊢
  rw [← hm] at HR0 HP hc4 ⊢
  have HN := Lib.hid hn
  have HM := Lib.hid hm
  clear hn hm
  have hn63 : n ≤ 9223372036854775807 := by omega
  have hm63 : m ≤ 9223372036854775807 := by omega
  go_enter Try.func18, Try.ntmps18
  go_wp2_with fail
  have HB0 := Lib.hid (Joins.below_alloc1 w (.cells #[.slice a n cap, .slice a2 m cap2, .int .i64 left, .bool stop] 25))
  generalize hW : w.alloc (.cells _ 25) = W1 at HR0 HB0
  try rw [hW]
  clear hW
  go_loopw [3, 4] (fun s3 s4 wr => FewHead n W1 s3 s4 wr) (fun _ s4 _ => n - (intOf s4).toNat)
  case atStart => exact ⟨0, 0, Nat.zero_le _, rfl, rfl, Below.refl _ _⟩
  case round =>
    obtain ⟨z, k, hk, rfl, rfl, hb⟩ := hrel
    have HB := Lib.hid hb
    have c0 := HR0.out.later hb (i := 0) rfl
    have c1 := HR0.out.later hb (i := 1) rfl
    clear hb
    by_cases hgo : k < n ∧ z ≤ 9000
    · obtain ⟨hlt, hz⟩ := hgo
      obtain ⟨x, hx⟩ : ∃ x, xs[k]? = some x := ⟨_, List.getElem?_eq_getElem (by rw [← HN.out]; exact hlt)⟩
      obtain ⟨b, off, u, rfl, hbl, hru, hcell⟩ := HS.out.at hx
      have hcu := hcell wr (below_next HB0.out HB.out)
      obtain ⟨ua, uc, rfl, hu1, hu2⟩ := hru.shape
      have hkn : (k : Int) < (n : Int) := by omega
      have hk0 : (0 : Int) ≤ (k : Int) := by omega
      generalize x.length = l at hcu
      clear hru hcell hx hu1 hu2
      go_wp2_with fail
      exact ⟨⟨_, k + 1, hlt, rfl, by go_num, HB.out⟩, by simp [intOf]; omega⟩
    · have hend : ¬ k < n ∨ (k < n ∧ ¬ z ≤ 9000) := by omega
      have HEND := Lib.hid hend
      clear hgo hend
      obtain ⟨W2, rfl⟩ : ∃ W2, W2 = wr := ⟨wr, rfl⟩
      rcases HEND.out with hge | ⟨hlt, hz⟩
      all_goals
        first
        | have hkn : ¬ (k : Int) < (n : Int) := by omega
        | have hkn : (k : Int) < (n : Int) := by omega
        go_wp2_with fail
        go_loopw [3, 5] (fun s3 s5 wr => FewHead m W2 s3 s5 wr) (fun _ s5 _ => m - (intOf s5).toNat)
        case atStart => exact ⟨z, 0, Nat.zero_le _, rfl, rfl, Below.refl _ _⟩
        case round =>
          obtain ⟨z2, j, hj, rfl, rfl, hb⟩ := hrel
          have HB2 := Lib.hid (below_next HB.out hb)
          have HB3 := Lib.hid hb
          have c0 := HR0.out.later HB2.out (i := 0) rfl
          have c1 := HR0.out.later HB2.out (i := 1) rfl
          clear hb
          by_cases hgo : j < m ∧ z2 ≤ 9000
          · obtain ⟨hlt2, hz2⟩ := hgo
            obtain ⟨x, hx⟩ : ∃ x, ps[j]? = some x := ⟨_, List.getElem?_eq_getElem (by rw [← HM.out]; exact hlt2)⟩
            obtain ⟨b, off, u, rfl, hbl, hru, hcell⟩ := HP.out.at hx
            have hcu := (hcell wr (below_next HB0.out HB2.out)).2
            obtain ⟨ua, uc, rfl, hu1, hu2⟩ := hru.shape
            have hkn : (j : Int) < (m : Int) := by omega
            have hk0 : (0 : Int) ≤ (j : Int) := by omega
            generalize x.2.length = l at hcu
            clear hru hcell hx hu1 hu2
            go_wp2_with fail
            exact ⟨⟨_, j + 1, hlt2, rfl, by go_num, HB3.out⟩, by simp [intOf]; omega⟩
          · have hend : ¬ j < m ∨ (j < m ∧ ¬ z2 ≤ 9000) := by omega
            clear hgo
            rcases hend with hge | ⟨hlt, hz⟩
            · have hkn : ¬ (j : Int) < (m : Int) := by omega
              go_wp2_with fail
              go_ret
              exact ⟨_, rfl, below_next HB0.out HB2.out⟩
            · have hkn : (j : Int) < (m : Int) := by omega
              go_wp2_with fail
              go_ret
              exact ⟨_, rfl, below_next HB0.out HB2.out⟩
end Go.Proofs.Ytlaaolbdadempaa
