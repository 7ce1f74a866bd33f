/- exact: is a pair permitted, and its price its element? Prices of a deal. -/
import Derived.Test.YthkmbbgcadfilaaNb
namespace Go.Proofs.Ythkmbbgcadfilaa
open Go.RowKit Go.Shelf

def exB (C : List (List Int)) (U V : List Int) (i j : Nat) : Bool := decide (cst C i j ≠ -1 ∧ gI U 0 i + gI V 0 j = cst C i j)
set_option maxRecDepth 100000 in
set_option maxHeartbeats 8000000 in
theorem exact_call {g gu gv gt gr n m : Nat} {vc : Value} {U V TO RW : List Int} (C : List (List Int)) (w : World) (i j : Nat) (hM : Mat C n m) (hC : NRest w.heap.size w C vc) (hd : DMem g gu gv gt gr n m vc U V TO RW w) (hi : i < n) (hj : j < m)
    (hu : -1099511627776 ≤ gI U 0 i ∧ gI U 0 i ≤ 1099511627776) (hv : -1099511627776 ≤ gI V 0 j ∧ gI V 0 j ≤ 0) :
    Calls Try.prog 51 #[.pointer (some ⟨g, 0, none⟩), .int .i64 (i : Int), .int .i64 (j : Int)] w fun e w' => e = .returned (.bool (exB C U V i j)) ∧ Below w.heap.size w w' := by
  obtain ⟨a, c, rfl⟩ := nrest_shape hC
  obtain ⟨-, hac, ham, hat⟩ := rows_at hC
  have hn := hM.len
  have hn16 := hM.n16
  have hm16 := hM.m16
  have hrl := hM.row i hi
  obtain ⟨b, off, ra, rc, q1, hb, f1, hrow⟩ := hat i (by omega)
  obtain ⟨-, hrc, hrm, hrt⟩ := ints_at hrow
  rw [hrl] at f1 hrc hrt
  obtain ⟨-, b2, off2, q2, hb2, f2⟩ := hrt j (by omega)
  have hx0 := getDD hM hi hj
  rw [hx0] at f2
  rw [hn] at hd hac
  subst q1 q2
  have c0 := hd.rg.cell (i := 0) rfl
  have c1 := hd.rg.cell (i := 1) rfl
  have c2 := hd.rg.cell (i := 2) rfl
  have c3 := nrow_cell hd.ru (u := i) (by rw [hd.lu]; exact hi)
  have c4 := nrow_cell hd.rv (u := j) (by rw [hd.lv]; exact hj)
  unfold gI at hu hv
  obtain ⟨x, hx⟩ : ∃ x, x = cst C i j := ⟨_, rfl⟩
  obtain ⟨u, hue⟩ : ∃ x, x = U.getD i 0 := ⟨_, rfl⟩
  obtain ⟨v, hve⟩ : ∃ x, x = V.getD j 0 := ⟨_, rfl⟩
  rw [← hue] at c3 hu
  rw [← hve] at c4 hv
  rw [← hx] at f2
  have HV : Hid (exB C U V i j = decide (x ≠ -1 ∧ u + v = x)) := Lib.hid (by unfold exB gI; rw [← hx, ← hue, ← hve])
  have hw : IntKind.i64.wrap (u + v) = u + v := by rw [IntKind.wrap_i64]; omega
  have hii : (i : Int) < (n : Int) := by omega
  have hji : (j : Int) < (m : Int) := by omega
  clear hx hue hve hd hC hM hat hrow hrt hrl hn hb hb2 hx0
  go_enter Try.func51, Try.ntmps51
  go_upto_region 2 with (fail)
  by_cases x1 : x = -1
  · have g1 : (x != -1) = false := by simp [x1]
    have HW : Hid (exB C U V i j = false) := Lib.hid (by rw [HV.out]; exact decide_eq_false (fun h => h.1 x1))
    clear x1 hw
    go_quiet (fail)
    go_wp2_with fail
    go_ret
    exact ⟨by rw [HW.out]; rfl, below_drewN (Below.refl _ _) _⟩
  · have g1 : (x != -1) = true := by simp [x1]
    by_cases x2 : u + v = x
    · have g2 : (u + v == x) = true := by simp [x2]
      have HW : Hid (exB C U V i j = true) := Lib.hid (by rw [HV.out]; exact decide_eq_true ⟨x1, x2⟩)
      clear x1 x2
      go_quiet (fail)
      go_wp2_with fail
      go_ret
      exact ⟨by rw [HW.out]; rfl, below_drewN (Below.refl _ _) _⟩
    · have g2 : (u + v == x) = false := by simp [x2]
      have HW : Hid (exB C U V i j = false) := Lib.hid (by rw [HV.out]; exact decide_eq_false (fun h => x2 h.2))
      clear x1 x2
      go_quiet (fail)
      go_wp2_with fail
      go_ret
      exact ⟨by rw [HW.out]; rfl, below_drewN (Below.refl _ _) _⟩
end Go.Proofs.Ythkmbbgcadfilaa
