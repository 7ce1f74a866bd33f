/- The reference's room: how much more goes along the way back. -/
import Derived.Test.YtbmbddapbgnioaaKf
namespace Go.Proofs.Ytbmbddapbgnioaa
open Go.RowKit Go.Shelf

set_option maxRecDepth 100000 in
set_option maxHeartbeats 8000000 in
theorem rroom_call (N s t : Nat) (A : List Ar) (X by' : List Int) (sd : List Bool) (l L : List Int) (va vx vb : Value) (w : World) (hA : ARest w.heap.size w A va) (hX : IRest w.heap.size w X vx) (hB : IRest w.heap.size w by' vb) (hE : netE N s t A = 0) (hok : okF A X)
    (hbi : BI N s A X by' sd l) (hbz : ∀ x, x ∈ by' → -1000 ≤ x ∧ x ≤ 1000) (hL : Chn s (parB A by') (t : Int) L) (hLl : ∀ u, u ∈ L → u ∈ l ∧ u ≠ s) (ht : (t : Int) ∈ l) (hnz : ∀ v, v ∈ l → v ≠ (s : Int) → byB by' v ≠ 0) :
    Calls Try.prog 39 #[netV N s t va, vx, vb] w fun e w' => e = .returned (.int .i64 (roomL (slk A X (idxB by') (fwB by')) L 1073741824)) ∧ Kd w w' := by
  have hnk := net_ok hE
  have hlenX := ((okF_iff A X).1 hok).1
  have HOK := Lib.hid ((okF_iff A X).1 hok).2
  have HNK := Lib.hid hnk
  have HBI := Lib.hid hbi
  have HBZ := Lib.hid hbz
  have HNZ := Lib.hid hnz
  have hN64 : N ≤ 64 := by have := hnk.rng; omega
  have hsN : s < N := by have := hnk.net.src; omega
  obtain ⟨a, c, rfl, -⟩ := id hA
  obtain ⟨ax, cx, rfl, -⟩ := id hX
  obtain ⟨ab, cb, rfl, -⟩ := id hB
  obtain ⟨-, hac, ham, hat⟩ := arcs_at hA
  obtain ⟨-, hxc, hxm, hxt⟩ := ints_at hX
  obtain ⟨-, hbc, hbm, hbt⟩ := ints_at hB
  have hlb := hbi.lb
  obtain ⟨n, hn⟩ : ∃ n, n = A.length := ⟨_, rfl⟩
  rw [← hn] at hac hat hlenX ⊢
  rw [hlenX] at hxc hxt ⊢
  rw [hlb] at hbc hbt ⊢
  have HAT := Lib.hid hat
  have HXT := Lib.hid hxt
  have HBT := Lib.hid hbt
  have HNL := Lib.hid (And.intro hn (And.intro hlenX (And.intro (show n ≤ 512 by have := hnk.few; omega) hlb)))
  have HCH := Lib.hid (And.intro hL (And.intro hLl ht))
  clear hnz hA hX hB hE hok hn hat hxt hbt hlenX hnk hbi hbz hlb hL hLl ht
  unfold netV
  have HX := Lib.hid (bx_new w N s t (.slice a n c))
  obtain ⟨W1, hW1⟩ : ∃ W1, W1 = w.alloc (.cells #[.int .i64 (N : Int), .int .i64 (s : Int), .int .i64 (t : Int), .slice a n c] 24) := ⟨_, rfl⟩
  have HW1 := Lib.hid hW1
  rw [← hW1] at HX
  clear hW1
  have d2 := HX.out.row.cell (i := 2) rfl
  go_enter Try.func39, Try.ntmps39
  go_upto_region 1 with (fail)
  rw [← HW1.out]
  go_upto_region 3 with (fail)
  clear d2
  go_loopg [7, 8] L.length (fun k s7 s8 wr => ∃ (L2 : List Int) (v : Nat) (m : Int), s7 = .int .i64 m ∧ s8 = .int .i64 (v : Int) ∧ Chn s (parB A by') (v : Int) L2 ∧ (∀ u, u ∈ L2 → u ∈ l ∧ u ≠ s) ∧ (v : Int) ∈ l ∧ roomL (slk A X (idxB by') (fwB by')) L2 m = roomL (slk A X (idxB by') (fwB by')) L 1073741824 ∧ k = L2.length ∧ (0 ≤ m ∧ m ≤ 1073741824) ∧ Bx w wr w.heap.size N s t (.slice a n c))
  case atStart => exact ⟨L, t, _, rfl, rfl, HCH.out.1, HCH.out.2.1, HCH.out.2.2, rfl, rfl, by omega, HX.out⟩
  case round =>
    obtain ⟨L2, v, m, rfl, rfl, hch, hin, hvl, hro, hgk, hmb, hR⟩ := hrel
    have HR := Lib.hid hR
    have HC2 := Lib.hid (And.intro hch (And.intro hin (And.intro hvl (And.intro hro hgk))))
    have d1 := hR.row.cell (i := 1) rfl
    have d3 := hR.row.cell (i := 3) rfl
    clear hR hch hin hvl hro hgk HX
    by_cases hvs : (v : Int) = (s : Int)
    · have hvs2 : ((v : Int) != (s : Int)) = false := by simp [hvs]
      have hz : L2 = [] := by have h9 := HC2.out.1; rw [hvs] at h9; exact h9.last
      have HT : Hid (m = roomL (slk A X (idxB by') (fwB by')) L 1073741824) := Lib.hid (by have h9 := HC2.out.2.2.2.1; rw [hz] at h9; exact h9)
      go_wp2_with fail
      go_ret
      exact ⟨by rw [← HT.out]; rfl, Kd.of HR.out.bw⟩
    · have hvs2 : ((v : Int) != (s : Int)) = true := by simp [hvs]
      obtain ⟨L3, hL3, hch3⟩ := HC2.out.1.next hvs
      have hvl := HC2.out.2.2.1
      have hvr := HBI.out.inn _ hvl
      obtain ⟨hst, hpl⟩ := HBI.out.stp _ hvl hvs
      obtain ⟨bb, hbb⟩ : ∃ b, b = by'.getD v 0 := ⟨_, rfl⟩
      have hbz : -1000 ≤ bb ∧ bb ≤ 1000 := HBZ.out bb (by
        have h9 : v < by'.length := by have := HNL.out.2.2.2; omega
        rw [hbb]; simp [h9])
      obtain ⟨-, b1, o1, q1, hb1, f1⟩ := HBT.out v (by have := HNL.out; omega)
      subst q1
      rw [← hbb] at f1
      have cB := (HR.out.bw.cell (p := ⟨b1, o1 + v, none⟩) hb1).trans f1
      have hvN : (v : Int) < (N : Int) := by omega
      have hlt := hst.lt
      have harc := hst.arc
      have hBY : byB by' (v : Int) = bb := by unfold byB; rw [Int.toNat_natCast, hbb]
      have hin : ∀ u, u ∈ L3 → u ∈ l ∧ u ≠ s := fun u hu => HC2.out.2.1 u (by rw [hL3]; simp [hu])
      have hpr := HBI.out.inn _ hpl
      obtain ⟨pv, hpv⟩ : ∃ p : Nat, parB A by' (v : Int) = (p : Int) := ⟨(parB A by' v).toNat, by omega⟩
      rw [hpv] at hch3 hpl
      have hro := HC2.out.2.2.2.1
      rw [hL3] at hro
      have hgk := HC2.out.2.2.2.2
      rw [hL3] at hgk
      obtain ⟨i, hi⟩ : ∃ i, i = idxB by' (v : Int) := ⟨_, rfl⟩
      rw [← hi] at hlt harc
      have hin5 : (i : Int) < (n : Int) := by have := HNL.out; omega
      have hi5 : (i : Int) < 512 := by have := HNL.out; omega
      obtain ⟨hI, ba, off, hae, hba, e1, e2, e3⟩ := HAT.out i (by omega)
      obtain ⟨-, bx, offx, hxe, hbx, e4⟩ := HXT.out i (by have := HNL.out; omega)
      subst hae hxe
      obtain ⟨cp, hcp⟩ : ∃ x, x = (A.getD i (0, 0, 0)).2.2 := ⟨_, rfl⟩
      obtain ⟨y, hy⟩ : ∃ x, x = X.getD i 0 := ⟨_, rfl⟩
      have hyc := HOK.out i hlt
      have hcap := HNK.out.caps _ (getD_mem hlt)
      rw [← hcp] at e3 hyc hcap
      rw [← hy] at e4 hyc
      have c1 := (HR.out.bw.cell (p := ⟨ba, off + i * 3, none⟩) hba).trans e1
      have c2 := (HR.out.bw.cell (p := ⟨ba, off + i * 3 + 1, none⟩) hba).trans e2
      have c3 := (HR.out.bw.cell (p := ⟨ba, off + i * 3 + 2, none⟩) hba).trans e3
      have c4 := (HR.out.bw.cell (p := ⟨bx, offx + i, none⟩) hbx).trans e4
      have HNX := Lib.hid (And.intro hch3 (And.intro hin (And.intro hpl hgk)))
      by_cases hpos : 0 < bb
      · have hfw : fwB by' (v : Int) = true := by unfold fwB; rw [hBY]; exact decide_eq_true hpos
        rw [hfw, if_pos rfl] at harc
        have hbi2 : bb - 1 = (i : Int) := by rw [hi]; unfold idxB; rw [hBY, if_pos hpos]; omega
        have hsl : slk A X (idxB by') (fwB by') (v : Int) = cp - y := by unfold slk; rw [hfw, if_pos rfl, ← hi, ← hcp, ← hy]
        have hx0 : (A.getD i (0, 0, 0)).1 = (pv : Int) := by rw [harc.1, hpv]
        rw [hx0] at c1
        have hmin : min m (cp - y) = (if m ≤ cp - y then m else cp - y) := by omega
        have HT : Hid (roomL (slk A X (idxB by') (fwB by')) L3 (min m (cp - y)) = roomL (slk A X (idxB by') (fwB by')) L 1073741824) := Lib.hid (by
          have h9 : roomL (slk A X (idxB by') (fwB by')) (↑v :: L3) m = roomL (slk A X (idxB by') (fwB by')) L3 (min m (slk A X (idxB by') (fwB by') (v : Int))) := rfl
          rw [h9, hsl] at hro; exact hro)
        clear hro hch3 hin hpl hgk hi hcp hy hlt harc hI hba hbx e1 e2 e3 e4 hBY hfw hsl hx0 hbb hL3 hvr hst hpr hpv f1
        go_upto_region 6 with (fail)
        go_still_tail 12, (by kernel_rfl)
        go_wp2_with fail
        go_roundg L3.length
        case measure => rw [HNX.out.2.2.2]; simp
        case rel => exact ⟨L3, pv, _, rfl, rfl, HNX.out.1, HNX.out.2.1, HNX.out.2.2.1, HT.out, rfl, by omega, HR.out.keep (Kd.drewN _ 1).below⟩
      · have hfw : fwB by' (v : Int) = false := by unfold fwB; rw [hBY]; exact decide_eq_false hpos
        rw [hfw] at harc
        simp only [Bool.false_eq_true, if_false] at harc
        have hbi2 : -bb - 1 = (i : Int) := by
          have h9 : i = (-bb - 1).toNat := by rw [hi]; unfold idxB; rw [hBY, if_neg hpos]
          have h8 : bb ≠ 0 := fun e => HNZ.out _ hvl hvs (by rw [hBY]; exact e)
          omega
        have hsl : slk A X (idxB by') (fwB by') (v : Int) = y := by unfold slk; rw [hfw, ← hi, ← hy]; simp
        have hx0 : (A.getD i (0, 0, 0)).2.1 = (pv : Int) := by rw [harc.2.1, hpv]
        rw [hx0] at c2
        have HT : Hid (roomL (slk A X (idxB by') (fwB by')) L3 (min m y) = roomL (slk A X (idxB by') (fwB by')) L 1073741824) := Lib.hid (by
          have h9 : roomL (slk A X (idxB by') (fwB by')) (↑v :: L3) m = roomL (slk A X (idxB by') (fwB by')) L3 (min m (slk A X (idxB by') (fwB by') (v : Int))) := rfl
          rw [h9, hsl] at hro; exact hro)
        clear hro hch3 hin hpl hgk hi hcp hy hlt harc hI hba hbx e1 e2 e3 e4 hBY hfw hsl hx0 hbb hL3 hvr hst hpr hpv f1
        go_wp2_with fail
        go_roundg L3.length
        case measure => rw [HNX.out.2.2.2]; simp
        case rel => exact ⟨L3, pv, _, rfl, rfl, HNX.out.1, HNX.out.2.1, HNX.out.2.2.1, HT.out, rfl, by omega, by first | exact HR.out | exact HR.out.keep (Kd.drewN _ 1).below⟩
end Go.Proofs.Ytbmbddapbgnioaa
