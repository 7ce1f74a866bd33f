/- fits: is each number one of its arc? -/
import Derived.Test.YtbmbddapbgnioaaX
import Derived.BigQuiet
import Derived.Test.YtbmbddapbgnioaaMa
namespace Go.Proofs.Ytbmbddapbgnioaa
open Go.RowKit Go.Shelf

theorem below_drewN {B : Nat} {a w : World} (h : Below B a w) (n : Nat) : Below B a (w.drewN n) := ⟨h.os, h.tape, h.output, h.size, h.block⟩
open Classical in
noncomputable def okB (A : List Ar) (X : List Int) : Bool := if okF A X then true else false
theorem okB_yes {A : List Ar} {X : List Int} (h : okF A X) : okB A X = true := if_pos h
theorem okB_no {A : List Ar} {X : List Int} (h : ¬ okF A X) : okB A X = false := if_neg h
theorem ints_at {B : Nat} {w : World} {l : List Int} {n : Nat} {a : Option Addr} {cap : Nat} (h : IRest B w l (.slice a n cap)) :
    n = l.length ∧ l.length ≤ cap ∧ cap ≤ maxLen ∧ ∀ i, i < l.length → I64 (l.getD i 0) ∧ ∃ b off, a = some ⟨b, off, none⟩ ∧ b < B ∧ w.cell? ⟨b, off + i, none⟩ = some (.int .i64 (l.getD i 0)) := by
  obtain ⟨a2, cap2, he, h1, h2, h3, h4⟩ := h
  injection he with e1 e2 e3
  subst e1 e2 e3
  refine ⟨rfl, h1, h2, fun i hi => ?_⟩
  have e : l.getD i 0 = l[i] := by simp [hi]
  rw [e]
  refine ⟨h3 _ (List.getElem_mem hi), ?_⟩
  rcases h4 with h4 | ⟨b, off, rfl, hb, hc⟩
  · omega
  · exact ⟨b, off, rfl, hb, hc i hi⟩
set_option maxRecDepth 100000 in
set_option maxHeartbeats 8000000 in
theorem fits_call (N s t : Int) (A : List Ar) (X : List Int) (va vx : Value) (w : World) (hA : ARest w.heap.size w A va) (hX : IRest w.heap.size w X vx) :
    Calls Try.prog 24 #[netV N s t va, vx] w fun e w' => e = .returned (.bool (okB A X)) ∧ Below w.heap.size w w' := by
  obtain ⟨a, c, rfl, -⟩ := id hA
  obtain ⟨ax, cx, rfl, -⟩ := id hX
  obtain ⟨-, hac, ham, hat⟩ := arcs_at hA
  obtain ⟨-, hxc, hxm, hxt⟩ := ints_at hX
  obtain ⟨n, hn⟩ : ∃ n, n = A.length := ⟨_, rfl⟩
  obtain ⟨m, hm⟩ : ∃ m, m = X.length := ⟨_, rfl⟩
  rw [← hn] at hac hat ⊢
  rw [← hm] at hxc hxt ⊢
  have HAT := Lib.hid hat
  have HXT := Lib.hid hxt
  have HNL := Lib.hid (And.intro hn hm)
  have HNM : Hid (n ≤ maxLen) := Lib.hid (by omega)
  clear hat hxt hn hm hA hX
  unfold netV
  have HX := Lib.hid (bx_new w N s t (.slice a n c))
  obtain ⟨W1, hW1⟩ : ∃ W1, W1 = w.alloc (.cells #[.int .i64 N, .int .i64 s, .int .i64 t, .slice a n c] 24) := ⟨_, rfl⟩
  have HW1 := Lib.hid hW1
  rw [← hW1] at HX
  clear hW1
  have d3 := HX.out.row.cell (i := 3) rfl
  go_enter Try.func24, Try.ntmps24
  go_upto_region 1 with (fail)
  rw [← HW1.out]
  by_cases hmn : m = n
  · subst hmn
    go_wp2_with fail
    go_loopw [16] (fun s16 wr => ∃ (k : Nat), k ≤ m ∧ s16 = .int .i64 (k : Int) ∧ Bx w wr w.heap.size N s t (.slice a m c) ∧ ∀ i, i < k → 0 ≤ X.getD i 0 ∧ X.getD i 0 ≤ (A.getD i (0, 0, 0)).2.2) (fun s16 _ => m - (intOf s16).toNat)
    case atStart => exact ⟨0, by omega, rfl, HX.out, fun i h => by omega⟩
    case round =>
      obtain ⟨k, hk, rfl, hR, hall⟩ := hrel
      have HR := Lib.hid hR
      have HK := Lib.hid hk
      have HALL := Lib.hid hall
      clear hR hk HX hall d3 HW1
      by_cases hlt : k < m
      · have hki : (k : Int) < (m : Int) := by omega
        have HWR := Lib.hid (wrap_succ hlt HNM.out)
        obtain ⟨hI, ba, off, hae, hba, e1, e2, e3⟩ := HAT.out k (by have := HNL.out; omega)
        obtain ⟨hIx, bX, offx, hxe, hbX, f1⟩ := HXT.out k (by have := HNL.out; omega)
        subst hae hxe
        obtain ⟨x, hx⟩ : ∃ x, x = (A.getD k (0, 0, 0)).1 := ⟨_, rfl⟩
        obtain ⟨y, hy⟩ : ∃ x, x = (A.getD k (0, 0, 0)).2.1 := ⟨_, rfl⟩
        obtain ⟨cp, hcp⟩ : ∃ x, x = (A.getD k (0, 0, 0)).2.2 := ⟨_, rfl⟩
        obtain ⟨z, hz⟩ : ∃ x, x = X.getD k 0 := ⟨_, rfl⟩
        rw [← hx] at e1
        rw [← hy] at e2
        rw [← hcp] at e3
        rw [← hz] at f1
        have HEQ := Lib.hid (And.intro hcp hz)
        have HLT := Lib.hid hlt
        have c1 := (HR.out.bw.cell (p := ⟨ba, off + k * 3, none⟩) hba).trans e1
        have c2 := (HR.out.bw.cell (p := ⟨ba, off + k * 3 + 1, none⟩) hba).trans e2
        have c3 := (HR.out.bw.cell (p := ⟨ba, off + k * 3 + 2, none⟩) hba).trans e3
        have hb4 : Below wr.heap.size wr (wr.alloc (.cells #[.int .i64 x, .int .i64 y, .int .i64 cp] 43)) := Joins.below_alloc1 wr _
        have q4 : Row (wr.alloc (.cells #[.int .i64 x, .int .i64 y, .int .i64 cp] 43)) wr.heap.size 43 [.int .i64 x, .int .i64 y, .int .i64 cp] := row_new wr 43 _
        obtain ⟨w4, hw4⟩ : ∃ w4, w4 = wr.alloc (.cells #[.int .i64 x, .int .i64 y, .int .i64 cp] 43) := ⟨_, rfl⟩
        rw [← hw4] at hb4 q4
        have HR4 := Lib.hid (HR.out.keep hb4)
        have HQ4 := Lib.hid q4
        have HW4 := Lib.hid hw4
        obtain ⟨bx, hbx⟩ : ∃ bx, bx = wr.heap.size := ⟨_, rfl⟩
        have c6 := (HR4.out.bw.cell (p := ⟨bX, offx + k, none⟩) hbX).trans f1
        clear hI hIx hba hbX f1 e1 e2 e3 hx hy hcp hz hb4 q4 hw4 HR hlt
        go_upto_region 6 with (fail)
        rw [← HW4.out, ← hbx]
        rw [← hbx] at HQ4
        clear hbx c1 c2 c3
        have c1 := HQ4.out.cell (i := 2) rfl
        by_cases k1 : z < 0
        · have HAF : Hid (okB A X = false) := Lib.hid (okB_no (fun h => by
            have := ((okF_iff A X).1 h).2 k (by have := HNL.out; have := HLT.out; omega)
            have := HEQ.out
            omega))
          have e1 : decide (z < 0) = true := by simpa using k1
          go_quiet (fail)
          go_wp2_with fail
          go_ret
          exact ⟨by rw [HAF.out]; rfl, below_drewN HR4.out.bw _⟩
        · have e1 : decide (z < 0) = false := by simpa using k1
          by_cases k2 : cp < z
          · have HAF : Hid (okB A X = false) := Lib.hid (okB_no (fun h => by
              have := ((okF_iff A X).1 h).2 k (by have := HNL.out; have := HLT.out; omega)
              have := HEQ.out
              omega))
            have e2 : decide (cp < z) = true := by simpa using k2
            go_quiet (fail)
            go_wp2_with fail
            go_ret
            exact ⟨by rw [HAF.out]; rfl, below_drewN HR4.out.bw _⟩
          · have e2 : decide (cp < z) = false := by simpa using k2
            go_quiet (fail)
            go_wp2_with fail
            refine ⟨⟨k + 1, by have := HLT.out; omega, by rw [HWR.out, Int.natCast_succ], HR4.out.keep (drewN_below _ _), fun i hi => ?_⟩, by have := HLT.out; exact back_less this HWR.out⟩
            rcases Nat.lt_or_ge i k with h9 | h9
            · exact HALL.out i h9
            · obtain rfl : i = k := by omega
              have := HEQ.out
              omega
      · obtain rfl : k = m := by have := HK.out; omega
        have HAF : Hid (okB A X = true) := Lib.hid (okB_yes ((okF_iff A X).2 ⟨by have := HNL.out; omega, fun i hi => HALL.out i (by have := HNL.out; omega)⟩))
        go_wp2_with fail
        go_ret
        exact ⟨by rw [HAF.out]; rfl, HR.out.bw⟩
  · have hmi : ¬ (m : Int) = (n : Int) := by omega
    have HAF : Hid (okB A X = false) := Lib.hid (okB_no (fun h => by
      have := ((okF_iff A X).1 h).1
      have := HNL.out
      omega))
    go_wp2_with fail
    go_ret
    exact ⟨by rw [HAF.out]; rfl, HX.out.bw⟩
end Go.Proofs.Ytbmbddapbgnioaa
