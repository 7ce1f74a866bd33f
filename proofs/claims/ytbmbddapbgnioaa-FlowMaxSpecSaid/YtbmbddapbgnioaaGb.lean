/- excesses: what a flow takes away from each vertex. -/
import Derived.Test.YtbmbddapbgnioaaGa
import Derived.StillTailTactics
import Derived.Test.YtbmbddapbgnioaaMd
import Derived.Test.YtbmbddapbgnioaaMb
import Derived.Laws.Tables
namespace Go.Proofs.Ytbmbddapbgnioaa
open Go.RowKit Go.Shelf

def exL (A : List Ar) (X : List Int) (k : Nat) : List Int := (List.range 64).map (fun v : Nat => surp (A.take k) (X.take k) (v : Int))
theorem exL_len (A : List Ar) (X : List Int) (k : Nat) : (exL A X k).length = 64 := by simp [exL]
theorem exL_get (A : List Ar) (X : List Int) (k v : Nat) (h : v < 64) : (exL A X k).getD v 0 = surp (A.take k) (X.take k) (v : Int) := by
  unfold exL; simp [h]
theorem ext_getD {l l' : List Int} (h : l.length = l'.length) (h2 : ∀ v, v < l.length → l.getD v 0 = l'.getD v 0) : l = l' := by
  apply List.ext_getElem h
  intro i h3 h4
  have := h2 i h3
  simpa [h3, h4] using this
theorem exL_next {A : List Ar} {X : List Int} {k f t : Nat} (hX : X.length = A.length) (hk : k < A.length) (hf : (A.getD k (0, 0, 0)).1 = (f : Int)) (ht : (A.getD k (0, 0, 0)).2.1 = (t : Int)) (h1 : f < 64) (h2 : t < 64) (hne : f ≠ t) :
    ((exL A X k).set f ((exL A X k).getD f 0 + X.getD k 0)).set t ((exL A X k).getD t 0 - X.getD k 0) = exL A X (k + 1) := by
  have hl : (exL A X k).length = 64 := exL_len A X k
  refine ext_getD (by simp [exL]) fun v hv => ?_
  rw [List.length_set, List.length_set, hl] at hv
  rw [exL_get A X (k + 1) v hv, surp_take (v : Int) A X k hX hk, hf, ht, ← exL_get A X k v hv]
  by_cases e1 : t = v
  · subst e1
    rw [getD_set_self _ _ _ _ (by rw [List.length_set, hl]; exact h2), if_neg (show ¬ (f : Int) = (t : Int) by omega), if_pos rfl]; omega
  · rw [getD_set_ne _ _ _ _ _ e1, if_neg (show ¬ (t : Int) = (v : Int) by omega)]
    by_cases e2 : f = v
    · subst e2
      rw [getD_set_self _ _ _ _ (by rw [hl]; exact h1), if_pos rfl]; omega
    · rw [getD_set_ne _ _ _ _ _ e2, if_neg (show ¬ (f : Int) = (v : Int) by omega)]; omega
set_option maxRecDepth 100000 in
set_option maxHeartbeats 8000000 in
theorem excess_call (N s t : Int) (A : List Ar) (X : List Int) (va vx : Value) (w : World) (hA : ARest w.heap.size w A va) (hX : IRest w.heap.size w X vx) (hin : ∀ a, a ∈ A → (0 ≤ a.1 ∧ a.1 < 64) ∧ (0 ≤ a.2.1 ∧ a.2.1 < 64) ∧ a.1 ≠ a.2.1 ∧ a.2.2 ≤ 1073741824) (hfew : A.length ≤ 512) (hok : okF A X) :
    Calls Try.prog 25 #[netV N s t va, vx] w fun e w' => e = .returned (.agg (nums (exL A X A.length)).toArray) ∧ Below w.heap.size w w' := by
  obtain ⟨a, c, rfl, -⟩ := id hA
  obtain ⟨ax, cx, rfl, -⟩ := id hX
  obtain ⟨-, hac, ham, hat⟩ := arcs_at hA
  obtain ⟨-, hxc, hxm, hxt⟩ := ints_at hX
  have hl := ((okF_iff A X).1 hok).1
  have HOK := Lib.hid ((okF_iff A X).1 hok).2
  have HIN := Lib.hid hin
  obtain ⟨n, hn⟩ : ∃ n, n = A.length := ⟨_, rfl⟩
  rw [hl, ← hn] at hxc hxt ⊢
  rw [← hn] at hac hat hfew
  have HAT := Lib.hid hat
  have HXT := Lib.hid hxt
  have HNL := Lib.hid (And.intro hn hl)
  clear hat hxt hn hl hA hX hok hin
  unfold netV
  have HX := Lib.hid (bx_new w N s t (.slice a n c))
  obtain ⟨W1, hW1⟩ : ∃ W1, W1 = w.alloc (.cells #[.int .i64 N, .int .i64 s, .int .i64 t, .slice a n c] 24) := ⟨_, rfl⟩
  have HW1 := Lib.hid hW1
  have HS1 : Hid (W1.heap.size = w.heap.size + 1) := Lib.hid (by rw [hW1]; exact World.size_alloc ..)
  rw [← hW1] at HX
  clear hW1
  go_enter Try.func25, Try.ntmps25
  go_upto_region 1 with (fail)
  rw [← HW1.out]
  change Code.wp _ _ _ _ (World.alloc _ (Obj.cells (nums (exL A X 0)).toArray 50))
  have q2 : Row (W1.alloc (Obj.cells (nums (exL A X 0)).toArray 50)) W1.heap.size 50 (nums (exL A X 0)) := row_new W1 50 _
  have hb2 : Below W1.heap.size W1 (W1.alloc (Obj.cells (nums (exL A X 0)).toArray 50)) := Joins.below_alloc1 W1 _
  rw [HS1.out] at q2
  generalize W1.alloc (Obj.cells (nums (exL A X 0)).toArray 50) = W2 at *
  have HX2 := Lib.hid (HX.out.keep hb2)
  have HQ2 := Lib.hid q2
  clear HX hb2 q2 HW1
  have d3 := HX2.out.row.cell (i := 3) rfl
  go_wp2_with fail
  go_loopw [10] (fun s10 wr => ∃ (k : Nat), k ≤ n ∧ s10 = .int .i64 (k : Int) ∧ Bx w wr w.heap.size N s t (.slice a n c) ∧ Row wr (w.heap.size + 1) 50 (nums (exL A X k))) (fun s10 _ => n - (intOf s10).toNat)
  case atStart => exact ⟨0, by omega, rfl, HX2.out, HQ2.out⟩
  case round =>
    obtain ⟨k, hk, rfl, hR, hE⟩ := hrel
    have HR := Lib.hid hR
    have HE := Lib.hid hE
    have HK := Lib.hid hk
    clear hR hE hk HX2 HQ2 d3
    by_cases hlt : k < n
    · have hki : (k : Int) < (n : Int) := by omega
      have hk5 : k < 512 := by omega
      obtain ⟨hI, ba, off, hae, hba, e1, e2, e3⟩ := HAT.out k (by have := HNL.out; omega)
      obtain ⟨hIx, bX, offx, hxe, hbX, f1⟩ := HXT.out k (by have := HNL.out; omega)
      subst hae hxe
      have hin := HIN.out _ (getD_mem (show k < A.length by have := HNL.out; omega))
      have hok := HOK.out k (by have := HNL.out; omega)
      obtain ⟨fN, hfN⟩ : ∃ x : Nat, (A.getD k (0, 0, 0)).1 = (x : Int) := ⟨(A.getD k (0, 0, 0)).1.toNat, by omega⟩
      obtain ⟨tN, htN⟩ : ∃ x : Nat, (A.getD k (0, 0, 0)).2.1 = (x : Int) := ⟨(A.getD k (0, 0, 0)).2.1.toNat, by omega⟩
      obtain ⟨cp, hcp⟩ : ∃ x, x = (A.getD k (0, 0, 0)).2.2 := ⟨_, rfl⟩
      obtain ⟨z, hz⟩ : ∃ x, x = X.getD k 0 := ⟨_, rfl⟩
      rw [hfN] at e1 hin
      rw [htN] at e2 hin
      rw [← hcp] at e3 hin hok
      rw [← hz] at f1 hok
      have HFT : Hid (fN < 64 ∧ tN < 64 ∧ fN ≠ tN) := Lib.hid (by omega)
      have HZ : Hid (0 ≤ z ∧ z ≤ 1073741824) := Lib.hid (by omega)
      have HNXT : Hid (((exL A X k).set fN ((exL A X k).getD fN 0 + z)).set tN ((exL A X k).getD tN 0 - z) = exL A X (k + 1)) := Lib.hid (by
        rw [hz]; exact exL_next (by have := HNL.out; omega) (by have := HNL.out; omega) hfN htN HFT.out.1 HFT.out.2.1 HFT.out.2.2)
      have HSM : Hid (∀ v, v < 64 → -549755813888 ≤ (exL A X k).getD v 0 ∧ (exL A X k).getD v 0 ≤ 549755813888) := Lib.hid (fun v hv => by
        have h9 := surp_small (v : Int) 1073741824 (by omega) (A.take k) (X.take k) (fun x hx => by
          obtain ⟨i, hi, rfl⟩ := List.getElem_of_mem hx
          have hi2 : i < k ∧ i < X.length := by rw [List.length_take] at hi; omega
          have h8 := HOK.out i (by have := HNL.out; omega)
          have h7 := (HIN.out _ (getD_mem (show i < A.length by have := HNL.out; omega))).2.2.2
          rw [List.getElem_take]
          have e : X.getD i 0 = X[i] := by simp [hi2.2]
          rw [e] at h8
          omega)
        rw [← exL_get A X k v hv] at h9
        have hkl : ((X.take k).length : Int) ≤ 512 := by rw [List.length_take]; omega
        omega)
      have HLT := Lib.hid hlt
      have c1 := (HR.out.bw.cell (p := ⟨ba, off + k * 3, none⟩) hba).trans e1
      have c2 := (HR.out.bw.cell (p := ⟨ba, off + k * 3 + 1, none⟩) hba).trans e2
      have c3 := (HR.out.bw.cell (p := ⟨ba, off + k * 3 + 2, none⟩) hba).trans e3
      have hb4 : Below wr.heap.size wr (wr.alloc (.cells #[.int .i64 (fN : Int), .int .i64 (tN : Int), .int .i64 cp] 43)) := Joins.below_alloc1 wr _
      have q4 : Row (wr.alloc (.cells #[.int .i64 (fN : Int), .int .i64 (tN : Int), .int .i64 cp] 43)) wr.heap.size 43 [.int .i64 (fN : Int), .int .i64 (tN : Int), .int .i64 cp] := row_new wr 43 _
      obtain ⟨w4, hw4⟩ : ∃ w4, w4 = wr.alloc (.cells #[.int .i64 (fN : Int), .int .i64 (tN : Int), .int .i64 cp] 43) := ⟨_, rfl⟩
      rw [← hw4] at hb4 q4
      have HR4 := Lib.hid (HR.out.keep hb4)
      have HE4 := Lib.hid (HE.out.keep hb4)
      have HQ4 := Lib.hid q4
      have HW4 := Lib.hid hw4
      have HFX : Hid (∀ W, Below w.heap.size w W → W.cell? ⟨bX, offx + k, none⟩ = some (.int .i64 z)) := Lib.hid (fun W hW => (hW.cell (p := ⟨bX, offx + k, none⟩) hbX).trans f1)
      have HLB : Hid (w.heap.size + 1 < wr.heap.size) := Lib.hid HE.out.lt
      obtain ⟨bx, hbx⟩ : ∃ bx, bx = wr.heap.size := ⟨_, rfl⟩
      clear hI hIx hin hok hba hbX f1 e1 e2 e3 hfN htN hcp hz hb4 q4 hw4 HR HE hlt
      go_upto_region 4 with (fail)
      rw [← HW4.out, ← hbx]
      rw [← hbx] at HQ4 HLB
      clear hbx c1 c2 c3
      have c1 := HQ4.out.cell (i := 0) rfl
      have c2 := HFX.out w4 HR4.out.bw
      have c3 := nrow_cell HE4.out (u := fN) (by rw [exL_len]; exact HFT.out.1)
      have c4 := HE4.out.free fN
      have hf64 : (fN : Int) < 64 := by have := HFT.out; omega
      obtain ⟨ef, hef⟩ : ∃ ef, ef = (exL A X k).getD fN 0 := ⟨_, rfl⟩
      rw [← hef] at c3
      have hsum : wrap64 (ef + z) = ef + z := by have := HSM.out fN HFT.out.1; have := HZ.out; unfold wrap64; omega
      have HEF := Lib.hid hef
      clear hef
      go_still_tail 10, (by kernel_rfl)
      go_upto_region 5 with (fail)
      have HR5 : Hid (Bx w (w4.setCell ⟨w.heap.size + 1, fN, none⟩ (.int .i64 (wrap64 (ef + z)))).drew w.heap.size N s t (.slice (some ⟨ba, off, none⟩) n c)) := Lib.hid ⟨(below_setCell HR4.out.bw _ _ _ (by omega)).drew, (HR4.out.row.setFar _ _ (by simp)).keep (Below.refl _ _).drew⟩
      have HE5 : Hid (Row (w4.setCell ⟨w.heap.size + 1, fN, none⟩ (.int .i64 (wrap64 (ef + z)))).drew (w.heap.size + 1) 50 (nums ((exL A X k).set fN (ef + z)))) := Lib.hid (by rw [hsum]; exact (nrow_set HE4.out fN (ef + z)).keep (Below.refl _ _).drew)
      have HQ5 : Hid (Row (w4.setCell ⟨w.heap.size + 1, fN, none⟩ (.int .i64 (wrap64 (ef + z)))).drew bx 43 [.int .i64 (fN : Int), .int .i64 (tN : Int), .int .i64 cp]) := Lib.hid ((HQ4.out.setFar _ _ (by have := HLB.out; omega)).keep (Below.refl _ _).drew)
      clear c1 c2 c3 c4 HE4 HQ4 HW4 HR4 hsum
      generalize (w4.setCell ⟨w.heap.size + 1, fN, none⟩ (.int .i64 (wrap64 (ef + z)))).drew = w5 at *
      have c1 := HQ5.out.cell (i := 1) rfl
      have c2 := HFX.out w5 HR5.out.bw
      have c3 := nrow_cell HE5.out (u := tN) (by rw [List.length_set, exL_len]; exact HFT.out.2.1)
      rw [getD_set_ne _ _ _ _ _ HFT.out.2.2] at c3
      have c4 := HE5.out.free tN
      have ht64 : (tN : Int) < 64 := by have := HFT.out; omega
      obtain ⟨et, het⟩ : ∃ ef, ef = (exL A X k).getD tN 0 := ⟨_, rfl⟩
      rw [← het] at c3
      have hdif : wrap64 (et - z) = et - z := by have := HSM.out tN HFT.out.2.1; have := HZ.out; unfold wrap64; omega
      have HET := Lib.hid het
      clear het
      go_still_tail 10, (by kernel_rfl)
      have HR6 : Hid (Bx w (w5.setCell ⟨w.heap.size + 1, tN, none⟩ (.int .i64 (wrap64 (et - z)))).drew w.heap.size N s t (.slice (some ⟨ba, off, none⟩) n c)) := Lib.hid ⟨(below_setCell HR5.out.bw _ _ _ (by omega)).drew, (HR5.out.row.setFar _ _ (by simp)).keep (Below.refl _ _).drew⟩
      have HE6 : Hid (Row (w5.setCell ⟨w.heap.size + 1, tN, none⟩ (.int .i64 (wrap64 (et - z)))).drew (w.heap.size + 1) 50 (nums (exL A X (k + 1)))) := Lib.hid (by rw [hdif, ← HNXT.out, ← HEF.out, ← HET.out]; exact (nrow_set HE5.out tN (et - z)).keep (Below.refl _ _).drew)
      clear hdif
      go_wp2_with fail
      exact ⟨⟨k + 1, by have := HLT.out; omega, by go_num, HR6.out, HE6.out⟩, by have := HLT.out; simp [intOf]; omega⟩
    · obtain rfl : k = n := by have := HK.out; omega
      have hsz : (Try.prog.info? 50).map (·.size) = some (nums (exL A X k)).toArray.size := by rw [List.size_toArray, nums, List.length_map, exL_len]; kernel_rfl
      have HSZ := Lib.hid hsz
      clear hsz
      go_wp2_with (first | (refine wpList_load_row rfl 50 (.tmp 4) rfl (w.heap.size + 1) rfl 50 (nums (exL A X k)).toArray (0, 0) _ HE.out Try.underlying50 rfl HSZ.out ?_) | (refine wpList_store_row rfl 50 (.tmp 4) (.tmp 36) rfl (w.heap.size + 1) (nums (exL A X k)).toArray rfl rfl 50 _ HE.out HSZ.out rfl (by simp [nums, Value.oneCell']) ?_))
      refine bodyPost_ret (results_cell_row rfl _ _ (w.heap.size + 1) 50 (nums (exL A X k)).toArray (0, 0) _ rfl (HE.out.setRow _) Try.underlying50 rfl HSZ.out) rfl ?_
      exact ⟨rfl, below_setRow HR.out.bw _ _ (by omega)⟩
end Go.Proofs.Ytbmbddapbgnioaa
