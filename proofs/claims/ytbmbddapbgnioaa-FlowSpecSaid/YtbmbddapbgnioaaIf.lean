/- If -/
import Derived.Test.YtbmbddapbgnioaaKc
namespace Go.Proofs.Ytbmbddapbgnioaa
open Go.RowKit Go.Shelf

set_option maxRecDepth 100000 in
set_option maxHeartbeats 8000000 in
theorem spec_walk (N s t : Int) (A : List Ar) (X : List Int) (l : List Bool) (va vx vl : Value) (w : World) (hA : ARest w.heap.size w A va) (hX : IRest w.heap.size w X vx) (hL : BRest w.heap.size w l vl) :
    Calls Try.prog 3 #[netV N s t va, vx, vl] w fun e w' => e = .returned (.bool true) ∧ Kd w w' := by
  obtain ⟨er, her⟩ : ∃ x, x = netE N s t A := ⟨_, rfl⟩
  obtain ⟨ve, hve⟩ : ∃ x, x = valE N s t A X := ⟨_, rfl⟩
  obtain ⟨vv, hvv⟩ : ∃ x, x = valV N s t A X := ⟨_, rfl⟩
  obtain ⟨ce, hce⟩ : ∃ x, x = cutE N s t A l := ⟨_, rfl⟩
  obtain ⟨cv, hcv⟩ : ∃ x, x = cutV N s t A l := ⟨_, rfl⟩
  have HVA : Hid (∀ W, Kd w W → Calls Try.prog 11 #[netV N s t va, vx] W fun e w' => e = .returned (.tuple #[.int .i64 vv, .int .i64 ve]) ∧ Below W.heap.size W w') := Lib.hid (fun W hW => by rw [hvv, hve]; exact value_call N s t A X va vx W (hW.arest hA) (hW.irest hX))
  have HVB : Hid (∀ W, Kd w W → Calls Try.prog 12 #[netV N s t va, vx] W fun e w' => e = .returned (.tuple #[.int .i64 vv, .int .i64 ve]) ∧ Below W.heap.size W w') := Lib.hid (fun W hW => by rw [hvv, hve]; exact rvalue_call N s t A X va vx W (hW.arest hA) (hW.irest hX))
  have HCA : Hid (∀ W, Kd w W → Calls Try.prog 13 #[netV N s t va, vl] W fun e w' => e = .returned (.tuple #[.int .i64 cv, .int .i64 ce]) ∧ Below W.heap.size W w') := Lib.hid (fun W hW => by rw [hcv, hce]; exact cut_call N s t A l va vl W (hW.arest hA) (hW.brest hL))
  have HCB : Hid (∀ W, Kd w W → Calls Try.prog 14 #[netV N s t va, vl] W fun e w' => e = .returned (.tuple #[.int .i64 cv, .int .i64 ce]) ∧ Below W.heap.size W w') := Lib.hid (fun W hW => by rw [hcv, hce]; exact rcut_call N s t A l va vl W (hW.arest hA) (hW.brest hL))
  have HKA : Hid (∀ W, Kd w W → Calls Try.prog 15 #[netV N s t va] W fun e w' => e = .returned (.int .i64 er) ∧ Below W.heap.size W w') := Lib.hid (fun W hW => by rw [her]; exact check_call N s t A va W (hW.arest hA))
  have HKB : Hid (∀ W, Kd w W → Calls Try.prog 16 #[netV N s t va] W fun e w' => e = .returned (.int .i64 er) ∧ Below W.heap.size W w') := Lib.hid (fun W hW => by rw [her]; exact rcheck_call N s t A va W (hW.arest hA))
  obtain ⟨a, c, rfl, -⟩ := id hA
  obtain ⟨ax, cx, rfl, -⟩ := id hX
  obtain ⟨al, cl, rfl, -⟩ := id hL
  obtain ⟨n, hn⟩ : ∃ n, n = A.length := ⟨_, rfl⟩
  obtain ⟨nx, hnx⟩ : ∃ n, n = X.length := ⟨_, rfl⟩
  obtain ⟨nl, hnl⟩ : ∃ n, n = l.length := ⟨_, rfl⟩
  rw [← hn] at HVA HVB HCA HCB HKA HKB ⊢
  rw [← hnx] at HVA HVB ⊢
  rw [← hnl] at HCA HCB ⊢
  clear hA hX hL her hve hvv hce hcv hn hnx hnl
  unfold netV at HVA HVB HCA HCB HKA HKB ⊢
  have HSN : Hid (∀ W, Calls Try.prog 10 #[] W fun e w' => e = .returned (.bool true) ∧ Kd W w') := Lib.hid sane_call
  have HX := Lib.hid (bx_new w N s t (.slice a n c))
  obtain ⟨W1, hW1⟩ : ∃ W1, W1 = w.alloc (.cells #[.int .i64 N, .int .i64 s, .int .i64 t, .slice a n c] 24) := ⟨_, rfl⟩
  have HW1 := Lib.hid hW1
  rw [← hW1] at HX
  clear hW1
  have HB : Hid (Kd w W1 ∧ Row W1 w.heap.size 24 [.int .i64 N, .int .i64 s, .int .i64 t, .slice a n c]) := Lib.hid ⟨Kd.of HX.out.bw, HX.out.row⟩
  clear HX
  have HS1 := Lib.hid (HSN.out W1)
  go_enter Try.func3, Try.ntmps3
  go_upto_region 1 with (fail)
  rw [← HW1.out]
  go_upto_region 3 with (go_at_call 10; refine HS1.out.mono ?_; rintro e W2 ⟨rfl, hk⟩; have HB2 : Hid (Kd w W2 ∧ Row W2 w.heap.size 24 [.int .i64 N, .int .i64 s, .int .i64 t, .slice a n c]) := Lib.hid ⟨HB.out.1.trans hk, hk.row HB.out.2⟩; clear hk)
  clear HB HS1 HW1 HSN
  have c0 := HB2.out.2.cell (i := 0) rfl
  have c1 := HB2.out.2.cell (i := 1) rfl
  have c2 := HB2.out.2.cell (i := 2) rfl
  have c3 := HB2.out.2.cell (i := 3) rfl
  by_cases h0 : 600 < (n : Int)
  · have g0 : decide (600 < (n : Int)) = true := decide_eq_true h0
    clear h0
    go_wp2_with fail
    refine bodyPost_ret (results_tmp rfl _ _ _) rfl ?_
    exact ⟨rfl, HB2.out.1⟩
  have g0 : decide (600 < (n : Int)) = false := decide_eq_false h0
  clear h0
  by_cases h1 : 600 < (nx : Int)
  · have g1 : decide (600 < (nx : Int)) = true := decide_eq_true h1
    clear h1
    go_wp2_with fail
    refine bodyPost_ret (results_tmp rfl _ _ _) rfl ?_
    exact ⟨rfl, HB2.out.1⟩
  have g1 : decide (600 < (nx : Int)) = false := decide_eq_false h1
  clear h1
  by_cases h2 : 600 < (nl : Int)
  · have g2 : decide (600 < (nl : Int)) = true := decide_eq_true h2
    clear h2
    go_wp2_with fail
    refine bodyPost_ret (results_tmp rfl _ _ _) rfl ?_
    exact ⟨rfl, HB2.out.1⟩
  have g2 : decide (600 < (nl : Int)) = false := decide_eq_false h2
  clear h2
  have HQ0 := Lib.hid (HVA.out W2 HB2.out.1)
  go_upto_region 6 with (go_at_call 11; refine HQ0.out.mono ?_; rintro e W3 ⟨rfl, hk⟩; have HB3 : Hid (Kd w W3 ∧ Row W3 w.heap.size 24 [.int .i64 N, .int .i64 s, .int .i64 t, .slice a n c]) := Lib.hid ⟨HB2.out.1.trans (Kd.of hk), (Kd.of hk).row HB2.out.2⟩; clear hk)
  clear c0 c1 c2 c3 g0 g1 g2 HQ0 HVA HB2
  have c0 := HB3.out.2.cell (i := 0) rfl
  have c1 := HB3.out.2.cell (i := 1) rfl
  have c2 := HB3.out.2.cell (i := 2) rfl
  have c3 := HB3.out.2.cell (i := 3) rfl
  have HQ1 := Lib.hid (HVB.out W3 HB3.out.1)
  go_upto_region 7 with (go_at_call 12; refine HQ1.out.mono ?_; rintro e W4 ⟨rfl, hk⟩; have HB4 : Hid (Kd w W4 ∧ Row W4 w.heap.size 24 [.int .i64 N, .int .i64 s, .int .i64 t, .slice a n c]) := Lib.hid ⟨HB3.out.1.trans (Kd.of hk), (Kd.of hk).row HB3.out.2⟩; clear hk)
  clear c0 c1 c2 c3 HQ1 HVB HB3
  have c0 := HB4.out.2.cell (i := 0) rfl
  have c1 := HB4.out.2.cell (i := 1) rfl
  have c2 := HB4.out.2.cell (i := 2) rfl
  have c3 := HB4.out.2.cell (i := 3) rfl
  have HQ2 := Lib.hid (HCA.out W4 HB4.out.1)
  go_upto_region 8 with (go_at_call 13; refine HQ2.out.mono ?_; rintro e W5 ⟨rfl, hk⟩; have HB5 : Hid (Kd w W5 ∧ Row W5 w.heap.size 24 [.int .i64 N, .int .i64 s, .int .i64 t, .slice a n c]) := Lib.hid ⟨HB4.out.1.trans (Kd.of hk), (Kd.of hk).row HB4.out.2⟩; clear hk)
  clear c0 c1 c2 c3 HQ2 HCA HB4
  have c0 := HB5.out.2.cell (i := 0) rfl
  have c1 := HB5.out.2.cell (i := 1) rfl
  have c2 := HB5.out.2.cell (i := 2) rfl
  have c3 := HB5.out.2.cell (i := 3) rfl
  have HQ3 := Lib.hid (HCB.out W5 HB5.out.1)
  go_upto_region 9 with (go_at_call 14; refine HQ3.out.mono ?_; rintro e W6 ⟨rfl, hk⟩; have HB6 : Hid (Kd w W6 ∧ Row W6 w.heap.size 24 [.int .i64 N, .int .i64 s, .int .i64 t, .slice a n c]) := Lib.hid ⟨HB5.out.1.trans (Kd.of hk), (Kd.of hk).row HB5.out.2⟩; clear hk)
  clear c0 c1 c2 c3 HQ3 HCB HB5
  have c0 : ∀ W, Below W6.heap.size W6 W → W.cell? ⟨w.heap.size, 0, none⟩ = some (.int .i64 N) := fun W hW => ((Kd.of hW).row HB6.out.2).cell (i := 0) rfl
  have c1 : ∀ W, Below W6.heap.size W6 W → W.cell? ⟨w.heap.size, 1, none⟩ = some (.int .i64 s) := fun W hW => ((Kd.of hW).row HB6.out.2).cell (i := 1) rfl
  have c2 : ∀ W, Below W6.heap.size W6 W → W.cell? ⟨w.heap.size, 2, none⟩ = some (.int .i64 t) := fun W hW => ((Kd.of hW).row HB6.out.2).cell (i := 2) rfl
  have c3 : ∀ W, Below W6.heap.size W6 W → W.cell? ⟨w.heap.size, 3, none⟩ = some (.slice a n c) := fun W hW => ((Kd.of hW).row HB6.out.2).cell (i := 3) rfl
  have HT := Lib.hid HB6.out.1
  clear HB6
  go_region_held3 (fun W => Below W6.heap.size W6 W) (first | assumption | exact (Below.refl _ _).drew) (first
    | (go_at_call 15; refine (HKA.out _ (HT.out.trans (Kd.of (by assumption)))).mono ?_; rintro e w4 ⟨rfl, hb4⟩; have hB4 : Below W6.heap.size W6 w4 := below_next (by assumption) hb4)
    | (go_at_call 16; refine (HKB.out _ (HT.out.trans (Kd.of (by assumption)))).mono ?_; rintro e w5 ⟨rfl, hb5⟩; have hB5 : Below W6.heap.size W6 w5 := below_next (by assumption) hb5))
  all_goals
    go_wp2_with fail
    refine bodyPost_ret (results_tmp rfl _ _ _) rfl ?_
    exact ⟨ret_bool (by simp), HT.out.trans (Kd.of (by assumption))⟩
end Go.Proofs.Ytbmbddapbgnioaa
