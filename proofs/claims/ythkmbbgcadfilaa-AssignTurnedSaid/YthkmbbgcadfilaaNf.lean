/- Proves. -/
import Derived.Test.YthkmbbgcadfilaaNe
import Derived.Test.YthkmbbgcadfilaaLf
namespace Go.Proofs.Ythkmbbgcadfilaa
open Go.RowKit Go.Shelf

def lsum (L : List Int) : Int := sm L.length (fun i => L.getD i 0)
theorem sumW_take {L : List Int} (h : L.length ≤ 1000) (hb : ∀ i, i < L.length → -1099511627776 ≤ L.getD i 0 ∧ L.getD i 0 ≤ 1099511627776) : ∀ k, k ≤ L.length → sumW (L.take k) = sm k (fun i => L.getD i 0)
  | 0, _ => by simp [sumW, sm]
  | k + 1, hk => by
    rw [sumW_step (by omega), sumW_take h hb k (by omega)]
    show _ = sm k (fun i => L.getD i 0) + L.getD k 0
    have h1 := sm_bound (n := k) (f := fun i => L.getD i 0) (b := 1099511627776) (fun i hi => (hb i (by omega)).2)
    have h2 := sm_below (n := k) (f := fun i => L.getD i 0) (b := -1099511627776) (fun i hi => (hb i (by omega)).1)
    have h3 := hb k (by omega)
    have h4 : (k : Int) ≤ 1000 := by omega
    unfold wrap64
    omega
theorem sumW_eq {L : List Int} (h : L.length ≤ 1000) (hb : ∀ i, i < L.length → -1099511627776 ≤ L.getD i 0 ∧ L.getD i 0 ≤ 1099511627776) : sumW L = lsum L := by
  have := sumW_take h hb L.length (Nat.le_refl _)
  rwa [List.take_of_length_le (Nat.le_refl _)] at this
theorem lsum_small {L : List Int} (h : L.length ≤ 1000) (hb : ∀ i, i < L.length → -1099511627776 ≤ L.getD i 0 ∧ L.getD i 0 ≤ 1099511627776) : -1099511627776000 ≤ lsum L ∧ lsum L ≤ 1099511627776000 := by
  have h1 := sm_bound (n := L.length) (f := fun i => L.getD i 0) (b := 1099511627776) (fun i hi => (hb i hi).2)
  have h2 := sm_below (n := L.length) (f := fun i => L.getD i 0) (b := -1099511627776) (fun i hi => (hb i hi).1)
  unfold lsum
  omega
/-- the bound of prices, as it is reckoned -/
theorem bound_eq {U V : List Int} (hu : U.length ≤ 16) (hv : V.length ≤ 16) (hbu : ∀ i, i < U.length → -1099511627776 ≤ U.getD i 0 ∧ U.getD i 0 ≤ 1099511627776) (hbv : ∀ i, i < V.length → -1099511627776 ≤ V.getD i 0 ∧ V.getD i 0 ≤ 1099511627776) :
    IntKind.i64.wrap (sumW U + sumW V) = lsum U + lsum V ∧ wrap64 (sumW U + sumW V) = lsum U + lsum V := by
  rw [sumW_eq (by omega) hbu, sumW_eq (by omega) hbv]
  have h1 := lsum_small (by omega) hbu
  have h2 := lsum_small (by omega) hbv
  refine ⟨by rw [IntKind.wrap_i64]; omega, by unfold wrap64; omega⟩
open Classical in
/-- what Proves answers -/
noncomputable def prvR (C : List (List Int)) (U V : List Int) : Int × Bool × Int :=
  if chkE C = 0 then (if FitL C C.length (colsN C) U V then (lsum U + lsum V, true, 0) else (0, false, 0)) else (0, false, chkE C)
set_option maxRecDepth 100000 in
set_option maxHeartbeats 8000000 in
theorem proves_call (C : List (List Int)) (U V : List Int) (vc vu vv : Value) (w : World) (hC : NRest w.heap.size w C vc) (hU : IRest w.heap.size w U vu) (hV : IRest w.heap.size w V vv) :
    Calls Try.prog 20 #[vc, vu, vv] w fun e w' => e = .returned (.tuple #[.int .i64 (prvR C U V).1, .bool (prvR C U V).2.1, .int .i64 (prvR C U V).2.2]) ∧ Below w.heap.size w w' := by
  have HCH := Lib.hid (check_call C vc w hC)
  have hFT : Mat C C.length (colsN C) → Calls Try.prog 37 #[vc, vu, vv] w fun e w' => e = .returned (.bool (fitB C C.length (colsN C) U V)) ∧ Below w.heap.size w w' := fun h => fit_call C U V vc vu vv w h rfl hC hU hV
  have HSU : Hid (∀ W, Below w.heap.size w W → Calls Try.prog 38 #[vu] W fun e w' => e = .returned (.int .i64 (sumW U)) ∧ w' = W) := Lib.hid (fun W h => sum_call U vu W (hU.stays h))
  have HSV : Hid (∀ W, Below w.heap.size w W → Calls Try.prog 38 #[vv] W fun e w' => e = .returned (.int .i64 (sumW V)) ∧ w' = W) := Lib.hid (fun W h => sum_call V vv W (hV.stays h))
  obtain ⟨a, c, rfl⟩ := nrest_shape hC
  obtain ⟨au, cu, rfl⟩ := irest_shape hU
  obtain ⟨av, cv, rfl⟩ := irest_shape hV
  by_cases h0 : chkE C = 0
  · have hM := chk_ok h0
    have HFT := Lib.hid (hFT hM)
    rw [h0] at HCH
    obtain ⟨m, hm⟩ : ∃ m, m = colsN C := ⟨_, rfl⟩
    obtain ⟨n, hn⟩ : ∃ n, n = C.length := ⟨_, rfl⟩
    have hPR : (FitL C n m U V → prvR C U V = (lsum U + lsum V, true, 0)) ∧ (¬ FitL C n m U V → prvR C U V = (0, false, 0)) := by
      unfold prvR
      rw [if_pos h0, ← hm, ← hn]
      exact ⟨fun h => if_pos h, fun h => if_neg h⟩
    have HPR := Lib.hid hPR
    rw [← hm, ← hn] at hM HFT
    rw [← hn] at HCH ⊢
    have HM := Lib.hid hM
    obtain ⟨nu, hnu⟩ : ∃ x, x = U.length := ⟨_, rfl⟩
    obtain ⟨nv, hnv⟩ : ∃ x, x = V.length := ⟨_, rfl⟩
    rw [← hnu] at HFT HSU ⊢
    rw [← hnv] at HFT HSV ⊢
    have HNU := Lib.hid (And.intro hnu hnv)
    clear hM hC hU hV hm hn hnu hnv hPR hFT h0
    go_enter Try.func20, Try.ntmps20
    by_cases hA : FitL C n m U V
    · have hb1 := fitB_yes hA
      rw [hb1] at HFT
      have HV := Lib.hid (HPR.out.1 hA)
      have HBE : Hid (wrap64 (sumW U + sumW V) = lsum U + lsum V) := Lib.hid (bound_eq (by rw [hA.1]; exact HM.out.n16) (by rw [hA.2.1]; exact HM.out.m16) (fun i hi => bet_at hA.2.2.1 hi) (fun i hi => by have := bet_at hA.2.2.2.1 hi; omega)).2
      clear hb1 hA
      go_upto_region 6 with (first | (go_at_call 37; refine HFT.out.mono ?_; rintro e w6 ⟨rfl, hb6⟩; have HB6 := Lib.hid hb6; clear hb6) | (go_at_call 17; refine HCH.out.mono ?_; rintro e w5 ⟨rfl, rfl⟩))
      have HSU6 := Lib.hid (HSU.out _ HB6.out)
      have HSV6 := Lib.hid (HSV.out _ HB6.out)
      clear HSU HSV HFT HCH
      go_wp2_with (first | (go_at_call 38; have _ := doneA; with_reducible refine HSV6.out.mono ?_; rintro e w8 ⟨rfl, rfl⟩) | (go_at_call 38; with_reducible refine HSU6.out.mono ?_; rintro e w7 ⟨rfl, rfl⟩; have doneA : True := trivial))
      go_ret3
      exact ⟨by rw [HV.out, HBE.out]; rfl, HB6.out⟩
    · have hb1 := fitB_no hA
      rw [hb1] at HFT
      have HV := Lib.hid (HPR.out.2 hA)
      clear hb1 hA
      go_wp2_with (first | (go_at_call 37; refine HFT.out.mono ?_; rintro e w6 ⟨rfl, hb6⟩; have HB6 := Lib.hid hb6; clear hb6) | (go_at_call 17; refine HCH.out.mono ?_; rintro e w5 ⟨rfl, rfl⟩))
      go_ret3
      exact ⟨by rw [HV.out]; rfl, HB6.out⟩
  · have HV : Hid (prvR C U V = (0, false, chkE C)) := Lib.hid (by unfold prvR; rw [if_neg h0])
    obtain ⟨n, hn⟩ : ∃ n, n = C.length := ⟨_, rfl⟩
    obtain ⟨nu, hnu⟩ : ∃ n, n = U.length := ⟨_, rfl⟩
    obtain ⟨nv, hnv⟩ : ∃ n, n = V.length := ⟨_, rfl⟩
    obtain ⟨ce, hce⟩ : ∃ x, x = chkE C := ⟨_, rfl⟩
    rw [← hce] at HCH h0 HV
    rw [← hn] at HCH ⊢
    rw [← hnu, ← hnv]
    have h1 : (ce != 0) = true := by simp [h0]
    clear hn hnu hnv hce h0 hC hU hV hFT
    go_enter Try.func20, Try.ntmps20
    go_wp2_with (go_at_call 17; refine HCH.out.mono ?_; rintro e w5 ⟨rfl, rfl⟩)
    go_ret3
    exact ⟨by rw [HV.out]; rfl, Below.refl _ _⟩
end Go.Proofs.Ythkmbbgcadfilaa
