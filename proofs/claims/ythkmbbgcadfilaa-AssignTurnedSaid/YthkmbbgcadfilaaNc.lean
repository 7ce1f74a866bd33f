/- assigns: is a list an assignment? -/
import Derived.Test.YthkmbbgcadfilaaNb
namespace Go.Proofs.Ythkmbbgcadfilaa
open Go.RowKit Go.Shelf

/-- what assigns asks -/
def AsgL (C : List (List Int)) (n m : Nat) (T : List Int) : Prop :=
  T.length = n ∧ (∀ i, i < n → (0 ≤ T.getD i 0 ∧ T.getD i 0 < m) ∧ cst C i (T.getD i 0).toNat ≠ -1) ∧ ∀ i k, i < n → k < n → T.getD i 0 = T.getD k 0 → i = k
open Classical in
noncomputable def asgB (C : List (List Int)) (n m : Nat) (T : List Int) : Bool := if AsgL C n m T then true else false
theorem asgB_yes {C : List (List Int)} {n m : Nat} {T : List Int} (h : AsgL C n m T) : asgB C n m T = true := if_pos h
theorem asgB_no {C : List (List Int)} {n m : Nat} {T : List Int} (h : ¬ AsgL C n m T) : asgB C n m T = false := if_neg h
def toF (T : List Int) (i : Nat) : Nat := (T.getD i 0).toNat
theorem AsgL.asg {C : List (List Int)} {n m : Nat} {T : List Int} (h : AsgL C n m T) : Asg n m (cst C) (toF T) := by
  obtain ⟨h1, h2, h3⟩ := h
  refine ⟨⟨fun i hi => ?_, fun i k hi hk he => ?_⟩, fun i hi => (h2 i hi).2⟩
  · have := (h2 i hi).1
    unfold toF; omega
  · have h4 := (h2 i hi).1
    have h5 := (h2 k hk).1
    unfold toF at he
    exact h3 i k hi hk (by omega)
/-- which columns are taken by the first k rows -/
def Takn (T : List Int) (k : Nat) (TK : List Bool) : Prop := TK.length = 16 ∧ ∀ j, j < 16 → (gB TK j = true ↔ ∃ i, i < k ∧ T.getD i 0 = (j : Int))
theorem gB_put {L : List Bool} {i : Nat} {x : Bool} (h : i < L.length) (j : Nat) : gB (L.set i x) j = if j = i then x else gB L j := by
  unfold gB
  by_cases e : j = i
  · subst e; simp [h]
  · rw [if_neg e]
    simp [List.getD_eq_getElem?_getD, List.getElem?_set_ne (Ne.symm e)]
theorem Takn.next {T : List Int} {k : Nat} {TK : List Bool} (h : Takn T k TK) {z : Nat} (hz : z < 16) (he : T.getD k 0 = (z : Int)) : Takn T (k + 1) (TK.set z true) := by
  refine ⟨by rw [List.length_set]; exact h.1, fun j hj => ?_⟩
  rw [gB_put (by rw [h.1]; exact hz)]
  by_cases e : j = z
  · subst e
    rw [if_pos rfl]
    exact ⟨fun _ => ⟨k, by omega, he⟩, fun _ => rfl⟩
  · rw [if_neg e, h.2 j hj]
    constructor
    · rintro ⟨i, h1, h2⟩; exact ⟨i, by omega, h2⟩
    · rintro ⟨i, h1, h2⟩
      rcases Nat.lt_or_ge i k with h9 | h9
      · exact ⟨i, h9, h2⟩
      · obtain rfl : i = k := by omega
        omega
theorem bls_cell {w : World} {b T : Nat} {L : List Bool} (h : Row w b T (bls L)) {u : Nat} (hu : u < L.length) : w.cell? ⟨b, u, none⟩ = some (.bool (gB L u)) :=
  h.cell (i := u) (by unfold gB bls; simp [hu])
theorem bls_set {w : World} {b T : Nat} {L : List Bool} (h : Row w b T (bls L)) (u : Nat) (x : Bool) : Row (w.setCell ⟨b, u, none⟩ (.bool x)) b T (bls (L.set u x)) := h.set u _ (by simp [bls, List.map_set])
theorem takn_zero (T : List Int) : Takn T 0 (List.replicate 16 false) :=
  ⟨by rw [List.length_replicate], fun j hj => ⟨fun h => (by
    unfold gB at h
    rw [List.getD_eq_getElem?_getD, List.getElem?_replicate, if_pos hj] at h
    cases h), fun ⟨i, hi, _⟩ => by omega⟩⟩
set_option maxRecDepth 100000 in
set_option maxHeartbeats 8000000 in
theorem assigns_call {n m : Nat} (C : List (List Int)) (T : List Int) (vc vt : Value) (w : World) (hM : Mat C n m) (hm : colsN C = m) (hC : NRest w.heap.size w C vc) (hT : IRest w.heap.size w T vt) :
    Calls Try.prog 29 #[vc, vt] w fun e w' => e = .returned (.bool (asgB C n m T)) ∧ Below w.heap.size w w' := by
  obtain ⟨a, c, rfl⟩ := nrest_shape hC
  obtain ⟨au, cu, rfl⟩ := irest_shape hT
  have HCC : Hid (∀ W, Below w.heap.size w W → Calls Try.prog 46 #[.slice a C.length c] W fun e w' => e = .returned (.int .i64 (colsN C : Int)) ∧ w' = W) := Lib.hid (fun W h => columns_call C (.slice a C.length c) W ((hC.stays h).mono h.size))
  have HM := Lib.hid hM
  have hn := hM.len
  have hn16 := hM.n16
  have hm16 := hM.m16
  obtain ⟨-, hac, ham, hat⟩ := rows_at hC
  obtain ⟨-, huc, hum, hut⟩ := ints_at hT
  have HAT := Lib.hid hat
  have HUT := Lib.hid hut
  have HN := Lib.hid hn
  rw [hn] at HCC hac ⊢
  rw [hm] at HCC
  obtain ⟨nu, hnu⟩ : ∃ x, x = T.length := ⟨_, rfl⟩
  rw [← hnu] at huc ⊢
  have HNU := Lib.hid hnu
  clear hat hut hM hC hT hm hn hnu
  go_enter Try.func29, Try.ntmps29
  by_cases h1 : nu = n
  · subst h1
    have g1 : ((nu : Int) != (nu : Int)) = false := by simp
    go_upto_region 4 with (fail)
    have q0 : Row (w.alloc (.cells (bls (List.replicate 16 false)).toArray 68)) w.heap.size 68 (bls (List.replicate 16 false)) := row_new w 68 _
    change Code.wp _ _ _ _ (World.alloc _ (Obj.cells (bls (List.replicate 16 false)).toArray 68))
    have hb0 := Joins.below_alloc1 w (Obj.cells (bls (List.replicate 16 false)).toArray 68)
    obtain ⟨g, hg⟩ : ∃ g, g = w.heap.size := ⟨_, rfl⟩
    have HG := Lib.hid hg
    rw [← hg] at q0
    generalize w.alloc (Obj.cells (bls (List.replicate 16 false)).toArray 68) = w1 at *
    rw [← hg]
    have HQ0 := Lib.hid q0
    have HB0 := Lib.hid hb0
    clear q0 hb0 hg
    go_upto_region 5 with (fail)
    go_loopw [15] (fun s15 wr => ∃ (k : Nat) (TK : List Bool), k ≤ nu ∧ s15 = .int .i64 (k : Int) ∧ Row wr g 68 (bls TK) ∧ Takn T k TK ∧ Below w.heap.size w wr ∧ (∀ i, i < k → (0 ≤ T.getD i 0 ∧ T.getD i 0 < m) ∧ cst C i (T.getD i 0).toNat ≠ -1) ∧ (∀ i j, i < k → j < k → T.getD i 0 = T.getD j 0 → i = j)) (fun s15 _ => nu - (intOf s15).toNat)
    case atStart => exact ⟨0, List.replicate 16 false, by omega, rfl, HQ0.out, takn_zero T, HB0.out, fun i hi => by omega, fun i j hi => by omega⟩
    case round =>
      obtain ⟨k, TK, hk, rfl, hr, htk, hb, hall, hinj⟩ := hrel
      have HR := Lib.hid hr
      have HTK := Lib.hid htk
      have HALL := Lib.hid hall
      have HINJ := Lib.hid hinj
      have HK := Lib.hid hk
      have HB := Lib.hid hb
      clear hall hk hb hr htk hinj HB0 HQ0
      by_cases hlt : k < nu
      · have hki : (k : Int) < (nu : Int) := by omega
        have HLT := Lib.hid hlt
        have HWK := Lib.hid (wrap_succ hlt (show nu ≤ maxLen by unfold maxLen; omega))
        obtain ⟨b, off, ra, rc, q1, hbl, f1, hrow⟩ := HAT.out k (by have := HN.out; omega)
        obtain ⟨-, bu, offu, q2, hbu, f2⟩ := HUT.out k (by have := HNU.out; omega)
        subst q1 q2
        have hrl := HM.out.row k hlt
        obtain ⟨-, hrc, hrm, hrt⟩ := ints_at hrow
        rw [hrl] at f1 hrc hrt
        obtain ⟨z, hz⟩ : ∃ u, u = T.getD k 0 := ⟨_, rfl⟩
        rw [← hz] at f2
        have HZ := Lib.hid hz
        have HRT := Lib.hid hrt
        have d1 := (HB.out.cell (p := ⟨b, off + k, none⟩) hbl).trans f1
        have d2 := (HB.out.cell (p := ⟨bu, offu + k, none⟩) hbu).trans f2
        clear hz hrow hrt hlt hbl f1 hbu f2 hrl
        by_cases z1 : z < 0
        · have g2 : decide (z < 0) = true := decide_eq_true z1
          have HV : Hid (asgB C nu m T = false) := Lib.hid (asgB_no (fun h => by have := (h.2.1 k HLT.out).1; have := HZ.out; omega))
          clear z1
          go_wp2_with fail
          go_ret
          exact ⟨by rw [HV.out]; rfl, HB.out⟩
        · obtain ⟨zN, rfl⟩ : ∃ zN : Nat, z = (zN : Int) := ⟨z.toNat, by omega⟩
          have g2 : decide ((zN : Int) < 0) = false := decide_eq_false z1
          have HCW := Lib.hid (HCC.out _ HB.out)
          clear z1
          by_cases z2 : m ≤ zN
          · have g3 : decide ((m : Int) ≤ (zN : Int)) = true := decide_eq_true (by omega)
            have HV : Hid (asgB C nu m T = false) := Lib.hid (asgB_no (fun h => by have := (h.2.1 k HLT.out).1; have := HZ.out; omega))
            go_wp2_with (go_at_call 46; refine HCW.out.mono ?_; rintro e w5 ⟨rfl, rfl⟩)
            go_ret
            exact ⟨by rw [HV.out]; rfl, HB.out⟩
          · have z2' : zN < m := by omega
            have g3 : decide ((m : Int) ≤ (zN : Int)) = false := decide_eq_false (by omega)
            have hz16 : (zN : Int) < 16 := by omega
            have hzm : (zN : Int) < (m : Int) := by omega
            have HZM := Lib.hid z2'
            obtain ⟨tb, htb⟩ : ∃ tb, tb = gB TK zN := ⟨_, rfl⟩
            have d3 := bls_cell HR.out (u := zN) (by rw [HTK.out.1]; omega)
            rw [← htb] at d3
            have HTB := Lib.hid htb
            obtain ⟨-, b2, off2, q3, hb2l, f3⟩ := HRT.out zN (by have := HM.out.row k HLT.out; omega)
            subst q3
            obtain ⟨x, hx⟩ : ∃ x, x = (C.getD k []).getD zN 0 := ⟨_, rfl⟩
            rw [← hx] at f3
            have HX : Hid (x = cst C k zN) := Lib.hid (by rw [hx]; exact getDD HM.out HLT.out z2')
            have d4 := (HB.out.cell (p := ⟨b2, off2 + zN, none⟩) hb2l).trans f3
            clear hx htb z2 z2' hb2l f3
            cases tb with
            | true =>
              have HV : Hid (asgB C nu m T = false) := Lib.hid (asgB_no (fun h => by
                obtain ⟨i, hi, he⟩ := (HTK.out.2 zN (by omega)).1 HTB.out.symm
                have h9 := h.2.2 i k (by have := HLT.out; omega) HLT.out (by have := HZ.out; omega)
                omega))
              go_wp2_with (go_at_call 46; refine HCW.out.mono ?_; rintro e w5 ⟨rfl, rfl⟩)
              go_ret
              exact ⟨by rw [HV.out]; rfl, HB.out⟩
            | false =>
              by_cases x1 : x = -1
              · have g4 : (x == -1) = true := by simp [x1]
                have HV : Hid (asgB C nu m T = false) := Lib.hid (asgB_no (fun h => by
                  have h9 := (h.2.1 k HLT.out).2
                  rw [← HZ.out, Int.toNat_natCast, ← HX.out] at h9
                  exact h9 x1))
                have HX1 := Lib.hid x1
                clear x1
                go_wp2_with (go_at_call 46; refine HCW.out.mono ?_; rintro e w5 ⟨rfl, rfl⟩)
                go_ret
                exact ⟨by rw [HV.out]; rfl, HB.out⟩
              · have g4 : (x == -1) = false := by simp [x1]
                have HX1 := Lib.hid x1
                have hfr := HR.out.free zN
                clear x1
                go_wp2_with (go_at_call 46; refine HCW.out.mono ?_; rintro e w5 ⟨rfl, rfl⟩)
                refine ⟨⟨k + 1, TK.set zN true, by have := HLT.out; omega, by first | rw [HWK.out, Int.natCast_succ] | go_num, bls_set HR.out zN true, HTK.out.next (by omega) HZ.out.symm, below_setCell HB.out _ _ _ (by rw [HG.out]; exact Nat.le_refl _), fun i hi => ?_, fun i j hi hj he => ?_⟩, by have := HLT.out; first | exact back_less this HWK.out | (simp [intOf]; omega)⟩
                · rcases Nat.lt_or_ge i k with h9 | h9
                  · exact HALL.out i h9
                  · obtain rfl : i = k := by omega
                    rw [← HZ.out, Int.toNat_natCast, ← HX.out]
                    exact ⟨by omega, HX1.out⟩
                · have hno : ∀ i, i < k → T.getD i 0 ≠ (zN : Int) := fun i hi he => by
                    have := (HTK.out.2 zN (by omega)).2 ⟨i, hi, he⟩
                    rw [← HTB.out] at this
                    cases this
                  rcases Nat.lt_or_ge i k with h8 | h8
                  · rcases Nat.lt_or_ge j k with h9 | h9
                    · exact HINJ.out i j h8 h9 he
                    · obtain rfl : j = k := by omega
                      exact absurd (he.trans HZ.out.symm) (hno i h8)
                  · obtain rfl : i = k := by omega
                    rcases Nat.lt_or_ge j i with h9 | h9
                    · exact absurd (he.symm.trans HZ.out.symm) (hno j h9)
                    · omega
      · obtain rfl : k = nu := by have := HK.out; omega
        have HV : Hid (asgB C k m T = true) := Lib.hid (asgB_yes ⟨HNU.out.symm, HALL.out, HINJ.out⟩)
        go_wp2_with fail
        go_ret
        exact ⟨by rw [HV.out]; rfl, HB.out⟩
  · have g1 : ((nu : Int) != (n : Int)) = true := by simp; omega
    have HV : Hid (asgB C n m T = false) := Lib.hid (asgB_no (fun h => h1 (by rw [HNU.out]; exact h.1)))
    clear h1
    go_wp2_with fail
    go_ret
    exact ⟨by rw [HV.out]; rfl, Below.refl _ _⟩
end Go.Proofs.Ythkmbbgcadfilaa
