/- greatest: what the laws of consequences ask of Max. -/
import Derived.Test.YtbmbddapbgnioaaHa
namespace Go.Proofs.Ytbmbddapbgnioaa
open Go.RowKit Go.Shelf

/-- what greatest answers -/
structure GrP (N s t : Nat) (A : List Ar) (w : World) (e : Ending) (w' : World) (X : List Int) (l : List Bool) (vs : Value) : Prop where
  e : e = .returned (.tuple #[.int .i64 (surp A X s), vs, .bool true])
  kd : Kd w w'
  sd : BRest w'.heap.size w' l vs
  len : l.length = N
  max : IsMax N s t A X (ofL l)
set_option maxRecDepth 100000 in
set_option maxHeartbeats 8000000 in
theorem greatest_call (N s t : Nat) (A : List Ar) (va : Value) (w : World) (hA : ARest w.heap.size w A va) (hE : netE N s t A = 0) :
    Calls Try.prog 22 #[netV N s t va] w fun e w' => ∃ X l vs, GrP N s t A w e w' X l vs := by
  have hok := net_ok hE
  have hnw : Netw N s t A := hok.net
  have HOKN := Lib.hid hok
  have HE := Lib.hid hE
  have HMX : Hid (∀ W, Kd w W → Calls Try.prog 18 #[netV N s t va] W fun e w' => ∃ X l vf vs, MaxP N s t A W e w' X l vf vs) := Lib.hid (fun W hW => max_law N s t A va W (hW.arest hA) hE)
  have HVA : Hid (∀ W X vf, Kd w W → IRest W.heap.size W X vf → Calls Try.prog 11 #[netV N s t va, vf] W fun e w' => e = .returned (.tuple #[.int .i64 (valV N s t A X), .int .i64 (valE N s t A X)]) ∧ Below W.heap.size W w') := Lib.hid (fun W X vf hW hX => value_call N s t A X va vf W (hW.arest hA) hX)
  have HCU : Hid (∀ W l vs, Kd w W → BRest W.heap.size W l vs → Calls Try.prog 13 #[netV N s t va, vs] W fun e w' => e = .returned (.tuple #[.int .i64 (cutV N s t A l), .int .i64 (cutE N s t A l)]) ∧ Below W.heap.size W w') := Lib.hid (fun W l vs hW hl => cut_call N s t A l va vs W (hW.arest hA) hl)
  have HANS : Hid (∀ X l, l.length = N → IsMax N s t A X (ofL l) → (valE N s t A X = 0 ∧ valV N s t A X = surp A X s) ∧ (cutE N s t A l = 0 ∧ cutV N s t A l = surp A X s)) := Lib.hid (fun X l hl hm => by
    have h1 := val_of (X := X) hE (by simpa using hm.flo)
    have h2 := cutE_yes (l := l) hE (by
      have h3 := hm.sid.src
      have h4 := hm.sid.snk
      unfold ofL at h3 h4
      unfold sidB
      rw [h3, h4, decide_eq_true (by omega)]; rfl)
    exact ⟨h1, h2.1, h2.2.trans (hm.val hnw).symm⟩)
  clear hok hE hA hnw
  unfold netV at HMX HVA HCU ⊢
  have HX := Lib.hid (bx_new w (N : Int) s t va)
  obtain ⟨W1, hW1⟩ : ∃ W1, W1 = w.alloc (.cells #[.int .i64 (N : Int), .int .i64 (s : Int), .int .i64 (t : Int), va] 24) := ⟨_, rfl⟩
  have HW1 := Lib.hid hW1
  rw [← hW1] at HX
  clear hW1
  have HK1 : Hid (Kd w W1) := Lib.hid (Kd.of HX.out.bw)
  have HQ1 := Lib.hid HX.out.row
  have HMX1 := Lib.hid (HMX.out W1 HK1.out)
  clear HMX HX
  have d0 := HQ1.out.cell (i := 0) rfl
  have d1 := HQ1.out.cell (i := 1) rfl
  have d2 := HQ1.out.cell (i := 2) rfl
  have d3 := HQ1.out.cell (i := 3) rfl
  go_enter Try.func22, Try.ntmps22
  go_upto_region 1 with (fail)
  rw [← HW1.out]
  go_upto_region 2 with (go_at_call 18; refine HMX1.out.mono ?_; rintro e w5 ⟨X, l, vf, vs, hm⟩; have HM := Lib.hid hm; obtain rfl := hm.e; clear hm)
  have HK5 : Hid (Kd w w5) := Lib.hid (HK1.out.trans HM.out.kd)
  have HQ5 := Lib.hid (HM.out.kd.row HQ1.out)
  have hans := HANS.out X l HM.out.len HM.out.max
  obtain ⟨v, hv⟩ : ∃ v, v = surp A X s := ⟨_, rfl⟩
  have HVA5 : Hid (Calls Try.prog 11 #[.agg #[.int .i64 (N : Int), .int .i64 (s : Int), .int .i64 (t : Int), va], vf] w5 fun e w' => e = .returned (.tuple #[.int .i64 v, .int .i64 0]) ∧ Below w5.heap.size w5 w') := Lib.hid (by
    have h9 := HVA.out w5 X vf HK5.out HM.out.fl
    rw [hans.1.1, hans.1.2, ← hv] at h9; exact h9)
  have HCU5 : Hid (∀ W, Below w5.heap.size w5 W → Calls Try.prog 13 #[.agg #[.int .i64 (N : Int), .int .i64 (s : Int), .int .i64 (t : Int), va], vs] W fun e w' => e = .returned (.tuple #[.int .i64 v, .int .i64 0]) ∧ Below W.heap.size W w') := Lib.hid (fun W hW => by
    have h9 := HCU.out W l vs (HK5.out.trans (Kd.of hW)) ((Kd.of hW).brest HM.out.sd)
    rw [hans.2.1, hans.2.2, ← hv] at h9; exact h9)
  have HV := Lib.hid hv
  obtain ⟨sa, sc, hvs⟩ : ∃ sa sc, vs = .slice sa N sc := by
    obtain ⟨sa, sc, h1, -⟩ := HM.out.sd
    exact ⟨sa, sc, by rw [h1, HM.out.len]⟩
  subst hvs
  clear hans hv HVA HCU HMX1 d0 d1 d2 d3 HK1 HQ1 HW1 HANS
  have d0 := HQ5.out.cell (i := 0) rfl
  have d1 := HQ5.out.cell (i := 1) rfl
  have d2 := HQ5.out.cell (i := 2) rfl
  have d3 := HQ5.out.cell (i := 3) rfl
  go_upto_region 3 with (go_at_call 11; refine HVA5.out.mono ?_; rintro e w6 ⟨rfl, hb6⟩; have HB6 := Lib.hid hb6; clear hb6)
  have HCU6 := Lib.hid (HCU5.out w6 HB6.out)
  have HQ6 := Lib.hid (HQ5.out.keep HB6.out)
  clear d0 d1 d2 d3 HQ5 HVA5 HCU5
  have d0 := HQ6.out.cell (i := 0) rfl
  have d1 := HQ6.out.cell (i := 1) rfl
  have d2 := HQ6.out.cell (i := 2) rfl
  have d3 := HQ6.out.cell (i := 3) rfl
  go_upto_region 4 with (go_at_call 13; refine HCU6.out.mono ?_; rintro e w7 ⟨rfl, hb7⟩; have HB7 := Lib.hid hb7; clear hb7)
  have HQ7 := Lib.hid (HQ6.out.keep HB7.out)
  clear d0 d1 d2 d3 HQ6 HCU6
  have d0 := HQ7.out.cell (i := 0) rfl
  have g1 : (v == v) = true := by simp
  have g2 : ((N : Int) == (N : Int)) = true := by simp
  go_quiet (fail)
  go_wp2_with fail
  go_ret3
  have hk : Kd w5 (w7.drewN nq) := ((Kd.of HB6.out).trans (Kd.of HB7.out)).trans (Kd.drewN _ _)
  exact ⟨X, l, _, by rw [← HV.out]; rfl, HK5.out.trans hk, hk.brest HM.out.sd, HM.out.len, HM.out.max⟩
end Go.Proofs.Ytbmbddapbgnioaa
