/- What is signed is right; points and secrets: plain mathematics. -/
import Derived.Lib.SlBytesConst
import Derived.Laws.StructEq
import Derived.Test.YtbcfmpohempkpaaDoorZc32
namespace Go.Proofs.YtbcfmpohempkpaaDoor.Dig
open Go.RowKit

/-- the point of what Sign returns is G to the power of the nonce -/
theorem pt_sign (secret : Int) (b : List UInt8) : pt (powQ 4 secret) (sgE secret b) (sgS secret b) = powQ 4 (nonce secret b) := by
  unfold pt
  rw [powQ_mul valid_4, powQ_add valid_4]
  refine powQ_mod ?_
  unfold sgS
  rw [Int.mul_neg, Int.mul_comm secret]
  generalize sgE secret b * secret = m
  omega
theorem sgE_in (secret : Int) (b : List UInt8) : inE (sgE secret b) = true := inE_of (hsg_rng _ _ _)
theorem sgS_in (secret : Int) (b : List UInt8) : inE (sgS secret b) = true := inE_of (modq_rng _)
/-- what is signed is right -/
theorem sign_right (secret : Int) (b : List UInt8) : verR (powQ 4 secret) b (sgE secret b) (sgS secret b) = true := by
  unfold verR
  rw [powQ_valid valid_4, sgE_in, sgS_in, pt_sign]
  simp [sgE]
theorem verR_no {key : Int} {b : List UInt8} {E S : Int} (h : valid key = false) : verR key b E S = false := by unfold verR; rw [h]; rfl
theorem verR_over (key : Int) (b : List UInt8) (E S : Int) (h : inE S = false) : verR key b E S = false := by unfold verR; rw [h]; cases valid key <;> cases inE E <;> rfl
theorem key_5 : powQ 4 5 = 1024 := by
  unfold powQ fpw
  rfl
theorem key_q1 : powQ 4 1073741788 = 536870895 := by
  rw [← powQ_4n]
  exact powQ_mod (by omega)
theorem part0 (x y : Int) (W : World) : (part 3 #[.int .i64 x, .int .i64 y] 0).run Tryd.prog W = .ok (.int .i64 x) W := by kernel_rfl
theorem part1 (x y : Int) (W : World) : (part 3 #[.int .i64 x, .int .i64 y] 1).run Tryd.prog W = .ok (.int .i64 y) W := by kernel_rfl
theorem eq_sig (E S E' S' : Int) (W : World) : (Op.equalIn 10000 24 (sgV E S) (sgV E' S')).run Tryd.prog W = .ok ((E == E') && (S == S')) W := by
  rw [run_equalIn_struct W 9999 _ _ _ (by kernel_rfl) (by kernel_rfl)]
  simp only [Program.fieldsOf, Tryd.underlying24]
  cases h1 : E == E' <;> cases h2 : S == S' <;> simp [Op.eqFields, Sem.run_bind, part0, part1, run_equalIn_int _ 9998 3 .i64 .i64 _ _ Tryd.underlying3, h1, h2]
theorem guard24 : Tryd.prog.eqGuardType Tryd.prog.depth 24 = false := by kernel_rfl
theorem guard_sig (op : BinOp) (x y : Operand) (E S E' S' : Int) (W : World) : (eqGuard op 24 x y (sgV E S) (sgV E' S')).run Tryd.prog W = .ok () W := run_eqGuard_agg W op _ x y _ _ guard24
theorem neq_sig (E S E' S' : Int) (W : World) : (binOp .neq 24 (sgV E S) (sgV E' S')).run Tryd.prog W = .ok (.bool (!((E == E') && (S == S')))) W := by
  rw [run_neq_struct, eq_sig]; rfl
theorem eql_sig (E S E' S' : Int) (W : World) : (binOp .eql 24 (sgV E S) (sgV E' S')).run Tryd.prog W = .ok (.bool ((E == E') && (S == S'))) W := by
  rw [run_eql_struct, eq_sig]; rfl
abbrev letC : Array Value := #[.int .u8 108, .int .u8 101, .int .u8 116, .int .u8 116, .int .u8 101, .int .u8 114]
abbrev letB : List UInt8 := [108, 101, 116, 116, 101, 114]
theorem let_rest (w : World) : Rest (w.alloc (.cells letC 5 (6, 7))).heap.size (w.alloc (.cells letC 5 (6, 7))) letB (.slice (some ⟨w.heap.size, 0, none⟩) 6 6) := by
  refine ⟨some ⟨w.heap.size, 0, none⟩, 6, rfl, by simp, by unfold maxLen; omega, fun h => (by cases h), .inr ⟨w.heap.size, 0, rfl, by simp, fun i hi => ?_⟩⟩
  have h : (w.alloc (.cells letC 5 (6, 7))).heap[w.heap.size]? = some (.cells letC 5 (6, 7)) := heap_alloc_new w _
  rw [Nat.zero_add, cell_of_row _ _ _ _ _ _ h]
  have hi' : i < 6 := by simpa using hi
  obtain rfl | rfl | rfl | rfl | rfl | rfl : i = 0 ∨ i = 1 ∨ i = 2 ∨ i = 3 ∨ i = 4 ∨ i = 5 := by omega
  all_goals rfl
theorem sign_T {secret : Int} (b : List UInt8) (h : 1 ≤ secret ∧ secret < 1073741789) : signT secret b = .tuple #[sgV (sgE secret b) (sgS secret b), .int .i64 0] := by unfold signT; rw [if_pos h]
theorem sign_F {secret : Int} (b : List UInt8) (h : ¬ (1 ≤ secret ∧ secret < 1073741789)) : signT secret b = .tuple #[sgV 0 0, .int .i64 110] := by unfold signT; rw [if_neg h]
set_option maxHeartbeats 4000000 in
set_option maxRecDepth 100000 in
theorem sane_call (w : World) (hT : Tab w) : Calls Tryd.prog 7 #[] w fun e w' => e = .returned (.bool true) ∧ Below w.heap.size w w' := by
  have HT := Lib.hid hT
  have hcv := Lib.run_convert_bytes_const w 22 5 letC 6 6 Tryd.underlying22 Tryd.underlying5
  obtain ⟨W0, hW0⟩ : ∃ W0, W0 = w.alloc (.cells letC 5 (letC.size, letC.size + 1)) := ⟨_, rfl⟩
  have HR : Hid (Rest W0.heap.size W0 letB (.slice (some ⟨w.heap.size, 0, none⟩) 6 6)) := Lib.hid (by rw [hW0]; exact let_rest w)
  have HB0 : Hid (Below w.heap.size w W0) := Lib.hid (by rw [hW0]; exact Joins.below_alloc1 _ _)
  rw [← hW0] at hcv
  obtain ⟨sl, hsl⟩ : ∃ sl, sl = w.heap.size := ⟨_, rfl⟩
  have HW := Lib.hid (fun W (hW : Below W0.heap.size W0 W) => (rest_keep HR.out hW))
  have HTW := Lib.hid (fun W (hW : Below W0.heap.size W0 W) => (HT.out.keep HB0.out).keep hW)
  have HV1 := Lib.hid (sign_right 5 letB)
  have HV2 := Lib.hid (sign_right 1073741788 [])
  have HI1 := Lib.hid (inE_rng (sgS_in 5 letB))
  rw [key_5] at HV1
  rw [key_q1] at HV2
  have HS1 : Hid (∀ W, Below W0.heap.size W0 W → Calls Tryd.prog 8 #[.int .i64 5, .slice (some ⟨w.heap.size, 0, none⟩) 6 6] W fun e w' => e = .returned (.tuple #[sgV (sgE 5 letB) (sgS 5 letB), .int .i64 0]) ∧ Below W.heap.size W w') := Lib.hid (fun W hW => by
    rw [← sign_T letB (by omega)]
    exact Sign_call 5 letB _ W ⟨by omega, by omega⟩ (by decide) (HW.out W hW) (HTW.out W hW))
  have HS2 : Hid (∀ W, Below W0.heap.size W0 W → Calls Tryd.prog 8 #[.int .i64 0, .slice (some ⟨w.heap.size, 0, none⟩) 6 6] W fun e w' => e = .returned (.tuple #[sgV 0 0, .int .i64 110]) ∧ Below W.heap.size W w') := Lib.hid (fun W hW => by
    rw [← sign_F (secret := 0) letB (by omega)]
    exact Sign_call 0 letB _ W ⟨by omega, by omega⟩ (by decide) (HW.out W hW) (HTW.out W hW))
  have HS3 : Hid (∀ W, Below W0.heap.size W0 W → Calls Tryd.prog 8 #[.int .i64 1073741789, .slice (some ⟨w.heap.size, 0, none⟩) 6 6] W fun e w' => e = .returned (.tuple #[sgV 0 0, .int .i64 110]) ∧ Below W.heap.size W w') := Lib.hid (fun W hW => by
    rw [← sign_F (secret := 1073741789) letB (by omega)]
    exact Sign_call 1073741789 letB _ W ⟨by omega, by omega⟩ (by decide) (HW.out W hW) (HTW.out W hW))
  have HS4 : Hid (∀ W, Below W0.heap.size W0 W → Calls Tryd.prog 8 #[.int .i64 1073741788, .slice none 0 0] W fun e w' => e = .returned (.tuple #[sgV (sgE 1073741788 []) (sgS 1073741788 []), .int .i64 0]) ∧ Below W.heap.size W w') := Lib.hid (fun W hW => by
    rw [← sign_T (secret := 1073741788) [] (by omega)]
    exact Sign_call 1073741788 [] _ W ⟨by omega, by omega⟩ (by decide) (rest_nil _ W) (HTW.out W hW))
  have HVC : Hid (∀ (key E S : Int) W, I64 key → Below W0.heap.size W0 W → Calls Tryd.prog 10 #[.int .i64 key, .slice (some ⟨w.heap.size, 0, none⟩) 6 6, sgV E S] W fun e w' => e = .returned (.bool (verR key letB E S)) ∧ Below W.heap.size W w') :=
    Lib.hid (fun key E S W hk hW => Verify_call key letB _ E S W hk (by decide) (HW.out W hW) (HTW.out W hW))
  have HVN : Hid (∀ (key E S : Int) W, I64 key → Below W0.heap.size W0 W → Calls Tryd.prog 10 #[.int .i64 key, .slice none 0 0, sgV E S] W fun e w' => e = .returned (.bool (verR key [] E S)) ∧ Below W.heap.size W w') :=
    Lib.hid (fun key E S W hk hW => Verify_call key [] _ E S W hk (by decide) (rest_nil _ W) (HTW.out W hW))
  obtain ⟨E, hE⟩ : ∃ E, E = sgE 5 letB := ⟨_, rfl⟩
  obtain ⟨S, hS⟩ : ∃ S, S = sgS 5 letB := ⟨_, rfl⟩
  obtain ⟨E4, hE4⟩ : ∃ E, E = sgE 1073741788 [] := ⟨_, rfl⟩
  obtain ⟨S4, hS4⟩ : ∃ S, S = sgS 1073741788 [] := ⟨_, rfl⟩
  rw [← hE, ← hS] at HV1 HS1
  rw [← hS] at HI1
  rw [← hE4, ← hS4] at HV2 HS4
  have hw : wrap64 (S + 1073741789) = S + 1073741789 := by have := HI1.out; unfold wrap64; omega
  have HN1 := Lib.hid (verR_no (b := letB) (E := E) (S := S) valid_2)
  have HN2 := Lib.hid (verR_over 1024 letB E (S + 1073741789) (inE_not (by have := HI1.out; omega)))
  have HN3 := Lib.hid (verR_no (b := []) (E := E4) (S := S4) (valid_out (x := 0) (by omega)))
  have HBa := Lib.hid (Below.refl W0.heap.size W0)
  clear hT hE hS hE4 hS4 hW0 hsl HR
  go_enter Tryd.func7, Tryd.ntmps7
  go_wp2_with fail
  refine (HS1.out _ HBa.out).mono ?_
  rintro e wb ⟨rfl, hb⟩
  have HBbx := Lib.hid (below_next HBa.out hb)
  have HBb := Lib.hid (below_next HBbx.out (Joins.below_alloc1 wb (.cells #[.int .i64 E, .int .i64 S] 24)))
  have Rb := Lib.hid (row_new wb 24 [.int .i64 E, .int .i64 S])
  clear hb
  go_wp2_with fail
  refine (HS1.out _ HBb.out).mono ?_
  rintro e wc ⟨rfl, hb⟩
  replace Rb := Lib.hid (Rb.out.keep hb)
  have HBcx := Lib.hid (below_next HBb.out hb)
  have HBc := Lib.hid (below_next HBcx.out (Joins.below_alloc1 wc (.cells #[.int .i64 E, .int .i64 S] 24)))
  have Rc := Lib.hid (row_new wc 24 [.int .i64 E, .int .i64 S])
  replace Rb := Lib.hid (Rb.out.keep (Joins.below_alloc1 wc (.cells #[.int .i64 E, .int .i64 S] 24)))
  clear hb
  go_wp2_with fail
  refine (HS2.out _ HBc.out).mono ?_
  rintro e wd ⟨rfl, hb⟩
  replace Rb := Lib.hid (Rb.out.keep hb)
  replace Rc := Lib.hid (Rc.out.keep hb)
  have HBdx := Lib.hid (below_next HBc.out hb)
  have HBd := Lib.hid (below_next HBdx.out (Joins.below_alloc1 wd (.cells #[.int .i64 0, .int .i64 0] 24)))
  have Rd := Lib.hid (row_new wd 24 [.int .i64 0, .int .i64 0])
  replace Rb := Lib.hid (Rb.out.keep (Joins.below_alloc1 wd (.cells #[.int .i64 0, .int .i64 0] 24)))
  replace Rc := Lib.hid (Rc.out.keep (Joins.below_alloc1 wd (.cells #[.int .i64 0, .int .i64 0] 24)))
  clear hb
  go_wp2_with fail
  refine (HS3.out _ HBd.out).mono ?_
  rintro e we ⟨rfl, hb⟩
  replace Rb := Lib.hid (Rb.out.keep hb)
  replace Rc := Lib.hid (Rc.out.keep hb)
  replace Rd := Lib.hid (Rd.out.keep hb)
  have HBex := Lib.hid (below_next HBd.out hb)
  have HBe := Lib.hid (below_next HBex.out (Joins.below_alloc1 we (.cells #[.int .i64 0, .int .i64 0] 24)))
  have Re := Lib.hid (row_new we 24 [.int .i64 0, .int .i64 0])
  replace Rb := Lib.hid (Rb.out.keep (Joins.below_alloc1 we (.cells #[.int .i64 0, .int .i64 0] 24)))
  replace Rc := Lib.hid (Rc.out.keep (Joins.below_alloc1 we (.cells #[.int .i64 0, .int .i64 0] 24)))
  replace Rd := Lib.hid (Rd.out.keep (Joins.below_alloc1 we (.cells #[.int .i64 0, .int .i64 0] 24)))
  clear hb
  go_wp2_with fail
  refine (HS4.out _ HBe.out).mono ?_
  rintro e wf ⟨rfl, hb⟩
  replace Rb := Lib.hid (Rb.out.keep hb)
  replace Rc := Lib.hid (Rc.out.keep hb)
  replace Rd := Lib.hid (Rd.out.keep hb)
  replace Re := Lib.hid (Re.out.keep hb)
  have HBfx := Lib.hid (below_next HBe.out hb)
  have HBf := Lib.hid (below_next HBfx.out (Joins.below_alloc1 wf (.cells #[.int .i64 E4, .int .i64 S4] 24)))
  have Rf := Lib.hid (row_new wf 24 [.int .i64 E4, .int .i64 S4])
  replace Rb := Lib.hid (Rb.out.keep (Joins.below_alloc1 wf (.cells #[.int .i64 E4, .int .i64 S4] 24)))
  replace Rc := Lib.hid (Rc.out.keep (Joins.below_alloc1 wf (.cells #[.int .i64 E4, .int .i64 S4] 24)))
  replace Rd := Lib.hid (Rd.out.keep (Joins.below_alloc1 wf (.cells #[.int .i64 E4, .int .i64 S4] 24)))
  replace Re := Lib.hid (Re.out.keep (Joins.below_alloc1 wf (.cells #[.int .i64 E4, .int .i64 S4] 24)))
  clear hb
  go_upto_region 7 with (fail)
  generalize wf.alloc (.cells #[.int .i64 E4, .int .i64 S4] 24) = Wf at Rb Rc Rd Re Rf HBf ⊢
  clear Rd Re
  have heq := fun W => neq_sig E S E S W
  rw [show (!((E == E) && (S == S))) = false by simp] at heq
  have hgu := fun op x y W => guard_sig op x y E S E S W
  have b0 := Rb.out.cell (i := 0) rfl
  have b1 := Rb.out.cell (i := 1) rfl
  have d0 := Rc.out.cell (i := 0) rfl
  have d1 := Rc.out.cell (i := 1) rfl
  go_upto_region 10 with (fail)
  have HNE := Lib.hid (And.intro Rb.out.lt Rf.out.lt)
  have HLT : Hid (W0.heap.size ≤ Wf.heap.size) := Lib.hid HBf.out.size
  have HB1 := Lib.hid (below_next HBf.out (Joins.below_alloc1 Wf (.cells #[.int .i64 E, .int .i64 S] 24)))
  have Rx := Lib.hid (row_new Wf 24 [.int .i64 E, .int .i64 S])
  replace Rb := Lib.hid (Rb.out.keep (Joins.below_alloc1 Wf (.cells #[.int .i64 E, .int .i64 S] 24)))
  replace Rf := Lib.hid (Rf.out.keep (Joins.below_alloc1 Wf (.cells #[.int .i64 E, .int .i64 S] 24)))
  clear b0 b1 d0 d1 Rc
  obtain ⟨tx, htx⟩ : ∃ t, t = Wf.heap.size := ⟨_, rfl⟩
  rw [← htx] at Rx HNE HLT
  generalize Wf.alloc (.cells #[.int .i64 E, .int .i64 S] 24) = Wx at Rb Rf Rx HB1 ⊢
  have b1 := Rb.out.cell (i := 1) rfl
  rw [htx] at Rx
  have x1 := Rx.out.cell (i := 1) rfl
  have xf := Rx.out.free 1
  have RX2 := Lib.hid (Rx.out.set (cs' := [.int .i64 E, .int .i64 (S + 1073741789)]) 1 (.int .i64 (S + 1073741789)) rfl)
  have RB2 : Hid (Row (Wx.setCell ⟨Wf.heap.size, 1, none⟩ (.int .i64 (S + 1073741789))) wb.heap.size 24 [.int .i64 E, .int .i64 S]) := Lib.hid ((heap_setCell_other Wx _ _ _ (by have := HNE.out.1; show _ ≠ Wf.heap.size; omega)).trans Rb.out)
  have RF2 : Hid (Row (Wx.setCell ⟨Wf.heap.size, 1, none⟩ (.int .i64 (S + 1073741789))) wf.heap.size 24 [.int .i64 E4, .int .i64 S4]) := Lib.hid ((heap_setCell_other Wx _ _ _ (by have := HNE.out.2; show _ ≠ Wf.heap.size; omega)).trans Rf.out)
  have HB2 : Hid (Below W0.heap.size W0 (Wx.setCell ⟨Wf.heap.size, 1, none⟩ (.int .i64 (S + 1073741789)))) := Lib.hid (below_setCell HB1.out _ _ _ (by have := HLT.out; omega))
  clear htx
  go_upto_region 11 with (fail)
  clear b1 x1 xf
  generalize Wx.setCell ⟨Wf.heap.size, 1, none⟩ (.int .i64 (S + 1073741789)) = W2 at RX2 RB2 RF2 HB2 ⊢
  have b0 := RB2.out.cell (i := 0) rfl
  have b1 := RB2.out.cell (i := 1) rfl
  go_wp2_with fail
  refine (HVC.out 1024 E S W2 ⟨by omega, by omega⟩ HB2.out).mono ?_
  rintro e w3 ⟨he, hb⟩
  rw [HV1.out] at he
  subst he
  have HB3 := Lib.hid (below_next HB2.out hb)
  replace RB2 := Lib.hid (RB2.out.keep hb)
  replace RX2 := Lib.hid (RX2.out.keep hb)
  replace RF2 := Lib.hid (RF2.out.keep hb)
  clear hb b0 b1
  have b0 := RB2.out.cell (i := 0) rfl
  have b1 := RB2.out.cell (i := 1) rfl
  go_wp2_with fail
  refine (HVC.out 2 E S w3 ⟨by omega, by omega⟩ HB3.out).mono ?_
  rintro e w4 ⟨he, hb⟩
  rw [HN1.out] at he
  subst he
  have HB4 := Lib.hid (below_next HB3.out hb)
  replace RX2 := Lib.hid (RX2.out.keep hb)
  replace RF2 := Lib.hid (RF2.out.keep hb)
  clear hb b0 b1
  have b0 := RX2.out.cell (i := 0) rfl
  have b1 := RX2.out.cell (i := 1) rfl
  go_wp2_with fail
  refine (HVC.out 1024 E (S + 1073741789) w4 ⟨by omega, by omega⟩ HB4.out).mono ?_
  rintro e w5 ⟨he, hb⟩
  rw [HN2.out] at he
  subst he
  have HB5 := Lib.hid (below_next HB4.out hb)
  replace RF2 := Lib.hid (RF2.out.keep hb)
  clear hb b0 b1
  have b0 := RF2.out.cell (i := 0) rfl
  have b1 := RF2.out.cell (i := 1) rfl
  go_wp2_with fail
  refine (HVN.out 536870895 E4 S4 w5 ⟨by omega, by omega⟩ HB5.out).mono ?_
  rintro e w6 ⟨he, hb⟩
  rw [HV2.out] at he
  subst he
  have HB6 := Lib.hid (below_next HB5.out hb)
  replace RF2 := Lib.hid (RF2.out.keep hb)
  clear hb b0 b1
  have b0 := RF2.out.cell (i := 0) rfl
  have b1 := RF2.out.cell (i := 1) rfl
  go_wp2_with fail
  refine (HVN.out 0 E4 S4 w6 ⟨by omega, by omega⟩ HB6.out).mono ?_
  rintro e w7 ⟨he, hb⟩
  rw [HN3.out] at he
  subst he
  have HB7 := Lib.hid (below_next HB6.out hb)
  clear hb b0 b1
  go_wp2_with fail
  go_ret
  exact ⟨rfl, below_next HB0.out HB7.out⟩
end Go.Proofs.YtbcfmpohempkpaaDoor.Dig
