/- The statement on Check, Encode and Size and their specification, as a walk: for every value the law returns true and changes nothing that was there. -/
import Derived.Test.YtgliddedimpgaaaRe
import Derived.Test.YtgliddedimpgaaaRt
namespace Go.Proofs.Ytgliddedimpgaaa
open Go.RowKit

theorem keep6 {w1 w2 : World} {b : Nat} {c0 c1 c2 c3 va vb : Value} {L : List UInt8} (hb : Below w1.heap.size w1 w2) (ha : Buf w2 va L) (hv : Buf w2 vb L)
    (h : w1.cell? ⟨b, 0, none⟩ = some c0 ∧ w1.cell? ⟨b, 1, none⟩ = some c1 ∧ w1.cell? ⟨b, 2, none⟩ = some c2 ∧ w1.cell? ⟨b, 3, none⟩ = some c3 ∧ (convert 27 9 va).run Try.prog w1 = .ok (.string ⟨L.toArray⟩) w1 ∧ (convert 27 9 vb).run Try.prog w1 = .ok (.string ⟨L.toArray⟩) w1) :
    w2.cell? ⟨b, 0, none⟩ = some c0 ∧ w2.cell? ⟨b, 1, none⟩ = some c1 ∧ w2.cell? ⟨b, 2, none⟩ = some c2 ∧ w2.cell? ⟨b, 3, none⟩ = some c3 ∧ (convert 27 9 va).run Try.prog w2 = .ok (.string ⟨L.toArray⟩) w2 ∧ (convert 27 9 vb).run Try.prog w2 = .ok (.string ⟨L.toArray⟩) w2 := by
  obtain ⟨h0, h1, h2, h3, _, _⟩ := h
  obtain ⟨k0, k1, k2, k3⟩ := keep4 hb ⟨h0, h1, h2, h3⟩
  exact ⟨k0, k1, k2, k3, conv_buf ha, conv_buf hv⟩

set_option maxHeartbeats 4000000 in
set_option maxRecDepth 100000 in
theorem encodespec_walk (x : V) (v : Value) (W : World) (hx : Is W x v) :
    Calls Try.prog 3 #[v] W fun e w' => e = .returned (.bool true) ∧ Below W.heap.size W w' := by
  have HX := Lib.hid hx
  obtain ⟨k, n, s, l, a, c, _, _, _, _, _, _, _, _, _, _, _, _⟩ := hx
  have HB2 := Lib.hid (Joins.below_alloc1 W (.cells #[.int .i64 k, .int .i64 n, .string s, .slice a l.length c] 24))
  go_enter Try.func3, Try.ntmps3
  go_wp2_with fail
  refine (sane_call _).mono ?_
  rintro e w1 ⟨rfl, hb1⟩
  have HB1 : Hid (Below (W.heap.size + 1) (W.alloc (.cells #[.int .i64 k, .int .i64 n, .string s, .slice a l.length c] 24)) w1) := hb1.mono (by simp)
  have HW1 := Lib.hid (below_next HB2.out hb1)
  clear hb1
  obtain ⟨p0, p1, p2, p3, hsz⟩ := box_kept HB1.out
  go_wp2_with fail
  have HP : Hid ((w1.alloc (.cells #[.int .i64 k, .int .i64 n, .string s, .slice a l.length c] 24)).heap[w1.heap.size]? = some (.cells #[.int .i64 k, .int .i64 n, .string s, .slice a l.length c] 24)) := heap_alloc_new w1 _
  have HWA := Lib.hid (HW1.out.alloc HW1.out.size (.cells #[.int .i64 k, .int .i64 n, .string s, .slice a l.length c] 24))
  have HBA := Lib.hid (HB1.out.alloc hsz (.cells #[.int .i64 k, .int .i64 n, .string s, .slice a l.length c] 24))
  refine (few_call [.mk k n s l] (some ⟨w1.heap.size, 0, none⟩) 1 _ (is_one HP.out (Is.stays HX.out HWA.out))).mono ?_
  rintro e w2 ⟨rfl, hb2⟩
  have HW2 := Lib.hid (below_next HWA.out hb2)
  have HB3 := Lib.hid (HBA.out.trans (hb2.mono (by have := HBA.out.size; simp at this ⊢; omega)))
  clear hb2 p0 p1 p2 p3 hsz
  cases hfew : fewL [.mk k n s l] with
  | false =>
    go_wp2_with fail
    go_ret
    exact ⟨rfl, HW2.out⟩
  | true =>
    have hcx := fewL_mem hfew (.mk k n s l) (by simp)
    have HLX : Hid ((enc (.mk k n s l)).length ≤ 60000) := by have := cnt_enc 21 HX.out (by omega); unfold Hid; omega
    have HDX : Hid (depth (.mk k n s l) ≤ 1000) := by have := cnt_depth 21 (.mk k n s l) (by omega); unfold Hid; omega
    clear hcx hfew
    obtain ⟨p0, p1, p2, p3, hsz⟩ := box_kept HB3.out
    go_wp2_with fail
    refine (encode_call (.mk k n s l) _ _ (Is.stays HX.out HW2.out) (fun _ => Nat.le_trans HLX.out (by omega))).mono ?_
    rintro e w3 ⟨va, rfl, hb3, hA, hA2⟩
    obtain ⟨L, hL⟩ : ∃ L : List UInt8, L = if code (.mk k n s l) = 0 then enc (.mk k n s l) else [] := ⟨_, rfl⟩
    have HA : Hid (Buf w3 va L) := by
      unfold Hid
      by_cases h0 : code (.mk k n s l) = 0
      · rw [hL, if_pos h0]; exact (hA h0).1
      · rw [hL, if_neg h0, hA2 h0]; exact World.ownsRow_nil _ _ _ _
    have HW3 := Lib.hid (below_next HW2.out hb3)
    have HB4 := Lib.hid (HB3.out.trans (hb3.mono hsz))
    clear hA hA2 hb3 p0 p1 p2 p3 hsz
    obtain ⟨p0, p1, p2, p3, hsz⟩ := box_kept HB4.out
    go_wp2_with fail
    refine (refEncode_call (.mk k n s l) _ _ (Is.stays HX.out HW3.out) HDX.out (Nat.le_trans HLX.out (by omega))).mono ?_
    rintro e w4 ⟨vb, rfl, hb4, hB⟩
    rw [← hL] at hB
    have HBB := Lib.hid hB
    have HQ4 := Lib.hid hb4
    have HW4 := Lib.hid (below_next HW3.out hb4)
    have HB5 := Lib.hid (HB4.out.trans (hb4.mono hsz))
    clear hB hb4 p0 p1 p2 p3 hsz hL
    obtain ⟨p0, p1, p2, p3, hsz⟩ := box_kept HB5.out
    go_wp2_with fail
    refine (Size_call (.mk k n s l) _ _ (Is.stays HX.out HW4.out) (fun _ => Nat.le_trans HLX.out (by omega))).mono ?_
    rintro e w5 ⟨rfl, hb5⟩
    have HQ5 := Lib.hid (below_next HQ4.out hb5)
    have HR5 := Lib.hid hb5
    have HW5 := Lib.hid (below_next HW4.out hb5)
    have HB6 := Lib.hid (HB5.out.trans (hb5.mono hsz))
    clear hb5 p0 p1 p2 p3 hsz
    obtain ⟨p0, p1, p2, p3, hsz⟩ := box_kept HB6.out
    go_wp2_with fail
    refine (refSize_call (.mk k n s l) _ _ (Is.stays HX.out HW5.out) HDX.out (Nat.le_trans HLX.out (by omega))).mono ?_
    rintro e w6 ⟨rfl, hb6⟩
    have HQ6 := Lib.hid (below_next HQ5.out hb6)
    have HR6 := Lib.hid (below_next HR5.out hb6)
    have HV := Lib.hid (below_next HW5.out hb6).drew
    have HB7 := Lib.hid (HB6.out.trans (hb6.mono hsz))
    clear hb6 p0 p1 p2 p3 hsz
    obtain ⟨p0, p1, p2, p3, hsz⟩ := box_kept HB7.out
    have HVA := Lib.hid (buf_stays HA.out HQ6.out.drew)
    have HVB := Lib.hid (buf_stays HBB.out HR6.out.drew)
    have cva := conv_buf HVA.out
    have cvb := conv_buf HVB.out
    go_wp2_with fail
    go_region_held3 (fun w' => w'.cell? ⟨W.heap.size, 0, none⟩ = some (.int .i64 k) ∧ w'.cell? ⟨W.heap.size, 1, none⟩ = some (.int .i64 n) ∧ w'.cell? ⟨W.heap.size, 2, none⟩ = some (.string s) ∧ w'.cell? ⟨W.heap.size, 3, none⟩ = some (.slice a l.length c) ∧ (convert 27 9 va).run Try.prog w' = .ok (.string ⟨L.toArray⟩) w' ∧ (convert 27 9 vb).run Try.prog w' = .ok (.string ⟨L.toArray⟩) w')
      (first | go_keep | (exact keep6 hbz HVA.out HVB.out (by assumption)))
      (first | (go_at_call 16; refine (check_call (.mk k n s l) _ _ (Is.stays HX.out HV.out)).mono ?_; rintro e wz ⟨rfl, hbz⟩; have HV := Lib.hid (below_next HV.out hbz); have HVA := Lib.hid (buf_stays HVA.out hbz); have HVB := Lib.hid (buf_stays HVB.out hbz))
             | (go_at_call 17; refine (refcheck_call (.mk k n s l) HDX.out _ _ (Is.stays HX.out HV.out)).mono ?_; rintro e wz ⟨rfl, hbz⟩; have HV := Lib.hid (below_next HV.out hbz); have HVA := Lib.hid (buf_stays HVA.out hbz); have HVB := Lib.hid (buf_stays HVB.out hbz)))
    all_goals go_wp2_with fail
    all_goals go_ret
    all_goals exact ⟨rfl, HV.out⟩
end Go.Proofs.Ytgliddedimpgaaa
