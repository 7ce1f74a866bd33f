/- The specification's reader: a text. -/
import Derived.Test.YtgliddedimpgaaaRb
import Derived.IntWalk
import Derived.RegionTactic
import Derived.Deep.RegionHeld3
namespace Go.Proofs.Ytgliddedimpgaaa
open Go.RowKit

theorem numout_bad {bs : List UInt8} {p u q : Nat} (h : NumOut bs p u q true) : readNum (bs.drop p) = none := by
  unfold NumOut at h
  cases hn : readNum (bs.drop p) with
  | none => rfl
  | some v => obtain ⟨v, r⟩ := v; rw [hn] at h; exact absurd h.1 (by simp)
theorem numout_ok {bs : List UInt8} {p u q : Nat} (h : NumOut bs p u q false) : readNum (bs.drop p) = some (u, bs.drop q) := by
  unfold NumOut at h
  cases hn : readNum (bs.drop p) with
  | none => rw [hn] at h; exact absurd h (by simp)
  | some v => obtain ⟨v, r⟩ := v; rw [hn] at h; obtain ⟨_, rfl, rfl⟩ := h; rfl

theorem rest_part {B : Nat} {w : World} {b off cap : Nat} {bs : List UInt8} (h : Rest B w bs (.slice (some ⟨b, off, none⟩) bs.length cap)) (q u : Nat) (hq : q + u ≤ bs.length) : Rest B w ((bs.drop q).take u) (.slice (some ⟨b, off + q, none⟩) u (cap - q)) := by
  obtain ⟨a2, cap2, he, hl, hm, ha, hc⟩ := h
  injection he with he1 he2 he3
  subst he1 he3
  have hlen : ((bs.drop q).take u).length = u := by rw [List.length_take, List.length_drop]; omega
  refine ⟨some ⟨b, off + q, none⟩, cap - q, by rw [hlen], by omega, by omega, (fun h => by cases h), ?_⟩
  rcases hc with h0 | ⟨b2, off2, he4, hb, hc⟩
  · exact .inl (by omega)
  · injection he4 with he4
    injection he4 with he5 he6
    subst he5 he6
    refine .inr ⟨b, off + q, rfl, hb, fun i hi => ?_⟩
    have h3 := hc (q + i) (by omega)
    rw [show off + q + i = off + (q + i) by omega, h3]
    simp

set_option maxHeartbeats 4000000 in
set_option maxRecDepth 100000 in
theorem refval_2 (d m B rb b off : Nat) (w : World) (cap : Nat) (bs r : List UInt8) (p : Nat) (h : RR B rb w (some ⟨b, off, none⟩) cap bs p false) (hcap : bs.length ≤ cap ∧ cap ≤ maxLen) (hdr : bs.drop p = 2 :: r) :
    Calls Try.prog 35 #[.pointer (some ⟨rb, 0, none⟩), .int .i64 (m : Int)] w fun e w' => ValR B rb w w' (some ⟨b, off, none⟩) cap bs d p e := by
  obtain ⟨hcap1, hcap2⟩ := hcap
  unfold maxLen at hcap2
  have hrb := h.hi
  have HB : Hid (Below w.heap.size w (w.alloc zeroCells4)) := Joins.below_alloc1 w _
  have HDR := Lib.hid hdr
  have HR0 := Lib.hid (h.stays HB.out hrb)
  have hl := h.len
  clear hdr
  go_enter Try.func35, Try.ntmps35
  go_wp2_with fail
  refine (refnext_call B rb _ _ cap bs p HR0.out).mono ?_
  rintro e w1 hq
  unfold NextR at hq
  rw [HDR.out] at hq
  obtain ⟨rfl, hr1, ho1⟩ := hq
  go_wp2_with fail
  refine (refnumber_call B rb _ _ cap bs (p + 1) hr1).mono ?_
  rintro e w2 ⟨u, q, bad, rfl, hu, hr2, ho2, hout⟩
  have HO2 := Lib.hid (ho1.trans ho2)
  have HR2 := Lib.hid hr2
  have hq := hr2.le
  obtain ⟨z0, z1, z2, z3, g0, g1, g2, g3, hsz⟩ := only_zero HO2.out hrb
  obtain ⟨c0, c1, c2, f0, f1, f2⟩ := hr2.cells
  clear hr1 ho1 ho2 hr2
  have i1 : IntKind.i64.wrap ((bs.length : Int) - (q : Int)) = (bs.length : Int) - (q : Int) := by rw [IntKind.wrap_i64]; omega
  have i2 : IntKind.u64.wrap ((bs.length : Int) - (q : Int)) = (bs.length : Int) - (q : Int) := by rw [IntKind.wrap_u64]; omega
  cases bad with
  | true =>
    have HN : Hid (dec d (bs.drop p) = none) := by
      have h1 := numout_bad hout
      rw [drop_next HDR.out] at h1
      unfold Hid; rw [HDR.out, dec, decHead, if_neg (show ¬ UInt8.toNat 2 = 1 by decide), if_pos (show UInt8.toNat 2 = 2 from rfl), h1]
    clear hout
    go_wp2_with fail
    go_quiet (fail)
    go_wp2_with fail
    refine bodyPost_ret (v := val 0 0 ⟨#[]⟩ none 0 0) (by simp [results, Try.results35, go_sem, z0, z1, z2, z3]) rfl (valr_bad HN.out (((HR2.out.draws _).setBad true).new4 hrb) (only_new4 ((only_below HB.out).trans ((HO2.out.trans (only_below (Joins.below_draws _ _ _))).trans (only_set rb _ 2 _)))))
  | false =>
    have HNO := Lib.hid (numout_ok hout)
    clear hout
    by_cases hgt : bs.length - q < u
    · have HN : Hid (dec d (bs.drop p) = none) := by
        have h1 := HNO.out
        rw [drop_next HDR.out] at h1
        unfold Hid; rw [HDR.out, dec, decHead, if_neg (show ¬ UInt8.toNat 2 = 1 by decide), if_pos (show UInt8.toNat 2 = 2 from rfl), h1]
        simp only
        rw [if_neg (by rw [List.length_drop]; omega)]
      have hd : decide ((bs.length : Int) - (q : Int) < (u : Int)) = true := by simp; omega
      clear hgt
      go_wp2_with fail
      go_quiet (fail)
      go_wp2_with fail
      refine bodyPost_ret (v := val 0 0 ⟨#[]⟩ none 0 0) (by simp [results, Try.results35, go_sem, z0, z1, z2, z3]) rfl (valr_bad HN.out (((HR2.out.draws _).setBad true).new4 hrb) (only_new4 ((only_below HB.out).trans ((HO2.out.trans (only_below (Joins.below_draws _ _ _))).trans (only_set rb _ 2 _)))))
    · have hd : decide ((bs.length : Int) - (q : Int) < (u : Int)) = false := by simp; omega
      have huq : q + u ≤ bs.length := by omega
      clear hgt
      go_wp2_with fail
      go_quiet (fail)
      go_wp2_with fail
      have hR := (HR2.out.draws nq).setAt (q + u) ((q : Int) + u) (by omega) huq
      have hO : Only rb (w.alloc zeroCells4) ((w2.drewN nq).setCell ⟨rb, 1, none⟩ (.int .i64 ((q : Int) + u))) := (HO2.out.trans (only_below (Joins.below_draws _ _ _))).trans (only_set rb _ 1 _)
      have HQ := Lib.hid HR2.out
      clear c0 c1 c2 f0 f1 f2 z0 z1 z2 z3 g0 g1 g2 g3 hsz
      generalize (w2.drewN nq).setCell ⟨rb, 1, none⟩ (.int .i64 ((q : Int) + u)) = w3 at hR hO ⊢
      obtain ⟨z0, z1, z2, z3, g0, g1, g2, g3, hsz⟩ := only_zero hO hrb
      obtain ⟨c0, c1, c2, f0, f1, f2⟩ := hR.cells
      have HR := Lib.hid hR
      have HO := Lib.hid hO
      clear hR hO
      have e1 : ((q + u : Nat) : Int) = (q : Int) + u := by omega
      rw [e1] at c1
      clear e1
      have i3 : IntKind.i64.wrap ((q : Int) + u - u) = (q : Int) := by rw [IntKind.wrap_i64]; omega
      have i4 : IntKind.i64.wrap (u : Int) = (u : Int) := by rw [IntKind.wrap_i64]; omega
      have i5 : IntKind.i64.wrap (q : Int) = (q : Int) := by rw [IntKind.wrap_i64]; omega
      have t1 : ((q : Int) + u).toNat = q + u := by omega
      have t2 : (q + u) - q = u := by omega
      have t3 : (0 : Int) ≤ (q : Int) + u := by omega
      have t4 : (q : Int) ≤ (q : Int) + u := by omega
      have t5 : (q : Int) + u ≤ (cap : Int) := by omega
      have HV : Hid (dec d (bs.drop p) = some (.mk 2 0 ⟨((bs.drop q).take u).toArray⟩ [], bs.drop (q + u))) := by
        have h1 := HNO.out
        rw [drop_next HDR.out] at h1
        unfold Hid; rw [HDR.out, dec, decHead, if_neg (show ¬ UInt8.toNat 2 = 1 by decide), if_pos (show UInt8.toNat 2 = 2 from rfl), h1]
        simp only
        rw [if_pos (by rw [List.length_drop]; omega), List.drop_drop]
      have hszt : (⟨((bs.drop q).take u).toArray⟩ : ByteArray).size ≤ maxLen := by
        show (((bs.drop q).take u).toArray).size ≤ maxLen
        simp [maxLen]; omega
      have hne1 : ¬ rb = w.heap.size := by omega
      have hne2 : ¬ w.heap.size = rb := by omega
      obtain ⟨w4, hw4⟩ : ∃ w4, w4 = ((((w3.setCell ⟨w.heap.size, 0, none⟩ (.int .i64 2)).setCell ⟨w.heap.size, 1, none⟩ (.int .i64 0)).setCell ⟨w.heap.size, 2, none⟩ (.string ⟨((bs.drop q).take u).toArray⟩)).setCell ⟨w.heap.size, 3, none⟩ (.slice none 0 0)).drew := ⟨_, rfl⟩
      have hb4 : Below w.heap.size w3 w4 := by
        rw [hw4]
        exact (((((Below.refl _ _).setCell (p := ⟨w.heap.size, 0, none⟩) (Nat.le_refl _) _).setCell (p := ⟨w.heap.size, 1, none⟩) (Nat.le_refl _) _).setCell (p := ⟨w.heap.size, 2, none⟩) (Nat.le_refl _) _).setCell (p := ⟨w.heap.size, 3, none⟩) (Nat.le_refl _) _).drew
      have HW4 := Lib.hid hw4
      clear hw4
      by_cases hqc : cap = q
      · have hcv : (convert 27 9 (.slice (some ⟨b, off, none⟩) u 0)).run Try.prog w3.drew = .ok (.string ⟨((bs.drop q).take u).toArray⟩) w3.drew := by
          obtain rfl : u = 0 := by omega
          exact conv_rest (B := B) ⟨some ⟨b, off, none⟩, 0, rfl, by simp, by simp, (fun h => by cases h), .inl (by simp)⟩
        have hcv4 : (convert 27 9 (.slice (some ⟨b, off, none⟩) u 0)).run Try.prog w4 = .ok (.string ⟨((bs.drop q).take u).toArray⟩) w4 := by
          obtain rfl : u = 0 := by omega
          exact conv_rest (B := B) ⟨some ⟨b, off, none⟩, 0, rfl, by simp, by simp, (fun h => by cases h), .inl (by simp)⟩
        rw [HW4.out] at hcv4
        have hqq : cap - q = 0 := by omega
        have hqt : (cap = q) = True := by simp [hqc]
        clear hqc
        go_region_held3 (fun w' => w'.cell? ⟨rb, 0, none⟩ = some (.slice (some ⟨b, off, none⟩) bs.length cap) ∧ w'.cell? ⟨rb, 1, none⟩ = some (.int .i64 ((q : Int) + u)) ∧ (convert 27 9 (.slice (some ⟨b, off, none⟩) u 0)).run Try.prog w' = .ok (.string ⟨((bs.drop q).take u).toArray⟩) w')
            (first | (exact ⟨by go_keep, by go_keep, hcv⟩) | (exact ⟨by go_keep, by go_keep, hcv4⟩)) (first | fail)
        go_wp2_with fail
        refine bodyPost_ret (v := val 2 0 ⟨((bs.drop q).take u).toArray⟩ none 0 0) (by simp [results, Try.results35, go_sem, z0, z1, z2, z3]) rfl (valr_ok HV.out rfl ((HR.out.stays (Below.refl _ _).drew HR.out.hi).new4 hrb) (only_new4 ((only_below HB.out).trans (HO.out.trans (only_below (Below.refl _ _).drew)))) (sure_text _ _ _ hszt))
      · have hcv : (convert 27 9 (.slice (some ⟨b, off + q, none⟩) u (cap - q))).run Try.prog w3.drew = .ok (.string ⟨((bs.drop q).take u).toArray⟩) w3.drew :=
          conv_rest ((rest_part HR.out.rest q u huq).stays (Below.refl _ _).drew)
        have hcv4 : (convert 27 9 (.slice (some ⟨b, off + q, none⟩) u (cap - q))).run Try.prog w4 = .ok (.string ⟨((bs.drop q).take u).toArray⟩) w4 :=
          conv_rest ((rest_part HR.out.rest q u huq).stays (hb4.mono (by have := HR.out.lo; omega)))
        rw [HW4.out] at hcv4
        go_region_held3 (fun w' => w'.cell? ⟨rb, 0, none⟩ = some (.slice (some ⟨b, off, none⟩) bs.length cap) ∧ w'.cell? ⟨rb, 1, none⟩ = some (.int .i64 ((q : Int) + u)) ∧ (convert 27 9 (.slice (some ⟨b, off + q, none⟩) u (cap - q))).run Try.prog w' = .ok (.string ⟨((bs.drop q).take u).toArray⟩) w')
            (first | (exact ⟨by go_keep, by go_keep, hcv⟩) | (exact ⟨by go_keep, by go_keep, hcv4⟩)) (first | fail)
        go_wp2_with fail
        refine bodyPost_ret (v := val 2 0 ⟨((bs.drop q).take u).toArray⟩ none 0 0) (by simp [results, Try.results35, go_sem, z0, z1, z2, z3]) rfl (valr_ok HV.out rfl ((HR.out.stays (Below.refl _ _).drew HR.out.hi).new4 hrb) (only_new4 ((only_below HB.out).trans (HO.out.trans (only_below (Below.refl _ _).drew)))) (sure_text _ _ _ hszt))
end Go.Proofs.Ytgliddedimpgaaa
