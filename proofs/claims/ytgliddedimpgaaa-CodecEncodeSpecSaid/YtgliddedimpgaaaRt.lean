/- The statement on encoding and decoding, as a walk: for every value and all bytes the law returns true and changes nothing that was there. -/
import Derived.Test.YtgliddedimpgaaaU
import Derived.Test.YtgliddedimpgaaaZ
import Derived.Test.YtgliddedimpgaaaO
import Derived.Test.YtgliddedimpgaaaSr
namespace Go.Proofs.Ytgliddedimpgaaa
open Go.RowKit

/-- a list of one in one new block -/
theorem is_one {w : World} {g : Nat} {x : V} {k n : Int} {s : ByteArray} {a : Option Addr} {l c : Nat}
    (h : w.heap[g]? = some (.cells #[.int .i64 k, .int .i64 n, .string s, .slice a l c] 24)) (hx : Is w x (val k n s a l c)) :
    Is w (.mk 3 0 ⟨#[]⟩ [x]) (val 3 0 ⟨#[]⟩ (some ⟨g, 0, none⟩) 1 1) := by
  have hlt : g < w.heap.size := (Array.getElem?_eq_some_iff.1 h).1
  refine .mk 3 0 ⟨#[]⟩ [x] (some ⟨g, 0, none⟩) 1 (fun _ => k) (fun _ => n) (fun _ => s) (fun _ => a) (fun _ => l) (fun _ => c)
    (by omega) (by omega) (Nat.zero_le _) (by simp) (.inr ⟨g, 0, rfl, hlt, fun i hi => ?_⟩) (fun i hi => ?_)
  · match i, hi with
    | 0, _ => exact ⟨by rw [Joins.cell_of_block h]; rfl, by rw [Joins.cell_of_block h]; rfl, by rw [Joins.cell_of_block h]; rfl, by rw [Joins.cell_of_block h]; rfl⟩
  · match i, hi with
    | 0, _ => exact hx

/-- the cells of the box -/
theorem box_kept {w w' : World} {a b c d : Value} (h : Below (w.heap.size + 1) (w.alloc (.cells #[a, b, c, d] 24)) w') :
    w'.cell? ⟨w.heap.size, 0, none⟩ = some a ∧ w'.cell? ⟨w.heap.size, 1, none⟩ = some b ∧ w'.cell? ⟨w.heap.size, 2, none⟩ = some c ∧ w'.cell? ⟨w.heap.size, 3, none⟩ = some d ∧ w.heap.size + 1 ≤ w'.heap.size := by
  have h0 : w'.heap[w.heap.size]? = some (.cells #[a, b, c, d] 24) := (h.block w.heap.size (by omega)).trans (heap_alloc_new w _)
  have hs := h.size
  exact ⟨by rw [Joins.cell_of_block h0]; rfl, by rw [Joins.cell_of_block h0]; rfl, by rw [Joins.cell_of_block h0]; rfl, by rw [Joins.cell_of_block h0]; rfl, by simpa using hs⟩

set_option maxHeartbeats 4000000 in
set_option maxRecDepth 100000 in
theorem roundtrip_walk (x : V) (v : Value) (bs : List UInt8) (ra : Option Addr) (rc : Nat) (W : World) (hx : Is W x v) (hr : Rest W.heap.size W bs (.slice ra bs.length rc)) :
    Calls Try.prog 6 #[v, .slice ra bs.length rc] W fun e w' => e = .returned (.bool true) ∧ Below W.heap.size W w' := by
  have HX := Lib.hid hx
  have HR := Lib.hid hr
  clear hr
  obtain ⟨k, n, s, l, a, c, _, _, _, _, _, _, _, _, _, _, _, _⟩ := hx
  have HB2 := Lib.hid (Joins.below_alloc1 W (.cells #[.int .i64 k, .int .i64 n, .string s, .slice a l.length c] 24))
  go_enter Try.func6, Try.ntmps6
  go_wp2_with fail
  refine (sane_call _).mono ?_
  rintro e w1 ⟨rfl, hb1⟩
  have HB1 : Hid (Below (W.heap.size + 1) (W.alloc (.cells #[.int .i64 k, .int .i64 n, .string s, .slice a l.length c] 24)) w1) := hb1.mono (by simp)
  have HW1 := Lib.hid (below_next HB2.out hb1)
  clear hb1
  obtain ⟨p0, p1, p2, p3, hsz⟩ := box_kept HB1.out
  go_wp2_with fail
  have HP : Hid ((w1.alloc (.cells #[.int .i64 k, .int .i64 n, .string s, .slice a l.length c] 24)).heap[w1.heap.size]? = some (.cells #[.int .i64 k, .int .i64 n, .string s, .slice a l.length c] 24)) := heap_alloc_new w1 _
  have HWA := Lib.hid (HW1.out.alloc HW1.out.size (.cells #[.int .i64 k, .int .i64 n, .string s, .slice a l.length c] 24))
  have HBA := Lib.hid (HB1.out.alloc hsz (.cells #[.int .i64 k, .int .i64 n, .string s, .slice a l.length c] 24))
  refine (few_call [.mk k n s l] (some ⟨w1.heap.size, 0, none⟩) 1 _ (is_one HP.out (Is.stays HX.out HWA.out))).mono ?_
  rintro e w2 ⟨rfl, hb2⟩
  have HW2 := Lib.hid (below_next HWA.out hb2)
  have HB3 := Lib.hid (HBA.out.trans (hb2.mono (by have := HBA.out.size; simp at this ⊢; omega)))
  clear hb2 p0 p1 p2 p3 hsz
  cases hfew : fewL [.mk k n s l] with
  | false =>
    go_wp2_with fail
    go_ret
    exact ⟨rfl, HW2.out⟩
  | true =>
    have hcx := fewL_mem hfew (.mk k n s l) (by simp)
    have HLX : Hid ((enc (.mk k n s l)).length ≤ 60000) := by have := cnt_enc 21 HX.out (by omega); unfold Hid; omega
    clear hcx hfew
    by_cases h2000 : 2000 < bs.length
    · have hd1 : decide ((2000 : Int) < (bs.length : Int)) = true := by simp; omega
      clear h2000
      go_wp2_with fail
      go_ret
      exact ⟨rfl, HW2.out⟩
    · have hd1 : decide ((2000 : Int) < (bs.length : Int)) = false := by simp; omega
      have HLEN : Hid (bs.length ≤ 2000) := by unfold Hid; omega
      clear h2000
      obtain ⟨p0, p1, p2, p3, hsz⟩ := box_kept HB3.out
      go_wp2_with fail
      refine (encode_call (.mk k n s l) _ _ (Is.stays HX.out HW2.out) (fun _ => Nat.le_trans HLX.out (by omega))).mono ?_
      rintro e w3 ⟨va, rfl, hb3, hA, _⟩
      have HA := Lib.hid hA
      have HW3 := Lib.hid (below_next HW2.out hb3)
      have HB4 := Lib.hid (HB3.out.trans (hb3.mono hsz))
      clear hA hb3 p0 p1 p2 p3 hsz hd1
      obtain ⟨p0, p1, p2, p3, hsz⟩ := box_kept HB4.out
      go_wp2_with fail
      refine (check_call (.mk k n s l) _ _ (Is.stays HX.out HW3.out)).mono ?_
      rintro e w4 ⟨rfl, hb4⟩
      have HQ4 := Lib.hid hb4
      have HW4 := Lib.hid (below_next HW3.out hb4)
      have HB5 := Lib.hid (HB4.out.trans (hb4.mono hsz))
      clear hb4 p0 p1 p2 p3 hsz
      have hcc : (code (.mk k n s l) != code (.mk k n s l)) = false := by simp
      by_cases h1 : code (.mk k n s l) = 0
      · have g1 : (code (.mk k n s l) == 0) = true := by simpa using h1
        have HC := Lib.hid h1
        obtain ⟨ac, cc, rfl, hRc⟩ := buf_rest (buf_stays (HA.out h1).1 HQ4.out)
        have HRc := Lib.hid hRc
        have HDE := Lib.hid (decode_enc HX.out h1 (Nat.le_trans HLX.out (by omega)))
        clear h1 hRc
        go_wp2_with fail
        refine (decode_call (enc (.mk k n s l)) ac cc _ HRc.out (Nat.le_trans HLX.out (by omega))).mono ?_
        rintro e w5 hq
        rw [HDE.out] at hq
        obtain ⟨pk, pn, ps, pa, pl, pc, rfl, hs5, hb5⟩ := hq
        have HS5 := Lib.hid hs5.is
        have HW5 := Lib.hid (below_next HW4.out hb5)
        have HB6 := Lib.hid (HB5.out.trans (hb5.mono (by have := HB5.out.size; simpa using this)))
        have HW6 := Lib.hid (HW5.out.alloc HW5.out.size (.cells #[.int .i64 pk, .int .i64 pn, .string ps, .slice pa pl pc] 24))
        have HB7 := Lib.hid (HB6.out.alloc (by have := HB6.out.size; simpa using this) (.cells #[.int .i64 pk, .int .i64 pn, .string ps, .slice pa pl pc] 24))
        clear hs5 hb5 hcc g1
        obtain ⟨p0, p1, p2, p3, hsz⟩ := box_kept HB7.out
        go_wp2_with fail
        refine (same_call (.mk k n s l) (.mk k n s l) _ _ _ true (Is.stays HX.out HW6.out) (Is.stays HS5.out (Joins.below_alloc1 w5 _)) ⟨fun _ => rfl, fun _ => rfl⟩).mono ?_
        rintro e w6 ⟨rfl, hb6⟩
        have HW7 := Lib.hid (below_next HW6.out hb6)
        have HB8 := Lib.hid (HB7.out.trans (hb6.mono hsz))
        have HQ6 := Lib.hid (below_next (Joins.below_alloc1 w5 _) hb6)
        obtain ⟨q0, q1, q2, q3⟩ := cells4_kept hb6
        clear hb6 p0 p1 p2 p3 hsz
        obtain ⟨p0, p1, p2, p3, hsz⟩ := box_kept HB8.out
        go_wp2_with fail
        refine (refsame_call (.mk k n s l) (.mk k n s l) _ _ _ true (Is.stays HX.out HW7.out) (Is.stays HS5.out HQ6.out) ⟨fun _ => rfl, fun _ => rfl⟩).mono ?_
        rintro e w7 ⟨rfl, hb7⟩
        have HW8 := Lib.hid (below_next HW7.out hb7)
        clear hb7 p0 p1 p2 p3 hsz q0 q1 q2 q3
        have HWc := Lib.hid (HW8.out)
        go_wp2_with fail
        refine (decode_call bs ra rc _ (rest_mono (HR.out.stays HWc.out) HWc.out.size) (by have := HLEN.out; omega)).mono ?_
        rintro e wd hq
        cases hdec : decode bs with
        | none =>
          rw [hdec] at hq
          obtain ⟨rfl, hbd⟩ := hq
          have HWd := Lib.hid (below_next HWc.out hbd)
          clear hbd
          go_wp2_with fail
          refine (same_call (.mk 0 0 ⟨#[]⟩ []) (.mk 0 0 ⟨#[]⟩ []) _ _ _ true (is_zero _ 0 (by omega)) (is_zero _ 0 (by omega)) ⟨fun _ => rfl, fun _ => rfl⟩).mono ?_
          rintro e we ⟨rfl, hbe⟩
          go_wp2_with fail
          go_ret
          exact ⟨rfl, below_next (HWd.out.alloc HWd.out.size _) hbe⟩
        | some y =>
          rw [hdec] at hq
          obtain ⟨hey, hcy⟩ := enc_decode hdec
          have HEY := Lib.hid hey
          have HCY := Lib.hid hcy
          clear hdec hey hcy
          obtain ⟨yk, yn, ys, ya, yl, yc, rfl, hsy, hbd⟩ := hq
          have HY := Lib.hid hsy.is
          have HWd := Lib.hid (below_next HWc.out hbd)
          have HWe := Lib.hid (HWd.out.alloc HWd.out.size (.cells #[.int .i64 yk, .int .i64 yn, .string ys, .slice ya yl yc] 24))
          clear hsy hbd
          go_wp2_with fail
          refine (encode_call y _ _ (Is.stays HY.out (Joins.below_alloc1 wd _)) (fun _ => by rw [HEY.out]; have := HLEN.out; omega)).mono ?_
          rintro e we ⟨vc, he, hbe, hC, _⟩
          rw [HCY.out] at he
          subst he
          have hB1 := (hC HCY.out).1
          rw [HEY.out] at hB1
          have cvc := conv_buf hB1
          have HWf := Lib.hid (below_next HWe.out hbe)
          have HBe := Lib.hid hbe
          have cvr := conv_rest (HR.out.stays HWf.out)
          have HYe := Lib.hid (Is.stays HY.out (below_next (Joins.below_alloc1 wd _) hbe))
          obtain ⟨q0, q1, q2, q3⟩ := cells4_kept hbe
          clear hbe hC hB1
          go_wp2_with fail
          refine (check_call y _ _ HYe.out).mono ?_
          rintro e wf ⟨he, hbf⟩
          rw [HCY.out] at he
          subst he
          go_wp2_with fail
          go_ret
          exact ⟨rfl, below_next HWf.out hbf⟩
      · have g1 : (code (.mk k n s l) == 0) = false := by simpa using h1
        clear h1
        have HWc := Lib.hid (HW4.out)
        go_wp2_with fail
        refine (decode_call bs ra rc _ (rest_mono (HR.out.stays HWc.out) HWc.out.size) (by have := HLEN.out; omega)).mono ?_
        rintro e wd hq
        cases hdec : decode bs with
        | none =>
          rw [hdec] at hq
          obtain ⟨rfl, hbd⟩ := hq
          have HWd := Lib.hid (below_next HWc.out hbd)
          clear hbd
          go_wp2_with fail
          refine (same_call (.mk 0 0 ⟨#[]⟩ []) (.mk 0 0 ⟨#[]⟩ []) _ _ _ true (is_zero _ 0 (by omega)) (is_zero _ 0 (by omega)) ⟨fun _ => rfl, fun _ => rfl⟩).mono ?_
          rintro e we ⟨rfl, hbe⟩
          go_wp2_with fail
          go_ret
          exact ⟨rfl, below_next (HWd.out.alloc HWd.out.size _) hbe⟩
        | some y =>
          rw [hdec] at hq
          obtain ⟨hey, hcy⟩ := enc_decode hdec
          have HEY := Lib.hid hey
          have HCY := Lib.hid hcy
          clear hdec hey hcy
          obtain ⟨yk, yn, ys, ya, yl, yc, rfl, hsy, hbd⟩ := hq
          have HY := Lib.hid hsy.is
          have HWd := Lib.hid (below_next HWc.out hbd)
          have HWe := Lib.hid (HWd.out.alloc HWd.out.size (.cells #[.int .i64 yk, .int .i64 yn, .string ys, .slice ya yl yc] 24))
          clear hsy hbd
          go_wp2_with fail
          refine (encode_call y _ _ (Is.stays HY.out (Joins.below_alloc1 wd _)) (fun _ => by rw [HEY.out]; have := HLEN.out; omega)).mono ?_
          rintro e we ⟨vc, he, hbe, hC, _⟩
          rw [HCY.out] at he
          subst he
          have hB1 := (hC HCY.out).1
          rw [HEY.out] at hB1
          have cvc := conv_buf hB1
          have HWf := Lib.hid (below_next HWe.out hbe)
          have HBe := Lib.hid hbe
          have cvr := conv_rest (HR.out.stays HWf.out)
          have HYe := Lib.hid (Is.stays HY.out (below_next (Joins.below_alloc1 wd _) hbe))
          obtain ⟨q0, q1, q2, q3⟩ := cells4_kept hbe
          clear hbe hC hB1
          go_wp2_with fail
          refine (check_call y _ _ HYe.out).mono ?_
          rintro e wf ⟨he, hbf⟩
          rw [HCY.out] at he
          subst he
          go_wp2_with fail
          go_ret
          exact ⟨rfl, below_next HWf.out hbf⟩
end Go.Proofs.Ytgliddedimpgaaa
