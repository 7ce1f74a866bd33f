/- The specification's Decode: for all bytes, the value whose encoding they are, or the error. -/
import Derived.Test.YtgliddedimpgaaaRg
import Derived.Test.YtgliddedimpgaaaRe
import Derived.Test.YtgliddedimpgaaaZ
import Derived.Test.YtgliddedimpgaaaSr
import Derived.Deep.RegionHeld3
namespace Go.Proofs.Ytgliddedimpgaaa
open Go.RowKit

/-- what the specification's Decode leaves -/
def RDec (w w' : World) (o : Option V) (e : Ending) : Prop :=
  match o with
  | some x => ∃ (k n : Int) (s : ByteArray) (a : Option Addr) (l c : Nat), e = .returned (.tuple #[val k n s a l c, .int .i64 0]) ∧ Is w' x (val k n s a l c) ∧ Below w.heap.size w w'
  | none => e = .returned (.tuple #[val 0 0 ⟨#[]⟩ none 0 0, .int .i64 10]) ∧ Below w.heap.size w w'

theorem rdec_ok {w w' : World} {o : Option V} {x : V} {k n : Int} {s : ByteArray} {a : Option Addr} {l c : Nat} (ho : o = some x) (h1 : Is w' x (val k n s a l c)) (h3 : Below w.heap.size w w') : RDec w w' o (.returned (.tuple #[val k n s a l c, .int .i64 0])) := by
  subst ho; exact ⟨k, n, s, a, l, c, rfl, h1, h3⟩
theorem rdec_bad {w w' : World} {o : Option V} (ho : o = none) (h3 : Below w.heap.size w w') : RDec w w' o (.returned (.tuple #[val 0 0 ⟨#[]⟩ none 0 0, .int .i64 10])) := by
  subst ho; exact ⟨rfl, h3⟩

theorem keep6c {w1 w2 : World} {p0 p1 p2 p3 p4 p5 : Addr} {v0 v1 v2 v3 v4 v5 : Value} (hb : Below w1.heap.size w1 w2)
    (h0 : w1.cell? p0 = some v0) (h1 : w1.cell? p1 = some v1) (h2 : w1.cell? p2 = some v2) (h3 : w1.cell? p3 = some v3) (h4 : w1.cell? p4 = some v4) (h5 : w1.cell? p5 = some v5) :
    w2.cell? p0 = some v0 ∧ w2.cell? p1 = some v1 ∧ w2.cell? p2 = some v2 ∧ w2.cell? p3 = some v3 ∧ w2.cell? p4 = some v4 ∧ w2.cell? p5 = some v5 :=
  ⟨keepC hb h0, keepC hb h1, keepC hb h2, keepC hb h3, keepC hb h4, keepC hb h5⟩

theorem sure_set4 {N : Nat} {w1 w' : World} {x : V} {v v0 v1 v2 v3 : Value} (h : Sure (fun b => N + 2 ≤ b) w1 x v) (hb : Below w1.heap.size w1 w') :
    Is ((((w'.setCell ⟨N, 0, none⟩ v0).setCell ⟨N, 1, none⟩ v1).setCell ⟨N, 2, none⟩ v2).setCell ⟨N, 3, none⟩ v3) x v :=
  (h.later (q := fun b => N + 2 ≤ b) (by have := hb.size; simp; exact this) (fun k hk hp => by
    rw [Below.heap_setCell _ _ _ k (by simp; omega), Below.heap_setCell _ _ _ k (by simp; omega), Below.heap_setCell _ _ _ k (by simp; omega), Below.heap_setCell _ _ _ k (by simp; omega)]
    exact hb.block k hk) (fun _ _ hp => hp)).is

set_option maxHeartbeats 4000000 in
set_option maxRecDepth 100000 in
theorem refdecode_call (bs : List UInt8) (a : Option Addr) (cap : Nat) (w : World) (h : Rest w.heap.size w bs (.slice a bs.length cap)) (hlen : bs.length ≤ 1000000) :
    Calls Try.prog 19 #[.slice a bs.length cap] w fun e w' => RDec w w' (decode bs) e := by
  have HR := Lib.hid h
  have HRR : Hid (RR w.heap.size (w.heap.size + 1) ((w.alloc zeroCells4).alloc (.cells #[.slice a bs.length cap, .int .i64 ((0 : Nat) : Int), .bool false] 54)) a cap bs 0 false) :=
    ⟨by omega, by omega, hlen, by have := heap_alloc_new (w.alloc zeroCells4) (.cells #[.slice a bs.length cap, .int .i64 ((0 : Nat) : Int), .bool false] 54); simpa using this, h.stays (Joins.below_alloc2 w _ _)⟩
  clear h
  go_enter Try.func19, Try.ntmps19
  go_wp2_with fail
  refine (refval_call 16 0 w.heap.size (w.heap.size + 1) _ a cap bs 0 rfl HRR.out).mono ?_
  rintro e w1 ⟨k, n, s, va, l, c, q, bad, rfl, hr1, ho1, hout⟩
  have HR1 := Lib.hid hr1
  have HO1 := Lib.hid ho1
  have HOUT := Lib.hid hout
  clear hr1 ho1 hout
  have HW1 : Hid (Below w.heap.size w w1) := (Joins.below_alloc2 w _ _).trans (HO1.out.below (Nat.le_succ _) (by simp; omega))
  have hz : w1.heap[w.heap.size]? = some zeroCells4 := by
    have h0 := heap_alloc_new w zeroCells4
    have h1 : ((w.alloc zeroCells4).alloc (.cells #[.slice a bs.length cap, .int .i64 ((0 : Nat) : Int), .bool false] 54)).heap[w.heap.size]? = some zeroCells4 := by
      rw [Below.heap_alloc _ _ _ (by simp)]; exact h0
    rw [HO1.out.block w.heap.size (by simp; omega) (fun h => by injection h with h; omega)]
    exact h1
  have hs1 : w.heap.size + 1 < w1.heap.size := HR1.out.hi
  have HWA := Lib.hid (HW1.out.alloc HW1.out.size (.cells #[.int .i64 k, .int .i64 n, .string s, .slice va l c] 24))
  have HRA := Lib.hid (HR1.out.stays (Joins.below_alloc1 w1 (.cells #[.int .i64 k, .int .i64 n, .string s, .slice va l c] 24)) hs1)
  obtain ⟨y0, y1, y2, y3, y4, y5, y6, y7, _⟩ := block4 (heap_alloc_new w1 (.cells #[.int .i64 k, .int .i64 n, .string s, .slice va l c] 24))
  obtain ⟨z0, z1, z2, z3, z4, z5, z6, z7, _⟩ := block4 ((Below.heap_alloc w1 (.cells #[.int .i64 k, .int .i64 n, .string s, .slice va l c] 24) w.heap.size (by omega)).trans hz)
  have HB12 := Lib.hid (Joins.below_alloc1 w1 (.cells #[.int .i64 k, .int .i64 n, .string s, .slice va l c] 24))
  have HZ := Lib.hid ((Below.heap_alloc w1 (.cells #[.int .i64 k, .int .i64 n, .string s, .slice va l c] 24) w.heap.size (by omega)).trans hz)
  clear hz
  go_wp2_with fail
  generalize w1.alloc (.cells #[.int .i64 k, .int .i64 n, .string s, .slice va l c] 24) = w2 at HWA HRA HB12 HZ y0 y1 y2 y3 y4 y5 y6 y7 z0 z1 z2 z3 z4 z5 z6 z7 ⊢
  obtain ⟨c0, c1, c2, f0, f1, f2⟩ := HRA.out.cells
  cases bad with
  | true =>
    have HN : Hid (decode bs = none) := by
      have h1 := HOUT.out
      unfold ValOut at h1
      unfold Hid decode
      rw [List.drop_zero] at h1
      cases hd : dec 16 bs with
      | none => rfl
      | some p => obtain ⟨x, r⟩ := p; rw [hd] at h1; cases h1.1
    go_quiet (fail)
    go_wp2_with fail
    refine bodyPost_ret (v := .tuple #[val 0 0 ⟨#[]⟩ none 0 0, .int .i64 10]) (by simp [results, Try.results19, go_sem, z0, z1, z2, z3, z4, z5, z6, z7]) rfl (rdec_bad HN.out (below_set4 (HWA.out.trans (Joins.below_draws _ _ _))))
  | false =>
    by_cases hq : q = bs.length
    · have hD : ∃ x, decode bs = some x ∧ Is w2 x (val k n s va l c) ∧ Sure (fun b => w.heap.size + 2 ≤ b) w1 x (val k n s va l c) := by
        have h1 := HOUT.out
        unfold ValOut at h1
        unfold decode
        rw [List.drop_zero] at h1
        cases hd : dec 16 bs with
        | none => rw [hd] at h1; cases h1
        | some p =>
          obtain ⟨x, r⟩ := p
          rw [hd] at h1
          obtain ⟨_, rfl, hs⟩ := h1
          refine ⟨x, ?_, Is.stays hs.is HB12.out, by simpa using hs⟩
          rw [hq, List.drop_length]
      obtain ⟨x, hx, his, hsu⟩ := hD
      have HSU := Lib.hid hsu
      clear hsu
      obtain ⟨hen, hco⟩ := enc_decode hx
      obtain ⟨hfo, hde⟩ := code_ok hco
      have HX := Lib.hid hx
      have HIS := Lib.hid his
      have HEN := Lib.hid hen
      have HFO := Lib.hid hfo
      have HDE := Lib.hid hde
      have hc0 : (code x != 0) = false := by rw [hco]; rfl
      have HEL : Hid ((enc x).length ≤ 1000000) := by unfold Hid; rw [hen]; exact hlen
      have HCV : Hid (∀ w', Below w2.heap.size w2 w' → (convert 27 9 (.slice a bs.length cap)).run Try.prog w' = .ok (.string ⟨bs.toArray⟩) w') := fun w' hb => conv_rest (HR.out.stays (below_next HWA.out hb))
      have HV := Lib.hid (Below.refl w2.heap.size w2).drew
      have cv0 := HCV.out _ HV.out
      have hd : (((q : Nat) : Int) != ((bs.length : Nat) : Int)) = false := by simp; omega
      have hd2 : (q != bs.length) = false := by simp; exact hq
      clear hx his hen hco hfo hde hq
      have HK : Hid (∀ w', Below w2.heap.size w2 w' → w'.cell? ⟨w.heap.size + 1, 1, none⟩ = some (.int .i64 (q : Int)) ∧ w'.cell? ⟨w.heap.size + 1, 2, none⟩ = some (.bool false) ∧ w'.cell? ⟨w1.heap.size, 0, none⟩ = some (.int .i64 k) ∧ w'.cell? ⟨w1.heap.size, 1, none⟩ = some (.int .i64 n) ∧ w'.cell? ⟨w1.heap.size, 2, none⟩ = some (.string s) ∧ w'.cell? ⟨w1.heap.size, 3, none⟩ = some (.slice va l c)) := fun w' hb => keep6c hb c1 c2 y0 y1 y2 y3
      go_region_law (first
        | (go_simp; go_at_call 17; refine (refcheck_call x (Nat.le_trans HDE.out (by omega)) _ _ (Is.stays HIS.out HV.out)).mono ?_; rintro e wz ⟨rfl, hbz⟩; have HV := Lib.hid (below_next HV.out hbz); have cv1 := HCV.out _ HV.out; obtain ⟨q1, q2, q3, q4, q5, q6⟩ := HK.out _ HV.out)
        | (go_simp; go_at_call 28; refine (refenc_call x _ _ (Is.stays HIS.out HV.out) HFO.out HEL.out).mono ?_; rintro e wz2 ⟨v2, rfl, hB, hlo, hbz⟩; have HV := Lib.hid (below_next HV.out hbz); have cv3 := HCV.out _ HV.out; have cv2 := conv_buf hB; rw [HEN.out] at cv2))
      all_goals obtain ⟨q1, q2, q3, q4, q5, q6⟩ := HK.out _ HV.out
      all_goals obtain ⟨x0, x1, x2, x3, x4, x5, x6, x7, _⟩ := block4 ((HV.out.block w.heap.size (by have := HB12.out.size; omega)).trans HZ.out)
      all_goals go_wp2_with fail
      all_goals refine bodyPost_ret (v := .tuple #[val k n s va l c, .int .i64 0]) (by simp [results, Try.results19, go_sem, x0, x1, x2, x3, x4, x5, x6, x7]) rfl (rdec_ok HX.out (sure_set4 HSU.out (HB12.out.trans (HV.out.mono HB12.out.size))) (below_set4 (below_next HWA.out HV.out)))
    · have HN : Hid (decode bs = none) := by
        have h1 := HOUT.out
        have h2 := HRA.out.le
        unfold ValOut at h1
        unfold Hid decode
        rw [List.drop_zero] at h1
        cases hd : dec 16 bs with
        | none => rfl
        | some p =>
          obtain ⟨x, r⟩ := p
          rw [hd] at h1
          obtain ⟨_, rfl, _⟩ := h1
          cases hr : bs.drop q with
          | nil => have := congrArg List.length hr; rw [List.length_drop] at this; simp at this; omega
          | cons d r => rfl
      have hd : (((q : Nat) : Int) != ((bs.length : Nat) : Int)) = true := by simp; omega
      have hd2 : (q != bs.length) = true := by simp; exact hq
      clear hq
      go_quiet (fail)
      go_wp2_with fail
      refine bodyPost_ret (v := .tuple #[val 0 0 ⟨#[]⟩ none 0 0, .int .i64 10]) (by simp [results, Try.results19, go_sem, z0, z1, z2, z3, z4, z5, z6, z7]) rfl (rdec_bad HN.out (below_set4 (HWA.out.trans (Joins.below_draws _ _ _))))
end Go.Proofs.Ytgliddedimpgaaa
