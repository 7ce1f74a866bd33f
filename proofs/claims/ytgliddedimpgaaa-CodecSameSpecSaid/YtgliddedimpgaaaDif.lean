/- The statement on different values, as a walk: for every two values the law returns true and changes nothing that was there. -/
import Derived.Test.YtgliddedimpgaaaU
import Derived.Test.YtgliddedimpgaaaY
import Derived.Test.YtgliddedimpgaaaO
namespace Go.Proofs.Ytgliddedimpgaaa
open Go.RowKit

/-- a list of two in one new block -/
theorem is_two {w : World} {g : Nat} {x y : V} {k n : Int} {s : ByteArray} {a : Option Addr} {l c : Nat} {k' n' : Int} {s' : ByteArray} {a' : Option Addr} {l' c' : Nat}
    (h : w.heap[g]? = some (.cells #[.int .i64 k, .int .i64 n, .string s, .slice a l c, .int .i64 k', .int .i64 n', .string s', .slice a' l' c'] 24)) (hx : Is w x (val k n s a l c)) (hy : Is w y (val k' n' s' a' l' c')) :
    Is w (.mk 3 0 ⟨#[]⟩ [x, y]) (val 3 0 ⟨#[]⟩ (some ⟨g, 0, none⟩) 2 2) := by
  have hlt : g < w.heap.size := (Array.getElem?_eq_some_iff.1 h).1
  refine .mk 3 0 ⟨#[]⟩ [x, y] (some ⟨g, 0, none⟩) 2 (fun i => if i = 0 then k else k') (fun i => if i = 0 then n else n') (fun i => if i = 0 then s else s') (fun i => if i = 0 then a else a') (fun i => if i = 0 then l else l') (fun i => if i = 0 then c else c')
    (by omega) (by omega) (Nat.zero_le _) (by simp) (.inr ⟨g, 0, rfl, hlt, fun i hi => ?_⟩) (fun i hi => ?_)
  · match i, hi with
    | 0, _ => exact ⟨by rw [Joins.cell_of_block h]; rfl, by rw [Joins.cell_of_block h]; rfl, by rw [Joins.cell_of_block h]; rfl, by rw [Joins.cell_of_block h]; rfl⟩
    | 1, _ => exact ⟨by rw [Joins.cell_of_block h]; rfl, by rw [Joins.cell_of_block h]; rfl, by rw [Joins.cell_of_block h]; rfl, by rw [Joins.cell_of_block h]; rfl⟩
  · match i, hi with
    | 0, _ => exact hx
    | 1, _ => exact hy

/-- the cells of the two boxes -/
theorem boxes_kept {w w' : World} {a b c d a' b' c' d' : Value} (h : Below (w.heap.size + 2) ((w.alloc (.cells #[a, b, c, d] 24)).alloc (.cells #[a', b', c', d'] 24)) w') :
    w'.cell? ⟨w.heap.size, 0, none⟩ = some a ∧ w'.cell? ⟨w.heap.size, 1, none⟩ = some b ∧ w'.cell? ⟨w.heap.size, 2, none⟩ = some c ∧ w'.cell? ⟨w.heap.size, 3, none⟩ = some d ∧
    w'.cell? ⟨w.heap.size + 1, 0, none⟩ = some a' ∧ w'.cell? ⟨w.heap.size + 1, 1, none⟩ = some b' ∧ w'.cell? ⟨w.heap.size + 1, 2, none⟩ = some c' ∧ w'.cell? ⟨w.heap.size + 1, 3, none⟩ = some d' ∧ w.heap.size + 2 ≤ w'.heap.size := by
  have h0 : w'.heap[w.heap.size]? = some (.cells #[a, b, c, d] 24) := (h.block w.heap.size (by omega)).trans ((Below.heap_alloc _ _ _ (by simp)).trans (heap_alloc_new w _))
  have h1 : w'.heap[w.heap.size + 1]? = some (.cells #[a', b', c', d'] 24) := by
    have := heap_alloc_new (w.alloc (.cells #[a, b, c, d] 24)) (.cells #[a', b', c', d'] 24)
    exact (h.block (w.heap.size + 1) (by omega)).trans (by simpa using this)
  have hs := h.size
  refine ⟨by rw [Joins.cell_of_block h0]; rfl, by rw [Joins.cell_of_block h0]; rfl, by rw [Joins.cell_of_block h0]; rfl, by rw [Joins.cell_of_block h0]; rfl, by rw [Joins.cell_of_block h1]; rfl, by rw [Joins.cell_of_block h1]; rfl, by rw [Joins.cell_of_block h1]; rfl, by rw [Joins.cell_of_block h1]; rfl, by simp at hs; omega⟩

theorem prefix_ne {B B' : Nat} {w w' : World} {x y : V} {v u : Value} (hx : IsB B w x v) (hy : IsB B' w' y u) (cx : code x = 0) (cy : code y = 0) (lx : (enc x).length ≤ 35184372088832) (ly : (enc y).length ≤ 35184372088832) (hne : ¬ x = y) (n : Nat) (hn : n = min (enc x).length (enc y).length) : ¬ (enc x).take n = (enc y).take n := by
  intro h
  rcases Nat.le_total (enc x).length (enc y).length with hle | hle
  · rw [Nat.min_eq_left hle] at hn
    subst hn
    rw [List.take_length] at h
    exact hne (enc_prefix hx hy cx cy lx ly hle h.symm)
  · rw [Nat.min_eq_right hle] at hn
    subst hn
    rw [List.take_length] at h
    exact hne (enc_prefix hy hx cy cx ly lx hle h).symm

/-- string(b[:n]) of a buffer -/
theorem conv_take {w : World} {g L cap : Nat} {xs : List UInt8} (h : Buf w (.slice (some ⟨g, 0, none⟩) L cap) xs) (n : Nat) (hn : n ≤ xs.length) : ∀ nq, (convert 27 9 (.slice (some ⟨g, 0, none⟩) n cap)).run Try.prog (w.drewN nq) = .ok (.string ⟨(xs.take n).toArray⟩) (w.drewN nq) := by
  intro nq
  have hlen : (xs.take n).length = n := by rw [List.length_take]; omega
  have := run_convert_bytes_back (P := Try.prog) (w.drewN nq) 27 9 5 ⟨g, 0, none⟩ cap (xs.take n) Try.underlying27 Try.underlying5 Try.underlying9 (fun j hj => by
    have hj2 : j < xs.length := by rw [hlen] at hj; omega
    have hc := World.ownsRow.cells h (g := g) rfl j (.int .u8 (xs[j].toNat : Int)) (by simp [cellsOf, hj2])
    have hc2 : (w.drewN nq).cell? ((⟨g, 0, none⟩ : Addr).add j) = w.cell? ((⟨g, 0, none⟩ : Addr).add j) := by simp
    rw [hc2, hc]; simp)
  rw [hlen] at this
  exact this

theorem buf_cap {w : World} {g L cap : Nat} {xs : List UInt8} (h : Buf w (.slice (some ⟨g, 0, none⟩) L cap) xs) : L ≤ cap ∧ cap ≤ 9223372036854775807 := by
  rcases h.2 with ⟨h0, _⟩ | ⟨g2, cap2, cur, he, _, hg, hnc, hcm, hcs, htake⟩
  · cases h0
  · injection he with h1 h2 h3
    subst h2 h3
    exact ⟨hnc, by unfold maxLen at hcm; omega⟩

theorem str_ne {a b : List UInt8} (h : ¬ a = b) : ¬ (⟨a.toArray⟩ : ByteArray).toList = (⟨b.toArray⟩ : ByteArray).toList := by
  rw [str_list, str_list]; simpa using h

set_option maxHeartbeats 4000000 in
set_option maxRecDepth 100000 in
theorem different_walk (x y : V) (v u : Value) (W : World) (hx : Is W x v) (hy : Is W y u) : Calls Try.prog 7 #[v, u] W fun e w' => e = .returned (.bool true) ∧ Below W.heap.size W w' := by
  have HX := Lib.hid hx
  have HY := Lib.hid hy
  obtain ⟨k, n, s, l, a, c, _, _, _, _, _, _, _, _, _, _, _, _⟩ := hx
  obtain ⟨k', n', s', l', a', c', _, _, _, _, _, _, _, _, _, _, _, _⟩ := hy
  have HB2 := Lib.hid (Joins.below_alloc2 W (.cells #[.int .i64 k, .int .i64 n, .string s, .slice a l.length c] 24) (.cells #[.int .i64 k', .int .i64 n', .string s', .slice a' l'.length c'] 24))
  go_enter Try.func7, Try.ntmps7
  go_wp2_with fail
  refine (sane_call _).mono ?_
  rintro e w1 ⟨rfl, hb1⟩
  have HB1 : Hid (Below (W.heap.size + 2) ((W.alloc (.cells #[.int .i64 k, .int .i64 n, .string s, .slice a l.length c] 24)).alloc (.cells #[.int .i64 k', .int .i64 n', .string s', .slice a' l'.length c'] 24)) w1) := hb1.mono (by simp)
  have HW1 := Lib.hid (below_next HB2.out hb1)
  clear hb1
  obtain ⟨p0, p1, p2, p3, q0, q1, q2, q3, hsz⟩ := boxes_kept HB1.out
  go_wp2_with fail
  have HP : Hid ((w1.alloc (.cells #[.int .i64 k, .int .i64 n, .string s, .slice a l.length c, .int .i64 k', .int .i64 n', .string s', .slice a' l'.length c'] 24)).heap[w1.heap.size]? = some (.cells #[.int .i64 k, .int .i64 n, .string s, .slice a l.length c, .int .i64 k', .int .i64 n', .string s', .slice a' l'.length c'] 24)) := heap_alloc_new w1 _
  have HWA := Lib.hid (HW1.out.alloc HW1.out.size (.cells #[.int .i64 k, .int .i64 n, .string s, .slice a l.length c, .int .i64 k', .int .i64 n', .string s', .slice a' l'.length c'] 24))
  have HBA := Lib.hid (HB1.out.alloc hsz (.cells #[.int .i64 k, .int .i64 n, .string s, .slice a l.length c, .int .i64 k', .int .i64 n', .string s', .slice a' l'.length c'] 24))
  refine (few_call [.mk k n s l, .mk k' n' s' l'] (some ⟨w1.heap.size, 0, none⟩) 2 _ (is_two HP.out (Is.stays HX.out HWA.out) (Is.stays HY.out HWA.out))).mono ?_
  rintro e w2 ⟨rfl, hb2⟩
  have HW2 := Lib.hid (below_next HWA.out hb2)
  have HB3 := Lib.hid (HBA.out.trans (hb2.mono (by have := HBA.out.size; simp at this ⊢; omega)))
  clear hb2 p0 p1 p2 p3 q0 q1 q2 q3 hsz
  cases hfew : fewL [.mk k n s l, .mk k' n' s' l'] with
  | false =>
    go_wp2_with fail
    go_ret
    exact ⟨rfl, HW2.out⟩
  | true =>
    have hcx := fewL_mem hfew (.mk k n s l) (by simp)
    have hcy := fewL_mem hfew (.mk k' n' s' l') (by simp)
    have HLX : Hid ((enc (.mk k n s l)).length ≤ 60000) := by have := cnt_enc 21 HX.out (by omega); unfold Hid; omega
    have HLY : Hid ((enc (.mk k' n' s' l')).length ≤ 60000) := by have := cnt_enc 21 HY.out (by omega); unfold Hid; omega
    clear hcx hcy hfew
    obtain ⟨p0, p1, p2, p3, q0, q1, q2, q3, hsz⟩ := boxes_kept HB3.out
    go_wp2_with fail
    refine (encode_call (.mk k n s l) _ _ (Is.stays HX.out HW2.out) (fun _ => Nat.le_trans HLX.out (by omega))).mono ?_
    rintro e w3 ⟨va, rfl, hb3, hA, _⟩
    have HA := Lib.hid hA
    have HW3 := Lib.hid (below_next HW2.out hb3)
    have HB4 := Lib.hid (HB3.out.trans (hb3.mono hsz))
    clear hA hb3 p0 p1 p2 p3 q0 q1 q2 q3 hsz
    obtain ⟨p0, p1, p2, p3, q0, q1, q2, q3, hsz⟩ := boxes_kept HB4.out
    go_wp2_with fail
    refine (encode_call (.mk k' n' s' l') _ _ (Is.stays HY.out HW3.out) (fun _ => Nat.le_trans HLY.out (by omega))).mono ?_
    rintro e w4 ⟨vb, rfl, hb4, hB, _⟩
    have HBB := Lib.hid hB
    have HQ4 := Lib.hid hb4
    have HW4 := Lib.hid (below_next HW3.out hb4)
    have HB5 := Lib.hid (HB4.out.trans (hb4.mono hsz))
    clear hB hb4 p0 p1 p2 p3 q0 q1 q2 q3 hsz
    obtain ⟨p0, p1, p2, p3, q0, q1, q2, q3, hsz⟩ := boxes_kept HB5.out
    by_cases h1 : code (.mk k n s l) = 0
    · have g1 : (code (.mk k n s l) != 0) = false := by rw [h1]; rfl
      by_cases h2 : code (.mk k' n' s' l') = 0
      · have g2 : (code (.mk k' n' s' l') != 0) = false := by rw [h2]; rfl
        have HC1 := Lib.hid h1
        have HC2 := Lib.hid h2
        clear h1 h2
        go_wp2_with fail
        by_cases hxy : V.mk k n s l = V.mk k' n' s' l'
        · refine (same_call (.mk k n s l) (.mk k' n' s' l') _ _ _ true (Is.stays HX.out HW4.out) (Is.stays HY.out HW4.out) ⟨fun _ => hxy, fun _ => rfl⟩).mono ?_
          rintro e w5 ⟨rfl, hb5⟩
          have cva := conv_buf (buf_stays (HA.out HC1.out).1 (below_next HQ4.out hb5))
          have cvb := conv_buf (buf_stays (HBB.out HC2.out).1 hb5)
          rw [← hxy] at cvb
          have HW5 := Lib.hid (below_next HW4.out hb5)
          clear hxy
          go_wp2_with fail
          go_ret
          exact ⟨rfl, HW5.out⟩
        · refine (same_call (.mk k n s l) (.mk k' n' s' l') _ _ _ false (Is.stays HX.out HW4.out) (Is.stays HY.out HW4.out) ⟨fun h => by (cases h), fun h => absurd h hxy⟩).mono ?_
          rintro e w5 ⟨rfl, hb5⟩
          have HPN := Lib.hid (prefix_ne HX.out HY.out HC1.out HC2.out (Nat.le_trans HLX.out (by omega)) (Nat.le_trans HLY.out (by omega)) hxy)
          obtain ⟨ga, ca, rfl⟩ := Joins.ownsRow_form (buf_stays (HA.out HC1.out).1 (below_next HQ4.out hb5)) (enc_pos _)
          obtain ⟨gb, cb, rfl⟩ := Joins.ownsRow_form (buf_stays (HBB.out HC2.out).1 hb5) (enc_pos _)
          have HW5 := Lib.hid (below_next HW4.out hb5)
          obtain ⟨M, hM⟩ : ∃ M : Nat, M = min (enc (V.mk k n s l)).length (enc (V.mk k' n' s' l')).length := ⟨_, rfl⟩
          have hMa : M ≤ (enc (V.mk k n s l)).length := by omega
          have hMb : M ≤ (enc (V.mk k' n' s' l')).length := by omega
          have cva := conv_take (buf_stays (HA.out HC1.out).1 (below_next HQ4.out hb5)) M hMa
          have cvb := conv_take (buf_stays (HBB.out HC2.out).1 hb5) M hMb
          have kca := buf_cap (buf_stays (HA.out HC1.out).1 (below_next HQ4.out hb5))
          have kcb := buf_cap (buf_stays (HBB.out HC2.out).1 hb5)
          obtain ⟨kca1, kca2⟩ := kca
          obtain ⟨kcb1, kcb2⟩ := kcb
          have hmin : min (((enc (V.mk k n s l)).length : Nat) : Int) (((enc (V.mk k' n' s' l')).length : Nat) : Int) = (M : Int) := by omega
          have HSN := Lib.hid (HPN.out M hM)
          have hs1 := str_ne HSN.out
          have hs2 : ((⟨((enc (V.mk k n s l)).take M).toArray⟩ : ByteArray).toList == (⟨((enc (V.mk k' n' s' l')).take M).toArray⟩ : ByteArray).toList) = false := by simpa using hs1
          clear hxy hM
          go_wp2_with fail
          go_quiet (fail)
          go_wp2_with fail
          go_ret
          exact ⟨retB (by simpa using HSN.out), HW5.out.trans (Joins.below_draws _ _ _)⟩
      · have g2 : (code (.mk k' n' s' l') != 0) = true := by simpa using h2
        go_wp2_with fail
        go_ret
        exact ⟨rfl, HW4.out⟩
    · have g1 : (code (.mk k n s l) != 0) = true := by simpa using h1
      go_wp2_with fail
      go_ret
      exact ⟨rfl, HW4.out⟩
end Go.Proofs.Ytgliddedimpgaaa
