/- The specification's way to combine two sets: put. -/
import Derived.Test.YtiicjmbnkjociaaDoorZb
namespace Go.Proofs.YtiicjmbnkjociaaDoor
open Go.RowKit

theorem wk1 (k : Nat) (h : k ≤ 100000) : IntKind.i64.wrap ((k : Int) + 1) = (k : Int) + 1 := by rw [IntKind.wrap_i64]; omega
/-- the end of a list of numbers, as a slice of it says it -/
theorem IRest.tailA {B : Nat} {w : World} {l : List Int} {a : Option Addr} {n cap : Nat} (h : IRest B w l (.slice a n cap)) (k : Nat) (hk : k ≤ l.length) {sv : Value} {a2 : Option Addr} {n2 c2 : Nat} (hsv : sv = .slice a2 n2 c2) (hn : n2 = l.length - k ∧ n2 ≤ c2) (hc : c2 ≤ maxLen) (ha : k < l.length → a2 = a.map (·.add k)) : IRest B w (l.drop k) sv := by
  subst hsv
  obtain ⟨a', c', he, -, -, h5, h6⟩ := h.tail k hk
  refine ⟨a2, c2, by rw [List.length_drop, hn.1], by rw [List.length_drop]; omega, hc, h5, ?_⟩
  rcases Nat.lt_or_ge k l.length with h7 | h7
  · rw [ha h7]
    injection he with e1 _ _
    rw [e1]; exact h6
  · exact .inl (by rw [List.length_drop]; omega)
set_option maxHeartbeats 8000000 in
set_option maxRecDepth 100000 in
theorem put_call (zs : List Int) (v : Value) (n : Int) (B : Nat) (w : World) (h : IRest B w zs v) (hB : B ≤ w.heap.size) (hn : I64 n) (hz : zs.length ≤ 100000) :
    Calls Tryd.prog 55 #[v, .int .i64 n] w fun e w' => ∃ v', e = .returned v' ∧ IRest w'.heap.size w' (putF zs n) v' ∧ Below w.heap.size w w' := by
  obtain ⟨a, cap, rfl, -, -, hI, -⟩ := id h
  obtain ⟨-, hl, hm, hc⟩ := ints_at h
  have HC := Lib.hid hc
  have HR := Lib.hid h
  have HPA := Lib.hid (fun k => putF_at n zs k)
  have HIP : Hid (∀ x, x ∈ putF zs n → I64 x) := Lib.hid (fun x hx => by rcases (putF_mem zs n x).1 hx with rfl | hx; exact hn; exact hI x hx)
  unfold maxLen at hm
  obtain ⟨m, hm2⟩ : ∃ m, m = zs.length := ⟨_, rfl⟩
  rw [← hm2] at hl hz HC HR HPA ⊢
  have HM := Lib.hid hm2
  clear h hc hm2 hI
  go_enter Tryd.func55, Tryd.ntmps55
  go_wp2_with fail
  go_loopw [5, 6] (fun s5 s6 wr => ∃ (k : Nat) (a5 : Option Addr) (c5 : Nat), (k ≤ m ∧ ∀ j, j < k → zs.getD j 0 < n) ∧ s5 = .slice a5 k c5 ∧ s6 = .int .i64 (k : Int) ∧ IBuf wr (.slice a5 k c5) (zs.take k) ∧ (∀ q, (Value.slice a5 k c5).ownBlock = some q → w.heap.size ≤ q) ∧ Below w.heap.size w wr) (fun _ s6 _ => m - (intOf s6).toNat)
  case atStart => exact ⟨0, none, 0, ⟨by omega, fun j hj => by omega⟩, rfl, rfl, ibuf_nil _, fun q hq => (by cases hq), Below.refl _ _⟩
  case round =>
    obtain ⟨k, a5, c5, hk, rfl, rfl, hib, hown, hb⟩ := hrel
    have HK := Lib.hid hk
    have HB := Lib.hid hb
    have HIB := Lib.hid hib
    have HOW := Lib.hid hown
    have HHW := Lib.hid (show (k : Int) ≤ (m : Int) by omega)
    rcases Nat.lt_or_ge k m with hlt | hge
    · obtain ⟨hx64, b, off, rfl, hbB, hc1⟩ := HC.out k (by have := HM.out; omega)
      have hd1 := (hb.cell (p := ⟨b, off + k, none⟩) (by show b < w.heap.size; omega)).trans hc1
      have HNK : Hid (zs.getD k 0 < n → k + 1 ≤ m ∧ ∀ j, j < k + 1 → zs.getD j 0 < n) := Lib.hid (fun h => ⟨hlt, fun j hj => by
        rcases Nat.lt_or_ge j k with h1 | h1
        · exact HK.out.2 j h1
        · obtain rfl : j = k := by omega
          exact h⟩)
      have HTK : Hid (zs.take (k + 1) = zs.take k ++ [zs.getD k 0]) := Lib.hid (by
        have h1 : k < zs.length := by have := HM.out; omega
        rw [List.take_succ_eq_append_getElem h1]; simp [h1])
      have HPX : Hid (¬ zs.getD k 0 < n → putF zs n = zs.take k ++ [n] ++ (if k < m ∧ zs.getD k 0 = n then zs.drop (k + 1) else zs.drop k)) := Lib.hid (fun h => HPA.out k (by omega) HK.out.2 (fun _ => by first | exact h | exact Int.not_lt.1 h))
      obtain ⟨x, hx⟩ : ∃ x, x = zs.getD k 0 := ⟨_, rfl⟩
      rw [← hx] at hd1 HNK HTK HPX
      have hki : (k : Int) < (m : Int) := by omega
      have hwk : IntKind.i64.wrap ((k : Int) + 1) = ((k + 1 : Nat) : Int) := by rw [IntKind.wrap_i64]; omega
      have HA := Lib.hid (Joins.below_alloc1 wr (.cells #[.int .i64 x] 3))
      have HRN := Lib.hid (row_new wr 3 [.int .i64 x])
      have HLE : Hid ((zs.take k).length + [x].length ≤ 1000000) := Lib.hid (by simp; omega)
      have HLT := Lib.hid hlt
      have HX1 : Hid (w.cell? ⟨b, off + k, none⟩ = some (.int .i64 x)) := Lib.hid (hx ▸ hc1)
      have HBB := Lib.hid hbB
      clear hb hk hc1 hx hlt hib hown hx64 hbB
      by_cases hg1 : x < n
      · have e1 : decide (x < n) = true := by simpa using hg1
        have HNX := Lib.hid (HNK.out hg1)
        clear hg1
        go_wp2_with (at_builtin; refine wpList_ints rfl (.tmp 19) (.tmp 24) rfl (.slice a5 k c5) (zs.take k) rfl (HIB.out.keep HA.out) _ [x] rfl HRN.out HLE.out ?_; intro v' w' hp hw; rw [← HTK.out] at hp; obtain ⟨a', cap', rfl, -⟩ := hp.shape; rw [show (zs.take (k + 1)).length = k + 1 by have := HM.out; have := HLT.out; simp; omega] at hp hw ⊢; have HP := Lib.hid hp; have HW := Lib.hid hw; clear hp hw)
        exact ⟨⟨k + 1, a', cap', HNX.out, by first | rfl | trivial, by first | rfl | trivial, HP.out, fun q hq => by
          rcases HW.out.own with h1 | h1
          · exact HOW.out q (h1 ▸ hq)
          · have := h1 q hq; have := HA.out.size; have := HB.out.size; omega, (below_next HB.out HA.out).trans (HW.out.toBelow (by have := HA.out.size; have := HB.out.size; omega) HOW.out)⟩, by have := HLT.out; simp [intOf]; omega⟩
      · have e1 : decide (x < n) = false := by simpa using hg1
        have HPU := Lib.hid (HPX.out hg1)
        clear hg1 HNK HTK HPX
        have HAN := Lib.hid (Joins.below_alloc1 wr (.cells #[.int .i64 n] 3))
        have HRM := Lib.hid (row_new wr 3 [.int .i64 n])
        by_cases hg2 : x = n
        · have e2 : (x == n) = true := by simpa using hg2
          have e3 : decide (x = n) = true := by simpa using hg2
          rw [if_pos ⟨by have := HLT.out; omega, hg2⟩] at HPU
          go_upto_region 7 with (first
            | (at_builtin; refine wpList_ints rfl (.tmp 28) (.tmp 30) rfl (.slice a5 k c5) (zs.take k) rfl (HIB.out.keep HAN.out) _ [n] rfl HRM.out HLE.out ?_; intro v' w' hp hw; obtain ⟨a', cap', rfl, -⟩ := hp.shape; rw [show (zs.take k ++ [n]).length = k + 1 by have := HM.out; have := HLT.out; simp; omega] at hp hw ⊢; have HP := Lib.hid hp; have HW := Lib.hid hw; have HB6 := Lib.hid ((below_next HB.out HAN.out).trans (HW.out.toBelow (by have := HAN.out.size; have := HB.out.size; omega) HOW.out)); have hd2 := (HB6.out.cell (p := ⟨b, off + k, none⟩) (by show b < w.heap.size; have := HBB.out; omega)).trans HX1.out; clear hp hw)
            | fail)
          obtain ⟨t, ht⟩ : ∃ t, t = (putF zs n).length := ⟨_, rfl⟩
          have HLL : Hid ((zs.take k ++ [n]).length + (zs.drop (k + 1)).length ≤ 1000000) := Lib.hid (by have := HM.out; simp; omega)
          have HML : Hid (zs.length = m) := Lib.hid HM.out.symm
          have HBD : Hid (m ≤ cap ∧ cap ≤ 9223372036854775807 ∧ k ≤ 100000) := Lib.hid ⟨hl, by omega, by omega⟩
          go_upto_region 9 with (fail)
          go_wp2_with (at_builtin; refine wpList_intsA rfl (.tmp 46) (.tmp 49) rfl (.slice a' (k + 1) cap') (zs.take k ++ [n]) rfl HP.out (by simp) _ B (zs.drop (k + 1)) rfl ?rest HLL.out ?_; (case rest => exact IRest.tailA (HR.out.stays (HB6.out.mono hB)) (k + 1) (by have := HML.out; have := HLT.out; omega) rfl (by have := HML.out; have := HBD.out; have := wk1 k (by have := HBD.out; omega); omega) (by have := HBD.out; have := wk1 k (by have := HBD.out; omega); unfold maxLen; omega) (fun h => by first | rfl | (simp only [Option.map_some, Addr.add_lit]; done) | (simp only [Option.map_some, Addr.add_lit, Option.some.injEq, Addr.mk.injEq, true_and, and_true]; have := wk1 k (by have := HBD.out; omega); omega) | (rw [if_neg (by have := HML.out; have := HBD.out; omega)]; simp only [Option.map_some, Addr.add_lit]) | (exfalso; have := HML.out; have := HBD.out; have := wk1 k (by have := HBD.out; omega); omega))); intro v2 w2 hp2 hw2; obtain ⟨a2, cap2, rfl, -⟩ := hp2.shape; rw [← HPU.out, ← ht] at hw2 ⊢; rw [← HPU.out] at hp2; have HP2 := Lib.hid hp2; have HW2 := Lib.hid hw2; clear hp2 hw2)
          all_goals (exact bodyPost_ret (results_tmp rfl _ _ _) rfl ⟨_, rfl, by have h := HP2.out.rest HIP.out; first | exact h | (rw [← ht] at h; exact h) | (rw [ht]; exact h), HB6.out.trans (HW2.out.toBelow HB6.out.size (fun q hq => by
            rcases HW.out.own with h1 | h1
            · exact HOW.out q (h1 ▸ hq)
            · have := h1 q hq; have := HAN.out.size; have := HB.out.size; omega))⟩)
        · have e2 : (x == n) = false := by simpa using hg2
          have e3 : decide (x = n) = false := by simpa using hg2
          rw [if_neg (fun h => hg2 h.2)] at HPU
          go_upto_region 7 with (first
            | (at_builtin; refine wpList_ints rfl (.tmp 28) (.tmp 30) rfl (.slice a5 k c5) (zs.take k) rfl (HIB.out.keep HAN.out) _ [n] rfl HRM.out HLE.out ?_; intro v' w' hp hw; obtain ⟨a', cap', rfl, -⟩ := hp.shape; rw [show (zs.take k ++ [n]).length = k + 1 by have := HM.out; have := HLT.out; simp; omega] at hp hw ⊢; have HP := Lib.hid hp; have HW := Lib.hid hw; have HB6 := Lib.hid ((below_next HB.out HAN.out).trans (HW.out.toBelow (by have := HAN.out.size; have := HB.out.size; omega) HOW.out)); have hd2 := (HB6.out.cell (p := ⟨b, off + k, none⟩) (by show b < w.heap.size; have := HBB.out; omega)).trans HX1.out; clear hp hw)
            | fail)
          obtain ⟨t, ht⟩ : ∃ t, t = (putF zs n).length := ⟨_, rfl⟩
          have HLL : Hid ((zs.take k ++ [n]).length + (zs.drop (k)).length ≤ 1000000) := Lib.hid (by have := HM.out; simp; omega)
          have HML : Hid (zs.length = m) := Lib.hid HM.out.symm
          have HBD : Hid (m ≤ cap ∧ cap ≤ 9223372036854775807 ∧ k ≤ 100000) := Lib.hid ⟨hl, by omega, by omega⟩
          go_upto_region 9 with (fail)
          go_wp2_with (at_builtin; refine wpList_intsA rfl (.tmp 46) (.tmp 49) rfl (.slice a' (k + 1) cap') (zs.take k ++ [n]) rfl HP.out (by simp) _ B (zs.drop (k)) rfl ?rest HLL.out ?_; (case rest => exact IRest.tailA (HR.out.stays (HB6.out.mono hB)) (k) (by have := HML.out; have := HLT.out; omega) rfl (by have := HML.out; have := HBD.out; have := wk1 k (by have := HBD.out; omega); omega) (by have := HBD.out; have := wk1 k (by have := HBD.out; omega); unfold maxLen; omega) (fun h => by first | rfl | (simp only [Option.map_some, Addr.add_lit]; done) | (simp only [Option.map_some, Addr.add_lit, Option.some.injEq, Addr.mk.injEq, true_and, and_true]; have := wk1 k (by have := HBD.out; omega); omega) | (rw [if_neg (by have := HML.out; have := HBD.out; omega)]; simp only [Option.map_some, Addr.add_lit]) | (exfalso; have := HML.out; have := HBD.out; have := wk1 k (by have := HBD.out; omega); omega))); intro v2 w2 hp2 hw2; obtain ⟨a2, cap2, rfl, -⟩ := hp2.shape; rw [← HPU.out, ← ht] at hw2 ⊢; rw [← HPU.out] at hp2; have HP2 := Lib.hid hp2; have HW2 := Lib.hid hw2; clear hp2 hw2)
          all_goals (exact bodyPost_ret (results_tmp rfl _ _ _) rfl ⟨_, rfl, by have h := HP2.out.rest HIP.out; first | exact h | (rw [← ht] at h; exact h) | (rw [ht]; exact h), HB6.out.trans (HW2.out.toBelow HB6.out.size (fun q hq => by
            rcases HW.out.own with h1 | h1
            · exact HOW.out q (h1 ▸ hq)
            · have := h1 q hq; have := HAN.out.size; have := HB.out.size; omega))⟩)
    · obtain rfl : k = m := by omega
      have HPU : Hid (putF zs n = zs.take k ++ [n] ++ zs.drop k) := Lib.hid (by have h := HPA.out k (by omega) HK.out.2 (fun h => by omega); rwa [if_neg (fun h => by omega)] at h)
      have HAN := Lib.hid (Joins.below_alloc1 wr (.cells #[.int .i64 n] 3))
      have HRM := Lib.hid (row_new wr 3 [.int .i64 n])
      have HLE : Hid ((zs.take k).length + [n].length ≤ 1000000) := Lib.hid (by simp; omega)
      clear hb hk hib hown hge
      go_upto_region 7 with (first
        | (at_builtin; refine wpList_ints rfl (.tmp 28) (.tmp 30) rfl (.slice a5 k c5) (zs.take k) rfl (HIB.out.keep HAN.out) _ [n] rfl HRM.out HLE.out ?_; intro v' w' hp hw; obtain ⟨a', cap', rfl, -⟩ := hp.shape; rw [show (zs.take k ++ [n]).length = k + 1 by have := HM.out;  simp; omega] at hp hw ⊢; have HP := Lib.hid hp; have HW := Lib.hid hw; have HB6 := Lib.hid ((below_next HB.out HAN.out).trans (HW.out.toBelow (by have := HAN.out.size; have := HB.out.size; omega) HOW.out));  clear hp hw)
        | fail)
      obtain ⟨t, ht⟩ : ∃ t, t = (putF zs n).length := ⟨_, rfl⟩
      have HLL : Hid ((zs.take k ++ [n]).length + (zs.drop (k)).length ≤ 1000000) := Lib.hid (by have := HM.out; simp; omega)
      have HML : Hid (zs.length = k) := Lib.hid HM.out.symm
      have HBD : Hid (k ≤ cap ∧ cap ≤ 9223372036854775807 ∧ k ≤ 100000) := Lib.hid ⟨hl, by omega, by omega⟩
      go_upto_region 9 with (fail)
      go_wp2_with (at_builtin; refine wpList_intsA rfl (.tmp 46) (.tmp 49) rfl (.slice a' (k + 1) cap') (zs.take k ++ [n]) rfl HP.out (by simp) _ B (zs.drop (k)) rfl ?rest HLL.out ?_; (case rest => exact IRest.tailA (HR.out.stays (HB6.out.mono hB)) (k) (by have := HML.out;  omega) rfl (by have := HML.out; have := HBD.out; have := wk1 k (by have := HBD.out; omega); omega) (by have := HBD.out; have := wk1 k (by have := HBD.out; omega); unfold maxLen; omega) (fun h => by first | rfl | (simp only [Option.map_some, Addr.add_lit]; done) | (simp only [Option.map_some, Addr.add_lit, Option.some.injEq, Addr.mk.injEq, true_and, and_true]; have := wk1 k (by have := HBD.out; omega); omega) | (rw [if_neg (by have := HML.out; have := HBD.out; omega)]; simp only [Option.map_some, Addr.add_lit]) | (exfalso; have := HML.out; have := HBD.out; have := wk1 k (by have := HBD.out; omega); omega))); intro v2 w2 hp2 hw2; obtain ⟨a2, cap2, rfl, -⟩ := hp2.shape; rw [← HPU.out, ← ht] at hw2 ⊢; rw [← HPU.out] at hp2; have HP2 := Lib.hid hp2; have HW2 := Lib.hid hw2; clear hp2 hw2)
      all_goals (exact bodyPost_ret (results_tmp rfl _ _ _) rfl ⟨_, rfl, by have h := HP2.out.rest HIP.out; first | exact h | (rw [← ht] at h; exact h) | (rw [ht]; exact h), HB6.out.trans (HW2.out.toBelow HB6.out.size (fun q hq => by
        rcases HW.out.own with h1 | h1
        · exact HOW.out q (h1 ▸ hq)
        · have := h1 q hq; have := HAN.out.size; have := HB.out.size; omega))⟩)
end Go.Proofs.YtiicjmbnkjociaaDoor
