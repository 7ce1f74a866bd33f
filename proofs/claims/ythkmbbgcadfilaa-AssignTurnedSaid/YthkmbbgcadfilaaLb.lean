/- slices.Repeat of one number. -/
import Derived.Test.YthkmbbgcadfilaaLa
import Derived.Laws.CopyOwn
namespace Go.Proofs.Ythkmbbgcadfilaa
open Go.RowKit Go.Shelf

theorem size_int : (Try.prog.info? 3).map (·.size) = some 1 := by kernel_rfl
/-- j numbers c, and zeros up to k -/
def rp (c : Int) (j k : Nat) : List Value := nums (List.replicate j c ++ List.replicate (k - j) 0)
theorem rp_len {c : Int} {j k : Nat} (h : j ≤ k) : (rp c j k).length = k := by unfold rp nums; simp; omega
theorem rp_zero (c : Int) (k : Nat) : rp c 0 k = nums (List.replicate k 0) := by unfold rp; simp
theorem rp_all (c : Int) (k : Nat) : rp c k k = nums (List.replicate k c) := by unfold rp; simp
theorem rp_splice {c : Int} {j d k : Nat} (h : j + d ≤ k) : splice (rp c j k) j (nums (List.replicate d c)) = rp c (j + d) k := by
  unfold splice rp nums
  have e1 : (List.map (fun x => Value.int IntKind.i64 x) (List.replicate j c ++ List.replicate (k - j) 0)).take j = List.map (fun x => Value.int IntKind.i64 x) (List.replicate j c) := by
    rw [← List.map_take, List.take_left' (by simp)]
  have e2 : (List.map (fun x => Value.int IntKind.i64 x) (List.replicate j c ++ List.replicate (k - j) 0)).drop (j + d) = List.map (fun x => Value.int IntKind.i64 x) (List.replicate (k - (j + d)) 0) := by
    rw [← List.map_drop, List.drop_append]
    simp
    omega
  have e3 : (List.map (fun x => Value.int IntKind.i64 x) (List.replicate d c)).length = d := by simp
  rw [e3, e1, e2]
  simp only [List.map_append, List.map_replicate]
  rw [← List.append_assoc, List.replicate_append_replicate]
set_option maxRecDepth 100000 in
set_option maxHeartbeats 8000000 in
theorem repeat_call (c : Int) (k b : Nat) (hk : k ≤ 16) (w : World) (hr : Row w b 3 [.int .i64 c]) :
    Calls Try.prog 47 #[.slice (some ⟨b, 0, none⟩) 1 1, .int .i64 (k : Int)] w fun e w' => ∃ g, e = .returned (.slice (some ⟨g, 0, none⟩) k k) ∧ w.heap.size ≤ g ∧ Row w' g 3 (nums (List.replicate k c)) ∧ Below w.heap.size w w' := by
  have HM := Lib.hid (mul_call k hk w)
  have HR := Lib.hid hr
  have HB := Lib.hid hr.lt
  have hki : (k : Int) ≤ 16 := by omega
  have hkn : 0 ≤ (k : Int) := by omega
  clear hr
  go_enter Try.func47, Try.ntmps47
  go_upto_region 4 with (go_at_call 58; refine HM.out.mono ?_; rintro e w5 ⟨rfl, rfl⟩)
  go_upto_region 7 with (first | (refine wpList_make rfl (.tmp 29) rfl k (by omega) rfl ?_; intro g W2 hf hrow hsz hb; have HF := Lib.hid (And.intro hf (And.intro hrow (And.intro hsz hb))); clear hf hrow hsz hb) | fail)
  obtain ⟨d1, hd1⟩ : ∃ d, d = Nat.min 1 k := ⟨_, rfl⟩
  have HD1 := Lib.hid hd1
  obtain ⟨cs1, hcs1⟩ : ∃ cs, cs = nums (List.replicate d1 c) := ⟨_, rfl⟩
  have HCS1 := Lib.hid hcs1
  obtain ⟨Z, hZ⟩ : ∃ Z, Z = nums (List.replicate k 0) := ⟨_, rfl⟩
  have HZ := Lib.hid hZ
  rw [← hZ] at HF
  have hcl : cs1.length = d1 := by rw [hcs1]; simp
  have HCL := Lib.hid hcl
  have hd1k : d1 ≤ 1 ∧ d1 ≤ k ∧ (0 < k → 0 < d1) := by
    rw [hd1]
    refine ⟨Nat.min_le_left 1 k, Nat.min_le_right 1 k, fun h => ?_⟩
    have h9 : Nat.min 1 k = 1 := Nat.min_eq_left h
    rw [h9]
    omega
  have HD1K := Lib.hid hd1k
  have HSRC : Hid (∀ j v, cs1[j]? = some v → W2.cell? ((⟨b, 0, none⟩ : Addr).add j) = some v) := Lib.hid (fun j v hj => by
    rw [HCS1.out] at hj
    have hl := (List.getElem?_eq_some_iff.1 hj).1
    simp at hl
    have h0 : j = 0 := by have := HD1K.out; omega
    subst h0
    have h9 : v = .int .i64 c := by
      unfold nums at hj
      rw [List.map_replicate, List.getElem?_replicate] at hj
      by_cases h8 : 0 < d1
      · rw [if_pos h8] at hj
        exact (Option.some.inj hj).symm
      · exact absurd hl h8
    rw [h9, Addr.add_lit]
    exact (HR.out.keep HF.out.2.2.2).cell (i := 0) rfl)
  have HFIT : Hid (0 + cs1.length ≤ Z.length) := Lib.hid (by rw [HCL.out, HZ.out]; simp; have := HD1K.out; omega)
  have HONE : Hid (∀ v ∈ cs1, v.oneCell' = true) := Lib.hid (by rw [HCS1.out]; exact ints_one _)
  have HK1 : Hid (∀ w6 : World, Row w6 g 3 (splice Z 0 cs1) → Row w6 g 3 (rp c d1 k)) := Lib.hid (fun w6 h9 => by
    have h8 := rp_splice (c := c) (j := 0) (d := d1) (k := k) (by have := HD1K.out; omega)
    rw [rp_zero, Nat.zero_add] at h8
    rw [HCS1.out, HZ.out, h8] at h9
    exact h9)
  clear hcs1 hd1 hZ hcl hd1k
  go_upto_region 8 with (refine wpList_copy_splice rfl (.tmp 31) (.tmp 32) 23 23 rfl 3 Try.underlying23 size_int _ _ _ _ _ _ rfl rfl g 0 Z 3 HF.out.2.1 cs1 (by rw [HCL.out, HD1.out]) (fun _ => ⟨rfl, _, rfl, HSRC.out⟩) HFIT.out HONE.out w5.heap.size w5 HF.out.2.2.2 (by rw [HF.out.1]; exact Nat.le_refl _) ?_; intro w6 hg6 hb6; have HG6 := Lib.hid (And.intro (HK1.out w6 hg6.out) hb6); rw [HCL.out]; clear hg6 hb6)
  obtain ⟨hj0, hj1, hj2⟩ := HD1K.out
  have hd6 := Lib.hid (And.intro hj1 hj2)
  clear hj0 hj1 hj2 HCS1 HZ HCL HSRC HFIT HONE HK1 HM
  go_loopw [8] (fun s8 wr => ∃ (j : Nat), j ≤ k ∧ (0 < k → 0 < j) ∧ s8 = .int .i64 (j : Int) ∧ Row wr g 3 (rp c j k) ∧ Below w5.heap.size w5 wr) (fun s8 _ => k - (intOf s8).toNat)
  case atStart => exact ⟨d1, hd6.out.1, hd6.out.2, rfl, HG6.out.1, HG6.out.2⟩
  case round =>
    obtain ⟨j, hjk, hj0, rfl, hr, hb⟩ := hrel
    have HR9 := Lib.hid hr
    have HB9 := Lib.hid hb
    have HJ := Lib.hid (And.intro hjk hj0)
    clear hr hb hjk hj0
    by_cases hlt : j < k
    · have hji : (j : Int) < (k : Int) := by omega
      have HLT := Lib.hid hlt
      obtain ⟨d, hd⟩ : ∃ d, d = Nat.min j (k - j) := ⟨_, rfl⟩
      have HD := Lib.hid hd
      have hd3 : d ≤ j ∧ d ≤ k - j ∧ 0 < d := by
        rw [hd]
        exact ⟨Nat.min_le_left _ _, Nat.min_le_right _ _, Nat.lt_min.2 ⟨HJ.out.2 (by omega), by omega⟩⟩
      obtain ⟨cs2, hcs2⟩ : ∃ cs, cs = nums (List.replicate d c) := ⟨_, rfl⟩
      have HCS2 := Lib.hid hcs2
      have hcl2 : cs2.length = d := by rw [hcs2]; simp
      have HCL2 := Lib.hid hcl2
      have HD3 := Lib.hid hd3
      obtain ⟨Z2, hZ2⟩ : ∃ Z, Z = rp c j k := ⟨_, rfl⟩
      have HZ2 := Lib.hid hZ2
      have HSRC2 : Hid (∀ i v, cs2[i]? = some v → wr.cell? ((⟨g, 0, none⟩ : Addr).add i) = some v) := Lib.hid (fun i v hi => by
        rw [HCS2.out] at hi
        have hl := (List.getElem?_eq_some_iff.1 hi).1
        simp at hl
        have h9 : v = .int .i64 c := by
          unfold nums at hi
          rw [List.map_replicate, List.getElem?_replicate, if_pos hl] at hi
          exact (Option.some.inj hi).symm
        rw [h9, Addr.add_lit]
        have h7 : i < j := by have := HD3.out; omega
        have h8 : (rp c j k)[0 + i]? = some (.int .i64 c) := by
          unfold rp nums
          rw [Nat.zero_add, List.map_append, List.getElem?_append_left (by simp; exact h7), List.map_replicate, List.getElem?_replicate, if_pos h7]
        exact HR9.out.cell h8)
      have HFIT2 : Hid (j + cs2.length ≤ Z2.length) := Lib.hid (by rw [HCL2.out, HZ2.out, rp_len HJ.out.1]; have := HD3.out; omega)
      have HONE2 : Hid (∀ v ∈ cs2, v.oneCell' = true) := Lib.hid (by rw [HCS2.out]; exact ints_one _)
      have HK2 : Hid (∀ w6 : World, Row w6 g 3 (splice Z2 j cs2) → Row w6 g 3 (rp c (j + d) k)) := Lib.hid (fun w6 h9 => by
        rw [HCS2.out, HZ2.out, rp_splice (by have := HD3.out; omega)] at h9
        exact h9)
      have HRZ : Hid (Row wr g 3 Z2) := Lib.hid (by rw [HZ2.out]; exact HR9.out)
      have HWK : Hid (IntKind.i64.wrap ((j : Int) + (d : Int)) = ((j + d : Nat) : Int)) := Lib.hid (by
        rw [show (j : Int) + (d : Int) = ((j + d : Nat) : Int) by omega]
        have := HD3.out
        rw [IntKind.wrap_i64]; omega)
      clear hcs2 hcl2 hd3 hZ2 hd hlt
      have hw := HWK.out
      go_wp2_with (fail)
      have HG9 : Hid (w5.heap.size ≤ g) := Lib.hid (by rw [HF.out.1]; exact Nat.le_refl _)
      have hjc : ¬ k = j := by have := HLT.out; omega
      have hjl : j ≤ k := HJ.out.1
      go_region_held3 (fun W => Below w5.heap.size w5 W) (first | assumption | exact HB9.out.drew) (go_loud (refine step_copy_splice rfl (.tmp 41) (.tmp 44) 23 23 rfl 3 Try.underlying23 size_int _ _ _ _ _ _ rfl rfl g j Z2 3 HRZ.out cs2 (by rw [HCL2.out]; exact HD.out) (fun _ => ⟨rfl, _, rfl, HSRC2.out⟩) HFIT2.out HONE2.out w5.heap.size w5 HB9.out.drew HG9.out ?_; intro w6 hg6 hb6; have HG8 := Lib.hid (And.intro (HK2.out w6 hg6.out) hb6); rw [HCL2.out]; clear hg6))
      go_wp2_with fail
      refine ⟨⟨j + d, by have := HD3.out; omega, fun h => by have := HJ.out.2 h; omega, by first | rw [Int.natCast_add] | go_num, HG8.out.1, HG8.out.2⟩, by have := HD3.out; have := HLT.out; simp [intOf]; omega⟩
    · obtain rfl : j = k := by have := HJ.out.1; omega
      go_wp2_with fail
      go_ret
      refine ⟨g, rfl, by rw [HF.out.1]; exact Nat.le_refl _, ?_, HB9.out⟩
      have h9 := HR9.out
      rw [rp_all] at h9
      exact h9
end Go.Proofs.Ythkmbbgcadfilaa
