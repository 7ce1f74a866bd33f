/- Hashes under a tag, and ends of chains: the reference's functions. -/
import Derived.Test.YtbcfmpohempkpaaDoorXRsZ
import Derived.Test.YtbcfmpohempkpaaDoorZc15
namespace Go.Proofs.YtbcfmpohempkpaaDoor.Dig
open Go.RowKit

set_option maxRecDepth 100000 in
theorem wpList_conv {ops : Array Oper} {rest : List Oper} {o : Oper} {a : Act} {w : World} {Q : Exit → Act → World → Prop} (hgd : o.guard = none) (x : Operand) (ho : o.op = .convert 9 22 x) (s : ByteArray) (hx : a.eval x = .string s) (hs : s.size ≤ maxLen)
    (h : ∀ v' w', Rest w'.heap.size w' s.data.toList v' → Below w.heap.size w w' → wpList Tryd.prog ops Q rest (a.put o.dst v') w') : wpList Tryd.prog ops Q (o :: rest) a w :=
  wpList_plain hgd fun _ hK => by
    obtain ⟨cap2, w2, hcv, hb2, hR2⟩ := conv_str w s hs
    have h1 := hK _ _ (h _ w2 hR2 hb2)
    unfold Oper.wp execOp
    simp [ho, hx, hcv, Sem.run_bind]
    exact h1

set_option maxHeartbeats 4000000 in
set_option maxRecDepth 100000 in
theorem reftagged_call (tag : ByteArray) (l : List UInt8) (v : Value) (w : World) (ht : tag.size ≤ 549755813888) (hl : l.length ≤ 549755813888) (hr : Rest w.heap.size w l v) :
    Calls Tryd.prog 46 #[.string tag, v] w (RetD w (tagged tag.data.toList l)) := by
  have HR := Lib.hid hr
  obtain ⟨va, vc, rfl⟩ : ∃ a cap, v = .slice a l.length cap := by obtain ⟨a, cap, h, _⟩ := hr; exact ⟨a, cap, h⟩
  have hts : tag.data.toList.length = tag.size := by rw [Array.length_toList]; rfl
  obtain ⟨d1, hd1⟩ : ∃ d1, d1 = sha tag.data.toList := ⟨_, rfl⟩
  have HLD : Hid (d1.length = 32) := by rw [hd1]; exact sha_len _
  obtain ⟨d2, hd2⟩ : ∃ d2, d2 = tagged tag.data.toList l := ⟨_, rfl⟩
  have HLT : Hid (d2.length = 32) := by rw [hd2]; exact tagged_len _ _
  have HS1 : Hid (∀ (W' : World) (u : Value), Rest W'.heap.size W' tag.data.toList u → Calls Tryd.prog 61 #[u] W' (RetD W' d1)) := fun W' u h => by rw [hd1]; exact refsum_call _ (by rw [hts]; omega) u W' h
  have HS2 : Hid (∀ (W' : World) (u : Value), Rest W'.heap.size W' (d1 ++ l) u → Calls Tryd.prog 61 #[u] W' (RetD W' d2)) := fun W' u h => by
    rw [hd2, tagged, ← hd1]
    exact refsum_call _ (by rw [List.length_append, HLD.out]; omega) u W' h
  rw [← hd2]
  have HMX : Hid (tag.size ≤ maxLen) := by show tag.size ≤ maxLen; unfold maxLen; omega
  have HL1 : Hid (([] : List UInt8).length + d1.length ≤ 70368744177664) := by show ([] : List UInt8).length + d1.length ≤ 70368744177664; rw [HLD.out]; simp
  have HL2 : Hid (d1.length + l.length ≤ 70368744177664) := by show d1.length + l.length ≤ 70368744177664; rw [HLD.out]; omega
  have HB0 := Lib.hid (Below.refl w.heap.size w)
  clear hr hts hd1 hd2
  go_enter Tryd.func46, Tryd.ntmps46
  go_wp2_with (first
    | (refine wpList_alloc_dig rfl 4 rfl rfl ?_; intro g4 w1 hg hrow hb; have H4 := Lib.hid hrow; have hg4 : w.heap.size ≤ g4 := (by omega); have HB0 := Lib.hid (below_next HB0.out hb); clear hg hrow hb)
    | (refine wpList_conv rfl (.tmp 6) rfl tag rfl HMX.out ?_; intro v7 w2 hr hb; have H7 := Lib.hid hr; have H4 := Lib.hid (H4.out.keep hb); have HB0 := Lib.hid (below_next HB0.out hb); clear hr hb)
    | fail)
  refine (HS1.out w2 v7 H7.out).mono ?_
  rintro e w3 ⟨rfl, hb⟩
  have HB0 := Lib.hid (below_next HB0.out hb)
  have H4 := Lib.hid (H4.out.keep hb)
  clear hb
  go_wp2_with (first
    | (refine wpList_alloc_dig rfl 5 rfl rfl ?_; intro g5 w4 hg hrow hb; have H5 := Lib.hid hrow; have h45 : g4 ≠ g5 := (by have := H4.out.lt; omega); have hg5 : w.heap.size ≤ g5 := (by have := HB0.out.size; omega); have H4 := Lib.hid (H4.out.keep hb); have HB0 := Lib.hid (below_next HB0.out hb); clear hg hrow hb)
    | (refine wpList_store_dig rfl (.tmp 5) (.tmp 8) rfl g5 d1 HLD.out rfl rfl H5.out HB0.out hg5 ?_; intro w5 hrow hb hoth; have H5 := Lib.hid hrow; have H4 := Lib.hid (hoth _ _ _ h45 H4.out); have HB0 := Lib.hid hb; have HBZ := Lib.hid (Below.refl w5.heap.size w5); clear hrow hb hoth)
    | (refine wpList_none' rfl rfl HBZ.out ?_; intro v9 w6 hn; have HN := Lib.hid hn; have HBZ := Lib.hid hn.2.1; clear hn)
    | (refine wpList_buf' rfl _ (.tmp 10) rfl v9 [] rfl HN.out _ _ d1 rfl (row_rest32 (H5.out.keep HBZ.out) HLD.out) HL1.out ?_; intro v11 w7 hn; have HN : Hid (New w5 w7 v11 d1) := hn; have HBZ := Lib.hid hn.2.1; clear hn)
    | (refine wpList_buf' rfl _ (.tmp 12) rfl v11 d1 rfl HN.out _ _ l rfl (rest_keep HR.out (below_next HB0.out HBZ.out)) HL2.out ?_; intro v13 w8 hn; have HN := Lib.hid hn; have HBZ := Lib.hid hn.2.1; clear hn)
    | fail)
  refine (HS2.out w8 v13 (buf_rest' HN.out.1)).mono ?_
  rintro e w9 ⟨rfl, hb⟩
  have HBZ9 := Lib.hid (below_next HBZ.out hb)
  have H49 := Lib.hid (H4.out.keep HBZ9.out)
  have HB9 := Lib.hid (below_next HB0.out HBZ9.out)
  clear hb
  go_wp2_with (first
    | (refine wpList_store_dig rfl (.tmp 4) (.tmp 14) rfl g4 d2 HLT.out rfl rfl H49.out HB9.out hg4 ?_; intro wE hrow hb hoth; have HRE := Lib.hid hrow; have HBE := Lib.hid hb; clear hrow hb hoth)
    | fail)
  exact bodyPost_ret (results_cell_row rfl _ _ g4 59 (cellsOf d2).toArray (0, 0) _ rfl HRE.out Tryd.underlying59 rfl (size32' HLT.out)) rfl ⟨rfl, HBE.out⟩
end Go.Proofs.YtbcfmpohempkpaaDoor.Dig
