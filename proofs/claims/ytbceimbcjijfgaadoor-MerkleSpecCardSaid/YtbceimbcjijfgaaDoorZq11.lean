/- The hash of bytes under a tag: the program's function. -/
import Derived.Lib.Slices
import Derived.Lib.Walk
import Derived.Deep.RegionWith
import Derived.Test.YtbceimbcjijfgaaDoorZq9
import Derived.Test.YtbceimbcjijfgaaDoorZq10
namespace Go.Proofs.YtbceimbcjijfgaaDoor.Dig
open Go.RowKit

/-- '[]byte(s)' -/
theorem conv_str (W : World) (s : ByteArray) (hs : s.size ≤ maxLen) : ∃ (cap : Nat) (W' : World), (convert 9 34 (.string s)).run Tryd.prog W = .ok (.slice (some ⟨W.heap.size, 0, none⟩) s.data.toList.length cap) W' ∧ Below W.heap.size W W' ∧
    Rest W'.heap.size W' s.data.toList (.slice (some ⟨W.heap.size, 0, none⟩) s.data.toList.length cap) := by
  have hl : s.data.toList.length = s.size := by rw [Array.length_toList]; rfl
  have hr := run_bytes_of_string (P := Tryd.prog) W 9 34 5 s Tryd.underlying9 Tryd.underlying34 Tryd.underlying5
  refine ⟨_, _, by rw [hl]; exact hr, ((Below.refl _ _).drew).alloc (Nat.le_refl _) _, some ⟨W.heap.size, 0, none⟩, _, rfl, by rw [hl]; exact grownCap_ge W s.size 0 5, grownCap_le_maxLen W s.size 0 5 hs, (fun h => by cases h), ?_⟩
  refine .inr ⟨W.heap.size, 0, rfl, by simp, fun i hi => ?_⟩
  rw [show (0 + i) = i by omega]
  have hb : ∀ (C : Array Value) (fr : Nat × Nat), (W.drew.alloc (.cells C 5 fr)).cell? ⟨W.heap.size, i, none⟩ = C[i]? := fun C fr => World.cell?_alloc_mark W.drew C 5 fr i
  rw [hb]
  have hi2 : i < s.data.size := by simpa using hi
  rw [bytesRow, Array.getElem?_append_left (by simpa using hi2)]
  simp
  exact ⟨_, Array.getElem?_eq_getElem hi2, rfl⟩

/-- 32 noughts -/
abbrev z32 : Array Value := #[Value.int IntKind.u8 0, Value.int IntKind.u8 0, Value.int IntKind.u8 0, Value.int IntKind.u8 0, Value.int IntKind.u8 0, Value.int IntKind.u8 0, Value.int IntKind.u8 0, Value.int IntKind.u8 0, Value.int IntKind.u8 0, Value.int IntKind.u8 0, Value.int IntKind.u8 0, Value.int IntKind.u8 0, Value.int IntKind.u8 0, Value.int IntKind.u8 0, Value.int IntKind.u8 0, Value.int IntKind.u8 0, Value.int IntKind.u8 0, Value.int IntKind.u8 0, Value.int IntKind.u8 0, Value.int IntKind.u8 0, Value.int IntKind.u8 0, Value.int IntKind.u8 0, Value.int IntKind.u8 0, Value.int IntKind.u8 0, Value.int IntKind.u8 0, Value.int IntKind.u8 0, Value.int IntKind.u8 0, Value.int IntKind.u8 0, Value.int IntKind.u8 0, Value.int IntKind.u8 0, Value.int IntKind.u8 0, Value.int IntKind.u8 0]
/-- a digest in a block of its own reads as bytes -/
theorem row_rest {w : World} {g T : Nat} {l : List UInt8} (h : Row w g T (cellsOf l)) (hl : l.length ≤ maxLen) : Rest w.heap.size w l (.slice (some ⟨g, 0, none⟩) l.length l.length) :=
  ⟨some ⟨g, 0, none⟩, l.length, rfl, Nat.le_refl _, hl, (fun h => by cases h), .inr ⟨g, 0, rfl, h.lt, fun i hi => by rw [Nat.zero_add]; exact h.cell (cellsOf_get hi)⟩⟩

theorem size32 {l : List UInt8} (h : l.length = 32) : (cellsOf l).toArray.size = 32 := by rw [List.size_toArray, cellsOf_len, h]
theorem info30 : (Tryd.prog.info? 30).map (·.size) = some 32 := by kernel_rfl

set_option maxHeartbeats 1000000 in
set_option maxRecDepth 100000 in
theorem tagged_call (tag : ByteArray) (l : List UInt8) (v : Value) (w : World) (ht : tag.size ≤ 549755813888) (hl : l.length ≤ 549755813888) (hr : Rest w.heap.size w l v) (hT : Tab w) :
    Calls Tryd.prog 22 #[.string tag, v] w fun e w' => e = .returned (dg (tagged tag.data.toList l)) ∧ Below w.heap.size w w' := by
  obtain ⟨cap, w1, hcv, hb1, hR1⟩ := conv_str (w.alloc (.cells #[Value.int IntKind.u8 0, Value.int IntKind.u8 0, Value.int IntKind.u8 0, Value.int IntKind.u8 0, Value.int IntKind.u8 0, Value.int IntKind.u8 0, Value.int IntKind.u8 0, Value.int IntKind.u8 0, Value.int IntKind.u8 0, Value.int IntKind.u8 0, Value.int IntKind.u8 0, Value.int IntKind.u8 0, Value.int IntKind.u8 0, Value.int IntKind.u8 0, Value.int IntKind.u8 0, Value.int IntKind.u8 0, Value.int IntKind.u8 0, Value.int IntKind.u8 0, Value.int IntKind.u8 0, Value.int IntKind.u8 0, Value.int IntKind.u8 0, Value.int IntKind.u8 0, Value.int IntKind.u8 0, Value.int IntKind.u8 0, Value.int IntKind.u8 0, Value.int IntKind.u8 0, Value.int IntKind.u8 0, Value.int IntKind.u8 0, Value.int IntKind.u8 0, Value.int IntKind.u8 0, Value.int IntKind.u8 0, Value.int IntKind.u8 0] 30)) tag (by unfold maxLen; omega)
  have hts : tag.data.toList.length = tag.size := by rw [Array.length_toList]; rfl
  have HR := Lib.hid hr
  obtain ⟨va, vc, rfl, _, _, _, _⟩ := hr
  have HT := Lib.hid hT
  have HTS := Lib.hid hts
  have HB1 : Hid (Below w.heap.size w w1) := below_next (Joins.below_alloc1 w _) hb1
  have HRow1 : Hid (Row w1 w.heap.size 30 zb) := (row_new w 30 zb).keep hb1
  have HR1 := Lib.hid hR1
  clear hT hts hb1 hR1
  simp only [World.size_alloc] at hcv HR1
  go_enter Tryd.func22, Tryd.ntmps22
  go_wp2_with fail
  refine (sum_call tag.data.toList _ w1 HR1.out (HT.out.keep HB1.out) (by rw [HTS.out]; omega)).mono ?_
  rintro e w2 ⟨rfl, hb2⟩
  clear hcv
  obtain ⟨d1, hd1⟩ : ∃ d1, d1 = sha tag.data.toList := ⟨_, rfl⟩
  rw [← hd1]
  have hld1 : d1.length = 32 := by rw [hd1, sha_len]
  have HD1 := Lib.hid hd1
  have HLD1 := Lib.hid hld1
  have HB2 := Lib.hid (below_next HB1.out hb2)
  have HRow2 : Hid (Row w2 w.heap.size 30 zb) := HRow1.out.keep hb2
  clear hd1 hld1 hb2
  unfold dg
  go_wp2_with (refine wpList_store_row rfl 30 (.tmp 5) (.tmp 8) rfl w2.heap.size (cellsOf d1).toArray rfl rfl 30 _ (heap_alloc_new w2 _) (by rw [size32 HLD1.out]; exact info30) (by rw [size32 HLD1.out]; rfl) (cellsOf_one _) ?_; rw [World.setRow_alloc_new])
  have HRow3 : Hid (Row (w2.alloc (.cells (cellsOf d1).toArray 30)) w2.heap.size 30 (cellsOf d1)) := row_new w2 30 _
  have hb3 : Below w2.heap.size w2 ((w2.alloc (.cells (cellsOf d1).toArray 30)).alloc (.cells #[.slice (some ⟨w2.heap.size, 0, none⟩) 32 32, .slice va l.length vc] 34)) := ((Below.refl _ w2).alloc (Nat.le_refl _) _).alloc (by simp) _
  have HB3 := Lib.hid (below_next HB2.out hb3)
  have HX : Hid (Rest ((w2.alloc (.cells (cellsOf d1).toArray 30)).alloc (.cells #[.slice (some ⟨w2.heap.size, 0, none⟩) 32 32, .slice va l.length vc] 34)).heap.size ((w2.alloc (.cells (cellsOf d1).toArray 30)).alloc (.cells #[.slice (some ⟨w2.heap.size, 0, none⟩) 32 32, .slice va l.length vc] 34)) d1 (.slice (some ⟨w2.heap.size, 0, none⟩) 32 32)) := by
    have h := row_rest (HRow3.out.push (.cells #[.slice (some ⟨w2.heap.size, 0, none⟩) 32 32, .slice va l.length vc] 34)) (by rw [HLD1.out]; simp [maxLen])
    rw [HLD1.out] at h; exact h
  have HRow4 : Hid (Row w2 w.heap.size 30 zb) := HRow2.out
  have HRG : Hid (Row ((w2.alloc (.cells (cellsOf d1).toArray 30)).alloc (.cells #[.slice (some ⟨w2.heap.size, 0, none⟩) 32 32, .slice va l.length vc] 34)) (w2.heap.size + 1) 34 [.slice (some ⟨w2.heap.size, 0, none⟩) 32 32, .slice va l.length vc]) := row_at 34 [.slice (some ⟨w2.heap.size, 0, none⟩) 32 32, .slice va l.length vc] _ (by simp)
  refine (concat_call d1 l (.slice (some ⟨w2.heap.size, 0, none⟩) 32 32) (.slice va l.length vc) (w2.heap.size + 1) _ HX.out (rest_keep HR.out HB3.out) HRG.out (by rw [HLD1.out]; omega) (by omega)).mono ?_
  rintro e w3 ⟨cv, rfl, hnew⟩
  obtain ⟨dl, hdl⟩ : ∃ dl, dl = d1 ++ l := ⟨_, rfl⟩
  rw [← hdl] at hnew
  have hll : dl.length ≤ 1099511627776 := by rw [hdl, List.length_append, HLD1.out]; omega
  have HDL := Lib.hid hdl
  clear hdl
  have HB4 := Lib.hid (below_next HB3.out hnew.2.1)
  have HRow5 : Hid (Row w3 w.heap.size 30 zb) := (HRow2.out.keep hb3).keep hnew.2.1
  obtain ⟨ca, cc, rfl, hRC⟩ := buf_rest hnew.1
  have HRC := Lib.hid hRC
  clear hb3 hnew hRC
  go_wp2_with fail
  refine (sum_call dl _ w3 HRC.out (HT.out.keep HB4.out) hll).mono ?_
  rintro e w4 ⟨rfl, hb5⟩
  obtain ⟨res, hres⟩ : ∃ res, res = sha dl := ⟨_, rfl⟩
  rw [← hres]
  have hlr : res.length = 32 := by rw [hres, sha_len]
  have hrt : res = tagged tag.data.toList l := by rw [hres, HDL.out, HD1.out]; rfl
  have HRES := Lib.hid hrt
  have HLR := Lib.hid hlr
  have HB6 := Lib.hid (below_next HB4.out hb5)
  have HRow6 : Hid (Row w4 w.heap.size 30 zb) := HRow5.out.keep hb5
  clear hres hlr hrt hb5
  unfold dg
  go_wp2_with (refine wpList_store_row rfl 30 (.tmp 4) (.tmp 13) rfl w.heap.size (cellsOf res).toArray rfl rfl 30 zb.toArray HRow6.out (by rw [size32 HLR.out]; exact info30) (by rw [size32 HLR.out]; rfl) (cellsOf_one _) ?_)
  refine bodyPost_ret (results_cell_row rfl _ _ w.heap.size 30 (cellsOf res).toArray (0, 0) _ rfl (HRow6.out.setRow _) Tryd.underlying30 rfl (by rw [size32 HLR.out]; exact info30)) rfl ⟨?_, below_setRow HB6.out _ _ (Nat.le_refl _)⟩
  rw [HRES.out]; rfl
end Go.Proofs.YtbceimbcjijfgaaDoor.Dig

/- Leaves, nodes and chains: the program's functions. -/
namespace Go.Proofs.YtbceimbcjijfgaaDoor.Dig
open Go.RowKit

theorem row_rest32 {w : World} {g T : Nat} {l : List UInt8} (h : Row w g T (cellsOf l)) (hl : l.length = 32) : Rest w.heap.size w l (.slice (some ⟨g, 0, none⟩) 32 32) := by
  have := row_rest h (by rw [hl]; simp [maxLen])
  rwa [hl] at this

theorem size32' {l : List UInt8} (h : l.length = 32) : (Tryd.prog.info? 30).map (·.size) = some (cellsOf l).toArray.size := by rw [size32 h]; exact info30

end Go.Proofs.YtbceimbcjijfgaaDoor.Dig
