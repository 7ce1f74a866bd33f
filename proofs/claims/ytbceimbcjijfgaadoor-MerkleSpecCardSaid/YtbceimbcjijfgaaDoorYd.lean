/- The specification: roots. -/
import Derived.Test.YtbceimbcjijfgaaDoorYc
namespace Go.Proofs.YtbceimbcjijfgaaDoor.Dig
open Go.RowKit

set_option maxHeartbeats 4000000 in
set_option maxRecDepth 100000 in
theorem refRoot_call (ls : List (List UInt8)) (v : Value) (w : World) (h2 : ls.length ≤ 65536) (hl : ∀ p, p ∈ ls → p.length ≤ 1000000) (hr : LRest w.heap.size w ls v) :
    Calls Tryd.prog 15 #[v] w fun e w' => e = .returned (dg (rootD ls)) ∧ Below w.heap.size w w' := by
  have HR := Lib.hid hr
  have HL := Lib.hid hl
  obtain ⟨a0, cap0, rfl⟩ : ∃ a cap, v = .slice a ls.length cap := by obtain ⟨a, cap, h, _⟩ := hr; exact ⟨a, cap, h⟩
  by_cases h0 : ls.length = 0
  · have HE : Hid (rootD ls = tagged noneS.data.toList []) := Lib.hid (by unfold rootD; rw [if_pos h0])
    obtain ⟨n, hn⟩ : ∃ n, n = ls.length := ⟨_, rfl⟩
    rw [← hn] at HR h0 ⊢
    subst h0
    rw [HE.out]
    clear hn hr hl h2
    go_enter Tryd.func15, Tryd.ntmps15
    go_wp2_with (first
      | (refine wpList_alloc_dig rfl 2 rfl rfl ?_; intro g1 w1 hg hrow hb; have H1 := Lib.hid hrow; have hg1 : w.heap.size ≤ g1 := (by omega); have HB1 := Lib.hid hb; clear hg hrow hb)
      | fail)
    refine (reftagged_call noneS [] (.slice none 0 0) w1 (by decide) (by simp) (rest_nil _ _)).mono ?_
    rintro e w2 ⟨rfl, hb2⟩
    have HLD : Hid ((tagged noneS.data.toList []).length = 32) := Lib.hid (sha_len _)
    have H2 := Lib.hid (H1.out.keep hb2)
    have HB2 := Lib.hid (below_next HB1.out hb2)
    clear hb2
    obtain ⟨d, hd⟩ : ∃ d, d = tagged noneS.data.toList [] := ⟨_, rfl⟩
    rw [← hd] at HLD ⊢
    have HDE := Lib.hid hd
    clear hd
    go_wp2_with (first
      | (refine wpList_store_dig rfl (.tmp 2) (.tmp 7) rfl g1 d HLD.out rfl rfl H2.out HB2.out hg1 ?_; intro w3 hrow hb hoth; have H3 := Lib.hid hrow; have HB3 := Lib.hid hb; clear hrow hb hoth)
      | fail)
    exact bodyPost_ret (results_cell_row rfl _ _ g1 30 (cellsOf d).toArray (0, 0) _ rfl H3.out Tryd.underlying30 rfl (size32' HLD.out)) rfl ⟨by rw [← HDE.out]; rfl, HB3.out⟩
  · obtain ⟨n, hn⟩ : ∃ n, n = ls.length := ⟨_, rfl⟩
    rw [← hn] at HR h0 h2 ⊢
    have HN := Lib.hid hn
    have HE : Hid (rootD ls = rootR sha Ndd (ls.map leafD)) := Lib.hid (by unfold rootD; rw [if_neg (by omega)])
    have h0i : ¬ (n : Int) = 0 := by omega
    have hnm : (n : Int) ≤ 65536 := by omega
    clear hn hr hl
    go_enter Tryd.func15, Tryd.ntmps15
    go_wp2_with (first
      | (refine wpList_alloc_dig rfl 2 rfl rfl ?_; intro g1 w1 hg hrow hb; have H1 := Lib.hid hrow; have hg1 : w.heap.size ≤ g1 := (by omega); have HB1 := Lib.hid hb; clear hg hrow hb)
      | fail)
    refine (reffirst_call ls (.slice a0 n cap0) w1 (by rw [← HN.out]; exact h2) HL.out (HR.out.keep HB1.out)).mono ?_
    rintro e w2 ⟨v2, rfl, hn2⟩
    have H2 := Lib.hid (H1.out.keep hn2.2.1)
    have HB2 := Lib.hid (below_next HB1.out hn2.2.1)
    have HD2 := Lib.hid (dbuf_rest hn2.1)
    have HL2 : Hid ((ls.map leafD).length = n) := Lib.hid (by rw [List.length_map, HN.out])
    clear hn2
    generalize ls.map leafD = ds at *
    obtain ⟨a2, c2, rfl⟩ : ∃ a c, v2 = .slice a n c := by obtain ⟨_, a, c, h, _⟩ := HD2.out; exact ⟨a, c, by rw [h, HL2.out]⟩
    go_wp2_with fail
    go_loopw [3] (fun s3 wr => RtHead w2 ds s3 wr) (fun s3 _ => lenOf s3)
    case atStart => exact ⟨ds, a2, c2, by rw [HL2.out], by rw [HL2.out]; omega, by rw [HL2.out]; exact h2, Lib.hid rfl, by rw [HL2.out]; exact HD2.out, Below.refl _ _⟩
    case round =>
      obtain ⟨r, a, cap, rfl, h1r, h2r, HRE, hdr, hb⟩ := hrel
      have HDR := Lib.hid hdr
      have HBR := Lib.hid hb
      by_cases hlen : r.length ≤ 1
      · obtain ⟨x, rfl⟩ := len_one (show r.length = 1 by omega)
        have HX : Hid (x.length = 32) := Lib.hid (hdr.1 x (by simp))
        have HEX : Hid (rootR sha Ndd ds = x) := Lib.hid (by rw [← HRE.out]; rfl)
        have H4 := Lib.hid (H2.out.keep hb)
        have HB4 := Lib.hid (below_next HB2.out hb)
        obtain ⟨b, off, ha⟩ : ∃ b off, a = some ⟨b, off, none⟩ := by
          obtain ⟨_, a', cap', h1, _, _, _, h4⟩ := hdr
          injection h1 with e1 _ _
          rcases h4 with h0 | ⟨b, off, h5, _, _⟩
          · simp at h0
          · exact ⟨b, off, by rw [e1, h5]⟩
        subst ha
        have HLX : Hid (Rest wr.heap.size wr x (.slice (some ⟨b, off, none⟩) 32 32)) := Lib.hid (by have h9 := drest_bytes HDR.out 0 (by simp); simpa using h9)
        clear hdr hb
        go_wp2_with (first
          | (refine wpList_load_dig rfl (.tmp 16) rfl b off rfl x HX.out (rest_cell32 HLX.out HX.out) ?_)
          | (refine wpList_store_dig rfl (.tmp 2) (.tmp 17) rfl g1 x HX.out rfl rfl H4.out HB4.out hg1 ?_; intro w5 hrow hb hoth; have H5 := Lib.hid hrow; have HB5 := Lib.hid hb; clear hrow hb hoth)
          | fail)
        exact bodyPost_ret (results_cell_row rfl _ _ g1 30 (cellsOf x).toArray (0, 0) _ rfl H5.out Tryd.underlying30 rfl (size32' HX.out)) rfl ⟨by rw [HE.out, HEX.out]; rfl, HB5.out⟩
      · obtain ⟨m, hm⟩ : ∃ m, m = r.length := ⟨_, rfl⟩
        have HM := Lib.hid hm
        rw [← hm] at HDR h1r h2r hlen ⊢
        have hli : (1 : Int) < (m : Int) := by omega
        have hmi : (m : Int) ≤ 65536 := by omega
        clear hm hdr hb
        go_wp2_with fail
        refine (refnext_call r (.slice a m cap) wr (by rw [← HM.out]; exact h2r) HDR.out).mono ?_
        rintro e w4 ⟨v4, rfl, hn4⟩
        have HB4 := Lib.hid (below_next HBR.out hn4.2.1)
        have HD4 := Lib.hid (dbuf_rest hn4.1)
        have HL4 : Hid ((nxD r).length = (m + 1) / 2) := Lib.hid (by unfold nxD; rw [nx_len, HM.out])
        obtain ⟨a4, c4, rfl⟩ : ∃ a c, v4 = .slice a (nxD r).length c := by obtain ⟨_, a, c, h, _⟩ := HD4.out; exact ⟨a, c, h⟩
        clear hn4
        go_wp2_with fail
        exact ⟨⟨nxD r, a4, c4, rfl, by rw [HL4.out]; omega, by rw [HL4.out]; omega, Lib.hid (by rw [← HRE.out]; unfold nxD; rw [root_nx]), HD4.out, HB4.out⟩, by simp only [lenOf]; rw [HL4.out]; omega⟩
end Go.Proofs.YtbceimbcjijfgaaDoor.Dig
