/- A write. -/
import Derived.Test.YtlaaolbdadempaaM
import Derived.Test.YtlaaolbdadempaaL
import Derived.Test.YtlaaolbdadempaaHs
namespace Go.Proofs.Ytlaaolbdadempaa
open Go.RowKit


set_option maxHeartbeats 1000000 in
set_option maxRecDepth 100000 in
theorem clip_call (a : Option Addr) (n cap : Nat) (w : World) (h : n ≤ cap) (hc : cap ≤ 9223372036854775807) (h0 : a = none → n = 0 ∧ cap = 0) :
    Calls Try.prog 55 #[.slice a n cap] w fun e w' => e = .returned (.slice a n n) ∧ w = w' := by
  cases a with
  | none =>
    obtain ⟨rfl, rfl⟩ := h0 rfl
    go_enter Try.func55, Try.ntmps55
    go_wp2
    go_ret
    exact ⟨rfl, rfl⟩
  | some p =>
    have hi : (n : Int) ≤ (cap : Int) := by omega
    clear h0
    go_enter Try.func55, Try.ntmps55
    go_wp2
    go_ret
    exact ⟨rfl, rfl⟩
def writeD (d : Dsk) (at' : Int) (b : List UInt8) : Dsk × Int :=
  if (runsB d && hasB d.secs.length at') = true then
    (if 128 < b.length then (zeroD, 1) else if 4096 ≤ d.pend.length then (zeroD, 2) else (⟨d.secs, d.pend ++ [(at', sectorL [b])], d.left, d.stop⟩, 0))
  else (zeroD, 40)
set_option maxHeartbeats 4000000 in
set_option maxRecDepth 100000 in
theorem write_call (S : Nat → Prop) (d : Dsk) (v : Value) (at' : Int) (b : List UInt8) (bv : Value) (w : World) (h : DRestS S w d v) (hbv : Rest w.heap.size w b bv) :
    Calls Try.prog 26 #[v, .int .i64 at', bv] w (AnswersS S w (writeD d at' b)) := by
  obtain ⟨s, p, rfl, hs, hp⟩ := h
  have HS := Lib.hid hs
  have HP := Lib.hid hp
  have HBV := Lib.hid hbv
  have HV : Hid (∀ W, Below w.heap.size w W → Calls Try.prog 53 #[dskOf s p d] W fun e w' => e = .returned (.bool (runsB d)) ∧ Below W.heap.size W w') := Lib.hid (fun W hW => runs_call d _ W ⟨s, p, rfl, hs.rest.keep hW, hp.rest.keep hW⟩)
  have HH : Hid (∀ W, Calls Try.prog 54 #[dskOf s p d, .int .i64 at'] W fun e w' => e = .returned (.bool (hasB d.secs.length at')) ∧ Below W.heap.size W w') := Lib.hid (fun W => has_call d _ at' _ W w ⟨s, p, rfl, hs.rest, hp.rest⟩)
  obtain ⟨a, cap, rfl, hc1, hc2⟩ := hs.rest.shape
  obtain ⟨a2, cap2, rfl, hc3, hc4⟩ := hp.rest.shape
  obtain ⟨ba, bc, rfl, hb1, hb2⟩ := hbv.shape
  obtain ⟨us, hul, huel, huc⟩ := hp.vals
  have hnone : a2 = none → d.pend.length = 0 ∧ cap2 = 0 := by
    obtain ⟨a3, c3, he, _, _, h4, _⟩ := hp
    injection he with he1 he2 he3
    subst he1 he3
    exact h4
  have HNONE := Lib.hid hnone
  have HUL := Lib.hid hul
  have HUEL := Lib.hid huel
  have HUC := Lib.hid huc
  clear hs hp hbv hnone hul huel huc
  unfold writeD
  obtain ⟨r, hr⟩ : ∃ r, r = runsB d := ⟨_, rfl⟩
  obtain ⟨r2, hr2⟩ : ∃ r, r = hasB d.secs.length at' := ⟨_, rfl⟩
  rw [← hr] at HV ⊢
  rw [← hr2] at HH ⊢
  clear hr hr2
  unfold dskOf dskCells at *
  have HRB : Hid (Row ((w.alloc (.cells #[.slice a d.secs.length cap, .slice a2 d.pend.length cap2, .int .i64 d.left, .bool d.stop] 25)).alloc (.cells #[.slice none 0 0, .slice none 0 0, .int .i64 0, .bool false] 25)) w.heap.size 25 [.slice a d.secs.length cap, .slice a2 d.pend.length cap2, .int .i64 d.left, .bool d.stop]) := Lib.hid ((row_new w 25 _).keep (Joins.below_alloc1 _ _))
  have HRR := Lib.hid (row_new (w.alloc (.cells #[.slice a d.secs.length cap, .slice a2 d.pend.length cap2, .int .i64 d.left, .bool d.stop] 25)) 25 [.slice none 0 0, .slice none 0 0, .int .i64 0, .bool false])
  have HB0 := Lib.hid (below_two w (.cells #[.slice a d.secs.length cap, .slice a2 d.pend.length cap2, .int .i64 d.left, .bool d.stop] 25) (.cells #[.slice none 0 0, .slice none 0 0, .int .i64 0, .bool false] 25))
  rw [World.size_alloc] at HRR
  cases r
  · rw [Bool.false_and, if_neg (by decide)]
    go_enter Try.func26, Try.ntmps26
    go_wp2_with fail
    refine (HV.out _ HB0.out).mono ?_
    rintro e w2 ⟨rfl, hb⟩
    have HB2 := Lib.hid (below_next HB0.out hb)
    have HRB2 := Lib.hid (HRB.out.keep hb)
    have HRR2 := Lib.hid (HRR.out.keep hb)
    clear hb HRB HRR HB0
    go_wp2_with (refine wpList_store_ag rfl 25 (.tmp 6) (.tmp 18) rfl (w.heap.size + 1) [.slice none 0 0, .slice none 0 0, .int .i64 0, .bool false] _ size25 (by rfl) rfl rfl HRR2.out (by rfl) HB2.out (by omega) ?_; intro w9 hr hb hf)
    exact bodyPost_ret (results_dsk Try.results26 _ w9 (w.heap.size + 1) _ rfl rfl _ rfl hr) rfl ⟨_, rfl, drests_zero _ _, hb⟩
  · cases r2
    · rw [Bool.and_false, if_neg (by decide)]
      go_enter Try.func26, Try.ntmps26
      go_wp2_with fail
      refine (HV.out _ HB0.out).mono ?_
      rintro e w2 ⟨rfl, hb⟩
      have HB2 := Lib.hid (below_next HB0.out hb)
      have HRB2 := Lib.hid (HRB.out.keep hb)
      have HRR2 := Lib.hid (HRR.out.keep hb)
      clear hb HRB HRR HB0
      have c0 := HRB2.out.cell (i := 0) rfl
      have c1 := HRB2.out.cell (i := 1) rfl
      have c2 := HRB2.out.cell (i := 2) rfl
      have c3 := HRB2.out.cell (i := 3) rfl
      go_wp2_with fail
      refine (HH.out w2).mono ?_
      rintro e w3 ⟨rfl, hb⟩
      have HB3 := Lib.hid (below_next HB2.out hb)
      have HRB3 := Lib.hid (HRB2.out.keep hb)
      have HRR3 := Lib.hid (HRR2.out.keep hb)
      have e1 := HRB3.out.cell (i := 1) rfl
      clear hb HRB2 HRR2 HB2 c0 c1 c2 c3
      go_wp2_with (refine wpList_store_ag rfl 25 (.tmp 6) (.tmp 18) rfl (w.heap.size + 1) [.slice none 0 0, .slice none 0 0, .int .i64 0, .bool false] _ size25 (by rfl) rfl rfl HRR3.out (by rfl) HB3.out (by omega) ?_; intro w9 hr hb hf)
      exact bodyPost_ret (results_dsk Try.results26 _ w9 (w.heap.size + 1) _ rfl rfl _ rfl hr) rfl ⟨_, rfl, drests_zero _ _, hb⟩
    · rw [Bool.and_self, if_pos rfl]
      by_cases h128 : 128 < b.length
      · rw [if_pos h128]
        have i128 : (128 : Int) < (b.length : Int) := by omega
        go_enter Try.func26, Try.ntmps26
        go_wp2_with fail
        refine (HV.out _ HB0.out).mono ?_
        rintro e w2 ⟨rfl, hb⟩
        have HB2 := Lib.hid (below_next HB0.out hb)
        have HRB2 := Lib.hid (HRB.out.keep hb)
        have HRR2 := Lib.hid (HRR.out.keep hb)
        clear hb HRB HRR HB0
        have c0 := HRB2.out.cell (i := 0) rfl
        have c1 := HRB2.out.cell (i := 1) rfl
        have c2 := HRB2.out.cell (i := 2) rfl
        have c3 := HRB2.out.cell (i := 3) rfl
        go_wp2_with fail
        refine (HH.out w2).mono ?_
        rintro e w3 ⟨rfl, hb⟩
        have HB3 := Lib.hid (below_next HB2.out hb)
        have HRB3 := Lib.hid (HRB2.out.keep hb)
        have HRR3 := Lib.hid (HRR2.out.keep hb)
        have e1 := HRB3.out.cell (i := 1) rfl
        clear hb HRB2 HRR2 HB2 c0 c1 c2 c3
        go_wp2_with (refine wpList_store_ag rfl 25 (.tmp 6) (.tmp 23) rfl (w.heap.size + 1) [.slice none 0 0, .slice none 0 0, .int .i64 0, .bool false] _ size25 (by rfl) rfl rfl HRR3.out (by rfl) HB3.out (by omega) ?_; intro w9 hr hb hf)
        exact bodyPost_ret (results_dsk Try.results26 _ w9 (w.heap.size + 1) _ rfl rfl _ rfl hr) rfl ⟨_, rfl, drests_zero _ _, hb⟩
      · rw [if_neg h128]
        have i128 : ¬ (128 : Int) < (b.length : Int) := by omega
        by_cases h4 : 4096 ≤ d.pend.length
        · rw [if_pos h4]
          have i4 : (4096 : Int) ≤ (d.pend.length : Int) := by omega
          go_enter Try.func26, Try.ntmps26
          go_wp2_with fail
          refine (HV.out _ HB0.out).mono ?_
          rintro e w2 ⟨rfl, hb⟩
          have HB2 := Lib.hid (below_next HB0.out hb)
          have HRB2 := Lib.hid (HRB.out.keep hb)
          have HRR2 := Lib.hid (HRR.out.keep hb)
          clear hb HRB HRR HB0
          have c0 := HRB2.out.cell (i := 0) rfl
          have c1 := HRB2.out.cell (i := 1) rfl
          have c2 := HRB2.out.cell (i := 2) rfl
          have c3 := HRB2.out.cell (i := 3) rfl
          go_wp2_with fail
          refine (HH.out w2).mono ?_
          rintro e w3 ⟨rfl, hb⟩
          have HB3 := Lib.hid (below_next HB2.out hb)
          have HRB3 := Lib.hid (HRB2.out.keep hb)
          have HRR3 := Lib.hid (HRR2.out.keep hb)
          have e1 := HRB3.out.cell (i := 1) rfl
          clear hb HRB2 HRR2 HB2 c0 c1 c2 c3
          go_wp2_with (refine wpList_store_ag rfl 25 (.tmp 6) (.tmp 29) rfl (w.heap.size + 1) [.slice none 0 0, .slice none 0 0, .int .i64 0, .bool false] _ size25 (by rfl) rfl rfl HRR3.out (by rfl) HB3.out (by omega) ?_; intro w9 hr hb hf)
          exact bodyPost_ret (results_dsk Try.results26 _ w9 (w.heap.size + 1) _ rfl rfl _ rfl hr) rfl ⟨_, rfl, drests_zero _ _, hb⟩
        · rw [if_neg h4]
          have i4 : ¬ (4096 : Int) ≤ (d.pend.length : Int) := by omega
          go_enter Try.func26, Try.ntmps26
          go_wp2_with fail
          refine (HV.out _ HB0.out).mono ?_
          rintro e w2 ⟨rfl, hb⟩
          have HB2 := Lib.hid (below_next HB0.out hb)
          have HRB2 := Lib.hid (HRB.out.keep hb)
          have HRR2 := Lib.hid (HRR.out.keep hb)
          clear hb HRB HRR HB0
          have c0 := HRB2.out.cell (i := 0) rfl
          have c1 := HRB2.out.cell (i := 1) rfl
          have c2 := HRB2.out.cell (i := 2) rfl
          have c3 := HRB2.out.cell (i := 3) rfl
          go_wp2_with fail
          refine (HH.out w2).mono ?_
          rintro e w3 ⟨rfl, hb⟩
          have HB3 := Lib.hid (below_next HB2.out hb)
          have HRB3 := Lib.hid (HRB2.out.keep hb)
          have HRR3 := Lib.hid (HRR2.out.keep hb)
          have e1 := HRB3.out.cell (i := 1) rfl
          clear hb HRB2 HRR2 HB2 c0 c1 c2 c3
          have HOLD3 : Hid (d.pend.length = 0 ∨ ∃ b off, a2 = some ⟨b, off, none⟩ ∧ ∀ W, Below w.heap.size w W → ∀ (j : Nat) x, (pcells d.pend us)[j]? = some x → W.cell? ⟨b, off + j, none⟩ = some x) := Lib.hid (by
            rcases HUC.out with h0 | ⟨b1, o1, h1, h2, h3⟩
            · exact .inl h0
            · exact .inr ⟨b1, o1, h1, fun W hW j x hj => (hW.cell (p := ⟨b1, o1 + j, none⟩) h2).trans (h3 j x hj).1⟩)
          go_wp2_with (first
            | (go_at_call 55; refine (clip_call a2 d.pend.length cap2 _ hc4 hc3 HNONE.out).mono ?_; rintro e w4 ⟨rfl, rfl⟩)
            | (go_at_call 51; refine (sector_call [b] _ _ (nrest_one (W := w3) ((HBV.out.stays HB3.out).mono HB3.out.size))).mono ?_; rintro e w5 ⟨g5, rfl, hg5, hrow5, hb5⟩; have HR5 := Lib.hid hrow5; have HB5 := Lib.hid (below_next (Joins.below_alloc1 w3 _) hb5); clear hrow5 hb5; have HB6 := Lib.hid (below_next HB5.out (Joins.below_alloc1 w5 (.cells #[.int .i64 at', .slice (some ⟨g5, 0, none⟩) 128 128] 76))))
            | (refine wpList_append_wr rfl (.tmp 32) (.tmp 38) rfl a2 d.pend.length d.pend us rfl rfl (fun h => (HNONE.out h).1) HUL.out (HOLD3.out.imp id (fun ⟨b1, o1, h1, h2⟩ => ⟨b1, o1, h1, h2 _ (below_next HB3.out HB6.out)⟩)) w5.heap.size (at', sectorL [b]) (.slice (some ⟨g5, 0, none⟩) 128 128) rfl (row_new w5 76 _) (by omega) rfl ?_; intro g7 cap7 w7 hown hb7; have HOWN := Lib.hid hown; have HB7 := Lib.hid (below_next HB6.out hb7); have HG7 := Lib.hid (owns_ge hown); have c71 := (HRB3.out.keep HB7.out).cell (i := 1) rfl; have f71 := (HRB3.out.keep HB7.out).free 1; have HR7 := Lib.hid ((HR5.out.keep (Joins.below_alloc1 w5 _)).keep hb7); have HRX := Lib.hid ((HRB3.out.keep HB7.out).set (cs' := [.slice a d.secs.length cap, .slice (some ⟨g7, 0, none⟩) (d.pend.length + 1) cap7, .int .i64 d.left, .bool d.stop]) 1 (.slice (some ⟨g7, 0, none⟩) (d.pend.length + 1) cap7) rfl); have HRY := Lib.hid ((HRR3.out.keep HB7.out).setFar (g' := w.heap.size) 1 (.slice (some ⟨g7, 0, none⟩) (d.pend.length + 1) cap7) (by omega)); have HBX := Lib.hid (below_setCell (below_next HB3.out HB7.out) w.heap.size 1 (.slice (some ⟨g7, 0, none⟩) (d.pend.length + 1) cap7) (Nat.le_refl _)); clear hown hb7)
            | (refine wpList_load_dsk rfl (.tmp 3) rfl w.heap.size _ (by rfl) rfl HRX.out ?_)
            | (refine wpList_store_ag rfl 25 (.tmp 6) (.tmp 41) rfl (w.heap.size + 1) [.slice a d.secs.length cap, .slice (some ⟨g7, 0, none⟩) (d.pend.length + 1) cap7, .int .i64 d.left, .bool d.stop] _ size25 (by rfl) rfl rfl HRY.out (by rfl) HBX.out (by omega) ?_; intro w9 hr hb hf))
          have hw3 : w.heap.size + 1 < w3.heap.size := HRR3.out.lt
          have h59 : Row w9 g5 5 (cellsOf (sectorL [b])) := hf g5 5 _ (by have := hg5; simp at this; omega) (HR7.out.setFar 1 _ (by have := hg5; simp at this; omega))
          obtain ⟨cs7, r7, k7⟩ := owns_row HOWN.out
          have h79 := k7 w9 (hf g7 76 cs7 (by have := HG7.out; have := HB5.out.size; simp at *; omega) (r7.setFar 1 _ (by have := HG7.out; have := HB5.out.size; simp at *; omega)))
          have hp9 : PRestS (Ext S w.heap.size) w9 (d.pend ++ [(at', sectorL [b])]) (.slice (some ⟨g7, 0, none⟩) (d.pend.length + 1) cap7) := prests_more h79 rfl HUL.out (fun g h => .inr (by cases h; have := HG7.out; have := HB5.out.size; simp at *; omega)) (fun i q x hq hx => ((HUEL.out i q x hq hx).later hb).weak (fun b h _ => .inl h.1)) (rows_rest (n := 128) h59 (sectorL_len _) (by omega) (.inr (by have := hg5; simp at this; omega)))
          exact bodyPost_ret (results_dsk Try.results26 _ w9 (w.heap.size + 1) _ rfl rfl _ rfl hr) rfl ⟨_, rfl, ⟨_, _, rfl, (HS.out.later hb).weak (fun b h _ => .inl h.1), hp9⟩, hb⟩
end Go.Proofs.Ytlaaolbdadempaa
