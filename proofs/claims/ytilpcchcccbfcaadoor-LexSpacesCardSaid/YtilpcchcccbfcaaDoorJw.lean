/- The law on two sources, one after the other, returns true. -/
import Derived.Test.YtilpcchcccbfcaaDoorJo
namespace Go.Proofs.YtilpcchcccbfcaaDoor
open Go.RowKit

theorem lex_three {s : ByteArray} {ts : List Tok} {p c : Nat} (h : lexR s = (ts, p, c)) (w : World) (hs : s.size ≤ 281474976710656) (hT : Laid w) :
    Calls Tryd.prog 12 #[.string s] w fun e w' => ∃ a cap, e = .returned (.tuple #[.slice a ts.length cap, .int .i64 (p : Int), .int .i64 (c : Int)]) ∧ TRest w'.heap.size w' ts (.slice a ts.length cap) ∧ Below w.heap.size w w' := lex_of h _ rfl w hs hT
def JoHead (xs ys : List Tok) (D : Nat) (W : World) (s14 s87 : Value) (wr : World) : Prop := ∃ k : Nat, k ≤ ys.length ∧ s87 = .int .i64 (k : Int) ∧ TNew W wr s14 (xs ++ (ys.take k).map (Tok.shift D))

set_option maxHeartbeats 4000000 in
set_option maxRecDepth 100000 in
theorem joined_walk (a b : ByteArray) (w : World) (hs : a.size ≤ 140737488351232) (hm : b.size ≤ 140737488351232) (hT : Laid w) :
    Calls Tryd.prog 7 #[.string a, .string b] w fun e w' => e = .returned (.bool true) ∧ Below w.heap.size w w' := by
  have HT : Hid (∀ W, Below w.heap.size w W → Laid W) := fun W hb => hT.keep hb
  have HSA : Hid (Calls Tryd.prog 11 #[] w fun e w' => e = .returned (.bool true) ∧ Below w.heap.size w w') := Lib.hid (sane_call w hT)
  clear hT
  rcases Nat.lt_or_ge 3000 (a.size + b.size) with hlong | hshort
  · have hlong2 : (3000 : Int) < (a.size : Int) + (b.size : Int) := by omega
    go_enter Tryd.func7, Tryd.ntmps7
    go_wp2_with (go_at_call 11; refine HSA.out.mono ?_; rintro e w1 ⟨rfl, hb⟩; have HB := Lib.hid hb; clear hb)
    go_ret
    exact ⟨rfl, HB.out⟩
  · have hshort2 : ¬ (3000 : Int) < (a.size : Int) + (b.size : Int) := by omega
    have hlex : ∀ (s : ByteArray) (p c : Nat), (lexR s).2 = (p, c) → s.size ≤ 65536 → Hid (∀ W, Below w.heap.size w W → Calls Tryd.prog 12 #[.string s] W fun e w' => ∃ v, e = .returned (.tuple #[v, .int .i64 (p : Int), .int .i64 (c : Int)]) ∧ Below W.heap.size W w') :=
      fun s p c h hs => Lib.hid (fun W hb => lex_two h W (by omega) (HT.out W hb))
    have hlex0 : ∀ (s : ByteArray) (q : Nat), lexR s = ([], q, 30) → s.size ≤ 65536 → Hid (∀ W, Below w.heap.size w W → Calls Tryd.prog 12 #[.string s] W fun e w' => ∃ a cap, e = .returned (.tuple #[.slice a 0 cap, .int .i64 (q : Int), .int .i64 30]) ∧ Below W.heap.size W w') :=
      fun s q h hs => Lib.hid (fun W hb => (lex_of h 0 rfl W (by omega) (HT.out W hb)).mono fun e w' ⟨a, c, h1, _, h3⟩ => ⟨a, c, h1, h3⟩)
    have hsz : (a ++ ⟨#[10]⟩ ++ b).size ≤ 65536 := by rw [size_append, size_append]; show a.size + 1 + b.size ≤ 65536; omega
    have hbs : bs (a ++ ⟨#[10]⟩ ++ b) = bs a ++ 10 :: bs b := by rw [bs_append, bs_append, List.append_assoc]; rfl
    have hla : (bs a).length = a.size := (Lib.size_eq a).symm
    have hlb : (bs b).length = b.size := (Lib.size_eq b).symm
    cases he : (lexL 0 (bs a)).2 with
    | some q =>
      have hq : q < a.size := by have := (err_at 0 (bs a) q he).2.1; omega
      have hz : lexR (a ++ ⟨#[10]⟩ ++ b) = ([], q, 30) := lexR_bad hsz (by rw [hbs]; exact wrong_more (by decide) _ 0 _ q he)
      have HL1 := hlex a q 30 (by rw [lexR_bad (by omega) he]) (by omega)
      have HL3 := hlex0 _ q hz hsz
      obtain ⟨p2, c2, hb2⟩ : ∃ p c, (lexR b).2 = (p, c) := ⟨_, _, rfl⟩
      have HL2 := hlex b p2 c2 hb2 (by omega)
      clear he hz hlex hlex0 hsz hbs hb2 hla hlb
      go_enter Tryd.func7, Tryd.ntmps7
      go_wp2_with (go_at_call 11; refine HSA.out.mono ?_; rintro e w1 ⟨rfl, hb⟩; have HB := Lib.hid hb; clear hb)
      refine (HL1.out _ HB.out).mono ?_
      rintro e w2 ⟨v1, rfl, hb⟩
      have HB := Lib.hid (below_next HB.out hb)
      clear hb
      go_wp2_with fail
      refine (HL2.out _ HB.out).mono ?_
      rintro e w3 ⟨v2, rfl, hb⟩
      have HB := Lib.hid (below_next HB.out hb)
      clear hb
      go_wp2_with fail
      refine (HL3.out _ HB.out).mono ?_
      rintro e w4 ⟨v3, c3, rfl, hb⟩
      have HB := Lib.hid (below_next HB.out hb)
      clear hb
      go_wp2_with fail
      go_ret
      exact ⟨rfl, HB.out⟩
    | none =>
      have hjo := lex_joined (bs b) 0 (bs a) he
      rw [Nat.zero_add, lex_shift0 ((bs a).length + 1) (bs b), ← hbs] at hjo
      have hra := lexR_ok (by omega) he
      cases hf : (lexL 0 (bs b)).2 with
      | some q =>
        have hq : q < b.size := by have := (err_at 0 (bs b) q hf).2.1; omega
        have hz : lexR (a ++ ⟨#[10]⟩ ++ b) = ([], q + (a.size + 1), 30) := lexR_bad hsz (by rw [hjo, hf, hla]; rfl)
        have HL1 := hlex a 0 0 (by rw [hra]) (by omega)
        have HL2 := hlex b q 30 (by rw [lexR_bad (by omega) hf]) (by omega)
        have HL3 := hlex0 _ _ hz hsz
        clear he hf hz hlex hlex0 hsz hbs hla hlb hjo hra
        go_enter Tryd.func7, Tryd.ntmps7
        go_wp2_with (go_at_call 11; refine HSA.out.mono ?_; rintro e w1 ⟨rfl, hb⟩; have HB := Lib.hid hb; clear hb)
        refine (HL1.out _ HB.out).mono ?_
        rintro e w2 ⟨v1, rfl, hb⟩
        have HB := Lib.hid (below_next HB.out hb)
        clear hb
        go_wp2_with fail
        refine (HL2.out _ HB.out).mono ?_
        rintro e w3 ⟨v2, rfl, hb⟩
        have HB := Lib.hid (below_next HB.out hb)
        clear hb
        go_wp2_with fail
        refine (HL3.out _ HB.out).mono ?_
        rintro e w4 ⟨v3, c3, rfl, hb⟩
        have HB := Lib.hid (below_next HB.out hb)
        clear hb
        go_wp2_with fail
        go_ret
        exact ⟨rfl, HB.out⟩
      | none =>
        have hrb := lexR_ok (by omega) hf
        obtain ⟨D, hD⟩ : ∃ D, D = a.size + 1 := ⟨_, rfl⟩
        rw [hla, ← hD] at hjo
        have hz : lexR (a ++ ⟨#[10]⟩ ++ b) = ((lexL 0 (bs a)).1 ++ (lexL 0 (bs b)).1.map (Tok.shift D), 0, 0) := by
          rw [lexR_ok hsz (by rw [hjo, hf]; rfl), hjo]
        have hxl := toks_le 0 (bs a)
        have hyl := toks_le 0 (bs b)
        have hyt : ∀ t ∈ (lexL 0 (bs b)).1, 0 ≤ t.at' ∧ t.at' ≤ 3000 := fun t ht => by
          have h1 := at_ge 0 (bs b) t ht
          have h2 := at_lt 0 (bs b) t ht
          omega
        obtain ⟨xs, hxs⟩ : ∃ xs, xs = (lexL 0 (bs a)).1 := ⟨_, rfl⟩
        obtain ⟨ys, hys⟩ : ∃ ys, ys = (lexL 0 (bs b)).1 := ⟨_, rfl⟩
        rw [← hxs] at hxl hra hz
        rw [← hys] at hyl hyt hrb hz
        have HL1 : Hid (∀ W, Below w.heap.size w W → Calls Tryd.prog 12 #[.string a] W fun e w' => ∃ u cap, e = .returned (.tuple #[.slice u xs.length cap, .int .i64 0, .int .i64 0]) ∧ TRest w'.heap.size w' xs (.slice u xs.length cap) ∧ Below W.heap.size W w') := Lib.hid (fun W hb => lex_three hra W (by omega) (HT.out W hb))
        have HL2 : Hid (∀ W, Below w.heap.size w W → Calls Tryd.prog 12 #[.string b] W fun e w' => ∃ u cap, e = .returned (.tuple #[.slice u ys.length cap, .int .i64 0, .int .i64 0]) ∧ TRest w'.heap.size w' ys (.slice u ys.length cap) ∧ Below W.heap.size W w') := Lib.hid (fun W hb => lex_three hrb W (by omega) (HT.out W hb))
        obtain ⟨zs, hzs⟩ : ∃ zs, zs = xs ++ ys.map (Tok.shift D) := ⟨_, rfl⟩
        rw [← hzs] at hz
        have HL3 : Hid (∀ W, Below w.heap.size w W → Calls Tryd.prog 12 #[.string (a ++ ⟨#[10]⟩ ++ b)] W fun e w' => ∃ u cap, e = .returned (.tuple #[.slice u zs.length cap, .int .i64 0, .int .i64 0]) ∧ TRest w'.heap.size w' zs (.slice u zs.length cap) ∧ Below W.heap.size W w') := Lib.hid (fun W hb => lex_three hz W (by omega) (HT.out W hb))
        obtain ⟨nx, hnx⟩ : ∃ n, n = xs.length := ⟨_, rfl⟩
        obtain ⟨ny, hny⟩ : ∃ n, n = ys.length := ⟨_, rfl⟩
        obtain ⟨nz, hnz⟩ : ∃ n, n = zs.length := ⟨_, rfl⟩
        rw [← hnx] at HL1 hxl
        rw [← hny] at HL2 hyl
        rw [← hnz] at HL3
        have hx3 : nx ≤ 3000 := by omega
        have hy3 : ny ≤ 3000 := by omega
        have HD := Lib.hid hD
        have HYT := Lib.hid hyt
        have HNX := Lib.hid hnx
        have HNY := Lib.hid hny
        have HZS := Lib.hid hzs
        clear he hf hz hlex hlex0 hsz hbs hla hlb hjo hra hrb hxs hys hD hyt hnx hny hnz hxl hyl hzs
        go_enter Tryd.func7, Tryd.ntmps7
        go_wp2_with (go_at_call 11; refine HSA.out.mono ?_; rintro e w1 ⟨rfl, hb⟩; have HB := Lib.hid hb; clear hb)
        refine (HL1.out _ HB.out).mono ?_
        rintro e w2 ⟨va1, vc1, rfl, hr, hb⟩
        have HB := Lib.hid (below_next HB.out hb)
        have H1 := Lib.hid hr
        clear hr hb
        go_wp2_with fail
        refine (HL2.out _ HB.out).mono ?_
        rintro e w3 ⟨va2, vc2, rfl, hr, hb⟩
        have HB := Lib.hid (below_next HB.out hb)
        have H1 := Lib.hid (H1.out.keep hb)
        have H2 := Lib.hid hr
        clear hr hb
        go_wp2_with fail
        refine (HL3.out _ HB.out).mono ?_
        rintro e w4 ⟨va3, vc3, rfl, hr, hb⟩
        have HB := Lib.hid (below_next HB.out hb)
        have H1 := Lib.hid (H1.out.keep hb)
        have H2 := Lib.hid (H2.out.keep hb)
        have H3 := Lib.hid hr
        clear hr hb
        have hvc2 : ny ≤ vc2 := by
          obtain ⟨_, _, h1, _, h3⟩ := trest_shape H2.out
          injection h1 with _ h5 h6
          omega
        go_wp2_with (refine wpList_append_toks rfl (.tmp 82) (.tmp 83) rfl (.slice (some ⟨w4.heap.size, 0, none⟩) 0 0) [] rfl (tnew_none w4).1 _ xs _ rfl (H1.out.keep (Joins.below_alloc1 w4 (.cells #[] 35))) (by rw [← HNX.out]; simp; omega) ?_; intro v5 w5 hbuf hwr; have HN := Lib.hid ((tnew_none w4).app hbuf hwr); clear hbuf hwr)
        go_loopw [14, 87] (fun s14 s87 wr => JoHead xs ys D w4 s14 s87 wr) (fun _ s87 _ => ny - (intOf s87).toNat)
        case atStart => exact ⟨0, Nat.zero_le _, by go_num, by have := HN.out; simpa using this⟩
        case round =>
          obtain ⟨k, hk, rfl, hnew⟩ := hrel
          rw [← HNY.out] at hk
          have HNW := Lib.hid hnew
          clear hnew
          rcases Nat.lt_or_ge k ny with hlt | hge
          · obtain ⟨t, ht⟩ : ∃ t, ys[k]? = some t := ⟨_, List.getElem?_eq_getElem (by rw [← HNY.out]; exact hlt)⟩
            obtain ⟨g2, off, rfl, hbl, hc1⟩ := tok_cells H2.out ht
            have HC1 := Lib.hid hc1
            have HTK := Lib.hid ht
            obtain ⟨hta, htb⟩ := HYT.out t (List.mem_of_getElem? ht)
            have HB4 := Lib.hid HNW.out.2.1
            have hkm : (k : Int) < (ny : Int) := by omega
            have hk0 : (0 : Int) ≤ (k : Int) := by omega
            clear hc1 ht
            have HSH := Lib.hid (shift_cells t a.size)
            rw [← HD.out] at HSH
            obtain ⟨t', ht'⟩ : ∃ t', t' = t.shift D := ⟨_, rfl⟩
            rw [← ht'] at HSH
            have HTS := Lib.hid ht'
            obtain ⟨zk, hzk⟩ : ∃ zk, zk = xs ++ (ys.take k).map (Tok.shift D) := ⟨_, rfl⟩
            have HZK := Lib.hid hzk
            rw [← hzk] at HNW
            have hzl : zk.length ≤ 6000 := by rw [hzk]; simp; have := HNX.out; omega
            clear ht' hzk
            go_wp2_with (first
              | (refine wpList_load_tokAt rfl (.tmp 89) rfl g2 (off + k * 4) t rfl (HC1.out _ HB4.out) ?_)
              | (refine wpList_alloc_tok rfl 16 rfl rfl ?_; intro g w6 hg hrow hb; have HG := Lib.hid hrow; have HGL : Hid (w4.heap.size ≤ g) := (by rw [hg]; exact HB4.out.size); have HNE : Hid (∀ q, u14.ownBlock = some q → q ≠ g) := Lib.hid (fun q hq => by have := owns_lt HNW.out.1 q hq; omega); have HB4 := Lib.hid (below_next HB4.out hb); have HNW := Lib.hid (HNW.out.keep hb); clear hrow hb hg)
              | (refine wpList_store_tok2 rfl (.tmp 16) (.tmp 90) rfl g t tok0 rfl rfl rfl HG.out HB4.out HGL.out ?_; intro w7 hrow hb hfar; have HG := Lib.hid hrow; have HB4 := Lib.hid hb; have HTB := Lib.hid (tbuf_same HNW.out.1 fun q hq => hfar q (HNE.out q hq)); clear hrow hb hfar; have c3 := HG.out.cell (i := 3) rfl; have f3 := HG.out.free 3)
              | (refine wpList_load_tok rfl (.tmp 16) rfl g t' rfl (HG.out.set 3 _ HSH.out) ?_; unfold tokOf tokCells; obtain ⟨w8, hw8⟩ : ∃ x, x = w7.setCell ⟨g, 3, none⟩ (.int .i64 (t.at' + ((a.size : Int) + 1))) := ⟨_, rfl⟩; rw [← hw8]; have HN8 : Hid (TNew w4 w8 u14 zk) := Lib.hid (by rw [hw8]; exact ⟨tbuf_same HTB.out fun q hq => heap_setCell_other _ _ _ _ (HNE.out q hq), below_setCell HB4.out _ _ _ HGL.out, HNW.out.2.2⟩); clear hw8 c3 f3)
              | (refine wpList_append_tok rfl (.tmp 98) (.tmp 100) rfl u14 zk rfl (HN8.out.keep (Joins.below_alloc1 w8 (.cells (tokCells t').toArray 35))).1 w8.heap.size t' rfl (row_new w8 35 (tokCells t')) (by omega) ?_; intro v9 w9 hbuf hwr; have HN9 := Lib.hid ((HN8.out.keep (Joins.below_alloc1 w8 (.cells (tokCells t').toArray 35))).app hbuf hwr); clear hbuf hwr))
            refine ⟨⟨k + 1, by rw [← HNY.out]; omega, by go_num, ?_⟩, by simp [intOf]; omega⟩
            have h9 := HN9.out
            rw [HZK.out, HTS.out, List.append_assoc] at h9
            rw [List.take_add_one, HTK.out, List.map_append]
            exact h9
          · obtain rfl : k = ny := by omega
            have HEND : Hid (xs ++ (ys.take k).map (Tok.shift D) = zs) := Lib.hid (by rw [HNY.out, List.take_length, HZS.out])
            have hnw := HNW.out
            rw [HEND.out] at hnw
            have HQ := Lib.hid (equal_call zs zs _ _ wr (H3.out.keep hnw.2.1) (tbuf_rest hnw.1))
            rw [show decide (zs = zs) = true from by simp] at HQ
            have HBW := Lib.hid (below_next HB.out hnw.2.1)
            clear hnw
            go_wp2_with (go_at_call 14; refine HQ.out.mono ?_; rintro e w8 ⟨rfl, hb⟩; have HBW := Lib.hid (below_next HBW.out hb); clear hb)
            go_ret
            exact ⟨rfl, HBW.out⟩
end Go.Proofs.YtilpcchcccbfcaaDoor
