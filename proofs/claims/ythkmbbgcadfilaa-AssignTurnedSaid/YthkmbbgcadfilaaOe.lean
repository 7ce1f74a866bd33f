/- least: its walk. -/
import Derived.Test.YthkmbbgcadfilaaOd
namespace Go.Proofs.Ythkmbbgcadfilaa
open Go.RowKit Go.Shelf

theorem cloneR_law {n : Nat} (C : List (List Int)) (vc : Value) (w : World) (hC : NRest w.heap.size w C vc) (hn : C.length = n) (hlen : n ≤ 1000) :
    Calls Try.prog 49 #[vc] w fun e w' => Below w.heap.size w w' ∧ ∃ a cap, e = .returned (.slice a n cap) ∧ (0 < n → ∃ gl, a = some ⟨gl, 0, none⟩ ∧ w.heap.size ≤ gl ∧ LMem gl cap n C w') := by
  subst hn
  exact cloneR_call C vc w hC hlen
set_option maxRecDepth 100000 in
set_option maxHeartbeats 8000000 in
theorem least_call {g gu gv gt gr n m : Nat} {vc : Value} {U V TO RW : List Int} (C : List (List Int)) (w : World) (hM : Mat C n m) (hC : NRest w.heap.size w C vc) (hd : DMem g gu gv gt gr n m vc U V TO RW w) (hD : Deal n m (cst C) (gI U 0) (gI V 0) (gI TO (-1)) (gI RW (-1)) n) {K : Int} (hK : K = bnd n m (gI U 0) (gI V 0)) :
    Calls Try.prog 32 #[.pointer (some ⟨g, 0, none⟩)] w fun e w' => Below w.heap.size w w' ∧ ∃ v p, e = .returned v ∧ IBuf w' v (ofN p) ∧ p.length = n ∧ Lx n m (cst C) K (gN p) := by
  obtain ⟨a, c, rfl⟩ := nrest_shape hC
  have hn := hM.len
  have HN := Lib.hid hn
  have HM := Lib.hid hM
  have HC := Lib.hid hC
  have HD := Lib.hid hd
  have HDL := Lib.hid hD
  have HK := Lib.hid hK
  have hn16 := hM.n16
  have hm16 := hM.m16
  have hgl := hd.rg.lt
  rw [hn] at HC HD hd
  have hb0 := Joins.below_alloc1 w (.cells #[.pointer (some ⟨g, 0, none⟩)] 47)
  have c0 := (hd.rg.keep hb0).cell (i := 0) rfl
  have HCL := Lib.hid (cloneR_law C (.slice a n c) (w.alloc (.cells #[.pointer (some ⟨g, 0, none⟩)] 47)) (HC.out.keep hb0) hn (by omega))
  have HB0 := Lib.hid hb0
  clear hM hC hd hD hK hb0
  clear hn
  go_enter Try.func32, Try.ntmps32
  go_upto_region 1 with (fail)
  go_upto_region 2 with (go_at_call 49; refine HCL.out.mono ?_; rintro e w2 ⟨hb2, a2, cap, rfl, hl2⟩; have HB2 := Lib.hid hb2; have HL2 := Lib.hid hl2; clear hb2 hl2)
  have hb3 := Joins.below_alloc1 w2 (.cells #[.slice a2 n cap] 22)
  have q3 : Row (w2.alloc (.cells #[.slice a2 n cap] 22)) w2.heap.size 22 [.slice a2 n cap] := row_new w2 _ _
  have hw3 : Below w.heap.size w (w2.alloc (.cells #[.slice a2 n cap] 22)) := below_next (below_next HB0.out HB2.out) hb3
  have hg3 : Row (w2.alloc (.cells #[.slice a2 n cap] 22)) w.heap.size 47 [.pointer (some ⟨g, 0, none⟩)] := ((row_new w 47 [.pointer (some ⟨g, 0, none⟩)]).keep HB2.out).keep hb3
  have HGB : Hid (w.heap.size + 1 ≤ w2.heap.size) := Lib.hid (by have := HB2.out.size; simpa using this)
  have hs3 : (w2.alloc (.cells #[.slice a2 n cap] 22)).heap.size = w2.heap.size + 1 := World.size_alloc ..
  obtain ⟨gb, hgb⟩ : ∃ gb, gb = w2.heap.size := ⟨_, rfl⟩
  obtain ⟨gd, hgd⟩ : ∃ gd, gd = w.heap.size := ⟨_, rfl⟩
  have HL3 : Hid (0 < n → ∃ gl, a2 = some ⟨gl, 0, none⟩ ∧ gd < gl ∧ gl < gb ∧ LMem gl cap n C (w2.alloc (.cells #[.slice a2 n cap] 22))) := Lib.hid (fun h => by
    obtain ⟨gl, h1, h2, h3⟩ := HL2.out h
    exact ⟨gl, h1, by rw [hgd]; have := h2; simp at this; omega, by rw [hgb]; exact h3.parts.2.2, h3.keep hb3⟩)
  rw [← hgb] at q3 hs3 HGB ⊢
  rw [← hgd] at hg3 HGB hgl ⊢
  have HGE := Lib.hid (And.intro hgd hgb)
  generalize (w2.alloc (.cells #[.slice a2 n cap] 22)) = w3 at *
  have HQ3 := Lib.hid q3
  have HG3 := Lib.hid hg3
  have HW3 := Lib.hid hw3
  have HS3 := Lib.hid hs3
  have d0 := hg3.cell (i := 0) rfl
  have hd3 := HD.out.on hw3
  have d1 := hd3.rg.cell (i := 0) rfl
  have HD3 := Lib.hid hd3
  have HC3 := Lib.hid (HC.out.stays hw3)
  clear hb3 q3 hw3 hg3 hs3 hgb hgd HL2 HCL HB0 HB2 c0 hd3
  go_upto_region 4 with (fail)
  by_cases hn0 : n = 0
  · subst hn0
    go_loopw [2, 19] (fun s2 s19 wr => s2 = .slice none 0 0 ∧ s19 = .int .i64 0 ∧ wr = w3) (fun _ _ _ => 0)
    case atStart => exact ⟨rfl, rfl, rfl⟩
    case round =>
      obtain ⟨rfl, rfl, rfl⟩ := hrel
      go_wp2_with fail
      go_ret
      refine ⟨HW3.out, _, [], rfl, ibuf_nil _, rfl, ⟨⟨⟨⟨fun i hi => by omega, fun i k hi => by omega⟩, fun i hi => by omega⟩, ?_⟩, fun t ht => ?_, fun i hi => by omega⟩⟩
      · have h1 := HDL.out.all.least
        obtain ⟨t, -, h3⟩ := h1.some
        rw [HK.out, ← h3]; rfl
      · rw [HK.out]; exact HDL.out.all.least.all t ht
  · have hn1 : 0 < n := by omega
    obtain ⟨gl, ha2, hlt1, hlt2, hl⟩ := HL3.out hn1
    subst ha2
    have HI0 : Hid (Lsi w3 gl cap n m C (.slice none 0 0) [] w3) := Lib.hid ⟨hl, HM.out, ibuf_nil _, (fun i hi b off k c2 _ he => by cases he), fun k hk => (by cases hk), hl.parts.2.2, Kp2.refl _ _⟩
    have HGL := Lib.hid (And.intro hlt1 hlt2)
    have hdl := HD.out
    have HNE : Hid (gl ≠ g ∧ gl ≠ gu ∧ gl ≠ gv ∧ gl ≠ gt ∧ gl ≠ gr ∧ gl ≠ gb ∧ gl ≠ gd) := Lib.hid (by
      have h1 := hdl.rg.lt
      have h2 := hdl.ru.lt
      have h3 := hdl.rv.lt
      have h4 := hdl.rt.lt
      have h5 := hdl.rr.lt
      have := HGE.out
      omega)
    have HLS : Hid (Least n m (cst C) K) := Lib.hid (by rw [HK.out]; exact HDL.out.all.least)
    have HUV := Lib.hid (deal_bound HD.out HDL.out).2
    have HEX : Hid (∀ t, Bst n m (cst C) K t → ∀ i, i < n → gI U 0 i + gI V 0 (t i) = cst C i (t i)) := Lib.hid (fun t ht => HDL.out.fit.exact ht.1 (by rw [ht.2]; exact HK.out))
    clear HL3 hn0 hlt1 hlt2 hl hdl d0 d1
    go_loopw [2, 19] (fun s2 s19 wr => ∃ (k : Nat) (v : Value) (p : List Nat) (C2 : List (List Int)), k ≤ n ∧ v = s2 ∧ s19 = .int .i64 (k : Int) ∧ p.length = k ∧ LI n m (cst C) K k (gN p) (cst C2) ∧ Lsi w3 gl cap n m C2 v p wr) (fun _ s19 _ => n - (intOf s19).toNat)
    case atStart =>
      obtain ⟨t, h1, h2⟩ := HLS.out.some
      exact ⟨0, _, [], C, by omega, rfl, rfl, rfl, LI.begin ⟨h1, h2⟩ _, HI0.out⟩
    case round =>
      obtain ⟨k, v, p, C2, hk, rfl, rfl, hpl, hli, hsi⟩ := hrel
      have HPL := Lib.hid hpl
      have HLI := Lib.hid hli
      have HSI := Lib.hid hsi
      have HKN := Lib.hid hk
      clear hk hpl hli hsi HI0
      by_cases hlt : k < n
      · have hki : (k : Int) < (n : Int) := by omega
        have HLT := Lib.hid hlt
        have HWK := Lib.hid (wrap_succ hlt (show n ≤ maxLen by unfold maxLen; omega))
        have hcw := HSI.out.costs HC3.out (by have := HGL.out; have := HGE.out; omega)
        obtain ⟨-, hac, ham, hat⟩ := rows_at hcw
        rw [HN.out] at hac hat
        obtain ⟨bC, offC, ra, rc, q1, hbC, f1, hrow⟩ := hat k hlt
        subst q1
        have hrl := HM.out.row k hlt
        obtain ⟨-, hrc, hrm, hrt⟩ := ints_at hrow
        rw [hrl] at f1 hrc
        clear hcw hat hrow hrt hrl hbC hlt
        go_upto_region 7 with (fail)
        clear f1
        go_loopw [2, 26] (fun s2 s26 wr2 => ∃ (j : Nat), j ≤ m ∧ v = s2 ∧ s26 = .int .i64 (j : Int) ∧ Lsi w3 gl cap n m C2 v p wr2 ∧ ∀ j', j' < j → ∀ t, Bst n m (cst C) K t → (∀ i, i < k → t i = gN p i) → t k ≠ j') (fun _ s26 _ => m - (intOf s26).toNat)
        case atStart => exact ⟨0, by omega, rfl, rfl, HSI.out, fun j' h => by omega⟩
        case round =>
          obtain ⟨j, hj, rfl, rfl, hsi2, hno⟩ := hrel
          have HSI2 := Lib.hid hsi2
          have HNO := Lib.hid hno
          have HJ := Lib.hid hj
          clear hj hsi2 hno HSI
          by_cases hjl : j < m
          · have hji : (j : Int) < (m : Int) := by omega
            have HJL := Lib.hid hjl
            have HWJ := Lib.hid (wrap_succ hjl (show m ≤ maxLen by unfold maxLen; omega))
            clear hjl
            obtain ⟨wr2, hwr2⟩ : ∃ x, x = wr := ⟨_, rfl⟩
            rw [← hwr2] at HSI2 ⊢
            clear hwr2
            have d0 := (HSI2.out.row HG3.out (by have := HNE.out; omega)).cell (i := 0) rfl
            have HXC := Lib.hid (exact_call C wr2 k j HM.out (HSI2.out.costs HC3.out (by have := HGL.out; have := HGE.out; omega)) (HSI2.out.deal HD3.out (by have := HNE.out; omega)) HLT.out HJL.out (HUV.out.1 k HLT.out) (HUV.out.2 j HJL.out))
            cases hx : exB C U V k j with
            | false =>
              rw [hx] at HXC
              have HBAD : Hid (∀ t, Bst n m (cst C) K t → (∀ i, i < k → t i = gN p i) → t k ≠ j) := Lib.hid (fun t ht _ he => by
                have h1 := HEX.out t ht k HLT.out
                have h2 := ht.1.may k HLT.out
                rw [he] at h1 h2
                unfold exB at hx
                exact (of_decide_eq_false hx) ⟨h2, h1⟩)
              clear hx
              go_wp2_with (go_at_call 51; refine HXC.out.mono ?_; rintro e w5 ⟨rfl, hb5⟩; have HB5 := Lib.hid hb5; clear hb5)
              refine ⟨⟨j + 1, by have := HJL.out; omega, by first | rfl | trivial, by first | rw [HWJ.out, Int.natCast_succ] | go_num, HSI2.out.keep HB5.out, fun j' hj' => ?_⟩, by have := HJL.out; first | exact back_less this HWJ.out | (simp [intOf]; omega)⟩
              rcases Nat.lt_or_ge j' j with h9 | h9
              · exact HNO.out j' h9
              · obtain rfl : j' = j := by omega
                exact HBAD.out
            | true =>
              rw [hx] at HXC
              clear hx
              have HTK : Hid (∀ W, Below wr2.heap.size wr2 W → Calls Try.prog 50 #[.int .i64 (k : Int), .int .i64 (j : Int), .pointer (some ⟨gb, 0, none⟩), .pointer (some ⟨gd, 0, none⟩)] W fun e w' => Kp2 (fun b => b ≠ gl) W w' ∧ Fresh gl n W w' ∧ ∃ bb, e = .returned (.bool bb) ∧
                  ((bb = true ∧ LMem gl cap n (onlyL C2 m k j) w' ∧ ∃ t, Asg n m (cst (onlyL C2 m k j)) t ∧ costOf n (cst (onlyL C2 m k j)) t = K) ∨
                   (bb = false ∧ LMem gl cap n C2 w' ∧ ∀ t, Asg n m (cst (onlyL C2 m k j)) t → costOf n (cst (onlyL C2 m k j)) t ≠ K))) := Lib.hid (fun W hW => by
                have hs := HSI2.out.keep hW
                have hne := HNE.out
                exact takes_call C2 W k j hs.mat (hs.deal HD3.out (by omega)) HDL.out hs.mem (hs.row HQ3.out (by omega)) (hs.row HG3.out (by omega)) HNE.out HLT.out HJL.out HK.out (only_ge HLI.out hs.mat HLT.out HJL.out HLS.out))
              go_upto_if 38 with (first | (go_at_call 50; refine (HTK.out _ HB5.out).mono ?_; rintro e w6 ⟨hk6, hf6, bb, rfl, h6⟩; have H6 := Lib.hid (And.intro hk6 (And.intro hf6 h6)); clear hk6 hf6 h6) | (go_at_call 51; refine HXC.out.mono ?_; rintro e w5 ⟨rfl, hb5⟩; have HB5 := Lib.hid hb5; clear hb5))
              have HS5 := Lib.hid (HSI2.out.keep HB5.out)
              cases bb with
              | false =>
                have hl6 : LMem gl cap n C2 w6 ∧ ∀ t, Asg n m (cst (onlyL C2 m k j)) t → costOf n (cst (onlyL C2 m k j)) t ≠ K := by
                  rcases H6.out.2.2 with ⟨h0, -⟩ | ⟨-, h⟩
                  · cases h0
                  · exact h
                have HL6 := Lib.hid hl6
                clear hl6 HTK HXC
                go_wp2_with fail
                refine ⟨⟨j + 1, by have := HJL.out; omega, by first | rfl | trivial, by first | rw [HWJ.out, Int.natCast_succ] | go_num, HS5.out.take H6.out.1 H6.out.2.1 HL6.out.1 HS5.out.mat, fun j' hj' => ?_⟩, by have := HJL.out; first | exact back_less this HWJ.out | (simp [intOf]; omega)⟩
                rcases Nat.lt_or_ge j' j with h9 | h9
                · exact HNO.out j' h9
                · obtain rfl : j' = j := by omega
                  exact only_no HLI.out HS5.out.mat HLT.out HJL.out HL6.out.2
              | true =>
                have hl6 : LMem gl cap n (onlyL C2 m k j) w6 ∧ ∃ t, Asg n m (cst (onlyL C2 m k j)) t ∧ costOf n (cst (onlyL C2 m k j)) t = K := by
                  rcases H6.out.2.2 with ⟨-, h⟩ | ⟨h0, -⟩
                  · exact h
                  · cases h0
                have HS6 : Hid (Lsi w3 gl cap n m (onlyL C2 m k j) v p w6) := Lib.hid (HS5.out.take H6.out.1 H6.out.2.1 hl6.1 (onlyL_mat HS5.out.mat HLT.out HJL.out))
                have HNX : Hid (LI n m (cst C) K (k + 1) (gN (p ++ [j])) (cst (onlyL C2 m k j))) := Lib.hid (by rw [gN_app HPL.out]; exact only_next HLI.out HS5.out.mat HLT.out HJL.out HNO.out hl6.2)
                clear hl6 HTK HXC H6
                go_wp2_with (at_builtin; refine wpList_ints rfl (.tmp 39) (.tmp 41) rfl v (ofN p) rfl (HS6.out.buf.keep (Joins.below_alloc1 _ _)) _ [(j : Int)] rfl (row_new _ 3 [.int .i64 (j : Int)]) (by rw [ofN_len, HPL.out]; have := HKN.out; simp; omega) ?_; intro v' w' hp hw; have HAP := Lib.hid ((HS6.out.keep (Joins.below_alloc1 w6 _)).app (by have := HJL.out; omega) hp hw); clear hp hw)
                refine ⟨⟨k + 1, v', p ++ [j], onlyL C2 m k j, by have := HLT.out; omega, by first | rfl | trivial, by first | rw [HWK.out, Int.natCast_succ] | go_num, by rw [List.length_append, HPL.out]; rfl, HNX.out, HAP.out⟩, by have := HLT.out; first | exact back_less this HWK.out | (simp [intOf]; omega)⟩
          · exfalso
            obtain rfl : j = m := by have := HJ.out; omega
            exact HLI.out.there HLT.out HNO.out
      · obtain rfl : k = n := by have := HKN.out; omega
        go_wp2_with fail
        go_ret
        exact ⟨HW3.out.trans ⟨HSI.out.kp.os, HSI.out.kp.tape, HSI.out.kp.output, by have := HSI.out.kp.size; exact this, fun b hb => HSI.out.kp.keep b (by have := HGL.out; have := HGE.out; have := HS3.out; omega) (by have := HGE.out; have := HGB.out; have := HS3.out; omega)⟩, v, p, rfl, HSI.out.buf, HPL.out, HLI.out.done HLS.out.all⟩
end Go.Proofs.Ythkmbbgcadfilaa
