/- The law on white space and comments returns true. -/
import Derived.Test.YtilpcchcccbfcaaDoorSm
import Derived.Test.YtilpcchcccbfcaaDoorBk
import Derived.Test.YtilpcchcccbfcaaDoorJw
namespace Go.Proofs.YtilpcchcccbfcaaDoor
open Go.RowKit

theorem bs_len2 (s : ByteArray) : (bs s).length = s.size := (Lib.size_eq s).symm
theorem filter_step (s : ByteArray) (i : Nat) (h : i < s.size) : ((bs s).take (i + 1)).filter notLine = ((bs s).take i).filter notLine ++ (if notLine s[i] then [s[i]] else []) := by
  rw [List.take_succ_eq_append_getElem (by rw [bs_len2]; exact h), List.filter_append]
  congr 1
  rw [show (bs s)[i]'(by rw [bs_len2]; exact h) = s[i] from rfl]
  cases hn : notLine s[i] <;> simp [hn]
theorem bs_byte (s : ByteArray) (i : Nat) (h : i < s.size) : bs (s.extract i (i + 1)) = [s[i]] := by
  rw [bs_extract, List.drop_eq_getElem_cons (by rw [bs_len2]; exact h), show i + 1 - i = 1 by omega]; rfl
def W1Head (s : ByteArray) (w : World) (s7 s8 : Value) (wr : World) : Prop := ∃ (i : Nat) (S : ByteArray), i ≤ s.size ∧ s8 = .int .i64 (i : Int) ∧ s7 = .string S ∧ bs S = ((bs s).take i).filter notLine ∧ Below w.heap.size w wr
def W2Head (N : Nat) (ts : List Tok) (w : World) (s10 s54 : Value) (wr : World) : Prop := ∃ (k : Nat) (S : ByteArray) (X : List UInt8), k ≤ ts.length ∧ s54 = .int .i64 (k : Int) ∧ s10 = .string S ∧ bs S = 10 :: X ∧ Spread N (ts.take k) X ∧ (ts.take k).all validT = true ∧ Below w.heap.size w wr
theorem text_one (t : Tok) : textR [t] = if validT t then (wordT t, 0) else ([], 30) := by
  unfold textR
  simp only [List.all_cons, List.all_nil, Bool.and_true, List.map_cons, List.map_nil, Lib.join_one]
theorem text_bad {ts : List Tok} {k : Nat} {t : Tok} (h : ts[k]? = some t) (hv : validT t = false) : textR ts = ([], 30) := by
  unfold textR
  rw [if_neg]
  intro ha
  have := List.all_eq_true.1 ha t (List.mem_of_getElem? h)
  rw [hv] at this; cases this
/-- the cells of the eight gaps -/
def gapCells (ws : ByteArray) : List Value := [.string ⟨#[32]⟩, .string ⟨#[9]⟩, .string ⟨#[10]⟩, .string ⟨#[13, 10]⟩, .string ⟨#[32, 32]⟩, .string (⟨#[47, 47]⟩ ++ ws ++ ⟨#[10]⟩), .string ⟨#[32, 47, 47, 32, 10]⟩, .string ⟨#[10, 47, 47, 10]⟩]
theorem gapCells_at (ws : ByteArray) (r : Nat) (h : r < 8) : ∃ G : ByteArray, (gapCells ws)[r]? = some (.string G) ∧ bs G ∈ gaps (bs ws) := by
  match r, h with
  | 0, _ => exact ⟨_, rfl, by simp [gaps, bs]⟩
  | 1, _ => exact ⟨_, rfl, by simp [gaps, bs]⟩
  | 2, _ => exact ⟨_, rfl, by simp [gaps, bs]⟩
  | 3, _ => exact ⟨_, rfl, by simp [gaps, bs]⟩
  | 4, _ => exact ⟨_, rfl, by simp [gaps, bs]⟩
  | 5, _ => exact ⟨_, rfl, by simp [gaps, bs]⟩
  | 6, _ => exact ⟨_, rfl, by simp [gaps, bs]⟩
  | 7, _ => exact ⟨_, rfl, by simp [gaps, bs]⟩

theorem sumText_take_le : ∀ (ts : List Tok) (k : Nat), sumText (ts.take k) ≤ sumText ts
  | [], _ => by simp
  | _ :: _, 0 => by simp [sumText]
  | t :: r, k + 1 => by
    have := sumText_take_le r k
    simp only [sumText, List.take_succ_cons, List.map_cons, List.foldr_cons] at this ⊢
    omega
set_option maxHeartbeats 8000000 in
set_option maxRecDepth 100000 in
theorem spaces_walk (ts : List Tok) (v : Value) (turns : List UInt8) (tv : Value) (s : ByteArray) (w : World) (hr : TRest w.heap.size w ts v) (hn : ts.length ≤ 4611686018427387904) (hok : ∀ t ∈ ts, TokOk t) (htu : Rest w.heap.size w turns tv) (hs : s.size ≤ 140737488351232) (hT : Laid w) :
    Calls Tryd.prog 8 #[v, tv, .string s] w fun e w' => e = .returned (.bool true) ∧ Below w.heap.size w w' := by
  have HT : Hid (∀ W, Below w.heap.size w W → Laid W) := fun W hb => hT.keep hb
  have HSA : Hid (Calls Tryd.prog 11 #[] w fun e w' => e = .returned (.bool true) ∧ Below w.heap.size w w') := Lib.hid (sane_call w hT)
  have HR := Lib.hid hr
  have HTU := Lib.hid htu
  have HOK := Lib.hid hok
  have HFW : Hid (∀ W, Below w.heap.size w W → Calls Tryd.prog 15 #[v] W fun e w' => e = .returned (.bool (decide (ts.length ≤ 200 ∧ sumText ts ≤ 2000))) ∧ W = w') := Lib.hid (fun W hb => few_call ts v W (hr.keep hb) hn hok)
  obtain ⟨a, cap, rfl, hc1, hc2⟩ := trest_shape hr
  obtain ⟨a2, cap2, rfl, hd1, hd2, -⟩ := id htu
  clear hT hr hok htu
  by_cases hfew : ts.length ≤ 200 ∧ sumText ts ≤ 2000
  · rw [decide_eq_true hfew] at HFW
    by_cases hlong : s.size ≤ 100
    · have hl2 : ¬ (100 : Int) < (s.size : Int) := by omega
      have HTX : Hid (∀ W, Below w.heap.size w W → Calls Tryd.prog 16 #[.slice a ts.length cap] W fun e w' => e = .returned (.tuple #[str (textR ts).1, .int .i64 ((textR ts).2 : Int)]) ∧ Below W.heap.size W w') := Lib.hid (fun W hb => by
        have hwl := words_le ts HOK.out
        have hjl := join_le (ts.map wordT)
        rw [List.length_map] at hjl
        exact Text_call ts _ W (HR.out.keep hb) (by omega) HOK.out (by omega) (HT.out W hb))
      obtain ⟨m, hm⟩ : ∃ m, m = ts.length := ⟨_, rfl⟩
      rw [← hm] at HR HFW HTX hc2 hn ⊢
      have hmf : m ≤ 200 := by omega
      have hmf2 : (m : Int) ≤ 200 := by omega
      have HM := Lib.hid hm
      have HSUM : Hid (sumText ts ≤ 2000) := Lib.hid hfew.2
      clear hm hfew
      go_enter Tryd.func8, Tryd.ntmps8
      go_wp2_with (first
        | (go_at_call 11; refine HSA.out.mono ?_; rintro e w1 ⟨rfl, hb⟩; have HB := Lib.hid hb; clear hb)
        | (go_at_call 15; refine (HFW.out _ HB.out).mono ?_; rintro e w2 ⟨rfl, rfl⟩))
      go_loopw [7, 8] (fun s7 s8 wr => W1Head s w1 s7 s8 wr) (fun _ s8 _ => s.size - (intOf s8).toNat)
      case atStart => exact ⟨0, ⟨#[]⟩, Nat.zero_le _, rfl, rfl, rfl, Below.refl _ _⟩
      case round =>
        obtain ⟨i, S, hi, rfl, rfl, hS, hb⟩ := hrel
        have HB1 := Lib.hid hb
        have HS := Lib.hid hS
        have hSz : S.size ≤ 100 := by
          have h1 := congrArg List.length hS
          rw [bs_len2] at h1
          have h2 := List.length_filter_le notLine ((bs s).take i)
          have h3 := List.length_take_le i (bs s)
          omega
        clear hb hS
        rcases Nat.lt_or_ge i s.size with hlt | hge
        · have hi1 : (i : Int) < (s.size : Int) := by omega
          have hi0 : (0 : Int) ≤ (i : Int) := by omega
          have hslc : ∀ W : World, (Instr.slice 9 (.string s) (some (.int .i64 (i : Int))) (some (.int .i64 ((i : Int) + 1))) none).run Tryd.prog W = .ok (.string (s.extract i (i + 1))) W := fun W => by
            have h := slice_str s i (i + 1) W (by omega) (by omega)
            rwa [show ((i + 1 : Nat) : Int) = (i : Int) + 1 by omega] at h
          have HFS := Lib.hid (filter_step s i hlt)
          have HBY := Lib.hid (bs_byte s i hlt)
          have hsz1 : (s.extract i (i + 1)).size = 1 := by rw [← bs_len2, HBY.out]; rfl
          by_cases h10 : s[i].toNat = 10
          · have HNL : Hid (notLine s[i] = false) := Lib.hid (by have : s[i] = 10 := UInt8.toNat_inj.1 (by rw [h10]; rfl); rw [this]; rfl)
            go_wp2_with fail
            exact ⟨⟨i + 1, S, hlt, by go_num, rfl, by rw [HFS.out, HNL.out, HS.out]; simp, HB1.out⟩, by simp [intOf]; omega⟩
          · have HNL : Hid (notLine s[i] = true) := Lib.hid (by
              have : s[i] ≠ 10 := fun h => h10 (by rw [h]; rfl)
              simpa [notLine] using this)
            have hb1 : ((s[i].toNat : Int) == 10) = false := by simpa using (by omega : ¬ (s[i].toNat : Int) = 10)
            have hb2 : ((s[i].toNat : Int) != 10) = true := by simpa using (by omega : ¬ (s[i].toNat : Int) = 10)
            go_wp2_with fail
            exact ⟨⟨i + 1, S ++ s.extract i (i + 1), hlt, by go_num, rfl, by rw [HFS.out, HNL.out, bs_append, HS.out, HBY.out]; rfl, HB1.out⟩, by simp [intOf]; omega⟩
        · obtain rfl : i = s.size := by omega
          have HWS : Hid ((bs S).all notLine = true) := Lib.hid (by rw [HS.out, List.all_eq_true]; intro c hc; exact (List.mem_filter.1 hc).2)
          go_wp2_with fail
          generalize hW3 : wr.alloc _ = W3
          have hb3 : Below wr.heap.size wr W3 := by rw [← hW3]; exact Joins.below_alloc1 wr _
          have HROW : Hid (Row W3 wr.heap.size 9 (gapCells S)) := Lib.hid (by rw [← hW3]; exact row_new wr 9 (gapCells S))
          have HB3 := Lib.hid (below_next (below_next HB.out HB1.out) hb3)
          generalize wr.heap.size = gsp at HROW ⊢
          clear hW3 hb3 HB1 HSA
          have HGB := Lib.hid (gaps_blank HWS.out)
          have HSZ : Hid ((bs S).length ≤ 100) := Lib.hid (by rw [bs_len2]; exact hSz)
          clear hSz hi hge
          go_loopw [10, 54] (fun s10 s54 wr => W2Head 105 ts W3 s10 s54 wr) (fun _ s54 _ => m - (intOf s54).toNat)
          case atStart => exact ⟨0, ⟨#[10]⟩, [], Nat.zero_le _, rfl, rfl, rfl, .nil, rfl, Below.refl _ _⟩
          case round =>
            obtain ⟨k, Y, X, hk, rfl, rfl, hY, hsp, hval, hb⟩ := hrel
            rw [← HM.out] at hk
            have HB4 := Lib.hid hb
            have HY := Lib.hid hY
            have HSP := Lib.hid hsp
            have HVAL := Lib.hid hval
            have hYs : Y.size ≤ 40000 := by
              have h1 := congrArg List.length hY
              rw [bs_len2, List.length_cons] at h1
              have h2 := spread_len hsp (fun t ht => HOK.out t (List.mem_of_mem_take ht))
              have h3 : (ts.take k).length ≤ 200 := by rw [List.length_take]; omega
              have h4 : sumText (ts.take k) ≤ 2000 := by
                have := HSUM.out
                have h5 := sumText_take_le ts k
                omega
              omega
            clear hb hY hsp hval
            rcases Nat.lt_or_ge k m with hlt | hge
            · obtain ⟨t, ht⟩ : ∃ t, ts[k]? = some t := ⟨_, List.getElem?_eq_getElem (by rw [← HM.out]; exact hlt)⟩
              obtain ⟨b, off, rfl, hbl, hc⟩ := tok_cells HR.out ht
              have HC := Lib.hid (hc wr (below_next HB3.out HB4.out))
              have HTK := Lib.hid ht
              have hkm : (k : Int) < (m : Int) := by omega
              have hk0 : (0 : Int) ≤ (k : Int) := by omega
              have HOKT : Hid (TokOk t) := Lib.hid (HOK.out t (List.mem_of_getElem? ht))
              have htl : t.text.length ≤ 2000 := by
                have h1 := sumText_take ts k t ht
                have h2 := sumText_take_le ts (k + 1)
                have h3 := HSUM.out
                omega
              clear hc ht
              obtain ⟨kd, tx, nn, at'⟩ := t
              simp only at htl
              go_wp2_with (first
                | (refine wpList_load_tokAt rfl (.tmp 57) rfl b (off + k * 4) ⟨kd, tx, nn, at'⟩ rfl HC.out ?_)
                | (refine wpList_alloc_tok rfl 12 rfl rfl ?_; intro g w5 hg hrow hb; have HG := Lib.hid hrow; have HGL : Hid (W3.heap.size ≤ g) := (by rw [hg]; exact HB4.out.size); have HB5 := Lib.hid (below_next HB4.out hb); clear hrow hb hg)
                | (refine wpList_store_tok rfl (.tmp 12) (.tmp 58) rfl g ⟨kd, tx, nn, at'⟩ tok0 rfl rfl rfl HG.out HB5.out HGL.out ?_; intro w6 hrow hb hfar; have HG6 := Lib.hid hrow; have HB6 := Lib.hid hb; clear hrow hb hfar)
                | (refine wpList_load_tok rfl (.tmp 12) rfl g ⟨kd, tx, nn, at'⟩ rfl HG6.out ?_; unfold tokOf tokCells))
              have hba := Joins.below_alloc1 w6 (.cells (cellsT [⟨kd, tx, nn, at'⟩]).toArray 35)
              have HB7 := Lib.hid (below_next HB6.out hba)
              have HTX1 := Text_call [⟨kd, tx, nn, at'⟩] _ _ (trest_alloc w6 [⟨kd, tx, nn, at'⟩] 1 rfl (by omega)) (by simp) (fun u hu => by simp at hu; subst hu; exact HOKT.out) (by
                have h1 := words_le [⟨kd, tx, nn, at'⟩] (fun u hu => by simp at hu; subst hu; exact HOKT.out)
                have h2 := join_le ([⟨kd, tx, nn, at'⟩].map wordT)
                simp [sumText] at h1 h2 ⊢
                omega) (HT.out _ (below_next HB3.out HB7.out))
              rw [text_one] at HTX1
              cases hv : validT ⟨kd, tx, nn, at'⟩ with
              | false =>
                rw [hv] at HTX1
                refine HTX1.mono ?_
                rintro e w8 ⟨rfl, hb⟩
                have HB8 := Lib.hid (below_next HB7.out hb)
                have HBAD := text_bad HTK.out hv
                have HTX2 := HTX.out w8 (below_next HB3.out HB8.out)
                rw [HBAD] at HTX2
                have HTX3 := Lib.hid HTX2
                clear HTX1 hb hba HBAD HTX2 hv
                unfold str
                go_wp2_with (go_at_call 16; refine HTX3.out.mono ?_; rintro e w9 ⟨rfl, hb⟩)
                go_ret
                exact ⟨rfl, below_next (below_next HB3.out HB8.out) hb⟩
              | true =>
                rw [hv, if_pos rfl] at HTX1
                refine HTX1.mono ?_
                rintro e w8 ⟨rfl, hb⟩
                have HB8 := Lib.hid (below_next HB7.out hb)
                have HV := Lib.hid hv
                have hws : (wordT ⟨kd, tx, nn, at'⟩).length ≤ 2021 := by
                  have h1 := words_le [⟨kd, tx, nn, at'⟩] (fun u hu => by simp at hu; subst hu; exact HOKT.out)
                  simp [sumText, Lib.lens] at h1
                  omega
                unfold str
                have HTS : Hid (ts.take (k + 1) = ts.take k ++ [⟨kd, tx, nn, at'⟩]) := Lib.hid (by
                  obtain ⟨h1, h2⟩ := List.getElem?_eq_some_iff.1 HTK.out
                  rw [List.take_succ_eq_append_getElem h1, h2])
                have HVA : Hid ((ts.take (k + 1)).all validT = true) := Lib.hid (by rw [HTS.out, List.all_append, HVAL.out]; simp [HV.out])
                generalize hW : (⟨(wordT ⟨kd, tx, nn, at'⟩).toArray⟩ : ByteArray) = Wd
                have HBW : Hid (bs Wd = wordT ⟨kd, tx, nn, at'⟩) := Lib.hid (by rw [← hW])
                have hWs : Wd.size ≤ 2021 := by rw [← bs_len2, HBW.out]; exact hws
                have HSN : Hid (∀ G : ByteArray, bs G ∈ gaps (bs S) → Spread 105 (ts.take (k + 1)) (X ++ (wordT ⟨kd, tx, nn, at'⟩ ++ 32 :: bs G)) ∧ bs (Y ++ (Wd ++ ⟨#[32]⟩ ++ G)) = 10 :: (X ++ (wordT ⟨kd, tx, nn, at'⟩ ++ 32 :: bs G))) := Lib.hid (fun G hG => by
                  have hg := HGB.out _ hG
                  refine ⟨by rw [HTS.out]; exact .snoc _ _ _ _ HSP.out hg.1 (by have := hg.2; have := HSZ.out; omega), ?_⟩
                  rw [bs_append, bs_append, bs_append, HY.out, HBW.out]
                  simp [bs])
                clear HTX1 hb hba hv hW hws
                by_cases htu : k < turns.length
                · have htu2 : (k : Int) < (turns.length : Int) := by omega
                  obtain ⟨a3, cap3, he, _, _, _, h5⟩ := HTU.out
                  injection he with he1 he2 he3
                  subst he1 he3
                  rcases h5 with h5 | ⟨b2, off2, rfl, hb2, hc2'⟩
                  · omega
                  · have hcu : w8.cell? ⟨b2, off2 + k, none⟩ = some (.int .u8 (turns[k].toNat : Int)) := ((below_next HB3.out HB8.out).cell (p := ⟨b2, off2 + k, none⟩) hb2).trans (hc2' k htu)
                    have hc256 : turns[k].toNat < 256 := turns[k].toNat_lt
                    generalize turns[k].toNat = c at hcu hc256
                    obtain ⟨r, hr, hr8⟩ : ∃ r : Nat, (c : Int) % 8 = (r : Int) ∧ r < 8 := ⟨c % 8, by omega, by omega⟩
                    obtain ⟨G, hG, hGm⟩ := gapCells_at S r hr8
                    have hcg := (HROW.out.keep HB8.out).cell hG
                    have H1 := Lib.hid (HSN.out G hGm)
                    have hgs : G.size ≤ 105 := by rw [← bs_len2]; have := (HGB.out _ hGm).2; have := HSZ.out; omega
                    have hr8i : (r : Int) < 8 := by omega
                    have hc0 : (0 : Int) ≤ (c : Int) := by omega
                    have hc1 : (c : Int) ≤ 255 := by omega
                    clear hG hGm hc2' htu
                    go_wp2_with fail
                    exact ⟨⟨k + 1, _, _, by rw [← HM.out]; exact hlt, by go_num, rfl, H1.out.2, H1.out.1, HVA.out, HB8.out⟩, by simp [intOf]; omega⟩
                · have htu2 : ¬ (k : Int) < (turns.length : Int) := by omega
                  have h1 := HSN.out ⟨#[32]⟩ (by simp [gaps, bs])
                  have H1 := Lib.hid h1
                  clear h1
                  go_wp2_with fail
                  exact ⟨⟨k + 1, _, _, by rw [← HM.out]; exact hlt, by go_num, rfl, H1.out.2, H1.out.1, HVA.out, HB8.out⟩, by simp [intOf]; omega⟩
            · obtain rfl : k = m := by omega
              have hval := HVAL.out
              have hspr := HSP.out
              rw [HM.out, List.take_length] at hval hspr
              obtain ⟨q, zs, h1, h2⟩ := spread_lex hspr hval 1 []
              rw [List.append_nil, lexL_nil, List.append_nil] at h1
              have hlx : lexR Y = (zs, 0, 0) := by
                have e1 : lexL 0 (bs Y) = (zs, none) := by rw [HY.out, lexL_space (by decide), h1]
                rw [lexR_ok (by omega) (by rw [e1]), e1]
              have HLX := Lib.hid (lex_three hlx wr (by omega) (HT.out wr (below_next HB3.out HB4.out)))
              have HSM := Lib.hid h2
              clear hval hspr h1 h2 hlx
              go_wp2_with fail
              refine HLX.out.mono ?_
              rintro e w5 ⟨za, zc, rfl, hzr, hb⟩
              have HB5 := Lib.hid (below_next (below_next HB3.out HB4.out) hb)
              have HSC := Lib.hid (Same_call ts zs _ _ w5 (HR.out.keep HB5.out) hzr)
              rw [HSM.out] at HSC
              clear hzr hb
              go_wp2_with (go_at_call 18; refine HSC.out.mono ?_; rintro e w6 ⟨rfl, hb⟩)
              go_ret
              exact ⟨rfl, below_next HB5.out hb⟩
    · have hl2 : (100 : Int) < (s.size : Int) := by omega
      go_enter Tryd.func8, Tryd.ntmps8
      go_wp2_with (first
        | (go_at_call 11; refine HSA.out.mono ?_; rintro e w1 ⟨rfl, hb⟩; have HB := Lib.hid hb; clear hb)
        | (go_at_call 15; refine (HFW.out _ HB.out).mono ?_; rintro e w2 ⟨rfl, rfl⟩))
      go_ret
      exact ⟨rfl, HB.out⟩
  · rw [decide_eq_false hfew] at HFW
    go_enter Tryd.func8, Tryd.ntmps8
    go_wp2_with (first
      | (go_at_call 11; refine HSA.out.mono ?_; rintro e w1 ⟨rfl, hb⟩; have HB := Lib.hid hb; clear hb)
      | (go_at_call 15; refine (HFW.out _ HB.out).mono ?_; rintro e w2 ⟨rfl, rfl⟩))
    go_ret
    exact ⟨rfl, HB.out⟩
end Go.Proofs.YtilpcchcccbfcaaDoor
