/- The law on places returns true. -/
import Derived.Test.YtilpcchcccbfcaaDoorPn
import Derived.Test.YtilpcchcccbfcaaDoorJw
import Derived.Test.YtilpcchcccbfcaaDoorRa
namespace Go.Proofs.YtilpcchcccbfcaaDoor
open Go.RowKit

/-- one byte of a gap -/
theorem gap_next {b : Bool} {c : UInt8} {r : List UInt8} {R : Bool} (h : gapF b (c :: r) = some R) :
    (c = 10 ∧ gapF false r = some R) ∨ (c ≠ 10 ∧ b = true ∧ gapF true r = some R) ∨ (c = 47 ∧ b = false ∧ (∃ q, r = 47 :: q) ∧ gapF true r = some R) ∨ (c ≠ 10 ∧ c ≠ 47 ∧ b = false ∧ isSpace c = true ∧ gapF false r = some R) := by
  by_cases h10 : c = 10
  · subst h10; rw [gap_line] at h; exact .inl ⟨rfl, h⟩
  · have hn : notLine c = true := by simpa [notLine] using h10
    cases b with
    | true => rw [gapF] at h; simp [hn] at h; exact .inr (.inl ⟨h10, rfl, h⟩)
    | false =>
      cases hno : isNote (c :: r) with
      | true =>
        obtain ⟨q, hq⟩ := isNote_not_space hno
        injection hq with h1 h2
        rw [gapF, hno] at h; simp [hn] at h
        exact .inr (.inr (.inl ⟨h1, rfl, ⟨q, h2⟩, h⟩))
      | false =>
        rw [gapF, hno] at h
        simp only [Bool.or_false, Bool.and_false, Bool.false_eq_true, if_false] at h
        cases hs : isSpace c with
        | false => simp [hs] at h
        | true =>
          simp [hs] at h
          refine .inr (.inr (.inr ⟨h10, ?_, rfl, rfl, h⟩))
          rintro rfl; cases hs

/-- the bytes from one place up to another -/
def seg (s : ByteArray) (i to : Nat) : List UInt8 := ((bs s).take to).drop i
theorem seg_end (s : ByteArray) (i to : Nat) (h : to ≤ i) : seg s i to = [] := by
  unfold seg; exact List.drop_eq_nil_of_le (by rw [List.length_take]; omega)
theorem bs_len (s : ByteArray) : (bs s).length = s.size := (Lib.size_eq s).symm
theorem bs_at (s : ByteArray) (i : Nat) (h : i < s.size) : (bs s)[i]'(by rw [bs_len]; exact h) = s[i] := rfl
theorem seg_cons (s : ByteArray) (i to : Nat) (h : i < to) (h2 : to ≤ s.size) : seg s i to = s[i]'(by omega) :: seg s (i + 1) to := by
  unfold seg
  rw [List.drop_eq_getElem_cons (by rw [List.length_take, bs_len]; omega), List.getElem_take, bs_at s i (by omega)]

def InHead (s : ByteArray) (i to : Nat) (R : Bool) (w : World) (s6 s9 : Value) (wr : World) : Prop := ∃ (j : Nat) (b : Bool), i ≤ j ∧ j ≤ to ∧ s6 = .int .i64 (j : Int) ∧ s9 = .bool b ∧ gapF b (seg s j to) = some R ∧ Below w.heap.size w wr
def OutHead (s : ByteArray) (ts : List Tok) (w : World) (s6 s7 : Value) (wr : World) : Prop := ∃ (i k : Nat), i ≤ s.size ∧ k ≤ ts.length ∧ s6 = .int .i64 (i : Int) ∧ s7 = .int .i64 (k : Int) ∧ Stand i ((bs s).drop i) (ts.drop k) ∧ Below w.heap.size w wr
/-- the gap in front of the rest of the tokens -/
theorem stand_next {s : ByteArray} {i k : Nat} {ts : List Tok} {t : Tok} (hi : i ≤ s.size) (ht : ts[k]? = some t) (h : Stand i ((bs s).drop i) (ts.drop k)) :
    ∃ to : Nat, i ≤ to ∧ t.at' = (to : Int) ∧ gapF false (seg s i to) = some false ∧ 0 < (wordT t).length ∧ to + (wordT t).length ≤ s.size ∧ s.extract to (to + (wordT t).length) = ⟨(wordT t).toArray⟩ ∧
      0 ≤ t.n ∧ t.n ≤ 1099511627776 ∧ Stand (to + (wordT t).length) ((bs s).drop (to + (wordT t).length)) (ts.drop (k + 1)) := by
  obtain ⟨h1, h2⟩ := List.getElem?_eq_some_iff.1 ht
  rw [List.drop_eq_getElem_cons h1, h2] at h
  cases h with
  | next _ g _ _ _ h1 h2 h3 h4 h5 h6 h7 h8 h9 =>
    rw [List.length_drop, bs_len] at h1 h7
    refine ⟨i + g, by omega, h2, ?_, List.length_pos_iff.2 h5, by omega, ?_, h8.1, h8.2, ?_⟩
    · unfold seg
      rw [List.drop_take, show i + g - i = g by omega]; exact h3
    · rw [List.drop_drop] at h6
      have : bs (s.extract (i + g) (i + g + (wordT t).length)) = wordT t := by
        rw [bs_extract, show i + g + (wordT t).length - (i + g) = (wordT t).length by omega]; exact h6
      exact (show ∀ X : ByteArray, bs X = wordT t → X = ⟨(wordT t).toArray⟩ from fun X h => by rw [← h]) _ this
    · rw [List.drop_drop] at h9; rw [show i + g + (wordT t).length = i + (g + (wordT t).length) by omega]; exact (by simpa [Nat.add_assoc] using h9)
theorem stand_last {s : ByteArray} {i k : Nat} {ts : List Tok} (hk : ts.length ≤ k) (h : Stand i ((bs s).drop i) (ts.drop k)) : ∃ R, gapF false (seg s i s.size) = some R := by
  rw [List.drop_eq_nil_of_le hk] at h
  cases h with
  | done _ _ b h1 => exact ⟨b, by unfold seg; rw [List.take_of_length_le (by rw [bs_len]; exact Nat.le_refl _)]; exact h1⟩

set_option maxHeartbeats 8000000 in
set_option maxRecDepth 100000 in
theorem places_walk (s : ByteArray) (w : World) (hs : s.size ≤ 140737488351232) (hT : Laid w) :
    Calls Tryd.prog 6 #[.string s] w fun e w' => e = .returned (.bool true) ∧ Below w.heap.size w w' := by
  have HT : Hid (∀ W, Below w.heap.size w W → Laid W) := fun W hb => hT.keep hb
  have HSA : Hid (Calls Tryd.prog 11 #[] w fun e w' => e = .returned (.bool true) ∧ Below w.heap.size w w') := Lib.hid (sane_call w hT)
  clear hT
  rcases Nat.lt_or_ge 3000 s.size with hlong | hshort
  · have hlong2 : (3000 : Int) < (s.size : Int) := by omega
    go_enter Tryd.func6, Tryd.ntmps6
    go_wp2_with (go_at_call 11; refine HSA.out.mono ?_; rintro e w1 ⟨rfl, hb⟩; have HB := Lib.hid hb; clear hb)
    go_ret
    exact ⟨rfl, HB.out⟩
  · have hshort2 : ¬ (3000 : Int) < (s.size : Int) := by omega
    cases he : (lexL 0 (bs s)).2 with
    | some q =>
      have HL : Hid (∀ W, Below w.heap.size w W → Calls Tryd.prog 12 #[.string s] W fun e w' => ∃ a cap, e = .returned (.tuple #[.slice a 0 cap, .int .i64 (q : Int), .int .i64 30]) ∧ TRest w'.heap.size w' [] (.slice a 0 cap) ∧ Below W.heap.size W w') := Lib.hid (fun W hb => lex_three (lexR_bad (by omega) he) W (by omega) (HT.out W hb))
      clear he
      go_enter Tryd.func6, Tryd.ntmps6
      go_wp2_with (first
        | (go_at_call 11; refine HSA.out.mono ?_; rintro e w1 ⟨rfl, hb⟩; have HB := Lib.hid hb; clear hb)
        | (go_at_call 12; refine (HL.out _ HB.out).mono ?_; rintro e w2 ⟨v, cap, rfl, hr, hb⟩; have HB := Lib.hid (below_next HB.out hb); clear hb hr))
      go_ret
      exact ⟨rfl, HB.out⟩
    | none =>
      have hst := stand 0 (bs s) he
      obtain ⟨ts, hts⟩ : ∃ ts, ts = (lexL 0 (bs s)).1 := ⟨_, rfl⟩
      rw [← hts] at hst
      have HST := Lib.hid hst
      have HL : Hid (∀ W, Below w.heap.size w W → Calls Tryd.prog 12 #[.string s] W fun e w' => ∃ a cap, e = .returned (.tuple #[.slice a ts.length cap, .int .i64 0, .int .i64 0]) ∧ TRest w'.heap.size w' ts (.slice a ts.length cap) ∧ Below W.heap.size W w') := Lib.hid (fun W hb => lex_three (by rw [lexR_ok (by omega) he, hts]) W (by omega) (HT.out W hb))
      have hlen : ts.length ≤ s.size := by rw [hts, ← bs_len]; exact toks_le _ _
      obtain ⟨m, hm⟩ : ∃ m, m = ts.length := ⟨_, rfl⟩
      rw [← hm] at HL hlen
      have HM := Lib.hid hm
      clear he hts hst hm
      go_enter Tryd.func6, Tryd.ntmps6
      go_wp2_with (first
        | (go_at_call 11; refine HSA.out.mono ?_; rintro e w1 ⟨rfl, hb⟩; have HB := Lib.hid hb; clear hb)
        | (go_at_call 12; refine (HL.out _ HB.out).mono ?_; rintro e w2 ⟨v, cap, rfl, hr, hb⟩; have HB := Lib.hid (below_next HB.out hb); have HR := Lib.hid hr; clear hb hr))
      go_loopw [6, 7] (fun s6 s7 wr => OutHead s ts w2 s6 s7 wr) (fun _ s7 _ => (m + 1) - (intOf s7).toNat)
      case atStart => exact ⟨0, 0, Nat.zero_le _, Nat.zero_le _, rfl, rfl, HST.out, Below.refl _ _⟩
      case round =>
        obtain ⟨i, k, hi, hk, rfl, rfl, hst, hb⟩ := hrel
        have HST := Lib.hid hst
        have HB2 := Lib.hid hb
        rw [← HM.out] at hk
        clear hb hst
        rcases Nat.lt_or_ge k m with hlt | hge
        · obtain ⟨t, ht⟩ : ∃ t, ts[k]? = some t := ⟨_, List.getElem?_eq_getElem (by rw [← HM.out]; exact hlt)⟩
          obtain ⟨to, hito, hat, hgap, hw0, hws, hwe, htn0, htn1, hst2⟩ := stand_next hi ht HST.out
          have HG0 := Lib.hid hgap
          have HST2 := Lib.hid hst2
          obtain ⟨b0, off, rfl, hbl, hc⟩ := tok_cells HR.out ht
          have HC := Lib.hid hc
          have htc : wr.cell? ⟨b0, off + k * 4 + 3, none⟩ = some (.int .i64 (to : Int)) := by rw [← hat]; exact hc wr HB2.out 3 _ rfl
          have HSC : Hid (∀ W, Calls Tryd.prog 23 #[tokOf t] W fun e w' => e = .returned (str (wordT t)) ∧ Below W.heap.size W w') := Lib.hid (fun W => spelled_call t W htn0 htn1)
          unfold str at HSC
          have hsz : (⟨(wordT t).toArray⟩ : ByteArray).size = (wordT t).length := size_mk _
          generalize (⟨(wordT t).toArray⟩ : ByteArray) = W0 at HSC hsz hwe
          rw [← hsz] at hw0 hws hwe HST2
          have HWE := Lib.hid hwe
          have htos : to ≤ s.size := by omega
          have hkm : (k : Int) < (m : Int) := by omega
          have hkm2 : (k : Int) ≤ (m : Int) := by omega
          have hne : ¬ (k : Int) = (m : Int) := by omega
          have hk0 : (0 : Int) ≤ (k : Int) := by omega
          have hto1 : ¬ (to : Int) < (i : Int) := by omega
          have hto2 : ¬ (s.size : Int) < (to : Int) := by omega
          have HS10 : Hid (∀ W, Calls Tryd.prog 22 #[.int .u8 10] W fun e w' => e = .returned (.bool true) ∧ W = w') := Lib.hid (fun W => refspace_call 10 W)
          clear ht hgap hst2 hc hat htn0 htn1 hwe hsz
          go_wp2_with fail
          go_loopw [6, 9] (fun s6 s9 wr => InHead s i to false w2 s6 s9 wr) (fun s6 _ _ => to - (intOf s6).toNat)
          case atStart => exact ⟨i, false, Nat.le_refl _, hito, rfl, rfl, HG0.out, HB2.out⟩
          case round =>
            rename_i wr3 _ _ _ _ _
            obtain ⟨j, b, hj1, hj2, rfl, rfl, hgap, hb⟩ := hrel
            have HB3 := Lib.hid hb
            have HG := Lib.hid hgap
            clear hb hgap
            rcases Nat.lt_or_ge j to with hjl | hjg
            · have hjs : j < s.size := by omega
              have hji : (j : Int) < (s.size : Int) := by omega
              have hj0 : (0 : Int) ≤ (j : Int) := by omega
              have hjt : (j : Int) < (to : Int) := by omega
              have hg2 := HG.out
              rw [seg_cons s j to hjl htos] at hg2
              rcases gap_next hg2 with ⟨h10, h3⟩ | ⟨h10, hbt, h3⟩ | ⟨h47, hbf, ⟨q, hq⟩, h3⟩ | ⟨h10, h47, hbf, hsp, h3⟩
              · have HG3 := Lib.hid h3
                have hn : s[j].toNat = 10 := by rw [h10]; rfl
                clear hg2 h3 h10
                go_wp2_with (go_at_call 22; refine (HS10.out _).mono ?_; rintro e w6 ⟨rfl, rfl⟩)
                exact ⟨⟨j + 1, false, by omega, by omega, by go_num, rfl, HG3.out, HB3.out⟩, by simp [intOf]; omega⟩
              · subst hbt
                have HG3 := Lib.hid h3
                have hn : ¬ s[j].toNat = 10 := fun h => h10 (UInt8.toNat_inj.1 (by rw [h]; rfl))
                have hb1 : ((s[j].toNat : Int) == 10) = false := by simpa using (by omega : ¬ (s[j].toNat : Int) = 10)
                have hb2 : ((s[j].toNat : Int) != 10) = true := by simpa using (by omega : ¬ (s[j].toNat : Int) = 10)
                clear hg2 h3 h10
                go_wp2_with fail
                exact ⟨⟨j + 1, true, by omega, by omega, by go_num, rfl, HG3.out, HB3.out⟩, by simp [intOf]; omega⟩
              · subst hbf
                have HG3 := Lib.hid h3
                have hjt2 : j + 1 < to := by
                  rcases Nat.lt_or_ge (j + 1) to with h | h
                  · exact h
                  · rw [seg_end s (j + 1) to h] at hq; cases hq
                rw [seg_cons s (j + 1) to hjt2 htos] at hq
                injection hq with hq1 _
                have hn : s[j].toNat = 47 := by rw [h47]; rfl
                have hn1 : s[j + 1].toNat = 47 := by rw [hq1]; rfl
                have hjt3 : (j : Int) + 1 < (to : Int) := by omega
                have hjs3 : (j : Int) + 1 < (s.size : Int) := by omega
                have hj2 : j + 1 < s.size := by omega
                clear hg2 h3 h47 hq1
                go_wp2_with fail
                exact ⟨⟨j + 1, true, by omega, by omega, by go_num, rfl, HG3.out, HB3.out⟩, by simp [intOf]; omega⟩
              · subst hbf
                have HG3 := Lib.hid h3
                have hn : ¬ s[j].toNat = 10 := fun h => h10 (UInt8.toNat_inj.1 (by rw [h]; rfl))
                have hn4 : ¬ s[j].toNat = 47 := fun h => h47 (UInt8.toNat_inj.1 (by rw [h]; rfl))
                have hb1 : ((s[j].toNat : Int) == 10) = false := by simpa using (by omega : ¬ (s[j].toNat : Int) = 10)
                have hb2 : ((s[j].toNat : Int) != 10) = true := by simpa using (by omega : ¬ (s[j].toNat : Int) = 10)
                have hb3 : ((s[j].toNat : Int) == 47) = false := by simpa using (by omega : ¬ (s[j].toNat : Int) = 47)
                have HSP : Hid (∀ W, Calls Tryd.prog 22 #[.int .u8 (s[j].toNat : Int)] W fun e w' => e = .returned (.bool true) ∧ W = w') := Lib.hid (fun W => by have := refspace_call s[j] W; rwa [hsp] at this)
                clear hg2 h3 h10 h47 hsp
                go_wp2_with (go_at_call 22; refine (HSP.out _).mono ?_; rintro e w6 ⟨rfl, rfl⟩)
                exact ⟨⟨j + 1, false, by omega, by omega, by go_num, rfl, HG3.out, HB3.out⟩, by simp [intOf]; omega⟩
            · obtain rfl : j = to := by omega
              have hg2 := HG.out
              rw [seg_end s j j (Nat.le_refl _)] at hg2
              obtain rfl : b = false := by simpa [gapF] using hg2
              clear hg2
              have hz1 : ¬ (W0.size : Int) = 0 := by omega
              have hz2 : ¬ (s.size : Int) < (j : Int) + (W0.size : Int) := by omega
              have hz3 : (j : Int) + (W0.size : Int) ≤ (s.size : Int) := by omega
              have hz4 : W0.size ≤ 3000 := by omega
              have hz5 : ¬ W0 = ByteArray.empty := by rintro rfl; simp at hw0
              have hslc : ∀ W : World, (Instr.slice 9 (.string s) (some (.int .i64 (j : Int))) (some (.int .i64 ((j : Int) + (W0.size : Int)))) none).run Tryd.prog W = .ok (.string W0) W := fun W => by
                have h := slice_str s j (j + W0.size) W (by omega) hws
                rw [HWE.out] at h
                rwa [show ((j + W0.size : Nat) : Int) = (j : Int) + (W0.size : Int) by omega] at h
              go_wp2_with (first
                | (refine wpList_load_tokAt rfl (.tmp 99) rfl b0 (off + k * 4) t rfl (HC.out _ HB3.out) ?_)
                | (go_at_call 23; refine (HSC.out _).mono ?_; rintro e w7 ⟨rfl, hb⟩; have HB4 := Lib.hid (below_next HB3.out hb); clear hb))
              · rename_i hbad
                exfalso
                rcases hbad with hb1 | hb1
                · have := beq_iff_eq.1 hb1; omega
                · omega
              case roundEnd => exact ⟨⟨j + W0.size, k + 1, by omega, by rw [← HM.out]; omega, by go_num, by go_num, HST2.out, HB4.out⟩, by simp [intOf]; omega⟩
        · obtain rfl : k = m := by omega
          obtain ⟨R, hgap⟩ := stand_last (by rw [← HM.out]; exact Nat.le_refl _) HST.out
          have HG0 := Lib.hid hgap
          have hkm : ¬ (k : Int) < (k : Int) := by omega
          have hto1 : ¬ (s.size : Int) < (i : Int) := by omega
          have HS10 : Hid (∀ W, Calls Tryd.prog 22 #[.int .u8 10] W fun e w' => e = .returned (.bool true) ∧ W = w') := Lib.hid (fun W => refspace_call 10 W)
          have htos : s.size ≤ s.size := Nat.le_refl _
          have hito : i ≤ s.size := hi
          clear hgap
          go_wp2_with fail
          go_loopw [6, 9] (fun s6 s9 wr => InHead s i s.size R w2 s6 s9 wr) (fun s6 _ _ => s.size - (intOf s6).toNat)
          case atStart => exact ⟨i, false, Nat.le_refl _, hito, rfl, rfl, HG0.out, HB2.out⟩
          case round =>
            obtain ⟨j, b, hj1, hj2, rfl, rfl, hgap, hb⟩ := hrel
            have HB3 := Lib.hid hb
            have HG := Lib.hid hgap
            clear hb hgap
            rcases Nat.lt_or_ge j s.size with hjl | hjg
            · have hjs : j < s.size := by omega
              have hji : (j : Int) < (s.size : Int) := by omega
              have hj0 : (0 : Int) ≤ (j : Int) := by omega
              have hjt : (j : Int) < (s.size : Int) := by omega
              have hg2 := HG.out
              rw [seg_cons s j s.size hjl htos] at hg2
              rcases gap_next hg2 with ⟨h10, h3⟩ | ⟨h10, hbt, h3⟩ | ⟨h47, hbf, ⟨q, hq⟩, h3⟩ | ⟨h10, h47, hbf, hsp, h3⟩
              · have HG3 := Lib.hid h3
                have hn : s[j].toNat = 10 := by rw [h10]; rfl
                clear hg2 h3 h10
                go_wp2_with (go_at_call 22; refine (HS10.out _).mono ?_; rintro e w6 ⟨rfl, rfl⟩)
                exact ⟨⟨j + 1, false, by omega, by omega, by go_num, rfl, HG3.out, HB3.out⟩, by simp [intOf]; omega⟩
              · subst hbt
                have HG3 := Lib.hid h3
                have hn : ¬ s[j].toNat = 10 := fun h => h10 (UInt8.toNat_inj.1 (by rw [h]; rfl))
                have hb1 : ((s[j].toNat : Int) == 10) = false := by simpa using (by omega : ¬ (s[j].toNat : Int) = 10)
                have hb2 : ((s[j].toNat : Int) != 10) = true := by simpa using (by omega : ¬ (s[j].toNat : Int) = 10)
                clear hg2 h3 h10
                go_wp2_with fail
                exact ⟨⟨j + 1, true, by omega, by omega, by go_num, rfl, HG3.out, HB3.out⟩, by simp [intOf]; omega⟩
              · subst hbf
                have HG3 := Lib.hid h3
                have hjt2 : j + 1 < s.size := by
                  rcases Nat.lt_or_ge (j + 1) s.size with h | h
                  · exact h
                  · rw [seg_end s (j + 1) s.size h] at hq; cases hq
                rw [seg_cons s (j + 1) s.size hjt2 htos] at hq
                injection hq with hq1 _
                have hn : s[j].toNat = 47 := by rw [h47]; rfl
                have hn1 : s[j + 1].toNat = 47 := by rw [hq1]; rfl
                have hjt3 : (j : Int) + 1 < (s.size : Int) := by omega
                have hjs3 : (j : Int) + 1 < (s.size : Int) := by omega
                have hj2 : j + 1 < s.size := by omega
                clear hg2 h3 h47 hq1
                go_wp2_with fail
                exact ⟨⟨j + 1, true, by omega, by omega, by go_num, rfl, HG3.out, HB3.out⟩, by simp [intOf]; omega⟩
              · subst hbf
                have HG3 := Lib.hid h3
                have hn : ¬ s[j].toNat = 10 := fun h => h10 (UInt8.toNat_inj.1 (by rw [h]; rfl))
                have hn4 : ¬ s[j].toNat = 47 := fun h => h47 (UInt8.toNat_inj.1 (by rw [h]; rfl))
                have hb1 : ((s[j].toNat : Int) == 10) = false := by simpa using (by omega : ¬ (s[j].toNat : Int) = 10)
                have hb2 : ((s[j].toNat : Int) != 10) = true := by simpa using (by omega : ¬ (s[j].toNat : Int) = 10)
                have hb3 : ((s[j].toNat : Int) == 47) = false := by simpa using (by omega : ¬ (s[j].toNat : Int) = 47)
                have HSP : Hid (∀ W, Calls Tryd.prog 22 #[.int .u8 (s[j].toNat : Int)] W fun e w' => e = .returned (.bool true) ∧ W = w') := Lib.hid (fun W => by have := refspace_call s[j] W; rwa [hsp] at this)
                clear hg2 h3 h10 h47 hsp
                go_wp2_with (go_at_call 22; refine (HSP.out _).mono ?_; rintro e w6 ⟨rfl, rfl⟩)
                exact ⟨⟨j + 1, false, by omega, by omega, by go_num, rfl, HG3.out, HB3.out⟩, by simp [intOf]; omega⟩
            · obtain rfl : j = s.size := by omega
              go_wp2_with fail
              go_ret
              exact ⟨rfl, below_next HB.out HB3.out⟩
end Go.Proofs.YtilpcchcccbfcaaDoor
