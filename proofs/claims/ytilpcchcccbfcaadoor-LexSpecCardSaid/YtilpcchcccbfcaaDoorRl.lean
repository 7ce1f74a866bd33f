/- All tokens of a source, as the reference reads them. -/
import Derived.Test.YtilpcchcccbfcaaDoorRn
import Derived.Test.YtilpcchcccbfcaaDoorJo
namespace Go.Proofs.YtilpcchcccbfcaaDoor
open Go.RowKit

theorem results_3 {fn : Func} {p q r : Tmp} (h : fn.results = #[.tmp p, .tmp q, .tmp r]) (tmps : Array Value) (w : World) (x y z : Value) (hx : tmps.getD p undef = x) (hy : tmps.getD q undef = y) (hz : tmps.getD r undef = z) :
    (results fn tmps).run Tryd.prog w = .ok (.tuple #[x, y, z]) w := by
  have hx' : tmps[p]?.getD undef = x := by simpa using hx
  have hy' : tmps[q]?.getD undef = y := by simpa using hy
  have hz' : tmps[r]?.getD undef = z := by simpa using hz
  simp [results, h, hx', hy', hz']
/-- the state of the outer loop -/
def RlHead (s : ByteArray) (W : World) (s5 s6 : Value) (wr : World) : Prop := ∃ (k : Nat) (ts : List Tok), s6 = .int .i64 (k : Int) ∧ k ≤ s.size ∧ TNew W wr s5 ts ∧ ts.length ≤ k ∧
  lexL 0 (bs s) = (ts ++ (lexL k ((bs s).drop k)).1, (lexL k ((bs s).drop k)).2)
/-- the state of an inner loop -/
def RunHead (p : UInt8 → Bool) (s : ByteArray) (k0 : Nat) (s6 : Value) : Prop := ∃ k : Nat, s6 = .int .i64 (k : Int) ∧ k ≤ s.size ∧ k0 ≤ k ∧ runEnd p s k = runEnd p s k0
theorem line_nat (c : UInt8) : notLine c = !(decide (c.toNat = 10)) := all_bytes (p := fun c => notLine c = !(decide (c.toNat = 10))) (by decide +kernel) c
theorem slash_nat (c : UInt8) : c = 47 ↔ c.toNat = 47 := all_bytes (p := fun c => c = 47 ↔ c.toNat = 47) (by decide +kernel) c
theorem note_at {s : ByteArray} {k : Nat} (h : k < s.size) (h2 : k + 1 < s.size) : isNote ((bs s).drop k) = (decide (s[k].toNat = 47) && decide (s[k + 1].toNat = 47)) := by
  rw [drop_at h, drop_at h2, Bool.eq_iff_iff]
  simp only [Bool.and_eq_true, decide_eq_true_eq, ← slash_nat]
  constructor
  · intro h3
    obtain ⟨r, hr⟩ := isNote_not_space h3
    injection hr with h4 h5
    injection h5 with h6 _
    exact ⟨h4, h6⟩
  · rintro ⟨h3, h4⟩; rw [h3, h4]; rfl
theorem note_end {s : ByteArray} {k : Nat} (h : k < s.size) (h2 : s.size ≤ k + 1) : isNote ((bs s).drop k) = false := by
  cases hn : isNote ((bs s).drop k) with
  | false => rfl
  | true =>
    obtain ⟨r, hr⟩ := isNote_not_space hn
    have := congrArg List.length hr
    rw [List.length_drop, ← Lib.size_eq] at this
    simp at this; omega
theorem note_other {s : ByteArray} {k : Nat} (h : k < s.size) (h2 : s[k].toNat ≠ 47) : isNote ((bs s).drop k) = false := by
  cases hn : isNote ((bs s).drop k) with
  | false => rfl
  | true =>
    obtain ⟨r, hr⟩ := isNote_not_space hn
    rw [drop_at h] at hr
    injection hr with h3 _
    exact absurd ((slash_nat _).1 h3) h2

theorem takeRun_eq (s : ByteArray) (p : UInt8 → Bool) (k : Nat) : bs (s.extract k (runEnd p s k)) = ((bs s).drop k).takeWhile p := by
  have h := extract_run s p k
  unfold str at h
  injection h with h1
  rw [h1]
theorem runEnd_sub (s : ByteArray) (p : UInt8 → Bool) (k : Nat) : runEnd p s k = k + (((bs s).drop k).takeWhile p).length := rfl
theorem name_here {s : ByteArray} {k : Nat} (h : k < s.size) (hl : isLetter s[k] = true) :
    step ((bs s).drop k) = (if isName (bs (s.extract k (runEnd isPart s k))) = true then some (1, bs (s.extract k (runEnd isPart s k)), 0, runEnd isPart s k - k) else none) ∧ k + 1 ≤ runEnd isPart s k := by
  have hp : isPart s[k] = true := by simp [isPart, hl]
  rw [takeRun_eq, runEnd_sub, Nat.add_sub_cancel_left, drop_at h, step_name hl]
  have hall : ((s[k] :: (bs s).drop (k + 1)).takeWhile isPart).all isPart = true := by
    exact List.all_takeWhile
  refine ⟨?_, by simp [hp]⟩
  have hn : isName ((s[k] :: (bs s).drop (k + 1)).takeWhile isPart) = decide (((s[k] :: (bs s).drop (k + 1)).takeWhile isPart).length ≤ 32) := by
    unfold isName
    rw [hall, Bool.and_true, List.takeWhile_cons_of_pos hp]
    simp [hl]
  rw [hn]
  by_cases h32 : ((s[k] :: (bs s).drop (k + 1)).takeWhile isPart).length ≤ 32
  · rw [if_pos h32, if_pos (by simpa using h32)]
  · rw [if_neg h32, if_neg (by simpa using h32)]
theorem num_here {s : ByteArray} {k : Nat} (h : k < s.size) (hl : isLetter s[k] = false) (hd : isDigit s[k] = true) :
    step ((bs s).drop k) = (if numOk (bs (s.extract k (runEnd isDigit s k))) = true then some (2, [], num (bs (s.extract k (runEnd isDigit s k))), runEnd isDigit s k - k) else none) ∧ k + 1 ≤ runEnd isDigit s k ∧ (bs (s.extract k (runEnd isDigit s k))).all isDigit = true := by
  rw [takeRun_eq, runEnd_sub, Nat.add_sub_cancel_left, drop_at h, step_num hl hd]
  refine ⟨rfl, by simp [hd], ?_⟩
  exact List.all_takeWhile
/-- the reference's answer where a token is wrong -/
theorem bad_here {s : ByteArray} {k : Nat} {ts : List Tok} {R : List Tok × Nat × Nat} (HBAD : Hid (∀ q, (lexL 0 (bs s)).2 = some q → R = ([], q, 30)))
    (HL : Hid (lexL 0 (bs s) = (ts ++ (lexL k ((bs s).drop k)).1, (lexL k ((bs s).drop k)).2))) (HBG : Hid (Begins ((bs s).drop k))) (hs : step ((bs s).drop k) = none) : R = ([], k, 30) :=
  HBAD.out k (by rw [HL.out, lexL_bad HBG.out hs])
theorem tok_here {s : ByteArray} {k J : Nat} {ts : List Tok} (HL : Hid (lexL 0 (bs s) = (ts ++ (lexL k ((bs s).drop k)).1, (lexL k ((bs s).drop k)).2))) (HBG : Hid (Begins ((bs s).drop k)))
    {kd x m : Nat} {wd : List UInt8} (hs : step ((bs s).drop k) = some (kd, wd, x, m)) (hJ : k + m = J) :
    lexL 0 (bs s) = (ts ++ [⟨kd, wd, x, k⟩] ++ (lexL J ((bs s).drop J)).1, (lexL J ((bs s).drop J)).2) := by
  rw [HL.out, lexL_tok HBG.out hs, List.drop_drop, hJ, List.append_assoc]; rfl

set_option maxHeartbeats 16000000 in
set_option maxRecDepth 100000 in
theorem refLex_call (s : ByteArray) (w : World) (hs : s.size ≤ 281474976710656) :
    Calls Tryd.prog 13 #[.string s] w fun e w' => ∃ v, e = .returned (.tuple #[v, .int .i64 ((lexR s).2.1 : Int), .int .i64 ((lexR s).2.2 : Int)]) ∧ TNew w w' v (lexR s).1 := by
  rcases Nat.lt_or_ge 65536 s.size with hlong | hshort
  · have hl : lexR s = ([], 0, 2) := by unfold lexR; rw [if_pos hlong]
    rw [hl]
    have hl2 : (65536 : Int) < (s.size : Int) := by omega
    clear hl
    go_enter Tryd.func13, Tryd.ntmps13
    go_wp2_with fail
    exact bodyPost_ret (results_3 rfl _ _ _ _ _ rfl rfl rfl) rfl ⟨_, rfl, tnew_nil w⟩
  · have hl2 : ¬ (65536 : Int) < (s.size : Int) := by omega
    obtain ⟨R, hR⟩ : ∃ R, R = lexR s := ⟨_, rfl⟩
    rw [← hR]
    have HOK : Hid ((lexL 0 (bs s)).2 = none → R = ((lexL 0 (bs s)).1, 0, 0)) := Lib.hid (fun h => by rw [hR]; exact lexR_ok hshort h)
    have HBAD : Hid (∀ q, (lexL 0 (bs s)).2 = some q → R = ([], q, 30)) := Lib.hid (fun q h => by rw [hR]; exact lexR_bad hshort h)
    have HSZ := Lib.hid (Lib.size_eq s)
    clear hR
    go_enter Tryd.func13, Tryd.ntmps13
    go_wp2_with fail
    go_loopw [5, 6] (fun s5 s6 wr => RlHead s w s5 s6 wr) (fun _ s6 _ => s.size - (intOf s6).toNat)
    case atStart => exact ⟨0, [], rfl, Nat.zero_le _, tnew_none w, Nat.zero_le _, by rw [List.drop_zero]; rfl⟩
    case round =>
      obtain ⟨k, ts, rfl, hk, hnew, htl, hlex⟩ := hrel
      have HN := Lib.hid hnew
      have HL := Lib.hid hlex
      clear hnew hlex
      rcases Nat.lt_or_ge k s.size with hlt | hge
      · have HSP : Hid (∀ W, Calls Tryd.prog 22 #[.int .u8 (s[k].toNat : Int)] W fun e w' => e = .returned (.bool (isSpace s[k])) ∧ W = w') := Lib.hid (fun W => refspace_call s[k] W)
        have HLT : Hid (∀ W, Calls Tryd.prog 26 #[.int .u8 (s[k].toNat : Int)] W fun e w' => e = .returned (.bool (isLetter s[k])) ∧ W = w') := Lib.hid (fun W => refletter_call s[k] W)
        have HDI : Hid (∀ W, Calls Tryd.prog 28 #[.int .u8 (s[k].toNat : Int)] W fun e w' => e = .returned (.bool (isDigit s[k])) ∧ W = w') := Lib.hid (fun W => refdigit_call s[k] W)
        have HSG : Hid (∀ W, Calls Tryd.prog 30 #[.int .u8 (s[k].toNat : Int)] W fun e w' => e = .returned (.bool (isSign s[k])) ∧ W = w') := Lib.hid (fun W => refsign_call s[k] W)
        cases hsp : isSpace s[k] with
        | true =>
          rw [hsp] at HSP
          have HX : Hid (lexL k ((bs s).drop k) = lexL (k + 1) ((bs s).drop (k + 1))) := Lib.hid (by rw [drop_at hlt, lexL_space hsp])
          clear hsp
          go_wp2_with (go_at_call 22; refine (HSP.out _).mono ?_; rintro e w' ⟨rfl, rfl⟩)
          exact ⟨⟨k + 1, ts, by go_num, by omega, HN.out, by omega, by rw [HL.out, HX.out]⟩, by simp [intOf]; omega⟩
        | false =>
          rw [hsp] at HSP
          cases hn : isNote ((bs s).drop k) with
          | true =>
            have h2 : k + 1 < s.size := by
              rcases Nat.lt_or_ge (k + 1) s.size with h | h
              · exact h
              · rw [note_end hlt h] at hn; cases hn
            have hna := note_at hlt h2
            rw [hn] at hna
            have hna2 := hna.symm
            simp only [Bool.and_eq_true, decide_eq_true_eq] at hna2
            obtain ⟨hc1, hc2⟩ := hna2
            have hc1 : ((s[k].toNat : Nat) : Int) = 47 := by omega
            have hc2 : ((s[k + 1].toNat : Nat) : Int) = 47 := by omega
            have hix : ∀ W : World, (Instr.index 9 (.string s) (.int .i64 ((k : Int) + 1))).run Tryd.prog W = .ok (.int .u8 (s[k + 1].toNat : Int)) W := fun W => by
              have := index_str s (k + 1) W h2
              rwa [show ((k + 1 : Nat) : Int) = (k : Int) + 1 by omega] at this
            have hk2 : (k : Int) + 1 < (s.size : Int) := by omega
            have HX : Hid (lexL k ((bs s).drop k) = lexL (runEnd notLine s k) ((bs s).drop (runEnd notLine s k)) ∧ k + 2 ≤ runEnd notLine s k) := Lib.hid ⟨by rw [lexL_note hn, List.drop_drop]; rfl, by have := lineLen_pos hn; unfold runEnd; unfold lineLen at this; omega⟩
            have HSQ : Hid (∀ W, Calls Tryd.prog 22 #[.int .u8 47] W fun e w' => e = .returned (.bool false) ∧ W = w') := Lib.hid (fun W => by have := HSP.out W; rwa [hc1] at this)
            clear hsp hn hna HSP
            go_wp2_with (go_at_call 22; refine (HSQ.out _).mono ?_; rintro e w' ⟨rfl, rfl⟩)
            go_loop [6] (fun s6 => RunHead notLine s k s6) (fun s6 => s.size - (intOf s6).toNat)
            case atStart => exact ⟨k, rfl, hk, Nat.le_refl _, rfl⟩
            case round =>
              obtain ⟨j, rfl, hj, hkj, hje⟩ := hrel
              have HJ := Lib.hid hje
              clear hje
              rcases Nat.lt_or_ge j s.size with hjl | hjg
              · cases hp : notLine s[j] with
                | true =>
                  have hnl : ¬ ((s[j].toNat : Nat) : Int) = 10 := by
                    rw [line_nat] at hp; simp at hp; omega
                  have hdl : ((((s[j].toNat : Nat) : Int)) != 10) = true := by simpa using hnl
                  have HQ := Lib.hid (runEnd_next hjl hp)
                  clear hp
                  go_wp2_with fail
                  exact ⟨⟨j + 1, by go_num, by omega, by omega, by rw [← HQ.out, HJ.out]⟩, by simp [intOf]; omega⟩
                | false =>
                  have hnl : ((s[j].toNat : Nat) : Int) = 10 := by
                    rw [line_nat] at hp; simp at hp; omega
                  have hdl : ((((s[j].toNat : Nat) : Int)) != 10) = false := by simp [hnl]
                  have HQ := Lib.hid (runEnd_stop hjl hp)
                  clear hp
                  go_wp2_with fail
                  have he : runEnd notLine s k = j := by rw [← HJ.out, HQ.out]
                  have hx := HX.out
                  rw [he] at hx
                  exact ⟨⟨j, ts, rfl, hj, HN.out, by omega, by rw [HL.out, hx.1]⟩, by simp [intOf]; omega⟩
              · obtain rfl : j = s.size := by omega
                go_wp2_with fail
                have he : runEnd notLine s k = s.size := by rw [← HJ.out, runEnd_end (Nat.le_refl _)]
                have hx := HX.out
                rw [he] at hx
                exact ⟨⟨s.size, ts, rfl, hj, HN.out, by omega, by rw [HL.out, hx.1]⟩, by simp [intOf]; omega⟩
          | false =>
            have HBG : Hid (Begins ((bs s).drop k)) := Lib.hid ⟨s[k], (bs s).drop (k + 1), drop_at hlt, hsp, hn⟩
            have hsl : ¬ ((s[k].toNat : Nat) : Int) = 47 ∨ (((s[k].toNat : Nat) : Int) = 47 ∧ ¬ (k : Int) + 1 < (s.size : Int)) ∨ (((s[k].toNat : Nat) : Int) = 47 ∧ (k : Int) + 1 < (s.size : Int) ∧ ∃ c : Int, ¬ c = 47 ∧ ∀ W : World, (Instr.index 9 (.string s) (.int .i64 ((k : Int) + 1))).run Tryd.prog W = .ok (.int .u8 c) W) := by
              by_cases h1 : ((s[k].toNat : Nat) : Int) = 47
              · by_cases h2 : (k : Int) + 1 < (s.size : Int)
                · refine .inr (.inr ⟨h1, h2, ((s[k + 1]'(by omega)).toNat : Int), ?_, fun W => ?_⟩)
                  · rw [note_at hlt (by omega)] at hn
                    simp only [Bool.and_eq_false_iff, decide_eq_false_iff_not] at hn
                    omega
                  · have := index_str s (k + 1) W (by omega)
                    rwa [show ((k + 1 : Nat) : Int) = (k : Int) + 1 by omega] at this
                · exact .inr (.inl ⟨h1, h2⟩)
              · exact .inl h1
            clear hsp hn
            cases hlt2 : isLetter s[k] with
            | true =>
              have HX := Lib.hid (name_here hlt hlt2)
              have h47 : ¬ ((s[k].toNat : Nat) : Int) = 47 := by
                intro h47
                rw [letter_nat] at hlt2; simp only [decide_eq_true_eq] at hlt2; omega
              rw [hlt2] at HLT
              clear hlt2 hsl
              go_wp2_with (first | (go_at_call 22; refine (HSP.out _).mono ?_; rintro e w' ⟨rfl, rfl⟩) | (go_at_call 26; refine (HLT.out _).mono ?_; rintro e w' ⟨rfl, rfl⟩))
              go_loop [6] (fun s6 => RunHead isPart s k s6) (fun s6 => s.size - (intOf s6).toNat)
              case atStart => exact ⟨k, rfl, hk, Nat.le_refl _, rfl⟩
              case round =>
                obtain ⟨j, rfl, hj, hkj, hje⟩ := hrel
                have HJ := Lib.hid hje
                clear hje
                rcases Nat.lt_or_ge j s.size with hjl | hjg
                · have HP : Hid (∀ W, Calls Tryd.prog 27 #[.int .u8 (s[j].toNat : Int)] W fun e w' => e = .returned (.bool (isPart s[j])) ∧ W = w') := Lib.hid (fun W => refpart_call s[j] W)
                  cases hp : isPart s[j] with
                  | true =>
                    rw [hp] at HP
                    have HQ := Lib.hid (runEnd_next hjl hp)
                    clear hp
                    go_wp2_with (go_at_call 27; refine (HP.out _).mono ?_; rintro e w' ⟨rfl, rfl⟩)
                    exact ⟨⟨j + 1, by go_num, by omega, by omega, by rw [← HQ.out, HJ.out]⟩, by simp [intOf]; omega⟩
                  | false =>
                    rw [hp] at HP
                    have he : runEnd isPart s k = j := by rw [← HJ.out, runEnd_stop hjl hp]
                    rw [he] at HX
                    have hkj2 : k + 1 ≤ j := HX.out.2
                    clear hp he
                    have HNM : Hid (∀ W, Calls Tryd.prog 21 #[.string (s.extract k j)] W fun e w' => e = .returned (.bool (isName (bs (s.extract k j)))) ∧ W = w') := Lib.hid (fun W => refname_call _ W (by rw [ByteArray.size_extract]; omega))
                    cases hnm : isName (bs (s.extract k j)) with
                    | false =>
                      rw [hnm] at HNM
                      have HR := Lib.hid (bad_here HBAD HL HBG (by rw [HX.out.1, hnm]; rfl))
                      clear hnm
                      go_wp2_with (first | (go_at_call 27; refine (HP.out _).mono ?_; rintro e w' ⟨rfl, rfl⟩) | (go_at_call 21; refine (HNM.out _).mono ?_; rintro e w' ⟨rfl, rfl⟩))
                      exact bodyPost_ret (results_3 rfl _ _ _ _ _ rfl rfl rfl) rfl ⟨_, by rw [HR.out]; rfl, by rw [HR.out]; exact ⟨tbuf_nil _, HN.out.2.1, fun k hk => by cases hk⟩⟩
                    | true =>
                      rw [hnm] at HNM
                      have HL2 := Lib.hid (tok_here HL HBG (J := j) (HX.out.1.trans (if_pos hnm)) (by omega))
                      clear hnm
                      go_wp2_with (first | (go_at_call 27; refine (HP.out _).mono ?_; rintro e w' ⟨rfl, rfl⟩) | (go_at_call 21; refine (HNM.out _).mono ?_; rintro e w' ⟨rfl, rfl⟩) | (refine wpList_append_tok rfl (.tmp 78) (.tmp 85) rfl u5 ts rfl (HN.out.keep (Joins.below_alloc1 wr _)).1 wr.heap.size (⟨1, bs (s.extract k j), 0, k⟩) rfl (row_new wr 35 (tokCells (⟨1, bs (s.extract k j), 0, k⟩))) (by omega) ?_; intro v7 w7 hbuf hwr; have HN7 := Lib.hid ((HN.out.keep (Joins.below_alloc1 wr _)).app hbuf hwr); clear hbuf hwr))
                      exact ⟨⟨j, ts ++ [⟨1, bs (s.extract k j), 0, k⟩], rfl, by omega, HN7.out, by rw [List.length_append, List.length_singleton]; omega, HL2.out⟩, by simp [intOf]; omega⟩
                · obtain rfl : j = s.size := by omega
                  have he : runEnd isPart s k = s.size := by rw [← HJ.out, runEnd_end (Nat.le_refl _)]
                  rw [he] at HX
                  have hkj2 : k + 1 ≤ s.size := HX.out.2
                  clear he
                  have HNM : Hid (∀ W, Calls Tryd.prog 21 #[.string (s.extract k s.size)] W fun e w' => e = .returned (.bool (isName (bs (s.extract k s.size)))) ∧ W = w') := Lib.hid (fun W => refname_call _ W (by rw [ByteArray.size_extract]; omega))
                  cases hnm : isName (bs (s.extract k s.size)) with
                  | false =>
                    rw [hnm] at HNM
                    have HR := Lib.hid (bad_here HBAD HL HBG (by rw [HX.out.1, hnm]; rfl))
                    clear hnm
                    go_wp2_with (first | (go_at_call 21; refine (HNM.out _).mono ?_; rintro e w' ⟨rfl, rfl⟩))
                    exact bodyPost_ret (results_3 rfl _ _ _ _ _ rfl rfl rfl) rfl ⟨_, by rw [HR.out]; rfl, by rw [HR.out]; exact ⟨tbuf_nil _, HN.out.2.1, fun k hk => by cases hk⟩⟩
                  | true =>
                    rw [hnm] at HNM
                    have HL2 := Lib.hid (tok_here HL HBG (J := s.size) (HX.out.1.trans (if_pos hnm)) (by omega))
                    clear hnm
                    go_wp2_with (first | (go_at_call 21; refine (HNM.out _).mono ?_; rintro e w' ⟨rfl, rfl⟩) | (refine wpList_append_tok rfl (.tmp 78) (.tmp 85) rfl u5 ts rfl (HN.out.keep (Joins.below_alloc1 wr _)).1 wr.heap.size (⟨1, bs (s.extract k s.size), 0, k⟩) rfl (row_new wr 35 (tokCells (⟨1, bs (s.extract k s.size), 0, k⟩))) (by omega) ?_; intro v7 w7 hbuf hwr; have HN7 := Lib.hid ((HN.out.keep (Joins.below_alloc1 wr _)).app hbuf hwr); clear hbuf hwr))
                    exact ⟨⟨s.size, ts ++ [⟨1, bs (s.extract k s.size), 0, k⟩], rfl, by omega, HN7.out, by rw [List.length_append, List.length_singleton]; omega, HL2.out⟩, by simp [intOf]; omega⟩
            | false =>
              cases hdg2 : isDigit s[k] with
              | true =>
                have HX := Lib.hid (num_here hlt hlt2 hdg2)
                have h47 : ¬ ((s[k].toNat : Nat) : Int) = 47 := by
                  intro h47
                  rw [digit_nat] at hdg2; simp only [decide_eq_true_eq] at hdg2; omega
                rw [hlt2] at HLT
                rw [hdg2] at HDI
                clear hlt2 hdg2 hsl
                go_wp2_with (first | (go_at_call 22; refine (HSP.out _).mono ?_; rintro e w' ⟨rfl, rfl⟩) | (go_at_call 26; refine (HLT.out _).mono ?_; rintro e w' ⟨rfl, rfl⟩) | (go_at_call 28; refine (HDI.out _).mono ?_; rintro e w' ⟨rfl, rfl⟩))
                go_loop [6] (fun s6 => RunHead isDigit s k s6) (fun s6 => s.size - (intOf s6).toNat)
                case atStart => exact ⟨k, rfl, hk, Nat.le_refl _, rfl⟩
                case round =>
                  obtain ⟨j, rfl, hj, hkj, hje⟩ := hrel
                  have HJ := Lib.hid hje
                  clear hje
                  rcases Nat.lt_or_ge j s.size with hjl | hjg
                  · have HP : Hid (∀ W, Calls Tryd.prog 28 #[.int .u8 (s[j].toNat : Int)] W fun e w' => e = .returned (.bool (isDigit s[j])) ∧ W = w') := Lib.hid (fun W => refdigit_call s[j] W)
                    cases hp : isDigit s[j] with
                    | true =>
                      rw [hp] at HP
                      have HQ := Lib.hid (runEnd_next hjl hp)
                      clear hp
                      go_wp2_with (go_at_call 28; refine (HP.out _).mono ?_; rintro e w' ⟨rfl, rfl⟩)
                      exact ⟨⟨j + 1, by go_num, by omega, by omega, by rw [← HQ.out, HJ.out]⟩, by simp [intOf]; omega⟩
                    | false =>
                      rw [hp] at HP
                      have he : runEnd isDigit s k = j := by rw [← HJ.out, runEnd_stop hjl hp]
                      rw [he] at HX
                      have hkj2 : k + 1 ≤ j := HX.out.2.1
                      clear hp he
                      have hsz : (s.extract k j).size ≤ 281474976710656 := by rw [ByteArray.size_extract]; omega
                      have hpos : 0 < (s.extract k j).size := by rw [ByteArray.size_extract]; omega
                      cases hnm : numOk (bs (s.extract k j)) with
                      | false =>
                        have HNM : Hid (∀ W, Calls Tryd.prog 29 #[.string (s.extract k j)] W fun e w' => (∃ x : Int, e = .returned (.tuple #[.int .i64 x, .bool false])) ∧ Below W.heap.size W w') := Lib.hid (fun W => (refnum_call _ W hpos hsz HX.out.2.2).mono (by
                          rintro e w' ⟨⟨x, rfl, _⟩, n, rfl⟩
                          rw [hnm]
                          exact ⟨⟨x, rfl⟩, below_drewN (Below.refl _ _) n⟩))
                        have HR := Lib.hid (bad_here HBAD HL HBG (by rw [HX.out.1, hnm]; rfl))
                        clear hnm hsz hpos
                        go_wp2_with (first | (go_at_call 28; refine (HP.out _).mono ?_; rintro e w' ⟨rfl, rfl⟩) | (go_at_call 29; refine (HNM.out _).mono ?_; rintro e w2 ⟨⟨x, rfl⟩, hb2⟩; have HN2 := Lib.hid (HN.out.keep hb2); clear hb2))
                        exact bodyPost_ret (results_3 rfl _ _ _ _ _ rfl rfl rfl) rfl ⟨_, by rw [HR.out]; rfl, by rw [HR.out]; exact ⟨tbuf_nil _, HN2.out.2.1, fun k hk => by cases hk⟩⟩
                      | true =>
                        have HNM : Hid (∀ W, Calls Tryd.prog 29 #[.string (s.extract k j)] W fun e w' => e = .returned (.tuple #[.int .i64 (num (bs (s.extract k j)) : Int), .bool true]) ∧ Below W.heap.size W w') := Lib.hid (fun W => (refnum_call _ W hpos hsz HX.out.2.2).mono (by
                          rintro e w' ⟨⟨x, rfl, hx⟩, n, rfl⟩
                          rw [hnm, hx hnm]
                          exact ⟨rfl, below_drewN (Below.refl _ _) n⟩))
                        have HL2 := Lib.hid (tok_here HL HBG (J := j) (HX.out.1.trans (if_pos hnm)) (by omega))
                        obtain ⟨z, hz⟩ : ∃ z : Nat, z = num (bs (s.extract k j)) := ⟨_, rfl⟩
                        rw [← hz] at HNM HL2
                        clear hnm hsz hpos hz
                        go_wp2_with (first | (go_at_call 28; refine (HP.out _).mono ?_; rintro e w' ⟨rfl, rfl⟩) | (go_at_call 29; refine (HNM.out _).mono ?_; rintro e w2 ⟨rfl, hb2⟩; have HN2 := Lib.hid (HN.out.keep hb2); clear hb2) | (refine wpList_append_tok rfl (.tmp 114) (.tmp 118) rfl u5 ts rfl (HN2.out.keep (Joins.below_alloc1 w2 _)).1 w2.heap.size (⟨2, [], z, k⟩) rfl (row_new w2 35 (tokCells (⟨2, [], z, k⟩))) (by omega) ?_; intro v7 w7 hbuf hwr; have HN7 := Lib.hid ((HN2.out.keep (Joins.below_alloc1 w2 _)).app hbuf hwr); clear hbuf hwr))
                        exact ⟨⟨j, ts ++ [⟨2, [], z, k⟩], rfl, by omega, HN7.out, by rw [List.length_append, List.length_singleton]; omega, HL2.out⟩, by simp [intOf]; omega⟩
                  · obtain rfl : j = s.size := by omega
                    have he : runEnd isDigit s k = s.size := by rw [← HJ.out, runEnd_end (Nat.le_refl _)]
                    rw [he] at HX
                    have hkj2 : k + 1 ≤ s.size := HX.out.2.1
                    clear he
                    have hsz : (s.extract k s.size).size ≤ 281474976710656 := by rw [ByteArray.size_extract]; omega
                    have hpos : 0 < (s.extract k s.size).size := by rw [ByteArray.size_extract]; omega
                    cases hnm : numOk (bs (s.extract k s.size)) with
                    | false =>
                      have HNM : Hid (∀ W, Calls Tryd.prog 29 #[.string (s.extract k s.size)] W fun e w' => (∃ x : Int, e = .returned (.tuple #[.int .i64 x, .bool false])) ∧ Below W.heap.size W w') := Lib.hid (fun W => (refnum_call _ W hpos hsz HX.out.2.2).mono (by
                        rintro e w' ⟨⟨x, rfl, _⟩, n, rfl⟩
                        rw [hnm]
                        exact ⟨⟨x, rfl⟩, below_drewN (Below.refl _ _) n⟩))
                      have HR := Lib.hid (bad_here HBAD HL HBG (by rw [HX.out.1, hnm]; rfl))
                      clear hnm hsz hpos
                      go_wp2_with (first | (go_at_call 29; refine (HNM.out _).mono ?_; rintro e w2 ⟨⟨x, rfl⟩, hb2⟩; have HN2 := Lib.hid (HN.out.keep hb2); clear hb2))
                      exact bodyPost_ret (results_3 rfl _ _ _ _ _ rfl rfl rfl) rfl ⟨_, by rw [HR.out]; rfl, by rw [HR.out]; exact ⟨tbuf_nil _, HN2.out.2.1, fun k hk => by cases hk⟩⟩
                    | true =>
                      have HNM : Hid (∀ W, Calls Tryd.prog 29 #[.string (s.extract k s.size)] W fun e w' => e = .returned (.tuple #[.int .i64 (num (bs (s.extract k s.size)) : Int), .bool true]) ∧ Below W.heap.size W w') := Lib.hid (fun W => (refnum_call _ W hpos hsz HX.out.2.2).mono (by
                        rintro e w' ⟨⟨x, rfl, hx⟩, n, rfl⟩
                        rw [hnm, hx hnm]
                        exact ⟨rfl, below_drewN (Below.refl _ _) n⟩))
                      have HL2 := Lib.hid (tok_here HL HBG (J := s.size) (HX.out.1.trans (if_pos hnm)) (by omega))
                      obtain ⟨z, hz⟩ : ∃ z : Nat, z = num (bs (s.extract k s.size)) := ⟨_, rfl⟩
                      rw [← hz] at HNM HL2
                      clear hnm hsz hpos hz
                      go_wp2_with (first | (go_at_call 29; refine (HNM.out _).mono ?_; rintro e w2 ⟨rfl, hb2⟩; have HN2 := Lib.hid (HN.out.keep hb2); clear hb2) | (refine wpList_append_tok rfl (.tmp 114) (.tmp 118) rfl u5 ts rfl (HN2.out.keep (Joins.below_alloc1 w2 _)).1 w2.heap.size (⟨2, [], z, k⟩) rfl (row_new w2 35 (tokCells (⟨2, [], z, k⟩))) (by omega) ?_; intro v7 w7 hbuf hwr; have HN7 := Lib.hid ((HN2.out.keep (Joins.below_alloc1 w2 _)).app hbuf hwr); clear hbuf hwr))
                      exact ⟨⟨s.size, ts ++ [⟨2, [], z, k⟩], rfl, by omega, HN7.out, by rw [List.length_append, List.length_singleton]; omega, HL2.out⟩, by simp [intOf]; omega⟩
              | false =>
                cases hsg2 : isSign s[k] with
                | true =>
                  have HST : Hid (step ((bs s).drop k) = some (3, bs (s.extract k (k + 1)), 0, 1)) := Lib.hid (by
                    rw [drop_at hlt, step_sign hlt2 hdg2, if_pos hsg2]
                    have h1 := bs_extract s k (k + 1)
                    rw [h1, drop_at hlt, show k + 1 - k = 1 by omega]; rfl)
                  have HL2 := Lib.hid (tok_here HL HBG (J := k + 1) HST.out rfl)
                  rw [hlt2] at HLT
                  rw [hdg2] at HDI
                  rw [hsg2] at HSG
                  clear hlt2 hdg2 hsg2
                  have hslc : ∀ W : World, (Instr.slice 9 (.string s) (some (.int .i64 (k : Int))) (some (.int .i64 ((k : Int) + 1))) none).run Tryd.prog W = .ok (.string (s.extract k (k + 1))) W := fun W => by
                    have := slice_str s k (k + 1) W (by omega) (by omega)
                    rwa [show ((k + 1 : Nat) : Int) = (k : Int) + 1 by omega] at this
                  rcases hsl with h1 | ⟨h1, h2⟩ | ⟨h1, h2, c, hc, hix⟩
                  · go_wp2_with (first | (go_at_call 22; refine (HSP.out _).mono ?_; rintro e w' ⟨rfl, rfl⟩) | (go_at_call 26; refine (HLT.out _).mono ?_; rintro e w' ⟨rfl, rfl⟩) | (go_at_call 28; refine (HDI.out _).mono ?_; rintro e w' ⟨rfl, rfl⟩) | (go_at_call 30; refine (HSG.out _).mono ?_; rintro e w' ⟨rfl, rfl⟩) | (refine wpList_append_tok rfl (.tmp 128) (.tmp 135) rfl u5 ts rfl (HN.out.keep (Joins.below_alloc1 wr _)).1 wr.heap.size (⟨3, bs (s.extract k (k + 1)), 0, k⟩) rfl (row_new wr 35 (tokCells (⟨3, bs (s.extract k (k + 1)), 0, k⟩))) (by omega) ?_; intro v7 w7 hbuf hwr; have HN7 := Lib.hid ((HN.out.keep (Joins.below_alloc1 wr _)).app hbuf hwr); clear hbuf hwr))
                    exact ⟨⟨k + 1, ts ++ [⟨3, bs (s.extract k (k + 1)), 0, k⟩], by go_num, by omega, HN7.out, by rw [List.length_append, List.length_singleton]; omega, HL2.out⟩, by simp [intOf]; omega⟩
                  · have HSP2 : Hid (∀ W, Calls Tryd.prog 22 #[.int .u8 47] W fun e w' => e = .returned (.bool false) ∧ W = w') := Lib.hid (fun W => by have := HSP.out W; rwa [h1] at this)
                    have HLT2 : Hid (∀ W, Calls Tryd.prog 26 #[.int .u8 47] W fun e w' => e = .returned (.bool false) ∧ W = w') := Lib.hid (fun W => by have := HLT.out W; rwa [h1] at this)
                    have HDI2 : Hid (∀ W, Calls Tryd.prog 28 #[.int .u8 47] W fun e w' => e = .returned (.bool false) ∧ W = w') := Lib.hid (fun W => by have := HDI.out W; rwa [h1] at this)
                    have HSG2 : Hid (∀ W, Calls Tryd.prog 30 #[.int .u8 47] W fun e w' => e = .returned (.bool true) ∧ W = w') := Lib.hid (fun W => by have := HSG.out W; rwa [h1] at this)
                    clear HSP HLT HDI HSG
                    go_wp2_with (first | (go_at_call 22; refine (HSP2.out _).mono ?_; rintro e w' ⟨rfl, rfl⟩) | (go_at_call 26; refine (HLT2.out _).mono ?_; rintro e w' ⟨rfl, rfl⟩) | (go_at_call 28; refine (HDI2.out _).mono ?_; rintro e w' ⟨rfl, rfl⟩) | (go_at_call 30; refine (HSG2.out _).mono ?_; rintro e w' ⟨rfl, rfl⟩) | (refine wpList_append_tok rfl (.tmp 128) (.tmp 135) rfl u5 ts rfl (HN.out.keep (Joins.below_alloc1 wr _)).1 wr.heap.size (⟨3, bs (s.extract k (k + 1)), 0, k⟩) rfl (row_new wr 35 (tokCells (⟨3, bs (s.extract k (k + 1)), 0, k⟩))) (by omega) ?_; intro v7 w7 hbuf hwr; have HN7 := Lib.hid ((HN.out.keep (Joins.below_alloc1 wr _)).app hbuf hwr); clear hbuf hwr))
                    exact ⟨⟨k + 1, ts ++ [⟨3, bs (s.extract k (k + 1)), 0, k⟩], by go_num, by omega, HN7.out, by rw [List.length_append, List.length_singleton]; omega, HL2.out⟩, by simp [intOf]; omega⟩
                  · have HSP2 : Hid (∀ W, Calls Tryd.prog 22 #[.int .u8 47] W fun e w' => e = .returned (.bool false) ∧ W = w') := Lib.hid (fun W => by have := HSP.out W; rwa [h1] at this)
                    have HLT2 : Hid (∀ W, Calls Tryd.prog 26 #[.int .u8 47] W fun e w' => e = .returned (.bool false) ∧ W = w') := Lib.hid (fun W => by have := HLT.out W; rwa [h1] at this)
                    have HDI2 : Hid (∀ W, Calls Tryd.prog 28 #[.int .u8 47] W fun e w' => e = .returned (.bool false) ∧ W = w') := Lib.hid (fun W => by have := HDI.out W; rwa [h1] at this)
                    have HSG2 : Hid (∀ W, Calls Tryd.prog 30 #[.int .u8 47] W fun e w' => e = .returned (.bool true) ∧ W = w') := Lib.hid (fun W => by have := HSG.out W; rwa [h1] at this)
                    clear HSP HLT HDI HSG
                    go_wp2_with (first | (go_at_call 22; refine (HSP2.out _).mono ?_; rintro e w' ⟨rfl, rfl⟩) | (go_at_call 26; refine (HLT2.out _).mono ?_; rintro e w' ⟨rfl, rfl⟩) | (go_at_call 28; refine (HDI2.out _).mono ?_; rintro e w' ⟨rfl, rfl⟩) | (go_at_call 30; refine (HSG2.out _).mono ?_; rintro e w' ⟨rfl, rfl⟩) | (refine wpList_append_tok rfl (.tmp 128) (.tmp 135) rfl u5 ts rfl (HN.out.keep (Joins.below_alloc1 wr _)).1 wr.heap.size (⟨3, bs (s.extract k (k + 1)), 0, k⟩) rfl (row_new wr 35 (tokCells (⟨3, bs (s.extract k (k + 1)), 0, k⟩))) (by omega) ?_; intro v7 w7 hbuf hwr; have HN7 := Lib.hid ((HN.out.keep (Joins.below_alloc1 wr _)).app hbuf hwr); clear hbuf hwr))
                    exact ⟨⟨k + 1, ts ++ [⟨3, bs (s.extract k (k + 1)), 0, k⟩], by go_num, by omega, HN7.out, by rw [List.length_append, List.length_singleton]; omega, HL2.out⟩, by simp [intOf]; omega⟩
                | false =>
                  have HR := Lib.hid (bad_here HBAD HL HBG (by rw [drop_at hlt, step_sign hlt2 hdg2, if_neg (by rw [hsg2]; decide)]))
                  rw [hlt2] at HLT
                  rw [hdg2] at HDI
                  rw [hsg2] at HSG
                  have h47 : ¬ ((s[k].toNat : Nat) : Int) = 47 := by
                    intro h47
                    rw [sign_nat, show s[k].toNat = 47 by omega] at hsg2
                    exact absurd hsg2 (by decide)
                  clear hlt2 hdg2 hsg2 hsl
                  go_wp2_with (first | (go_at_call 22; refine (HSP.out _).mono ?_; rintro e w' ⟨rfl, rfl⟩) | (go_at_call 26; refine (HLT.out _).mono ?_; rintro e w' ⟨rfl, rfl⟩) | (go_at_call 28; refine (HDI.out _).mono ?_; rintro e w' ⟨rfl, rfl⟩) | (go_at_call 30; refine (HSG.out _).mono ?_; rintro e w' ⟨rfl, rfl⟩))
                  exact bodyPost_ret (results_3 rfl _ _ _ _ _ rfl rfl rfl) rfl ⟨_, by rw [HR.out]; rfl, by rw [HR.out]; exact ⟨tbuf_nil _, HN.out.2.1, fun k hk => by cases hk⟩⟩
      · obtain rfl : k = s.size := by omega
        have h := HL.out
        rw [List.drop_eq_nil_of_le (by rw [← HSZ.out]; exact Nat.le_refl _), lexL_nil, List.append_nil] at h
        have hR := HOK.out (by rw [h])
        rw [h] at hR
        have HR := Lib.hid hR
        clear hR h
        go_wp2_with fail
        exact bodyPost_ret (results_3 rfl _ _ _ _ _ rfl rfl rfl) rfl ⟨_, by rw [HR.out]; rfl, by rw [HR.out]; exact HN.out⟩
end Go.Proofs.YtilpcchcccbfcaaDoor
