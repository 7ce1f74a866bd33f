/- All tokens of a source: the program's loop. -/
import Derived.Test.YtilpcchcccbfcaaDoorHa
import Derived.Test.YtilpcchcccbfcaaDoorHb
import Derived.Test.YtilpcchcccbfcaaDoorHc
namespace Go.Proofs.YtilpcchcccbfcaaDoor
open Go.RowKit

theorem Scans.bad {s : ByteArray} {k : Nat} {w w' : World} {e : Ending} (h : Scans s k w e w') (hst : step ((bs s).drop k) = none) : e = .panicked [{ v := .iface 42 (.int .i64 (k : Int)), recovered := false }] ∧ Below w.heap.size w w' := by
  obtain ⟨hb, ⟨_, he⟩ | ⟨_, _, _, _, h2, _⟩⟩ := h
  · exact ⟨he, hb⟩
  · rw [hst] at h2; cases h2
theorem Scans.ok {s : ByteArray} {k : Nat} {w w' : World} {e : Ending} (h : Scans s k w e w') {kd : Nat} {wd : List UInt8} {x m : Nat} (hst : step ((bs s).drop k) = some (kd, wd, x, m)) :
    e = .returned (.tuple #[tokOf ⟨kd, wd, x, k⟩, .int .i64 ((k + m : Nat) : Int)]) ∧ Below w.heap.size w w' := by
  obtain ⟨hb, ⟨h2, _⟩ | ⟨_, _, _, _, h2, he⟩⟩ := h
  · rw [hst] at h2; cases h2
  · rw [hst] at h2
    simp only [Option.some.injEq, Prod.mk.injEq] at h2
    obtain ⟨rfl, rfl, rfl, rfl⟩ := h2
    exact ⟨he, hb⟩
theorem kinds_none (c : Nat) (h : c < 6) (h1 : c ≠ 1) (h2 : c ≠ 2) (h3 : c ≠ 3) : ∃ y z, ∀ W : World, (Instr.index 51 kindsV (.int .u8 (c : Int))).run Tryd.prog W = .ok (.agg #[.func (.func 42) #[] #[], y, z]) W := by
  match c, h, h1, h2, h3 with
  | 0, _, _, _, _ => exact ⟨_, _, kinds_at0 .u8⟩
  | 1, _, h1, _, _ => exact absurd rfl h1
  | 2, _, _, h2, _ => exact absurd rfl h2
  | 3, _, _, _, h3 => exact absurd rfl h3
  | 4, _, _, _, _ => exact ⟨_, _, kinds_at4 .u8⟩
  | 5, _, _, _, _ => exact ⟨_, _, kinds_at5 .u8⟩
  | n + 6, h, _, _, _ => omega

def ScanHead (s : ByteArray) (W : World) (s2 s3 : Value) (wr : World) : Prop := ∃ (k : Nat) (ts : List Tok), s3 = .int .i64 (k : Int) ∧ k ≤ s.size ∧ TNew W wr s2 ts ∧ ts.length ≤ k ∧
  lexL 0 (bs s) = (ts ++ (lexL k ((bs s).drop k)).1, (lexL k ((bs s).drop k)).2) ∧ (k = s.size ∨ Begins ((bs s).drop k))
/-- how the loop ends -/
def Scanned (s : ByteArray) (w : World) (e : Ending) (w' : World) : Prop :=
  (∃ v, (lexL 0 (bs s)).2 = none ∧ e = .returned v ∧ TNew w w' v (lexL 0 (bs s)).1) ∨ (∃ q, (lexL 0 (bs s)).2 = some q ∧ e = wrongAt q ∧ Below w.heap.size w w')

set_option maxHeartbeats 8000000 in
set_option maxRecDepth 100000 in
theorem scan_call (s : ByteArray) (w : World) (hs : s.size ≤ 65536) (hT : Laid w) :
    Calls Tryd.prog 25 #[.string s] w (Scanned s w) := by
  have HT : Hid (∀ W, Below w.heap.size w W → Laid W) := fun W hb => hT.keep hb
  have hp0 := pass_call s 0 w (Nat.zero_le _) (by omega) hT.cls
  have HP0 := Lib.hid hp0
  clear hT hp0
  go_enter Tryd.func25, Tryd.ntmps25
  go_wp2_with fail
  refine HP0.out.mono ?_
  rintro e w' ⟨k0, hk0, rfl, rfl⟩
  have HK0 := Lib.hid hk0
  have hk0l := hk0.le
  clear hk0 HP0
  go_wp2_with fail
  go_loopw [2, 3] (fun s2 s3 wr => ScanHead s w s2 s3 wr) (fun _ s3 _ => s.size - (intOf s3).toNat)
  case atStart =>
    have h := HK0.out.same
    rw [List.drop_zero] at h
    exact ⟨k0, [], rfl, hk0l, tnew_nil w, Nat.zero_le _, by rw [h]; rfl, HK0.out.here⟩
  case round =>
    obtain ⟨k, ts, rfl, hk, hnew, htl, hlex, hhere⟩ := hrel
    have HN := Lib.hid hnew
    have HL := Lib.hid hlex
    have HH := Lib.hid hhere
    clear hnew hlex hhere
    rcases Nat.lt_or_ge k s.size with hlt | hge
    · have HBR := Lib.hid HN.out.2.1
      have HBG : Hid (Begins ((bs s).drop k)) := Lib.hid (HH.out.resolve_left (by omega))
      obtain ⟨c, hc⟩ : ∃ c, c = cls s[k] := ⟨_, rfl⟩
      have HC := Lib.hid hc.symm
      have hc6 : c < 6 := by rw [hc]; exact cls_lt _
      clear hc
      cases hst : step ((bs s).drop k) with
      | none =>
        have HST := Lib.hid hst
        have HQ : Hid ((lexL 0 (bs s)).2 = some k) := by
          have h := HL.out
          rw [lexL_bad HBG.out hst] at h
          exact Lib.hid (by rw [h])
        clear hst
        have HTR : Hid (∀ W, Below wr.heap.size wr W → Laid W) := Lib.hid (fun W hb => HT.out _ (below_next HBR.out hb))
        go_wp2_with fail
        by_cases h1 : c = 1
        · have HSC : Hid (∀ W, Below wr.heap.size wr W → Calls Tryd.prog 43 #[.string s, .int .i64 (k : Int)] W fun e w' => e = .panicked [{ v := .iface 42 (.int .i64 (k : Int)), recovered := false }] ∧ Below W.heap.size W w') := Lib.hid (fun W hb => (scanName_call s k W hlt (by omega) (by rw [HC.out]; exact h1) (HT.out _ (below_next HBR.out hb))).mono fun e w' h => h.bad HST.out)
          have hix : ∀ W : World, (Instr.index 51 kindsV (.int .u8 (c : Int))).run Tryd.prog W = .ok (.agg #[.func (.func 43) #[] #[], fnV 44, fnV 45]) W := by rw [h1]; exact kinds_at1 .u8
          exact bad43 hlt HTR HC hix HSC (fun w' hb => .inr ⟨k, HQ.out, rfl, below_next HBR.out hb⟩)
        · by_cases h2 : c = 2
          · have HSC : Hid (∀ W, Below wr.heap.size wr W → Calls Tryd.prog 46 #[.string s, .int .i64 (k : Int)] W fun e w' => e = .panicked [{ v := .iface 42 (.int .i64 (k : Int)), recovered := false }] ∧ Below W.heap.size W w') := Lib.hid (fun W hb => (scanNumber_call s k W hlt (by omega) (by rw [HC.out]; exact h2) (HT.out _ (below_next HBR.out hb))).mono fun e w' h => h.bad HST.out)
            have hix : ∀ W : World, (Instr.index 51 kindsV (.int .u8 (c : Int))).run Tryd.prog W = .ok (.agg #[.func (.func 46) #[] #[], fnV 47, fnV 48]) W := by rw [h2]; exact kinds_at2 .u8
            exact bad46 hlt HTR HC hix HSC (fun w' hb => .inr ⟨k, HQ.out, rfl, below_next HBR.out hb⟩)
          · by_cases h3 : c = 3
            · have h4 := step_cls3 (r := (bs s).drop (k + 1)) (HC.out.trans h3)
              rw [← drop_at hlt, HST.out] at h4; cases h4
            · obtain ⟨y, z, hix⟩ := kinds_none c hc6 h1 h2 h3
              have HSC : Hid (∀ W, Below wr.heap.size wr W → Calls Tryd.prog 42 #[.string s, .int .i64 (k : Int)] W fun e w' => e = .panicked [{ v := .iface 42 (.int .i64 (k : Int)), recovered := false }] ∧ Below W.heap.size W w') := Lib.hid (fun W hb => (scanNone_call s k W HST.out).mono fun e w' h => h.bad HST.out)
              exact bad42 hlt HTR HC hix HSC (fun w' hb => .inr ⟨k, HQ.out, rfl, below_next HBR.out hb⟩)
      | some p =>
        obtain ⟨kd, wd, x, m⟩ := p
        have HST := Lib.hid hst
        have hpos := step_pos hst
        rw [List.length_drop, ← Lib.size_eq] at hpos
        obtain ⟨t, ht⟩ : ∃ t : Tok, t = ⟨kd, wd, x, k⟩ := ⟨_, rfl⟩
        obtain ⟨q, hq⟩ : ∃ q, q = k + m := ⟨_, rfl⟩
        have HTT := Lib.hid ht
        have HQQ := Lib.hid hq
        have hql : q ≤ s.size := by omega
        have hqk : k < q := by omega
        have HTR : Hid (∀ W, Below wr.heap.size wr W → Laid W) := Lib.hid (fun W hb => HT.out _ (below_next HBR.out hb))
        clear ht hq hst hpos
        go_wp2_with fail
        by_cases h1 : c = 1
        · have HSC : Hid (∀ W, Below wr.heap.size wr W → Calls Tryd.prog 43 #[.string s, .int .i64 (k : Int)] W fun e w' => e = .returned (.tuple #[tokOf t, .int .i64 (q : Int)]) ∧ Below W.heap.size W w') := Lib.hid (fun W hb => by rw [HTT.out, HQQ.out]; exact (scanName_call s k W hlt (by omega) (by rw [HC.out]; exact h1) (HT.out _ (below_next HBR.out hb))).mono fun e w' h => h.ok HST.out)
          have hix : ∀ W : World, (Instr.index 51 kindsV (.int .u8 (c : Int))).run Tryd.prog W = .ok (.agg #[.func (.func 43) #[] #[], fnV 44, fnV 45]) W := by rw [h1]; exact kinds_at1 .u8
          clear h1
          refine ok43 (t := t) (q := q) hlt HTR HC hix HSC (fun g w6 hrow hb => ?_)
          have HG := Lib.hid hrow
          have HN6 := Lib.hid (HN.out.keep hb)
          have HB6 := Lib.hid (below_next HBR.out hb)
          clear hrow hb
          go_wp2_with (first
            | (refine wpList_load_tok rfl (.tmp 4) rfl g t rfl HG.out ?_; unfold tokOf tokCells)
            | (refine wpList_append_tok rfl (.tmp 25) (.tmp 27) rfl u2 ts rfl (HN6.out.keep (Joins.below_alloc1 _ _)).1 w6.heap.size t rfl (row_new w6 35 (tokCells t)) (by omega) ?_; intro v7 w7 hbuf hwr; have HN7 := Lib.hid ((HN6.out.keep (Joins.below_alloc1 _ _)).app hbuf hwr); clear hbuf hwr)
            | (go_at_call 41; refine (pass_call s q _ hql (by omega) (HT.out _ HN7.out.2.1).cls).mono ?_; rintro e w' ⟨k2, hk2, rfl, rfl⟩))
          have hge := hk2.ge
          have hlex : lexL 0 (bs s) = (ts ++ [t] ++ (lexL k2 ((bs s).drop k2)).1, (lexL k2 ((bs s).drop k2)).2) := by
            rw [HL.out, lexL_tok HBG.out HST.out, List.drop_drop, ← HQQ.out, hk2.same, HTT.out, List.append_assoc]; rfl
          exact ⟨⟨k2, ts ++ [t], rfl, hk2.le, HN7.out, by rw [List.length_append, List.length_singleton]; omega, hlex, hk2.here⟩, by simp [intOf]; omega⟩
        · by_cases h2 : c = 2
          · have HSC : Hid (∀ W, Below wr.heap.size wr W → Calls Tryd.prog 46 #[.string s, .int .i64 (k : Int)] W fun e w' => e = .returned (.tuple #[tokOf t, .int .i64 (q : Int)]) ∧ Below W.heap.size W w') := Lib.hid (fun W hb => by rw [HTT.out, HQQ.out]; exact (scanNumber_call s k W hlt (by omega) (by rw [HC.out]; exact h2) (HT.out _ (below_next HBR.out hb))).mono fun e w' h => h.ok HST.out)
            have hix : ∀ W : World, (Instr.index 51 kindsV (.int .u8 (c : Int))).run Tryd.prog W = .ok (.agg #[.func (.func 46) #[] #[], fnV 47, fnV 48]) W := by rw [h2]; exact kinds_at2 .u8
            clear h2
            refine ok46 (t := t) (q := q) hlt HTR HC hix HSC (fun g w6 hrow hb => ?_)
            have HG := Lib.hid hrow
            have HN6 := Lib.hid (HN.out.keep hb)
            have HB6 := Lib.hid (below_next HBR.out hb)
            clear hrow hb
            go_wp2_with (first
              | (refine wpList_load_tok rfl (.tmp 4) rfl g t rfl HG.out ?_; unfold tokOf tokCells)
              | (refine wpList_append_tok rfl (.tmp 25) (.tmp 27) rfl u2 ts rfl (HN6.out.keep (Joins.below_alloc1 _ _)).1 w6.heap.size t rfl (row_new w6 35 (tokCells t)) (by omega) ?_; intro v7 w7 hbuf hwr; have HN7 := Lib.hid ((HN6.out.keep (Joins.below_alloc1 _ _)).app hbuf hwr); clear hbuf hwr)
              | (go_at_call 41; refine (pass_call s q _ hql (by omega) (HT.out _ HN7.out.2.1).cls).mono ?_; rintro e w' ⟨k2, hk2, rfl, rfl⟩))
            have hge := hk2.ge
            have hlex : lexL 0 (bs s) = (ts ++ [t] ++ (lexL k2 ((bs s).drop k2)).1, (lexL k2 ((bs s).drop k2)).2) := by
              rw [HL.out, lexL_tok HBG.out HST.out, List.drop_drop, ← HQQ.out, hk2.same, HTT.out, List.append_assoc]; rfl
            exact ⟨⟨k2, ts ++ [t], rfl, hk2.le, HN7.out, by rw [List.length_append, List.length_singleton]; omega, hlex, hk2.here⟩, by simp [intOf]; omega⟩
          · by_cases h3 : c = 3
            · have HSC : Hid (∀ W, Below wr.heap.size wr W → Calls Tryd.prog 49 #[.string s, .int .i64 (k : Int)] W fun e w' => e = .returned (.tuple #[tokOf t, .int .i64 (q : Int)]) ∧ Below W.heap.size W w') := Lib.hid (fun W hb => by rw [HTT.out, HQQ.out]; exact (scanSign_call s k W hlt (by omega) (by rw [HC.out]; exact h3)).mono fun e w' h => h.ok HST.out)
              have hix : ∀ W : World, (Instr.index 51 kindsV (.int .u8 (c : Int))).run Tryd.prog W = .ok (.agg #[.func (.func 49) #[] #[], fnV 50, fnV 45]) W := by rw [h3]; exact kinds_at3 .u8
              clear h3
              refine ok49 (t := t) (q := q) hlt HTR HC hix HSC (fun g w6 hrow hb => ?_)
              have HG := Lib.hid hrow
              have HN6 := Lib.hid (HN.out.keep hb)
              have HB6 := Lib.hid (below_next HBR.out hb)
              clear hrow hb
              go_wp2_with (first
                | (refine wpList_load_tok rfl (.tmp 4) rfl g t rfl HG.out ?_; unfold tokOf tokCells)
                | (refine wpList_append_tok rfl (.tmp 25) (.tmp 27) rfl u2 ts rfl (HN6.out.keep (Joins.below_alloc1 _ _)).1 w6.heap.size t rfl (row_new w6 35 (tokCells t)) (by omega) ?_; intro v7 w7 hbuf hwr; have HN7 := Lib.hid ((HN6.out.keep (Joins.below_alloc1 _ _)).app hbuf hwr); clear hbuf hwr)
                | (go_at_call 41; refine (pass_call s q _ hql (by omega) (HT.out _ HN7.out.2.1).cls).mono ?_; rintro e w' ⟨k2, hk2, rfl, rfl⟩))
              have hge := hk2.ge
              have hlex : lexL 0 (bs s) = (ts ++ [t] ++ (lexL k2 ((bs s).drop k2)).1, (lexL k2 ((bs s).drop k2)).2) := by
                rw [HL.out, lexL_tok HBG.out HST.out, List.drop_drop, ← HQQ.out, hk2.same, HTT.out, List.append_assoc]; rfl
              exact ⟨⟨k2, ts ++ [t], rfl, hk2.le, HN7.out, by rw [List.length_append, List.length_singleton]; omega, hlex, hk2.here⟩, by simp [intOf]; omega⟩
            · have h4 := step_cls0 (c := s[k]) (r := (bs s).drop (k + 1)) (by rw [HC.out]; exact h1) (by rw [HC.out]; exact h2) (by rw [HC.out]; exact h3)
              rw [← drop_at hlt, HST.out] at h4; cases h4
    · obtain rfl : k = s.size := by omega
      go_wp2_with fail
      go_ret
      have h := HL.out
      rw [List.drop_eq_nil_of_le (by rw [← Lib.size_eq]; exact Nat.le_refl _), lexL_nil, List.append_nil] at h
      exact .inl ⟨_, by rw [h], rfl, by rw [h]; exact HN.out⟩
end Go.Proofs.YtilpcchcccbfcaaDoor
