/- The law on names returns true. -/
import Derived.Test.YtilpcchcccbfcaaDoorWr
namespace Go.Proofs.YtilpcchcccbfcaaDoor
open Go.RowKit

def textCode : Bool → Int
  | true => 0
  | false => 30
theorem str_bs (s : ByteArray) : str (bs s) = .string s := rfl
/-- the text of the one token of a name -/
theorem text_name (s : ByteArray) (hs : s.size ≤ 1000) (w : World) (hT : Laid w) :
    ∃ r : List UInt8, Calls Tryd.prog 16 #[.slice (some ⟨w.heap.size, 0, none⟩) 1 1] (w.alloc (.cells #[.int .i64 1, .string s, .int .i64 0, .int .i64 0] 35)) fun e w' => e = .returned (.tuple #[str r, .int .i64 (textCode (isName (bs s)))]) ∧ Below w.heap.size w w' := by
  have hl : (bs s).length ≤ 1000 := by rw [← Lib.size_eq]; exact hs
  have hw : wordT ⟨1, bs s, 0, 0⟩ = bs s := rfl
  have h := Text_call [⟨1, bs s, 0, 0⟩] _ _ (trest_alloc w [⟨1, bs s, 0, 0⟩] 1 rfl (by omega)) (by simp) (fun t ht => by simp at ht; subst ht; exact ⟨by show (bs s).length ≤ _; omega, by show (-9223372036854775808 : Int) ≤ 0; omega, by show (0 : Int) ≤ 9223372036854775807; omega⟩)
    (by simp only [List.map_cons, List.map_nil, hw, Lib.join_one]; omega) (hT.keep (Joins.below_alloc1 w _))
  have hx : ((textR [⟨1, bs s, 0, 0⟩]).2 : Int) = textCode (isName (bs s)) := by
    unfold textR
    simp [validT, fitsName]
    cases isName (bs s) <;> simp [textCode]
  rw [hx] at h
  exact ⟨_, h.mono fun e w' ⟨h1, h2⟩ => ⟨h1, below_next (Joins.below_alloc1 w _) h2⟩⟩

set_option maxHeartbeats 4000000 in
set_option maxRecDepth 100000 in
theorem names_walk (s : ByteArray) (w : World) (hs : s.size ≤ 140737488351232) (hT : Laid w) :
    Calls Tryd.prog 10 #[.string s] w fun e w' => e = .returned (.bool true) ∧ Below w.heap.size w w' := by
  have HT : Hid (∀ W, Below w.heap.size w W → Laid W) := fun W hb => hT.keep hb
  have HSA : Hid (Calls Tryd.prog 11 #[] w fun e w' => e = .returned (.bool true) ∧ Below w.heap.size w w') := Lib.hid (sane_call w hT)
  clear hT
  rcases Nat.lt_or_ge 1000 s.size with hlong | hshort
  · have hlong2 : (1000 : Int) < (s.size : Int) := by omega
    go_enter Tryd.func10, Tryd.ntmps10
    go_wp2_with (go_at_call 11; refine HSA.out.mono ?_; rintro e w1 ⟨rfl, hb⟩; have HB := Lib.hid hb; clear hb)
    go_ret
    exact ⟨rfl, HB.out⟩
  · have hshort2 : ¬ (1000 : Int) < (s.size : Int) := by omega
    have HTX : Hid (∀ W, Below w.heap.size w W → ∃ r : List UInt8, Calls Tryd.prog 16 #[.slice (some ⟨W.heap.size, 0, none⟩) 1 1] (W.alloc (.cells #[.int .i64 1, .string s, .int .i64 0, .int .i64 0] 35)) fun e w' => e = .returned (.tuple #[str r, .int .i64 (textCode (isName (bs s)))]) ∧ Below W.heap.size W w') :=
      Lib.hid (fun W hb => text_name s hshort W (HT.out W hb))
    have HNM : Hid (∀ W, Below w.heap.size w W → Calls Tryd.prog 20 #[.string s] W fun e w' => e = .returned (.bool (isName (bs s))) ∧ W = w') := Lib.hid (fun W hb => name_call s W (by omega) (HT.out W hb).cls)
    cases hn : isName (bs s) with
    | true =>
      have hx : lexR s = ([⟨1, bs s, 0, 0⟩], 0, 0) := by
        have := name_lex hn 0
        rw [lexR_ok (by omega) (by rw [this]), this]; rfl
      have HL : Hid (∀ W, Below w.heap.size w W → Calls Tryd.prog 12 #[.string s] W fun e w' => ∃ a cap, e = .returned (.tuple #[.slice a 1 cap, .int .i64 0, .int .i64 0]) ∧ TRest w'.heap.size w' [⟨1, bs s, 0, 0⟩] (.slice a 1 cap) ∧ Below W.heap.size W w') := Lib.hid (fun W hb => lex_of hx 1 rfl W (by omega) (HT.out W hb))
      rw [hn] at HTX HNM
      clear hn hx
      go_enter Tryd.func10, Tryd.ntmps10
      go_wp2_with (go_at_call 11; refine HSA.out.mono ?_; rintro e w1 ⟨rfl, hb⟩; have HB := Lib.hid hb; clear hb)
      refine (HL.out _ HB.out).mono ?_
      rintro e w2 ⟨a, cap, rfl, hr, hb⟩
      have HB := Lib.hid (below_next HB.out hb)
      obtain ⟨b, off, rfl, _, hc⟩ := tok_cells4 hr (k := 0) (t := ⟨1, bs s, 0, 0⟩) rfl
      obtain ⟨c0, c1, c2, c3⟩ := hc w2 (Below.refl _ _)
      simp only [Nat.zero_mul, Nat.add_zero] at c0 c1 c2 c3
      rw [show (Value.string ⟨(bs s).toArray⟩) = .string s from rfl] at c1
      clear hr hb hc
      go_wp2_with fail
      obtain ⟨r, hr⟩ := HTX.out _ HB.out
      refine hr.mono ?_
      clear hr
      rintro e w3 ⟨rfl, hb⟩
      have HB := Lib.hid (below_next HB.out hb)
      clear hb
      unfold textCode str
      go_wp2_with (go_at_call 20; refine (HNM.out _ HB.out).mono ?_; rintro e w' ⟨rfl, rfl⟩)
      go_ret
      exact ⟨rfl, HB.out⟩
    | false =>
      have hone := oneName_eq (bs s)
      rw [hn] at hone
      rw [hn] at HTX HNM
      clear hn
      cases he : (lexL 0 (bs s)).2 with
      | some q =>
        have hx : lexR s = ([], q, 30) := lexR_bad (by omega) he
        have HL : Hid (∀ W, Below w.heap.size w W → Calls Tryd.prog 12 #[.string s] W fun e w' => ∃ v, e = .returned (.tuple #[v, .int .i64 (q : Int), .int .i64 30]) ∧ Below W.heap.size W w') := Lib.hid (fun W hb => lex_two (p := q) (c := 30) (by rw [hx]) W (by omega) (HT.out W hb))
        clear he hx hone
        go_enter Tryd.func10, Tryd.ntmps10
        go_wp2_with (go_at_call 11; refine HSA.out.mono ?_; rintro e w1 ⟨rfl, hb⟩; have HB := Lib.hid hb; clear hb)
        refine (HL.out _ HB.out).mono ?_
        rintro e w2 ⟨v, rfl, hb⟩
        have HB := Lib.hid (below_next HB.out hb)
        clear hb
        go_wp2_with fail
        obtain ⟨r, hr⟩ := HTX.out _ HB.out
        refine hr.mono ?_
        clear hr
        rintro e w3 ⟨rfl, hb⟩
        have HB := Lib.hid (below_next HB.out hb)
        clear hb
        unfold textCode str
        go_wp2_with (go_at_call 20; refine (HNM.out _ HB.out).mono ?_; rintro e w' ⟨rfl, rfl⟩)
        go_ret
        exact ⟨rfl, HB.out⟩
      | none =>
        have hx : lexR s = ((lexL 0 (bs s)).1, 0, 0) := lexR_ok (by omega) he
        obtain ⟨n, hn⟩ : ∃ n, n = (lexL 0 (bs s)).1.length := ⟨_, rfl⟩
        have HL : Hid (∀ W, Below w.heap.size w W → Calls Tryd.prog 12 #[.string s] W fun e w' => ∃ a cap, e = .returned (.tuple #[.slice a n cap, .int .i64 0, .int .i64 0]) ∧ TRest w'.heap.size w' (lexL 0 (bs s)).1 (.slice a n cap) ∧ Below W.heap.size W w') := Lib.hid (fun W hb => lex_of hx n hn.symm W (by omega) (HT.out W hb))
        by_cases h1 : n = 1
        · subst h1
          obtain ⟨t, ht⟩ : ∃ t, (lexL 0 (bs s)).1 = [t] := List.length_eq_one_iff.1 hn.symm
          have hq : lexL 0 (bs s) = ([t], none) := Prod.ext ht he
          rw [hq] at hone
          have HO := Lib.hid hone
          rw [ht] at HL
          clear he hx hone hn ht hq
          go_enter Tryd.func10, Tryd.ntmps10
          go_wp2_with (go_at_call 11; refine HSA.out.mono ?_; rintro e w1 ⟨rfl, hb⟩; have HB := Lib.hid hb; clear hb)
          refine (HL.out _ HB.out).mono ?_
          rintro e w2 ⟨a, cap, rfl, hr, hb⟩
          have HB := Lib.hid (below_next HB.out hb)
          obtain ⟨b, off, rfl, _, hc⟩ := tok_cells4 hr (k := 0) (t := t) rfl
          obtain ⟨c0, c1, c2, c3⟩ := hc w2 (Below.refl _ _)
          simp only [Nat.zero_mul, Nat.add_zero] at c0 c1 c2 c3
          clear hr hb hc HL
          go_wp2_with fail
          · have h2 : t.kind = 1 := by assumption
            have h3 : t.text = s.toList := by assumption
            have h4 : t.at' = 0 := by assumption
            have hz : (t.n == 0) = false := by
              have h5 := HO.out
              have h6 : t.text = bs s := h3.trans (Lib.toList_data s)
              simp only [oneName, h2, h6, h4, decide_true, Bool.true_and] at h5
              simpa using h5
            have hz2 : ¬ t.n = 0 := by simpa using hz
            (obtain ⟨r, hr⟩ := HTX.out _ HB.out; refine hr.mono ?_; clear hr; rintro e w3 ⟨rfl, hb⟩; have HB := Lib.hid (below_next HB.out hb); clear hb; unfold textCode str; go_wp2_with (go_at_call 20; refine (HNM.out _ HB.out).mono ?_; rintro e w' ⟨rfl, rfl⟩); go_ret; exact ⟨rfl, HB.out⟩)
          all_goals (obtain ⟨r, hr⟩ := HTX.out _ HB.out; refine hr.mono ?_; clear hr; rintro e w3 ⟨rfl, hb⟩; have HB := Lib.hid (below_next HB.out hb); clear hb; unfold textCode str; go_wp2_with (go_at_call 20; refine (HNM.out _ HB.out).mono ?_; rintro e w' ⟨rfl, rfl⟩); go_ret; exact ⟨rfl, HB.out⟩)
        · have hn1 : ¬ ((n : Int) = 1) := by omega
          clear he hx hone hn h1
          go_enter Tryd.func10, Tryd.ntmps10
          go_wp2_with (go_at_call 11; refine HSA.out.mono ?_; rintro e w1 ⟨rfl, hb⟩; have HB := Lib.hid hb; clear hb)
          refine (HL.out _ HB.out).mono ?_
          rintro e w2 ⟨a, cap, rfl, _, hb⟩
          have HB := Lib.hid (below_next HB.out hb)
          clear hb
          go_wp2_with fail
          obtain ⟨r, hr⟩ := HTX.out _ HB.out
          refine hr.mono ?_
          clear hr
          rintro e w3 ⟨rfl, hb⟩
          have HB := Lib.hid (below_next HB.out hb)
          clear hb
          unfold textCode str
          go_wp2_with (go_at_call 20; refine (HNM.out _ HB.out).mono ?_; rintro e w' ⟨rfl, rfl⟩)
          go_ret
          exact ⟨rfl, HB.out⟩
end Go.Proofs.YtilpcchcccbfcaaDoor
