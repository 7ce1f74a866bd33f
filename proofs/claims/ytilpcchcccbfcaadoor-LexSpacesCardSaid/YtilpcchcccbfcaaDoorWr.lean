/- The law on places of errors returns true. -/
import Derived.Test.YtilpcchcccbfcaaDoorX
namespace Go.Proofs.YtilpcchcccbfcaaDoor
open Go.RowKit

theorem lexR_ok {s : ByteArray} (h : s.size ≤ 65536) (he : (lexL 0 (bs s)).2 = none) : lexR s = ((lexL 0 (bs s)).1, 0, 0) := by unfold lexR; rw [if_neg (by omega), he]
theorem lexR_bad {s : ByteArray} (h : s.size ≤ 65536) {q : Nat} (he : (lexL 0 (bs s)).2 = some q) : lexR s = ([], q, 30) := by unfold lexR; rw [if_neg (by omega), he]
/-- a call on a source: its place and its error's number -/
theorem lex_two {s : ByteArray} {p c : Nat} (h : (lexR s).2 = (p, c)) (w : World) (hs : s.size ≤ 281474976710656) (hT : Laid w) :
    Calls Tryd.prog 12 #[.string s] w fun e w' => ∃ v, e = .returned (.tuple #[v, .int .i64 (p : Int), .int .i64 (c : Int)]) ∧ Below w.heap.size w w' := by
  refine (Lex_call s w hs hT).mono ?_
  rintro e w' ⟨v, rfl, hn⟩
  rw [h]
  exact ⟨v, rfl, hn.2.1⟩
theorem bs_append (a b : ByteArray) : bs (a ++ b) = bs a ++ bs b := by simp [bs]
theorem size_append (a b : ByteArray) : (a ++ b).size = a.size + b.size := by simp

set_option maxHeartbeats 4000000 in
set_option maxRecDepth 100000 in
theorem wrong_walk (s m : ByteArray) (w : World) (hs : s.size ≤ 140737488351232) (hm : m.size ≤ 140737488351232) (hT : Laid w) :
    Calls Tryd.prog 9 #[.string s, .string m] w fun e w' => e = .returned (.bool true) ∧ Below w.heap.size w w' := by
  have HT : Hid (∀ W, Below w.heap.size w W → Laid W) := fun W hb => hT.keep hb
  have HSA : Hid (Calls Tryd.prog 11 #[] w fun e w' => e = .returned (.bool true) ∧ Below w.heap.size w w') := Lib.hid (sane_call w hT)
  clear hT
  rcases Nat.lt_or_ge 3000 (s.size + m.size) with hlong | hshort
  · have hlong2 : (3000 : Int) < (s.size : Int) + (m.size : Int) := by omega
    go_enter Tryd.func9, Tryd.ntmps9
    go_wp2_with (go_at_call 11; refine HSA.out.mono ?_; rintro e w1 ⟨rfl, hb⟩; have HB := Lib.hid hb; clear hb)
    go_ret
    exact ⟨rfl, HB.out⟩
  · have hshort2 : ¬ (3000 : Int) < (s.size : Int) + (m.size : Int) := by omega
    cases he : (lexL 0 (bs s)).2 with
    | none =>
      have HL : Hid (∀ W, Below w.heap.size w W → Calls Tryd.prog 12 #[.string s] W fun e w' => ∃ v, e = .returned (.tuple #[v, .int .i64 0, .int .i64 0]) ∧ Below W.heap.size W w') := Lib.hid (fun W hb => lex_two (p := 0) (c := 0) (by rw [lexR_ok (by omega) he]) W (by omega) (HT.out W hb))
      clear he
      go_enter Tryd.func9, Tryd.ntmps9
      go_wp2_with (first
        | (go_at_call 11; refine HSA.out.mono ?_; rintro e w1 ⟨rfl, hb⟩; have HB := Lib.hid hb; clear hb)
        | (go_at_call 12; refine (HL.out _ HB.out).mono ?_; rintro e w2 ⟨v, rfl, hb⟩; have HB := Lib.hid (below_next HB.out hb); clear hb))
      go_ret
      exact ⟨rfl, HB.out⟩
    | some q =>
      have hat := err_at 0 (bs s) q he
      have hq : q < s.size := by
        have := hat.2.1
        rwa [Nat.zero_add, show (bs s).length = s.size from (Lib.size_eq s).symm] at this
      have HL : Hid (∀ W, Below w.heap.size w W → Calls Tryd.prog 12 #[.string s] W fun e w' => ∃ v, e = .returned (.tuple #[v, .int .i64 (q : Int), .int .i64 30]) ∧ Below W.heap.size W w') := Lib.hid (fun W hb => lex_two (p := q) (c := 30) (by rw [lexR_bad (by omega) he]) W (by omega) (HT.out W hb))
      have hsz1 : (s.extract 0 q).size ≤ 65536 := by rw [ByteArray.size_extract]; omega
      have hsz2 : (s ++ ⟨#[32]⟩ ++ m).size ≤ 65536 := by rw [size_append, size_append]; show s.size + 1 + m.size ≤ 65536; omega
      have hsz3 : (s.extract q s.size).size ≤ 65536 := by rw [ByteArray.size_extract]; omega
      have h1 : (lexL 0 (bs (s.extract 0 q))).2 = none := by
        rw [bs_extract, List.drop_zero]; exact wrong_before 0 _ q he
      have h2 : (lexL 0 (bs (s ++ ⟨#[32]⟩ ++ m))).2 = some q := by
        rw [bs_append, bs_append, List.append_assoc]; exact wrong_more (by decide) (bs m) 0 _ q he
      have h3 : (lexL 0 (bs (s.extract q s.size))).2 = some 0 := by
        rw [bs_rest]; exact wrong_rest (p := 0) he
      have HL1 : Hid (∀ W, Below w.heap.size w W → Calls Tryd.prog 12 #[.string (s.extract 0 q)] W fun e w' => ∃ v, e = .returned (.tuple #[v, .int .i64 0, .int .i64 0]) ∧ Below W.heap.size W w') := Lib.hid (fun W hb => lex_two (p := 0) (c := 0) (by rw [lexR_ok hsz1 h1]) W (by omega) (HT.out W hb))
      have HL2 : Hid (∀ W, Below w.heap.size w W → Calls Tryd.prog 12 #[.string (s ++ ⟨#[32]⟩ ++ m)] W fun e w' => ∃ v, e = .returned (.tuple #[v, .int .i64 (q : Int), .int .i64 30]) ∧ Below W.heap.size W w') := Lib.hid (fun W hb => lex_two (p := q) (c := 30) (by rw [lexR_bad hsz2 h2]) W (by omega) (HT.out W hb))
      have HL3 : Hid (∀ W, Below w.heap.size w W → Calls Tryd.prog 12 #[.string (s.extract q s.size)] W fun e w' => ∃ v, e = .returned (.tuple #[v, .int .i64 0, .int .i64 30]) ∧ Below W.heap.size W w') := Lib.hid (fun W hb => lex_two (p := 0) (c := 30) (by rw [lexR_bad hsz3 h3]) W (by omega) (HT.out W hb))
      have hq0 : ¬ ((q : Int) < 0) := by omega
      have hqs : ¬ ((s.size : Int) ≤ (q : Int)) := by omega
      have hqs2 : q ≤ s.size := by omega
      clear he hat h1 h2 h3 hsz1 hsz2 hsz3
      go_enter Tryd.func9, Tryd.ntmps9
      go_wp2_with (first
        | (go_at_call 11; refine HSA.out.mono ?_; rintro e w1 ⟨rfl, hb⟩; have HB := Lib.hid hb; clear hb)
        | (go_at_call 12; (with_reducible refine (HL.out _ HB.out).mono ?_); rintro e w2 ⟨v, rfl, hb⟩; have HB := Lib.hid (below_next HB.out hb); clear hb)
        | (go_at_call 12; (with_reducible refine (HL1.out _ HB.out).mono ?_); rintro e w2 ⟨v1, rfl, hb⟩; have HB := Lib.hid (below_next HB.out hb); clear hb)
        | (go_at_call 12; (with_reducible refine (HL2.out _ HB.out).mono ?_); rintro e w2 ⟨v2, rfl, hb⟩; have HB := Lib.hid (below_next HB.out hb); clear hb)
        | (go_at_call 12; (with_reducible refine (HL3.out _ HB.out).mono ?_); rintro e w2 ⟨v3, rfl, hb⟩; have HB := Lib.hid (below_next HB.out hb); clear hb))
      go_ret
      exact ⟨rfl, HB.out⟩
end Go.Proofs.YtilpcchcccbfcaaDoor
