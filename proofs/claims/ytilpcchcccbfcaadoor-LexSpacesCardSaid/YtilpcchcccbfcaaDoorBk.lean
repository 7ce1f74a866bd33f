/- The law on what was written and read again returns true. -/
import Derived.Test.YtilpcchcccbfcaaDoorBf
import Derived.Test.YtilpcchcccbfcaaDoorX
namespace Go.Proofs.YtilpcchcccbfcaaDoor
open Go.RowKit

theorem lexR_ok' {s : ByteArray} (h : s.size ≤ 65536) (he : (lexL 0 (bs s)).2 = none) : lexR s = ((lexL 0 (bs s)).1, 0, 0) := by unfold lexR; rw [if_neg (by omega), he]
theorem lexR_bad' {s : ByteArray} (h : s.size ≤ 65536) {q : Nat} (he : (lexL 0 (bs s)).2 = some q) : lexR s = ([], q, 30) := by unfold lexR; rw [if_neg (by omega), he]
theorem lex_three' {s : ByteArray} {ts : List Tok} {p c : Nat} (h : lexR s = (ts, p, c)) (w : World) (hs : s.size ≤ 281474976710656) (hT : Laid w) :
    Calls Tryd.prog 12 #[.string s] w fun e w' => ∃ a cap, e = .returned (.tuple #[.slice a ts.length cap, .int .i64 (p : Int), .int .i64 (c : Int)]) ∧ TRest w'.heap.size w' ts (.slice a ts.length cap) ∧ Below w.heap.size w w' := lex_of h _ rfl w hs hT

set_option maxHeartbeats 4000000 in
set_option maxRecDepth 100000 in
theorem back_walk (ts : List Tok) (v : Value) (s : ByteArray) (w : World) (hr : TRest w.heap.size w ts v) (hn : ts.length ≤ 4611686018427387904) (hok : ∀ t ∈ ts, TokOk t) (hs : s.size ≤ 140737488351232) (hT : Laid w) :
    Calls Tryd.prog 5 #[v, .string s] w fun e w' => e = .returned (.bool true) ∧ Below w.heap.size w w' := by
  have HT : Hid (∀ W, Below w.heap.size w W → Laid W) := fun W hb => hT.keep hb
  have HSA : Hid (Calls Tryd.prog 11 #[] w fun e w' => e = .returned (.bool true) ∧ Below w.heap.size w w') := Lib.hid (sane_call w hT)
  have HR := Lib.hid hr
  have HOK := Lib.hid hok
  have HFW : Hid (∀ W, Below w.heap.size w W → Calls Tryd.prog 15 #[v] W fun e w' => e = .returned (.bool (decide (ts.length ≤ 200 ∧ sumText ts ≤ 2000))) ∧ W = w') := Lib.hid (fun W hb => few_call ts v W (hr.keep hb) hn hok)
  clear hT hr hok
  by_cases hfew : ts.length ≤ 200 ∧ sumText ts ≤ 2000
  · rw [decide_eq_true hfew] at HFW
    by_cases hlong : s.size ≤ 3000
    · have hl2 : ¬ (3000 : Int) < (s.size : Int) := by omega
      -- the text of the tokens
      have hwl := words_le ts HOK.out
      have hjl := join_le (ts.map wordT)
      rw [List.length_map] at hjl
      have HTX : Hid (∀ W, Below w.heap.size w W → Calls Tryd.prog 16 #[v] W fun e w' => e = .returned (.tuple #[str (textR ts).1, .int .i64 ((textR ts).2 : Int)]) ∧ Below W.heap.size W w') := Lib.hid (fun W hb => Text_call ts v W (HR.out.keep hb) (by omega) HOK.out (by omega) (HT.out W hb))
      -- the second half
      obtain ⟨hval, htok, hlens⟩ := lexed_valid 0 (bs s)
      have hbl : (bs s).length = s.size := (Lib.size_eq s).symm
      obtain ⟨xs, hxs⟩ : ∃ xs, xs = (lexR s).1 := ⟨_, rfl⟩
      obtain ⟨p2, hp2⟩ : ∃ p, p = (lexR s).2.1 := ⟨_, rfl⟩
      obtain ⟨c2, hc2⟩ : ∃ c, c = (lexR s).2.2 := ⟨_, rfl⟩
      have hxr : lexR s = (xs, p2, c2) := by rw [hxs, hp2, hc2]
      have HL2 : Hid (∀ W, Below w.heap.size w W → Calls Tryd.prog 12 #[.string s] W fun e w' => ∃ a cap, e = .returned (.tuple #[.slice a xs.length cap, .int .i64 (p2 : Int), .int .i64 (c2 : Int)]) ∧ TRest w'.heap.size w' xs (.slice a xs.length cap) ∧ Below W.heap.size W w') := Lib.hid (fun W hb => lex_three' hxr W (by omega) (HT.out W hb))
      have hcase : (c2 = 30 ∧ xs = []) ∨ (c2 = 0 ∧ xs.all validT = true ∧ (∀ t ∈ xs, TokOk t) ∧ Lib.lens (xs.map wordT) ≤ s.size ∧ xs.length ≤ 3000) := by
        cases he : (lexL 0 (bs s)).2 with
        | some q =>
          rw [lexR_bad' (by omega) he] at hxr
          injection hxr with h1 h2
          injection h2 with h3 h4
          exact .inl ⟨h4.symm, h1.symm⟩
        | none =>
          have htl := toks_le 0 (bs s)
          rw [lexR_ok' (by omega) he] at hxr
          injection hxr with h1 h2
          injection h2 with h3 h4
          rw [h1] at hval htok hlens htl
          exact .inr ⟨h4.symm, hval, htok, by omega, by omega⟩
      have HC := Lib.hid hcase
      clear hval htok hlens hbl hxs hp2 hc2 hxr hcase
      cases hv : ts.all validT with
      | false =>
        have hx1 : textR ts = ([], 30) := by unfold textR; rw [if_neg (by rw [hv]; decide)]
        rw [hx1] at HTX
        clear hx1 hv hwl hjl hfew
        go_enter Tryd.func5, Tryd.ntmps5
        go_wp2_with (first
          | (go_at_call 11; refine HSA.out.mono ?_; rintro e w1 ⟨rfl, hb⟩; have HB := Lib.hid hb; clear hb)
          | (go_at_call 15; refine (HFW.out _ HB.out).mono ?_; rintro e w' ⟨rfl, rfl⟩)
          | fail)
        refine (HTX.out _ HB.out).mono ?_
        rintro e w2 ⟨rfl, hb⟩
        have HB := Lib.hid (below_next HB.out hb)
        clear hb
        unfold str
        go_wp2_with fail
        rcases HC.out with ⟨h30, hx0⟩ | ⟨h00, hval, htok, hlens, hlen3⟩
        · subst h30
          subst hx0
          refine (HL2.out _ HB.out).mono ?_
          rintro e w5 ⟨a2, k2, rfl, _, hb⟩
          have HB := Lib.hid (below_next HB.out hb)
          clear hb
          go_wp2_with fail
          go_ret
          exact ⟨rfl, HB.out⟩
        · subst h00
          refine (HL2.out _ HB.out).mono ?_
          rintro e w5 ⟨a2, k2, rfl, hx, hb⟩
          have HB := Lib.hid (below_next HB.out hb)
          have HX := Lib.hid hx
          clear hb hx
          have hjl2 := join_le (xs.map wordT)
          rw [List.length_map] at hjl2
          have hx2 : textR xs = (Lib.join (xs.map wordT) [32], 0) := by unfold textR; rw [if_pos hval]
          have HTX2 := Text_call xs _ w5 HX.out (by omega) htok (by omega) (HT.out _ HB.out)
          rw [hx2] at HTX2
          have HTX2 := Lib.hid HTX2
          obtain ⟨ys, hys, hysame⟩ := text_back xs 0 hval
          have hls : lexR ⟨(Lib.join (xs.map wordT) [32]).toArray⟩ = (ys, 0, 0) := by
            rw [lexR_ok' (by rw [size_mk]; omega) (by rw [bs_mk, hys]), bs_mk, hys]
          have hsz2 : (⟨(Lib.join (xs.map wordT) [32]).toArray⟩ : ByteArray).size ≤ 281474976710656 := by rw [size_mk]; omega
          obtain ⟨J2, hJ2⟩ : ∃ J, J = Lib.join (xs.map wordT) [32] := ⟨_, rfl⟩
          rw [← hJ2] at HTX2 hls hsz2
          clear hJ2 hjl2 hx2 hval htok hlens hys
          go_wp2_with fail
          refine HTX2.out.mono ?_
          clear HTX2
          rintro e w6 ⟨rfl, hb⟩
          have HB := Lib.hid (below_next HB.out hb)
          have HX := Lib.hid (HX.out.keep hb)
          have HL4 := Lib.hid (lex_three' hls w6 hsz2 (HT.out _ HB.out))
          clear hb
          unfold str
          go_wp2_with fail
          refine HL4.out.mono ?_
          clear HL4
          rintro e w7 ⟨a3, k3, rfl, hy, hb⟩
          have HB := Lib.hid (below_next HB.out hb)
          have HSM2 := Same_call xs ys _ _ w7 (HX.out.keep hb) hy
          rw [hysame] at HSM2
          have HSM2 := Lib.hid HSM2
          clear hb hy
          go_wp2_with fail
          refine HSM2.out.mono ?_
          clear HSM2
          rintro e w8 ⟨rfl, hb⟩
          have HB := Lib.hid (below_next HB.out hb)
          clear hb
          go_wp2_with fail
          go_ret
          exact ⟨rfl, HB.out⟩
      | true =>
        have hx1 : textR ts = (Lib.join (ts.map wordT) [32], 0) := by unfold textR; rw [if_pos hv]
        rw [hx1] at HTX
        obtain ⟨zs, hzs, hzsame⟩ := text_back ts 0 hv
        have hsz1 : (⟨(Lib.join (ts.map wordT) [32]).toArray⟩ : ByteArray).size ≤ 65536 := by rw [size_mk]; omega
        have hls1 : lexR ⟨(Lib.join (ts.map wordT) [32]).toArray⟩ = (zs, 0, 0) := by
          rw [lexR_ok' hsz1 (by rw [bs_mk, hzs]), bs_mk, hzs]
        obtain ⟨J, hJ⟩ : ∃ J, J = Lib.join (ts.map wordT) [32] := ⟨_, rfl⟩
        rw [← hJ] at HTX hls1 hsz1
        have HL1 : Hid (∀ W, Below w.heap.size w W → Calls Tryd.prog 12 #[.string ⟨J.toArray⟩] W fun e w' => ∃ a cap, e = .returned (.tuple #[.slice a zs.length cap, .int .i64 0, .int .i64 0]) ∧ TRest w'.heap.size w' zs (.slice a zs.length cap) ∧ Below W.heap.size W w') := Lib.hid (fun W hb => lex_three' hls1 W (by omega) (HT.out W hb))
        clear hx1 hv hwl hjl hfew hJ hls1 hsz1 hzs
        go_enter Tryd.func5, Tryd.ntmps5
        go_wp2_with (first
          | (go_at_call 11; refine HSA.out.mono ?_; rintro e w1 ⟨rfl, hb⟩; have HB := Lib.hid hb; clear hb)
          | (go_at_call 15; refine (HFW.out _ HB.out).mono ?_; rintro e w' ⟨rfl, rfl⟩)
          | fail)
        refine (HTX.out _ HB.out).mono ?_
        rintro e w2 ⟨rfl, hb⟩
        have HB := Lib.hid (below_next HB.out hb)
        clear hb
        unfold str
        go_wp2_with fail
        refine (HL1.out _ HB.out).mono ?_
        rintro e w3 ⟨a1, k1, rfl, hz, hb⟩
        have HB := Lib.hid (below_next HB.out hb)
        have HSM := Same_call ts zs v _ w3 (HR.out.keep HB.out) hz
        rw [hzsame] at HSM
        have HSM := Lib.hid HSM
        clear hb hz
        go_wp2_with fail
        refine HSM.out.mono ?_
        clear HSM
        rintro e w4 ⟨rfl, hb⟩
        have HB := Lib.hid (below_next HB.out hb)
        clear hb
        go_wp2_with fail
        rcases HC.out with ⟨h30, hx0⟩ | ⟨h00, hval, htok, hlens, hlen3⟩
        · subst h30
          subst hx0
          refine (HL2.out _ HB.out).mono ?_
          rintro e w5 ⟨a2, k2, rfl, _, hb⟩
          have HB := Lib.hid (below_next HB.out hb)
          clear hb
          go_wp2_with fail
          go_ret
          exact ⟨rfl, HB.out⟩
        · subst h00
          refine (HL2.out _ HB.out).mono ?_
          rintro e w5 ⟨a2, k2, rfl, hx, hb⟩
          have HB := Lib.hid (below_next HB.out hb)
          have HX := Lib.hid hx
          clear hb hx
          have hjl2 := join_le (xs.map wordT)
          rw [List.length_map] at hjl2
          have hx2 : textR xs = (Lib.join (xs.map wordT) [32], 0) := by unfold textR; rw [if_pos hval]
          have HTX2 := Text_call xs _ w5 HX.out (by omega) htok (by omega) (HT.out _ HB.out)
          rw [hx2] at HTX2
          have HTX2 := Lib.hid HTX2
          obtain ⟨ys, hys, hysame⟩ := text_back xs 0 hval
          have hls : lexR ⟨(Lib.join (xs.map wordT) [32]).toArray⟩ = (ys, 0, 0) := by
            rw [lexR_ok' (by rw [size_mk]; omega) (by rw [bs_mk, hys]), bs_mk, hys]
          have hsz2 : (⟨(Lib.join (xs.map wordT) [32]).toArray⟩ : ByteArray).size ≤ 281474976710656 := by rw [size_mk]; omega
          obtain ⟨J2, hJ2⟩ : ∃ J, J = Lib.join (xs.map wordT) [32] := ⟨_, rfl⟩
          rw [← hJ2] at HTX2 hls hsz2
          clear hJ2 hjl2 hx2 hval htok hlens hys
          go_wp2_with fail
          refine HTX2.out.mono ?_
          clear HTX2
          rintro e w6 ⟨rfl, hb⟩
          have HB := Lib.hid (below_next HB.out hb)
          have HX := Lib.hid (HX.out.keep hb)
          have HL4 := Lib.hid (lex_three' hls w6 hsz2 (HT.out _ HB.out))
          clear hb
          unfold str
          go_wp2_with fail
          refine HL4.out.mono ?_
          clear HL4
          rintro e w7 ⟨a3, k3, rfl, hy, hb⟩
          have HB := Lib.hid (below_next HB.out hb)
          have HSM2 := Same_call xs ys _ _ w7 (HX.out.keep hb) hy
          rw [hysame] at HSM2
          have HSM2 := Lib.hid HSM2
          clear hb hy
          go_wp2_with fail
          refine HSM2.out.mono ?_
          clear HSM2
          rintro e w8 ⟨rfl, hb⟩
          have HB := Lib.hid (below_next HB.out hb)
          clear hb
          go_wp2_with fail
          go_ret
          exact ⟨rfl, HB.out⟩
    · have hl2 : (3000 : Int) < (s.size : Int) := by omega
      go_enter Tryd.func5, Tryd.ntmps5
      go_wp2_with (first
        | (go_at_call 11; refine HSA.out.mono ?_; rintro e w1 ⟨rfl, hb⟩; have HB := Lib.hid hb; clear hb)
        | (go_at_call 15; refine (HFW.out _ HB.out).mono ?_; rintro e w' ⟨rfl, rfl⟩))
      go_ret
      exact ⟨rfl, HB.out⟩
  · rw [decide_eq_false hfew] at HFW
    go_enter Tryd.func5, Tryd.ntmps5
    go_wp2_with (first
      | (go_at_call 11; refine HSA.out.mono ?_; rintro e w1 ⟨rfl, hb⟩; have HB := Lib.hid hb; clear hb)
      | (go_at_call 15; refine (HFW.out _ HB.out).mono ?_; rintro e w' ⟨rfl, rfl⟩))
    go_ret
    exact ⟨rfl, HB.out⟩
end Go.Proofs.YtilpcchcccbfcaaDoor
