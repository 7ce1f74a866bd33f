/- The law on tokens and a string returns true. -/
import Derived.Test.YtilpcchcccbfcaaDoorTx
import Derived.Test.YtilpcchcccbfcaaDoorBk
namespace Go.Proofs.YtilpcchcccbfcaaDoor
open Go.RowKit

theorem sumText_take_le : ∀ (ts : List Tok) (k : Nat), sumText (ts.take k) ≤ sumText ts
  | [], k => by simp
  | a :: l, 0 => by simp [sumText]
  | a :: l, k + 1 => by have := sumText_take_le l k; simp [sumText] at this ⊢; omega
theorem same_self : ∀ ts : List Tok, sameL ts ts = true
  | [] => rfl
  | t :: r => by have := same_self r; simp [sameL, alikeT, this]
set_option maxHeartbeats 8000000 in
set_option maxRecDepth 100000 in
theorem textspec_walk (ts us : List Tok) (v u : Value) (s : ByteArray) (w : World) (hr : TRest w.heap.size w ts v) (hn : ts.length ≤ 4611686018427387904) (hok : ∀ t ∈ ts, TokOk t)
    (hr2 : TRest w.heap.size w us u) (hn2 : us.length ≤ 4611686018427387904) (hok2 : ∀ t ∈ us, TokOk t) (hs : s.size ≤ 140737488351232) (hT : Laid w) :
    Calls Tryd.prog 4 #[v, u, .string s] w fun e w' => e = .returned (.bool true) ∧ Below w.heap.size w w' := by
  have HSA : Hid (Calls Tryd.prog 11 #[] w fun e w' => e = .returned (.bool true) ∧ Below w.heap.size w w') := Lib.hid (sane_call w hT)
  obtain ⟨fa, hfa⟩ : ∃ b, b = decide (ts.length ≤ 200 ∧ sumText ts ≤ 2000) := ⟨_, rfl⟩
  obtain ⟨fb, hfb⟩ : ∃ b, b = decide (us.length ≤ 200 ∧ sumText us ≤ 2000) := ⟨_, rfl⟩
  have HFA : Hid (∀ W, Below w.heap.size w W → Calls Tryd.prog 15 #[v] W fun e w' => e = .returned (.bool fa) ∧ W = w') := Lib.hid (fun W hb => by rw [hfa]; exact few_call ts v W (hr.keep hb) hn hok)
  have HFB : Hid (∀ W, Below w.heap.size w W → Calls Tryd.prog 15 #[u] W fun e w' => e = .returned (.bool fb) ∧ W = w') := Lib.hid (fun W hb => by rw [hfb]; exact few_call us u W (hr2.keep hb) hn2 hok2)
  cases fa with
  | false =>
    clear hfa hfb hr hn hok hr2 hn2 hok2 hT
    go_enter Tryd.func4, Tryd.ntmps4
    go_wp2_with (first
      | (go_at_call 11; refine HSA.out.mono ?_; rintro e w1 ⟨rfl, hb⟩; have HB := Lib.hid hb; clear hb)
      | (go_at_call 15; with_reducible refine (HFA.out _ HB.out).mono ?_; rintro e w' ⟨rfl, rfl⟩))
    go_ret
    exact ⟨rfl, HB.out⟩
  | true =>
    cases fb with
    | false =>
      clear hfa hfb hr hn hok hr2 hn2 hok2 hT
      go_enter Tryd.func4, Tryd.ntmps4
      go_wp2_with (first
        | (go_at_call 11; refine HSA.out.mono ?_; rintro e w1 ⟨rfl, hb⟩; have HB := Lib.hid hb; clear hb)
        | (go_at_call 15; with_reducible refine (HFA.out _ HB.out).mono ?_; rintro e w' ⟨rfl, rfl⟩)
        | (go_at_call 15; with_reducible refine (HFB.out _ HB.out).mono ?_; rintro e w' ⟨rfl, rfl⟩))
      go_ret
      exact ⟨rfl, HB.out⟩
    | true =>
      rcases Nat.lt_or_ge 1000 s.size with hlong | hshort
      · have hlong2 : (1000 : Int) < (s.size : Int) := by omega
        clear hfa hfb hr hn hok hr2 hn2 hok2 hT
        go_enter Tryd.func4, Tryd.ntmps4
        go_wp2_with (first
          | (go_at_call 11; refine HSA.out.mono ?_; rintro e w1 ⟨rfl, hb⟩; have HB := Lib.hid hb; clear hb)
          | (go_at_call 15; with_reducible refine (HFA.out _ HB.out).mono ?_; rintro e w' ⟨rfl, rfl⟩)
          | (go_at_call 15; with_reducible refine (HFB.out _ HB.out).mono ?_; rintro e w' ⟨rfl, rfl⟩))
        go_ret
        exact ⟨rfl, HB.out⟩
      · have hshort2 : ¬ (1000 : Int) < (s.size : Int) := by omega
        obtain ⟨h200, h2000⟩ := of_decide_eq_true hfa.symm
        have hjk : ∀ k, (joinP ts k).length ≤ 140737488355328 := fun k => by
          have h1 := join_le ((ts.take k).map wordT)
          have h2 := words_le (ts.take k) (fun t ht => hok t (List.mem_of_mem_take ht))
          have h3 := sumText_take_le ts k
          have h4 : (ts.take k).length ≤ 200 := by rw [List.length_take]; omega
          rw [List.length_map] at h1
          unfold joinP; omega
        have hj : (Lib.join (ts.map wordT) [32]).length ≤ 140737488355328 := by
          have := hjk ts.length
          unfold joinP at this
          rwa [List.take_length] at this
        have h1 : Hid (∀ W, Below w.heap.size w W → Calls Tryd.prog 16 #[v] W fun e w' => e = .returned (.tuple #[str (textR ts).1, .int .i64 ((textR ts).2 : Int)]) ∧ Below W.heap.size W w') := Lib.hid (fun W hb => Text_call ts v W (hr.keep hb) (by omega) hok hj (hT.keep hb))
        have h2 : Hid (∀ W, Below w.heap.size w W → Calls Tryd.prog 17 #[v] W fun e w' => e = .returned (.tuple #[str (textR ts).1, .int .i64 ((textR ts).2 : Int)]) ∧ Below W.heap.size W w') := Lib.hid (fun W hb => refText_call ts v W (hr.keep hb) (by omega) hok hjk)
        unfold str at h1 h2
        generalize (⟨(textR ts).1.toArray⟩ : ByteArray) = X at h1 h2
        generalize (textR ts).2 = c at h1 h2
        have H1 := h1
        have H2 := h2
        have H3 : Hid (∀ W, Below w.heap.size w W → Calls Tryd.prog 18 #[v, u] W fun e w' => e = .returned (.bool (sameL ts us)) ∧ Below W.heap.size W w') := Lib.hid (fun W hb => Same_call ts us v u W (hr.keep hb) (hr2.keep hb))
        have H4 : Hid (∀ W, Below w.heap.size w W → Calls Tryd.prog 19 #[v, u] W fun e w' => e = .returned (.bool (sameL ts us)) ∧ Below W.heap.size W w') := Lib.hid (fun W hb => refsame_call ts us v u W (hr.keep hb) (hr2.keep hb))
        generalize sameL ts us = q at H3 H4
        have H5 : Hid (∀ W, Below w.heap.size w W → Calls Tryd.prog 18 #[v, v] W fun e w' => e = .returned (.bool true) ∧ Below W.heap.size W w') := Lib.hid (fun W hb => by have := Same_call ts ts v v W (hr.keep hb) (hr.keep hb); rwa [same_self] at this)
        have H6 : Hid (∀ W, Below w.heap.size w W → Calls Tryd.prog 20 #[.string s] W fun e w' => e = .returned (.bool (isName (bs s))) ∧ W = w') := Lib.hid (fun W hb => name_call s W (by omega) (hT.keep hb).cls)
        have H7 : Hid (∀ W, Calls Tryd.prog 21 #[.string s] W fun e w' => e = .returned (.bool (isName (bs s))) ∧ W = w') := Lib.hid (fun W => refname_call s W (by omega))
        generalize isName (bs s) = p at H6 H7
        clear hfa hfb hr hn hok hr2 hn2 hok2 hT hj hjk h200 h2000 h1 h2
        go_enter Tryd.func4, Tryd.ntmps4
        go_wp2_with (first
          | (go_at_call 11; refine HSA.out.mono ?_; rintro e w1 ⟨rfl, hb⟩; have HB := Lib.hid hb; clear hb)
          | (go_at_call 15; with_reducible refine (HFA.out _ HB.out).mono ?_; rintro e w' ⟨rfl, rfl⟩)
          | (go_at_call 15; with_reducible refine (HFB.out _ HB.out).mono ?_; rintro e w' ⟨rfl, rfl⟩)
          | (go_at_call 16; refine (H1.out _ HB.out).mono ?_; rintro e w2 ⟨rfl, hb⟩; have HB := Lib.hid (below_next HB.out hb); clear hb)
          | (go_at_call 17; refine (H2.out _ HB.out).mono ?_; rintro e w3 ⟨rfl, hb⟩; have HB := Lib.hid (below_next HB.out hb); clear hb)
          | (go_at_call 18; with_reducible refine (H3.out _ HB.out).mono ?_; rintro e w4 ⟨rfl, hb⟩; have HB := Lib.hid (below_next HB.out hb); clear hb)
          | (go_at_call 19; refine (H4.out _ HB.out).mono ?_; rintro e w5 ⟨rfl, hb⟩; have HB := Lib.hid (below_next HB.out hb); clear hb)
          | (go_at_call 18; with_reducible refine (H5.out _ HB.out).mono ?_; rintro e w6 ⟨rfl, hb⟩; have HB := Lib.hid (below_next HB.out hb); clear hb)
          | (go_at_call 20; refine (H6.out _ HB.out).mono ?_; rintro e w' ⟨rfl, rfl⟩)
          | (go_at_call 21; refine (H7.out _).mono ?_; rintro e w' ⟨rfl, rfl⟩))
        go_ret
        exact ⟨rfl, HB.out⟩
end Go.Proofs.YtilpcchcccbfcaaDoor
