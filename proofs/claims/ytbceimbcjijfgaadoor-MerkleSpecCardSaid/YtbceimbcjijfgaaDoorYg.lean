/- MerkleSpec: the law's walk. -/
import Derived.Test.YtbceimbcjijfgaaDoorYs
import Derived.Test.YtbceimbcjijfgaaDoorSl
namespace Go.Proofs.YtbceimbcjijfgaaDoor.Dig
open Go.RowKit

set_option maxHeartbeats 8000000 in
set_option maxRecDepth 100000 in
theorem mspec_walk (ls : List (List UInt8)) (i : Int) (v : Value) (w : World) (hi : -9223372036854775808 ≤ i ∧ i ≤ 9223372036854775807) (hr : LRest w.heap.size w ls v) (hT : Tab w) :
    Calls Tryd.prog 3 #[v, .int .i64 i] w fun e w' => e = .returned (.bool true) ∧ Below w.heap.size w w' := by
  have HR := Lib.hid hr
  have HT := Lib.hid hT
  obtain ⟨a, cap, rfl⟩ : ∃ a cap, v = .slice a ls.length cap := by obtain ⟨a, cap, h, _⟩ := hr; exact ⟨a, cap, h⟩
  have HFEW := Lib.hid (fun W h => Few_call ls (.slice a ls.length cap) W h)
  cases hf : fewB ls with
  | false =>
    rw [hf] at HFEW
    clear hr hT
    go_enter Tryd.func3, Tryd.ntmps3
    go_wp2_with (first
      | (go_at_call 11; refine (HFEW.out w1 (HR.out.keep HB1.out)).mono ?_; rintro e w2 ⟨rfl, rfl⟩)
      | (go_at_call 10; refine (sane_call w HT.out).mono ?_; rintro e w1 ⟨rfl, hb⟩; have HB1 := Lib.hid hb; clear hb)
      | fail)
    go_ret
    exact ⟨rfl, HB1.out⟩
  | true =>
    rw [hf] at HFEW
    have hn40 : ls.length ≤ 40 ∧ ∀ p ∈ ls, p.length ≤ 200 := by
      unfold fewB at hf
      rw [Bool.and_eq_true] at hf
      exact ⟨of_decide_eq_true hf.1, fun p hp => by simpa using List.all_eq_true.1 hf.2 p hp⟩
    have HP : ∃ (path : List (List UInt8)) (E : Int), Hid (∀ W, LRest W.heap.size W ls (.slice a ls.length cap) → Tab W → Calls Tryd.prog 12 #[.slice a ls.length cap, .int .i64 i] W fun e w' => ∃ v', e = .returned (.tuple #[v', .int .i64 E]) ∧ DNew W w' v' path) ∧
        Hid (∀ W, LRest W.heap.size W ls (.slice a ls.length cap) → Calls Tryd.prog 13 #[.slice a ls.length cap, .int .i64 i] W fun e w' => ∃ v', e = .returned (.tuple #[v', .int .i64 E]) ∧ DNew W w' v' path) := by
      by_cases hl : isL (ls.length : Int) i = true
      · obtain ⟨i1, i2, i3⟩ := isL_nat hl
        obtain ⟨j, rfl⟩ : ∃ j : Nat, i = (j : Int) := ⟨i.toNat, by omega⟩
        exact ⟨_, 0, Lib.hid (fun W h1 h2 => Prove_ok ls j _ W (fun p hp => by have := hn40.2 p hp; omega) h1 hl h2), Lib.hid (fun W h1 => refProve_ok ls j _ W (fun p hp => by have := hn40.2 p hp; omega) h1 hl)⟩
      · have hl' : isL (ls.length : Int) i = false := by cases h : isL (ls.length : Int) i <;> simp_all
        exact ⟨[], 1, Lib.hid (fun W h1 _ => (Prove_bad ls i _ W h1 hl').mono fun e w' ⟨h, hb⟩ => ⟨_, h, (dnew_nil w').from hb⟩), Lib.hid (fun W h1 => (refProve_bad ls i _ W hi h1 hl').mono fun e w' ⟨h, hb⟩ => ⟨_, h, by rw [hb]; exact dnew_nil W⟩)⟩
    obtain ⟨path, E, HP1, HP2⟩ := HP
    have HR1 : Hid (∀ W, LRest W.heap.size W ls (.slice a ls.length cap) → Tab W → Calls Tryd.prog 14 #[.slice a ls.length cap] W fun e w' => e = .returned (dg (rootD ls)) ∧ Below W.heap.size W w') := Lib.hid (fun W h1 h2 => Root_call ls _ W (by omega) (fun p hp => by have := hn40.2 p hp; omega) h1 h2)
    have HR2 : Hid (∀ W, LRest W.heap.size W ls (.slice a ls.length cap) → Calls Tryd.prog 15 #[.slice a ls.length cap] W fun e w' => e = .returned (dg (rootD ls)) ∧ Below W.heap.size W w') := Lib.hid (fun W h1 => refRoot_call ls _ W (by omega) (fun p hp => by have := hn40.2 p hp; omega) h1)
    have HLD : Hid ((rootD ls).length = 32) := rootD_len ls
    obtain ⟨rd, hrd⟩ : ∃ rd, rd = rootD ls := ⟨_, rfl⟩
    rw [← hrd] at HR1 HR2 HLD
    obtain ⟨n, hn⟩ : ∃ n, n = ls.length := ⟨_, rfl⟩
    rw [← hn] at HFEW HP1 HP2 HR1 HR2 HR ⊢
    have HSM := Lib.hid (fun u v W (hu : DRest W.heap.size W path u) (hv : DRest W.heap.size W path v) => same_call path u v W hu hv)
    have hEE : (E == E) = true := by simp
    clear hr hT hn40 hf hrd hn hi
    go_enter Tryd.func3, Tryd.ntmps3
    go_wp2_with (first
      | (go_at_call 13; refine (HP2.out w3 (HR.out.keep HB3.out)).mono ?_; rintro e w4 ⟨v4, rfl, hn⟩; have HB4 := Lib.hid (below_next HB3.out hn.2.1); have HV3b := Lib.hid (HV3.out.keep hn.2.1); have HV4 := Lib.hid (dbuf_rest hn.1); clear hn)
      | (go_at_call 12; refine (HP1.out w2 (HR.out.keep HB1.out) (HT.out.keep HB1.out)).mono ?_; rintro e w3 ⟨v3, rfl, hn⟩; have HB3 := Lib.hid (below_next HB1.out hn.2.1); have HV3 := Lib.hid (dbuf_rest hn.1); clear hn)
      | (go_at_call 11; refine (HFEW.out w1 (HR.out.keep HB1.out)).mono ?_; rintro e w2 ⟨rfl, rfl⟩)
      | (go_at_call 10; refine (sane_call w HT.out).mono ?_; rintro e w1 ⟨rfl, hb⟩; have HB1 := Lib.hid hb; clear hb)
      | fail)
    refine (HR1.out w4 (HR.out.keep HB4.out) (HT.out.keep HB4.out)).mono ?_
    rintro e w5 ⟨rfl, hb⟩
    have HB5 := Lib.hid (below_next HB4.out hb)
    have HV35 := Lib.hid (HV3b.out.keep hb)
    have HV45 := Lib.hid (HV4.out.keep hb)
    clear hb
    go_wp2_with fail
    refine (HR2.out w5 (HR.out.keep HB5.out)).mono ?_
    rintro e w6 ⟨rfl, hb⟩
    have HB6 := Lib.hid (below_next HB5.out hb)
    have HV36 := Lib.hid (HV35.out.keep hb)
    have HV46 := Lib.hid (HV45.out.keep hb)
    clear hb
    go_wp2_with (first
      | (refine wpList_eq_dig rfl (.tmp 27) (.tmp 29) rfl rd rd HLD.out HLD.out rfl rfl ?_; rw [beq_self_eq_true])
      | fail)
    refine (HSM.out v3 v4 w6 HV36.out HV46.out).mono ?_
    rintro e w7 ⟨rfl, hb⟩
    have HB7 := Lib.hid (below_next HB6.out hb)
    clear hb
    go_wp2_with fail
    go_ret
    exact ⟨rfl, HB7.out⟩
end Go.Proofs.YtbceimbcjijfgaaDoor.Dig
