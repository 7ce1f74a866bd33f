/- Whether tokens are few: the reference's function. -/
import Derived.Test.YtilpcchcccbfcaaDoorBb
import Derived.Test.YtilpcchcccbfcaaDoorU
namespace Go.Proofs.YtilpcchcccbfcaaDoor
open Go.RowKit

theorem sumText_take (ts : List Tok) (k : Nat) (t : Tok) (ht : ts[k]? = some t) : sumText (ts.take (k + 1)) = sumText (ts.take k) + t.text.length := by
  rw [List.take_add_one, ht]
  have : ∀ (l : List Tok), sumText (l ++ [t]) = sumText l + t.text.length := by
    intro l
    induction l with
    | nil => simp [sumText]
    | cons a l ih =>
      have e1 : sumText (a :: l ++ [t]) = a.text.length + sumText (l ++ [t]) := rfl
      have e2 : sumText (a :: l) = a.text.length + sumText l := rfl
      rw [e1, e2, ih]; omega
  exact this _
theorem sumText_bound : ∀ (ts : List Tok), (∀ t ∈ ts, t.text.length ≤ 281474976710656) → sumText ts ≤ ts.length * 281474976710656
  | [], _ => by simp [sumText]
  | a :: l, h => by
    have ih := sumText_bound l fun t ht => h t (by simp [ht])
    have ha := h a (by simp)
    have e2 : sumText (a :: l) = a.text.length + sumText l := rfl
    rw [e2, List.length_cons]; omega
def FewHead (ts : List Tok) (w : World) (s3 s4 : Value) : Prop := ∃ (k : Nat) (x : Int), k ≤ ts.length ∧ s4 = .int .i64 (k : Int) ∧ s3 = .int .i64 x ∧ (ts.length ≤ 200 → x = (sumText (ts.take k) : Int))

set_option maxHeartbeats 4000000 in
set_option maxRecDepth 100000 in
theorem few_call (ts : List Tok) (v : Value) (w : World) (hr : TRest w.heap.size w ts v) (hn : ts.length ≤ 4611686018427387904) (hok : ∀ t ∈ ts, TokOk t) :
    Calls Tryd.prog 15 #[v] w fun e w' => e = .returned (.bool (decide (ts.length ≤ 200 ∧ sumText ts ≤ 2000))) ∧ w = w' := by
  have HR := Lib.hid hr
  have HOK := Lib.hid hok
  obtain ⟨va, vc, rfl, hvc, hvc2⟩ := trest_shape hr
  obtain ⟨r, hrr⟩ : ∃ r, r = decide (ts.length ≤ 200 ∧ sumText ts ≤ 2000) := ⟨_, rfl⟩
  rw [← hrr]
  have HRR := Lib.hid hrr
  obtain ⟨m, hm⟩ : ∃ m, m = ts.length := ⟨_, rfl⟩
  rw [← hm] at HR hvc2 hn ⊢
  have HM := Lib.hid hm
  clear hr hok hrr hm
  go_enter Tryd.func15, Tryd.ntmps15
  go_wp2
  go_loop [3, 4] (fun s3 s4 => FewHead ts w s3 s4) (fun _ s4 => m - (intOf s4).toNat)
  case atStart => exact ⟨0, 0, by omega, rfl, rfl, fun _ => by simp [sumText]⟩
  case round =>
    obtain ⟨k, x, hk, rfl, rfl, hx⟩ := hrel
    rw [← HM.out] at hk
    have HX := Lib.hid hx
    clear hx
    rcases Nat.lt_or_ge k m with hlt | hge
    · obtain ⟨t, ht⟩ : ∃ t, ts[k]? = some t := ⟨_, List.getElem?_eq_getElem (by rw [← HM.out]; exact hlt)⟩
      obtain ⟨b, off, rfl, hbl, hc⟩ := tok_cells4 HR.out ht
      obtain ⟨c0, c1, c2, c3⟩ := hc w (Below.refl _ _)
      have HST := Lib.hid (sumText_take ts k t ht)
      have hkm : (k : Int) < (m : Int) := by omega
      have hk0 : (0 : Int) ≤ (k : Int) := by omega
      have HBD : Hid (m ≤ 200 → sumText (ts.take (k + 1)) ≤ 56576470319841280) := Lib.hid (fun h => by
        have h1 := sumText_bound (ts.take (k + 1)) fun u hu => (HOK.out u (List.mem_of_mem_take hu)).1
        have h2 : (ts.take (k + 1)).length ≤ 200 := by rw [List.length_take, ← HM.out]; omega
        have h3 : (ts.take (k + 1)).length * 281474976710656 ≤ 200 * 281474976710656 := Nat.mul_le_mul_right _ h2
        omega)
      obtain ⟨y, hy⟩ : ∃ y, y = IntKind.i64.wrap (x + (t.text.length : Int)) := ⟨_, rfl⟩
      have HY := Lib.hid hy
      have hyw : IntKind.i64.wrap (x + (t.text.length : Int)) = y := hy.symm
      clear hc ht hy
      go_wp2
      refine ⟨⟨k + 1, y, by rw [← HM.out]; omega, by go_num, rfl, fun h => ?_⟩, by simp [intOf]; omega⟩
      have h1 := HX.out h
      have h2 := HST.out
      have h3 := HBD.out (by rw [HM.out]; exact h)
      rw [HY.out, h1, IntKind.wrap_i64]
      omega
    · obtain rfl : k = m := by omega
      by_cases h200 : k ≤ 200
      · have hxx := HX.out (by rw [← HM.out]; exact h200)
        have hr2 : r = decide ((x : Int) ≤ 2000) := by
          rw [HRR.out, hxx, HM.out, List.take_length, Bool.eq_iff_iff]; simp
          have := HM.out
          omega
        have h2i : (k : Int) ≤ 200 := by omega
        clear hxx
        go_wp2
        all_goals (go_ret; exact ⟨ret_bool (by first | rfl | rw [hr2]), rfl⟩)
      · have hr2 : r = false := by
          rw [HRR.out, decide_eq_false]; have := HM.out; omega
        have h2i : ¬ (k : Int) ≤ 200 := by omega
        go_wp2
        go_ret
        exact ⟨ret_bool (by first | rfl | rw [hr2]), rfl⟩
end Go.Proofs.YtilpcchcccbfcaaDoor
