/- The text of tokens: the reference's function. -/
import Derived.Test.YtilpcchcccbfcaaDoorVa
import Derived.Test.YtilpcchcccbfcaaDoorDe
import Derived.Test.YtilpcchcccbfcaaDoorR
import Derived.Test.YtilpcchcccbfcaaDoorU
namespace Go.Proofs.YtilpcchcccbfcaaDoor
open Go.RowKit

def joinP (ts : List Tok) (k : Nat) : List UInt8 := Lib.join ((ts.take k).map wordT) [32]
theorem join_snoc (xs : List (List UInt8)) (y : List UInt8) : Lib.join (xs ++ [y]) [32] = if xs = [] then y else Lib.join xs [32] ++ (32 :: y) := by
  cases xs with
  | nil => rw [if_pos rfl]; exact Lib.join_one _ _
  | cons x r =>
    rw [if_neg (by simp), List.cons_append, Lib.join_cons, Lib.join_cons]
    simp [Lib.joinTail]
theorem joinP_step {ts : List Tok} {k : Nat} {t : Tok} (ht : ts[k]? = some t) : joinP ts (k + 1) = if k = 0 then wordT t else joinP ts k ++ (32 :: wordT t) := by
  unfold joinP
  have hk : k < ts.length := (List.getElem?_eq_some_iff.1 ht).1
  rw [List.take_add_one, ht, List.map_append]
  show Lib.join ((ts.take k).map wordT ++ [wordT t]) [32] = _
  rw [join_snoc]
  by_cases h0 : k = 0
  · subst h0; simp
  · have : (ts.take k).map wordT ≠ [] := by
      intro h; have h3 := congrArg List.length h; rw [List.length_map, List.length_take, List.length_nil] at h3; omega
    rw [if_neg this, if_neg h0]
def RtxHead (ts : List Tok) (w : World) (s4 s5 : Value) (wr : World) : Prop := ∃ (k : Nat) (S : ByteArray), s5 = .int .i64 (k : Int) ∧ k ≤ ts.length ∧ s4 = .string S ∧ bs S = joinP ts k ∧ (ts.take k).all validT = true ∧ Below w.heap.size w wr
theorem bs_1 (S : ByteArray) (X : ByteArray) : bs (S ++ X) = bs S ++ bs X := bs_append S X
theorem all_step {ts : List Tok} {k : Nat} {t : Tok} (ht : ts[k]? = some t) (h : (ts.take k).all validT = true) (hv : validT t = true) : (ts.take (k + 1)).all validT = true := by
  rw [List.take_add_one, ht, List.all_append, h]; simp [hv]

set_option maxHeartbeats 8000000 in
set_option maxRecDepth 100000 in
theorem refText_call (ts : List Tok) (v : Value) (w : World) (hr : TRest w.heap.size w ts v) (hn : ts.length ≤ 1000000) (hok : ∀ t ∈ ts, TokOk t) (hj : ∀ k, (joinP ts k).length ≤ 140737488355328) :
    Calls Tryd.prog 17 #[v] w fun e w' => e = .returned (.tuple #[str (textR ts).1, .int .i64 ((textR ts).2 : Int)]) ∧ Below w.heap.size w w' := by
  have HR := Lib.hid hr
  have HOK := Lib.hid hok
  have HJ := Lib.hid hj
  obtain ⟨va, vc, rfl, hvc, hvc2⟩ := trest_shape hr
  obtain ⟨r1, hr1⟩ : ∃ r, r = str (textR ts).1 := ⟨_, rfl⟩
  obtain ⟨r2, hr2⟩ : ∃ r, r = (textR ts).2 := ⟨_, rfl⟩
  rw [← hr1, ← hr2]
  have HR1 := Lib.hid hr1
  have HR2 := Lib.hid hr2
  obtain ⟨m, hm⟩ : ∃ m, m = ts.length := ⟨_, rfl⟩
  rw [← hm] at HR hvc2 hn ⊢
  have HM := Lib.hid hm
  clear hr hok hj hr1 hr2 hm
  go_enter Tryd.func17, Tryd.ntmps17
  go_wp2
  go_loopw [4, 5] (fun s4 s5 wr => RtxHead ts w s4 s5 wr) (fun _ s5 _ => m - (intOf s5).toNat)
  case atStart => exact ⟨0, ⟨#[]⟩, rfl, Nat.zero_le _, rfl, rfl, rfl, Below.refl _ _⟩
  case round =>
    obtain ⟨k, S, rfl, hk, rfl, hS, hall, hb⟩ := hrel
    rw [← HM.out] at hk
    have HB := Lib.hid hb
    have HS := Lib.hid hS
    have HA := Lib.hid hall
    have hsz : S.size ≤ 140737488355328 := by rw [Lib.size_eq]; show (bs S).length ≤ _; rw [hS]; exact HJ.out k
    clear hb hS hall
    rcases Nat.lt_or_ge k m with hlt | hge
    · obtain ⟨t, ht⟩ : ∃ t, ts[k]? = some t := ⟨_, List.getElem?_eq_getElem (by rw [← HM.out]; exact hlt)⟩
      obtain ⟨b, off, rfl, hbl, hc⟩ := tok_cells HR.out ht
      have HC := Lib.hid hc
      have HTK := Lib.hid ht
      have hmem := List.mem_of_getElem? ht
      have hto := HOK.out t hmem
      have HVA : Hid (∀ W, Calls Tryd.prog 34 #[tokOf t] W fun e w' => e = .returned (.bool (validT t)) ∧ Below W.heap.size W w') := Lib.hid (fun W => refvalid_call t W hto.1)
      have hkm : (k : Int) < (m : Int) := by omega
      have hk0 : (0 : Int) ≤ (k : Int) := by omega
      clear hc ht
      cases hv : validT t with
      | false =>
        rw [hv] at HVA
        have HRR : Hid (textR ts = ([], 30)) := Lib.hid (by
          unfold textR
          rw [if_neg]
          intro h
          rw [List.all_eq_true] at h
          rw [h t hmem] at hv; cases hv)
        clear hv hmem hto
        go_wp2_with (first
          | (refine wpList_load_tokAt rfl (.tmp 14) rfl b (off + k * 4) t rfl (HC.out _ HB.out) ?_)
          | (go_at_call 34; refine (HVA.out _).mono ?_; rintro e w2 ⟨rfl, hb2⟩; have HB2 := Lib.hid (below_next HB.out hb2); clear hb2))
        exact bodyPost_ret (results_tmps rfl _ _ _ _ rfl rfl) rfl ⟨by rw [HR1.out, HR2.out, HRR.out]; rfl, HB2.out⟩
      | true =>
        rw [hv] at HVA
        have HA2 := Lib.hid (all_step HTK.out HA.out hv)
        have HJ2 := Lib.hid (joinP_step HTK.out)
        obtain ⟨X, hX⟩ : ∃ X : ByteArray, X = ⟨t.text.toArray⟩ := ⟨_, rfl⟩
        have hXs : X.size ≤ 281474976710656 := by rw [hX, size_mk]; exact hto.1
        have HX := Lib.hid hX
        clear hX
        by_cases hk2 : t.kind = 2
        · have hnum : fitsNumber t = true := by unfold validT at hv; rw [if_neg (by omega), if_pos hk2] at hv; exact hv
          have hnn : 0 ≤ t.n ∧ t.n ≤ 1099511627776 := by unfold fitsNumber at hnum; simp at hnum; omega
          obtain ⟨z, hz⟩ : ∃ z : Nat, t.n = (z : Int) := ⟨t.n.toNat, by omega⟩
          have hz2 : z ≤ 1099511627776 := by omega
          obtain ⟨Y, hY⟩ : ∃ Y : ByteArray, Y = ⟨(Lib.itoa (z : Int)).toArray⟩ := ⟨_, rfl⟩
          have hYs : Y.size ≤ 21 := by rw [hY, size_mk]; exact Lib.itoa_length_le _ (by omega) (by omega)
          have HDE : Hid (∀ W, Calls Tryd.prog 35 #[.int .i64 (z : Int)] W fun e w' => e = .returned (.string Y) ∧ Below W.heap.size W w') := Lib.hid (fun W => by have := refdec_call z W hz2; rw [hY]; exact this)
          have HW : Hid (wordT t = bs Y) := Lib.hid (by unfold wordT; rw [if_pos hk2, hz, hY])
          clear hv hmem hto hnum hnn hY
          rcases Nat.eq_zero_or_pos k with hk00 | hkp
          · have hk5 : ¬ (0 : Int) < (k : Int) := by omega
            have HK0 := Lib.hid hk00
            clear hk00
            go_wp2_with (first
              | (refine wpList_load_tokAt rfl (.tmp 14) rfl b (off + k * 4) t rfl (HC.out _ HB.out) ?_)
              | (go_at_call 34; refine (HVA.out _).mono ?_; rintro e w2 ⟨rfl, hb2⟩; have HB2 := Lib.hid (below_next HB.out hb2); clear hb2; have c0 : w2.cell? ⟨b, off + k * 4, none⟩ = some (.int .i64 t.kind) := HC.out w2 HB2.out 0 _ rfl; have c1 : w2.cell? ⟨b, off + k * 4 + 1, none⟩ = some (.string X) := (HC.out w2 HB2.out 1 _ rfl).trans (by rw [HX.out]; rfl); have c2 : w2.cell? ⟨b, off + k * 4 + 2, none⟩ = some (.int .i64 t.n) := HC.out w2 HB2.out 2 _ rfl)
              | (go_at_call 35; refine (HDE.out _).mono ?_; rintro e w3 ⟨rfl, hb3⟩; have HB3 := Lib.hid (below_next HB2.out hb3); clear hb3))
            refine ⟨⟨k + 1, _, by go_num, by rw [← HM.out]; omega, rfl, ?_, HA2.out, HB3.out⟩, by simp [intOf]; omega⟩
            rw [HJ2.out, if_pos HK0.out, bs_1, HS.out, HW.out, show joinP ts k = [] by rw [HK0.out]; rfl]; rfl
          · have hk5 : (0 : Int) < (k : Int) := by omega
            go_wp2_with (first
              | (refine wpList_load_tokAt rfl (.tmp 14) rfl b (off + k * 4) t rfl (HC.out _ HB.out) ?_)
              | (go_at_call 34; refine (HVA.out _).mono ?_; rintro e w2 ⟨rfl, hb2⟩; have HB2 := Lib.hid (below_next HB.out hb2); clear hb2; have c0 : w2.cell? ⟨b, off + k * 4, none⟩ = some (.int .i64 t.kind) := HC.out w2 HB2.out 0 _ rfl; have c1 : w2.cell? ⟨b, off + k * 4 + 1, none⟩ = some (.string X) := (HC.out w2 HB2.out 1 _ rfl).trans (by rw [HX.out]; rfl); have c2 : w2.cell? ⟨b, off + k * 4 + 2, none⟩ = some (.int .i64 t.n) := HC.out w2 HB2.out 2 _ rfl)
              | (go_at_call 35; refine (HDE.out _).mono ?_; rintro e w3 ⟨rfl, hb3⟩; have HB3 := Lib.hid (below_next HB2.out hb3); clear hb3))
            refine ⟨⟨k + 1, _, by go_num, by rw [← HM.out]; omega, rfl, ?_, HA2.out, HB3.out⟩, by simp [intOf]; omega⟩
            rw [HJ2.out, if_neg (by omega), bs_1, bs_1, HS.out, HW.out, List.append_assoc]; rfl
        · have HW : Hid (wordT t = bs X) := Lib.hid (by unfold wordT; rw [if_neg hk2, HX.out])
          clear hv hmem hto
          rcases Nat.eq_zero_or_pos k with hk00 | hkp
          · have hk5 : ¬ (0 : Int) < (k : Int) := by omega
            have HK0 := Lib.hid hk00
            clear hk00
            go_wp2_with (first
              | (refine wpList_load_tokAt rfl (.tmp 14) rfl b (off + k * 4) t rfl (HC.out _ HB.out) ?_)
              | (go_at_call 34; refine (HVA.out _).mono ?_; rintro e w2 ⟨rfl, hb2⟩; have HB2 := Lib.hid (below_next HB.out hb2); clear hb2; have c0 : w2.cell? ⟨b, off + k * 4, none⟩ = some (.int .i64 t.kind) := HC.out w2 HB2.out 0 _ rfl; have c1 : w2.cell? ⟨b, off + k * 4 + 1, none⟩ = some (.string X) := (HC.out w2 HB2.out 1 _ rfl).trans (by rw [HX.out]; rfl); have c2 : w2.cell? ⟨b, off + k * 4 + 2, none⟩ = some (.int .i64 t.n) := HC.out w2 HB2.out 2 _ rfl))
            refine ⟨⟨k + 1, _, by go_num, by rw [← HM.out]; omega, rfl, ?_, HA2.out, HB2.out⟩, by simp [intOf]; omega⟩
            rw [HJ2.out, if_pos HK0.out, bs_1, HS.out, HW.out, show joinP ts k = [] by rw [HK0.out]; rfl]; rfl
          · have hk5 : (0 : Int) < (k : Int) := by omega
            go_wp2_with (first
              | (refine wpList_load_tokAt rfl (.tmp 14) rfl b (off + k * 4) t rfl (HC.out _ HB.out) ?_)
              | (go_at_call 34; refine (HVA.out _).mono ?_; rintro e w2 ⟨rfl, hb2⟩; have HB2 := Lib.hid (below_next HB.out hb2); clear hb2; have c0 : w2.cell? ⟨b, off + k * 4, none⟩ = some (.int .i64 t.kind) := HC.out w2 HB2.out 0 _ rfl; have c1 : w2.cell? ⟨b, off + k * 4 + 1, none⟩ = some (.string X) := (HC.out w2 HB2.out 1 _ rfl).trans (by rw [HX.out]; rfl); have c2 : w2.cell? ⟨b, off + k * 4 + 2, none⟩ = some (.int .i64 t.n) := HC.out w2 HB2.out 2 _ rfl))
            refine ⟨⟨k + 1, _, by go_num, by rw [← HM.out]; omega, rfl, ?_, HA2.out, HB2.out⟩, by simp [intOf]; omega⟩
            rw [HJ2.out, if_neg (by omega), bs_1, bs_1, HS.out, HW.out, List.append_assoc]; rfl
    · obtain rfl : k = m := by omega
      have HRR : Hid (textR ts = (bs S, 0)) := Lib.hid (by
        unfold textR
        have h := HA.out
        have h2 := HS.out
        rw [HM.out, List.take_length] at h
        unfold joinP at h2
        rw [HM.out, List.take_length] at h2
        rw [if_pos h, h2])
      go_wp2_with fail
      exact bodyPost_ret (results_tmps rfl _ _ _ _ rfl rfl) rfl ⟨by rw [HR1.out, HR2.out, HRR.out]; rfl, HB.out⟩
end Go.Proofs.YtilpcchcccbfcaaDoor
