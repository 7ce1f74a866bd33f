/- Tokens compared: the program's functions. -/
import Derived.Test.YtilpcchcccbfcaaDoorP
namespace Go.Proofs.YtilpcchcccbfcaaDoor
open Go.RowKit

/-- equal but for their places -/
def alikeT (a b : Tok) : Bool := decide (a.kind = b.kind) && decide (a.text = b.text) && decide (a.n = b.n)
def sameL : List Tok → List Tok → Bool
  | [], [] => true
  | a :: l, b :: m => alikeT a b && sameL l m
  | _, _ => false
theorem str_eq (a b : List UInt8) : ((⟨a.toArray⟩ : ByteArray).toList == (⟨b.toArray⟩ : ByteArray).toList) = decide (a = b) := by
  rw [Lib.toList_data, Lib.toList_data, Bool.eq_iff_iff]; simp
set_option maxHeartbeats 1000000 in
set_option maxRecDepth 100000 in
theorem alike_call (a b : Tok) (w : World) :
    Calls Tryd.prog 37 #[tokOf a, tokOf b] w fun e w' => e = .returned (.bool (alikeT a b)) ∧ Below w.heap.size w w' := by
  unfold tokOf tokCells str alikeT
  go_enter Tryd.func37, Tryd.ntmps37
  go_wp2
  · rename_i h1 h2
    go_ret
    exact ⟨ret_bool (by rw [decide_eq_true h1, decide_eq_true h2, Bool.eq_iff_iff]; simp), below_next (Joins.below_alloc1 w _) (Joins.below_alloc1 _ _)⟩
  · rename_i h1 h2
    go_ret
    exact ⟨ret_bool (by rw [decide_eq_false h2]; simp), below_next (Joins.below_alloc1 w _) (Joins.below_alloc1 _ _)⟩
  · rename_i h1
    go_ret
    exact ⟨ret_bool (by rw [decide_eq_false h1]; simp), below_next (Joins.below_alloc1 w _) (Joins.below_alloc1 _ _)⟩

theorem sameL_len : ∀ {a b : List Tok}, sameL a b = true → a.length = b.length
  | [], [], _ => rfl
  | a :: l, b :: m, h => by
    simp only [sameL, Bool.and_eq_true] at h
    simp [sameL_len h.2]
  | [], _ :: _, h => by cases h
  | _ :: _, [], h => by cases h
theorem sameL_ne {a b : List Tok} (h : a.length ≠ b.length) : sameL a b = false := by
  cases hs : sameL a b with
  | false => rfl
  | true => exact absurd (sameL_len hs) h
theorem sameL_step {xs cs : List Tok} {k : Nat} {a b : Tok} (ha : xs[k]? = some a) (hb : cs[k]? = some b) : sameL (xs.drop k) (cs.drop k) = (alikeT a b && sameL (xs.drop (k + 1)) (cs.drop (k + 1))) := by
  obtain ⟨h1, h2⟩ := List.getElem?_eq_some_iff.1 ha
  obtain ⟨h3, h4⟩ := List.getElem?_eq_some_iff.1 hb
  rw [List.drop_eq_getElem_cons h1, List.drop_eq_getElem_cons h3, h2, h4, sameL]

/-- the cells of an element that is read -/
theorem tok_cells {B : Nat} {w : World} {ts : List Tok} {a : Option Addr} {n cap : Nat} (h : TRest B w ts (.slice a n cap)) {k : Nat} {t : Tok} (ht : ts[k]? = some t) :
    ∃ b off, a = some ⟨b, off, none⟩ ∧ b < B ∧ ∀ W, Below B w W → ∀ j u, (tokCells t)[j]? = some u → W.cell? ⟨b, off + k * 4 + j, none⟩ = some u := by
  obtain ⟨a2, cap2, he, h2, h3, h4, h5⟩ := h
  injection he with he1 he2 he3
  subst he1 he2 he3
  have hk : k < ts.length := (List.getElem?_eq_some_iff.1 ht).1
  rcases h5 with h5 | ⟨b, off, rfl, hb, hc⟩
  · omega
  · exact ⟨b, off, rfl, hb, fun W hW j u hj => (hW.cell (p := ⟨b, off + k * 4 + j, none⟩) hb).trans (hc k t ht j u hj)⟩
theorem trest_shape {B : Nat} {w : World} {ts : List Tok} {v : Value} (h : TRest B w ts v) : ∃ a cap, v = .slice a ts.length cap ∧ cap ≤ 9223372036854775807 ∧ ts.length ≤ cap := by
  obtain ⟨a, cap, h1, h2, h3, _⟩ := h
  exact ⟨a, cap, h1, h3, h2⟩

def EqHead (xs cs : List Tok) (W : World) (s17 : Value) (wr : World) : Prop := ∃ k : Nat, k ≤ xs.length ∧ s17 = .int .i64 (k : Int) ∧ sameL xs cs = sameL (xs.drop k) (cs.drop k) ∧ Below W.heap.size W wr

set_option maxHeartbeats 4000000 in
set_option maxRecDepth 100000 in
theorem equalFunc_call (xs cs : List Tok) (u v : Value) (w : World) (hu : TRest w.heap.size w xs u) (hv : TRest w.heap.size w cs v) :
    Calls Tryd.prog 36 #[u, v, .func (.func 37) #[] #[]] w fun e w' => e = .returned (.bool (sameL xs cs)) ∧ Below w.heap.size w w' := by
  have HU := Lib.hid hu
  have HV := Lib.hid hv
  obtain ⟨ua, uc, rfl, hul, hul2⟩ := trest_shape hu
  obtain ⟨va, vc, rfl, hvl, hvl2⟩ := trest_shape hv
  clear hu hv
  by_cases hne : xs.length = cs.length
  · obtain ⟨m, hm⟩ : ∃ m, m = xs.length := ⟨_, rfl⟩
    rw [← hne, ← hm] at HV hvl2 ⊢
    rw [← hm] at HU hul2
    have HM := Lib.hid hm
    have HN := Lib.hid hne
    clear hm hne
    go_enter Tryd.func36, Tryd.ntmps36
    go_wp2_with fail
    go_loopw [17] (fun s17 wr => EqHead xs cs w s17 wr) (fun s17 _ => m - (intOf s17).toNat)
    case atStart => exact ⟨0, Nat.zero_le _, by go_num, rfl, Below.refl _ _⟩
    case round =>
      obtain ⟨k, hk, rfl, hsame, hbr⟩ := hrel
      rw [← HM.out] at hk
      have HS := Lib.hid hsame
      have HB := Lib.hid hbr
      clear hsame hbr
      rcases Nat.lt_or_ge k m with hlt | hge
      · obtain ⟨t, ht⟩ : ∃ t, xs[k]? = some t := ⟨_, List.getElem?_eq_getElem (by rw [← HM.out]; exact hlt)⟩
        obtain ⟨t2, ht2⟩ : ∃ t, cs[k]? = some t := ⟨_, List.getElem?_eq_getElem (by rw [← HN.out, ← HM.out]; exact hlt)⟩
        obtain ⟨b, off, rfl, hbl, hc1⟩ := tok_cells HU.out ht
        obtain ⟨b2, off2, rfl, hbl2, hc2⟩ := tok_cells HV.out ht2
        have HC1 := Lib.hid hc1
        have HC2 := Lib.hid hc2
        have hst := sameL_step ht ht2
        have HST := Lib.hid hst
        have hkm : (k : Int) < (m : Int) := by omega
        have hk0 : (0 : Int) ≤ (k : Int) := by omega
        have HAL : Hid (∀ W, Calls Tryd.prog 37 #[tokOf t, tokOf t2] W fun e w' => e = .returned (.bool (alikeT t t2)) ∧ Below W.heap.size W w') := fun W => alike_call t t2 W
        obtain ⟨r, hr⟩ : ∃ r, r = alikeT t t2 := ⟨_, rfl⟩
        rw [← hr] at HAL HST
        clear hc1 hc2 hst ht ht2 hr
        go_wp2_with (first
          | (refine wpList_load_tokAt rfl (.tmp 20) rfl b (off + k * 4) t rfl (HC1.out _ HB.out) ?_)
          | (refine wpList_alloc_tok rfl 8 rfl rfl ?_; intro g w2 hg hrow hb; have HG := Lib.hid hrow; have HGL : Hid (w.heap.size ≤ g) := (by rw [hg]; exact HB.out.size); have HB := Lib.hid (below_next HB.out hb); clear hrow hb hg)
          | (refine wpList_store_tok rfl (.tmp 8) (.tmp 21) rfl g t tok0 rfl rfl rfl HG.out HB.out HGL.out ?_; intro w3 hrow hb hfar; have HG := Lib.hid hrow; have HB := Lib.hid hb; clear hrow hb hfar)
          | (refine wpList_load_tokAt rfl (.tmp 24) rfl b2 (off2 + k * 4) t2 rfl (HC2.out _ HB.out) ?_)
          | (refine wpList_alloc_tok rfl 9 rfl rfl ?_; intro g2 w4 hg hrow hb; have HNE : Hid (g ≠ g2) := Lib.hid (by have := HG.out.lt; omega); have HG2 := Lib.hid hrow; have HGL2 : Hid (w.heap.size ≤ g2) := (by rw [hg]; exact HB.out.size); have HB := Lib.hid (below_next HB.out hb); have HG := Lib.hid (HG.out.keep hb); clear hrow hb hg)
          | (refine wpList_store_tok rfl (.tmp 9) (.tmp 25) rfl g2 t2 tok0 rfl rfl rfl HG2.out HB.out HGL2.out ?_; intro w5 hrow hb hfar; have HG2 := Lib.hid hrow; have HB := Lib.hid hb; have HG := Lib.hid (hfar _ _ _ HNE.out HG.out); clear hrow hb hfar)
          | (refine wpList_load_tok rfl (.tmp 8) rfl g t rfl HG.out ?_)
          | (refine wpList_load_tok rfl (.tmp 9) rfl g2 t2 rfl HG2.out ?_)
          | (go_at_call 37; refine (HAL.out _).mono ?_; rintro e w6 ⟨rfl, hb⟩; have HB := Lib.hid (below_next HB.out hb); clear hb))
        · rename_i h
          have hr : r = false := by simpa using h
          go_ret
          exact ⟨ret_bool (by rw [HS.out, HST.out, hr]; rfl), HB.out⟩
        · rename_i h
          have hr : r = true := by simpa using h
          exact ⟨⟨k + 1, by rw [← HM.out]; omega, by go_num, by rw [HS.out, HST.out, hr]; rfl, HB.out⟩, by simp [intOf]; omega⟩
      · obtain rfl : k = m := by omega
        go_wp2_with fail
        go_ret
        refine ⟨ret_bool ?_, HB.out⟩
        rw [HS.out, HM.out, List.drop_length, HN.out, List.drop_length]; rfl
  · rw [sameL_ne hne]
    have hne2 : ¬ ((xs.length : Int) = (cs.length : Int)) := by omega
    generalize xs.length = m1 at hne2
    generalize cs.length = m2 at hne2
    clear hne
    go_enter Tryd.func36, Tryd.ntmps36
    go_wp2_with fail
    go_ret
    exact ⟨rfl, Below.refl _ _⟩

set_option maxHeartbeats 1000000 in
set_option maxRecDepth 100000 in
theorem Same_call (xs cs : List Tok) (u v : Value) (w : World) (hu : TRest w.heap.size w xs u) (hv : TRest w.heap.size w cs v) :
    Calls Tryd.prog 18 #[u, v] w fun e w' => e = .returned (.bool (sameL xs cs)) ∧ Below w.heap.size w w' := by
  have HE := Lib.hid (equalFunc_call xs cs u v w hu hv)
  clear hu hv
  go_enter Tryd.func18, Tryd.ntmps18
  go_wp2_with (go_at_call 36; refine HE.out.mono ?_; rintro e w2 ⟨rfl, hb⟩)
  go_ret
  exact ⟨rfl, hb⟩
end Go.Proofs.YtilpcchcccbfcaaDoor
