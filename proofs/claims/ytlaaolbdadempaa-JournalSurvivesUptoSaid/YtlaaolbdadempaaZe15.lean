/- The reference's New. -/
import Derived.Deep.AppendLies
import Derived.Deep.RegionLawGrows
import Derived.Test.YtlaaolbdadempaaZe10
import Derived.Test.YtlaaolbdadempaaZe5
namespace Go.Proofs.Ytlaaolbdadempaa
open Go.RowKit

theorem mk_sector (W : World) : (Instr.makeSlice 35 (.int .i64 128) (.int .i64 128)).run Try.prog W = .ok (.slice (some ⟨W.heap.size, 0, none⟩) 128 128) (W.alloc (.cells (cellsOf zeros).toArray 5)) := by
  obtain ⟨i0, hi, hz0, hz1, hz2⟩ := info_parts Try.info5
  have hr := run_makeSlice (P := Try.prog) W 35 5 i0 (.int .u8 0) Try.underlying35 hi hz0 .i64 .i64 128 128 (by omega) (by omega) (by rw [hz1]; decide) (by rw [hz2]; decide) (by omega)
  rw [hz1, show (128 : Int).toNat = 128 by rfl, made_bytes] at hr
  exact hr
theorem below_undrew' {B : Nat} {w w' : World} (h : Below B w.drew w') : Below B w w' := ⟨h.os, h.tape, h.output, h.size, h.block⟩
theorem row_grown {w w' : World} {g T : Nat} {cs : List Value} {o : Option Nat} (h : Row w g T cs) (hg : w.drew.grownBy w' o) (hne : some g ≠ o) : Row w' g T cs := (hg.block g h.lt hne).trans h
theorem own_ne {w : World} {base g' n T : Nat} {v : Value} {xs cs : List Value} (h : w.ownsRow base 35 1 v n xs) (hr : Row w g' T cs) (hT : T ≠ 35) : some g' ≠ v.ownBlock := by
  rcases h.2 with ⟨rfl, _⟩ | ⟨g, cap, cur, rfl, _, hg, _⟩
  · intro h; cases h
  · intro h
    injection h with h
    subst h
    unfold Row at hr
    rw [hg] at hr
    injection hr with hr
    injection hr with _ hr
    exact hT hr.symm
theorem below_grew {B : Nat} {w w' : World} {o : Option Nat} (h : w.drew.grownBy w' o) (hB : B ≤ w.heap.size) (ho : ∀ g, o = some g → B ≤ g) : Below B w w' :=
  ⟨h.os, h.tape, h.output, h.size, fun k hk => h.block k (Nat.lt_of_lt_of_le hk hB) (fun e => by have := ho k e.symm; omega)⟩
theorem nrests_of_owns {S : Nat → Prop} {B0 : Nat} {w : World} {v : Value} {n : Nat} {xs : List (List UInt8)} {us : List Value} (h : w.ownsRow B0 35 1 v n us) (hn : n = xs.length) (hl : us.length = xs.length)
    (hg : ∀ g, v.ownBlock = some g → S g) (hel : ∀ (i : Nat) x u, xs[i]? = some x → us[i]? = some u → RestS S w x u) : NRestS S w xs v := by
  rcases h.2 with ⟨rfl, h1⟩ | ⟨g, cap, cur, rfl, hbg, hg2, hnc, hcm, hcs, htake⟩
  · obtain rfl : xs = [] := List.eq_nil_of_length_eq_zero (by omega)
    exact nrests_nil _ _
  · subst hn
    refine ⟨_, cap, rfl, hnc, hcm, (fun h => by cases h), .inr ⟨g, 0, rfl, hg g rfl, fun i x hi => ?_⟩⟩
    have hil := (List.getElem?_eq_some_iff.1 hi).1
    have hu : us[i]? = some (us[i]'(by omega)) := List.getElem?_eq_getElem (by omega)
    have c1 := World.ownsRow.cells h (g := g) rfl _ _ hu
    rw [Addr.add_lit] at c1
    exact ⟨_, c1, hel i x _ hi hu⟩
def RNew (w : World) (m : Nat) (s5 : Value) (wr : World) : Prop := ∃ (k : Nat) (us : List Value) (v : Value), k ≤ m ∧ s5 = .int .i64 (k : Int) ∧ wr.ownsRow (w.heap.size + 2) 35 1 v k us ∧ (∀ (i : Nat) u, us[i]? = some u → ∃ g, u = .slice (some ⟨g, 0, none⟩) 128 128 ∧ w.heap.size + 2 ≤ g ∧ Row wr g 5 (cellsOf zeros)) ∧
  Row wr (w.heap.size + 1) 25 [v, .slice none 0 0, .int .i64 (-1), .bool false] ∧ Row wr w.heap.size 25 [.slice none 0 0, .slice none 0 0, .int .i64 0, .bool false] ∧ Below w.heap.size w wr
set_option maxHeartbeats 4000000 in
set_option maxRecDepth 100000 in
theorem refnew_call (S : Nat → Prop) (n : Int) (w : World) : Calls Try.prog 20 #[.int .i64 n] w (AnswersS S w (newD n)) := by
  unfold newD
  have HR0 := Lib.hid (row_new w 25 [.slice none 0 0, .slice none 0 0, .int .i64 0, .bool false])
  have HB0 := Lib.hid (Joins.below_alloc1 w (.cells #[.slice none 0 0, .slice none 0 0, .int .i64 0, .bool false] 25))
  by_cases h1 : n < 1
  · rw [if_pos (.inl h1)]
    go_enter Try.func20, Try.ntmps20
    go_wp2_with fail
    exact bodyPost_ret (results_dsk Try.results20 _ _ w.heap.size _ rfl rfl _ rfl HR0.out) rfl ⟨_, rfl, drests_zero _ _, HB0.out⟩
  · by_cases h2 : 4096 < n
    · rw [if_pos (.inr h2)]
      go_enter Try.func20, Try.ntmps20
      go_wp2_with fail
      exact bodyPost_ret (results_dsk Try.results20 _ _ w.heap.size _ rfl rfl _ rfl HR0.out) rfl ⟨_, rfl, drests_zero _ _, HB0.out⟩
    · rw [if_neg (by omega)]
      obtain ⟨m, rfl⟩ : ∃ m : Nat, n = m := ⟨n.toNat, by omega⟩
      rw [Int.toNat_natCast]
      have HRX := Lib.hid (row_new (w.alloc (.cells #[.slice none 0 0, .slice none 0 0, .int .i64 0, .bool false] 25)) 25 [.slice none 0 0, .slice none 0 0, .int .i64 0, .bool false])
      rw [World.size_alloc] at HRX
      have HB1 := Lib.hid (below_two w (.cells #[.slice none 0 0, .slice none 0 0, .int .i64 0, .bool false] 25) (.cells #[.slice none 0 0, .slice none 0 0, .int .i64 0, .bool false] 25))
      have HR1 := Lib.hid (HR0.out.keep (Joins.below_alloc1 _ (.cells #[.slice none 0 0, .slice none 0 0, .int .i64 0, .bool false] 25)))
      go_enter Try.func20, Try.ntmps20
      go_wp2_with (refine wpList_store_ag rfl 25 (.tmp 4) (.tmp 13) rfl (w.heap.size + 1) [.slice none 0 0, .slice none 0 0, .int .i64 (-1), .bool false] _ size25 (by rfl) rfl rfl HRX.out (by rfl) HB1.out (by omega) ?_; intro w3 hr hb hf; have HX3 := Lib.hid hr; have HR3 := Lib.hid (hf w.heap.size 25 _ (by omega) HR1.out); have HB3 := Lib.hid hb; have HZ3 := Lib.hid (Nat.lt_of_le_of_lt (Nat.le_refl _) hr.lt); clear hr hb hf)
      have hm1 : (m : Int) ≤ 4096 := by omega
      obtain ⟨ZA, hZA⟩ : ∃ ZA, ZA = (cellsOf zeros).toArray := ⟨_, rfl⟩
      have HZA := Lib.hid hZA
      have HMK : Hid (∀ W : World, (Instr.makeSlice 35 (.int .i64 128) (.int .i64 128)).run Try.prog W = .ok (.slice (some ⟨W.heap.size, 0, none⟩) 128 128) (W.alloc (.cells ZA 5))) := Lib.hid (by rw [hZA]; exact mk_sector)
      clear hZA
      go_loopw [5] (fun s5 wr => RNew w m s5 wr) (fun s5 _ => m - (intOf s5).toNat)
      case atStart => exact ⟨0, [], _, Nat.zero_le _, rfl, World.ownsRow_nil _ _ _ _, (fun i u h => by simp at h), HX3.out, HR3.out, HB3.out⟩
      case round =>
        obtain ⟨k, us, v, hk, rfl, ho, he, hx, hr, hb⟩ := hrel
        have HO := Lib.hid ho
        have HE := Lib.hid he
        have HX := Lib.hid hx
        have HR := Lib.hid hr
        have HB := Lib.hid hb
        have x0 := hx.cell (i := 0) rfl
        have y0 := hx.free 0
        clear ho he hx hr hb
        have HF : Hid (v.oneCell' = true) := Lib.hid (by rcases HO.out.2 with ⟨rfl, _⟩ | ⟨g, cap, cur, rfl, _⟩ <;> rfl)
        rcases Nat.lt_or_ge k m with hlt | hge
        · have hkm : (k : Int) < (m : Int) := by omega
          go_wp2_with fail
          have hw1 := HX.out.lt
          have hmk := HMK.out
          obtain ⟨i0, hi, hz0, hz1, hz2⟩ := info_parts Try.info35
          have HW2 : Hid (Below wr.heap.size wr ((wr.alloc (.cells ZA 5)).alloc (.cells #[.slice (some ⟨wr.heap.size, 0, none⟩) 128 128] 35))) := Lib.hid ((below_two wr (.cells ZA 5) (.cells #[.slice (some ⟨wr.heap.size, 0, none⟩) 128 128] 35)))
          have HO2 : Hid (((wr.alloc (.cells ZA 5)).alloc (.cells #[.slice (some ⟨wr.heap.size, 0, none⟩) 128 128] 35)).ownsRow (w.heap.size + 2) 35 1 v k us) := Lib.hid (World.ownsRow.alloc (World.ownsRow.alloc HO.out _) _)
          have HN2 : Hid (Row ((wr.alloc (.cells ZA 5)).alloc (.cells #[.slice (some ⟨wr.heap.size, 0, none⟩) 128 128] 35)) (wr.heap.size + 1) 35 [.slice (some ⟨wr.heap.size, 0, none⟩) 128 128]) := Lib.hid (by
            have := row_new (wr.alloc (.cells ZA 5)) 35 [.slice (some ⟨wr.heap.size, 0, none⟩) 128 128]
            rwa [World.size_alloc] at this)
          have HZ2 : Hid (Row ((wr.alloc (.cells ZA 5)).alloc (.cells #[.slice (some ⟨wr.heap.size, 0, none⟩) 128 128] 35)) wr.heap.size 5 (cellsOf zeros)) := Lib.hid (by
            rw [HZA.out]
            exact (row_new wr 5 (cellsOf zeros)).keep (Joins.below_alloc1 _ _))
          have hB2 : w.heap.size + 2 ≤ wr.heap.size := by omega
          have x1 := (HX.out.keep (Joins.below_alloc1 wr (.cells ZA 5))).cell (i := 0) rfl
          have x2 := (HX.out.keep HW2.out).cell (i := 0) rfl
          go_region_law (refine step_append_lies _ rfl (.tmp 20) (.tmp 22) 22 rfl (w.heap.size + 2) 35 i0 _ 1 24 Try.underlying22 hi hz0 hz1 hz2 rfl (by decide) v k us rfl HO2.out ⟨wr.heap.size + 1, 0, none⟩ 1 1 [.slice (some ⟨wr.heap.size, 0, none⟩) 128 128] rfl rfl (fun j y hj => by rw [Addr.add_lit, Nat.zero_add]; exact HN2.out.cell hj) (fun y hy => by simp at hy; rw [hy]; rfl) (by decide) (by unfold maxLen; omega) (by omega) (Nat.le_trans hB2 HW2.out.size) _ rfl ?_; intro g cap w4 hown hgrow hat hlt4; have hX4 := row_grown (HX.out.keep HW2.out) hgrow (own_ne HO2.out (HX.out.keep HW2.out) (by decide)); have x4 := hX4.cell (i := 0) rfl; have y4 := hX4.free 0)
          all_goals
            have hge4 : w.heap.size + 2 ≤ g := owns_ge hown
            have hB4 := below_grew (B := w.heap.size) hgrow (by have := HW2.out.size; omega) (fun g' e => by have := (HO2.out.lt g' e).1; omega)
            have HB4 := Lib.hid (below_setCell ((below_next HB.out HW2.out).trans hB4) (w.heap.size + 1) 0 (.slice (some ⟨g, 0, none⟩) (k + 1) cap) (by omega))
            have HOW := Lib.hid (owns_block hown (heap_setCell_other w4 ⟨w.heap.size + 1, 0, none⟩ g (.slice (some ⟨g, 0, none⟩) (k + 1) cap) (by show g ≠ w.heap.size + 1; omega)))
            have put : ∀ g', w.heap.size + 2 ≤ g' → Row ((wr.alloc (.cells ZA 5)).alloc (.cells #[.slice (some ⟨wr.heap.size, 0, none⟩) 128 128] 35)) g' 5 (cellsOf zeros) → Row (w4.setCell ⟨w.heap.size + 1, 0, none⟩ (.slice (some ⟨g, 0, none⟩) (k + 1) cap)) g' 5 (cellsOf zeros) := fun g' h1 h2 => (row_grown h2 hgrow (own_ne HO2.out h2 (by decide))).setFar 0 _ (by omega)
            have HE4 : Hid (∀ (i : Nat) u, (us ++ [.slice (some ⟨wr.heap.size, 0, none⟩) 128 128])[i]? = some u → ∃ g', u = .slice (some ⟨g', 0, none⟩) 128 128 ∧ w.heap.size + 2 ≤ g' ∧ Row (w4.setCell ⟨w.heap.size + 1, 0, none⟩ (.slice (some ⟨g, 0, none⟩) (k + 1) cap)) g' 5 (cellsOf zeros)) := Lib.hid (fun i u hi => by
              rcases Nat.lt_or_ge i us.length with h | h
              · rw [List.getElem?_append_left h] at hi
                obtain ⟨g', e1, e2, e3⟩ := HE.out i u hi
                exact ⟨g', e1, e2, put g' e2 (e3.keep HW2.out)⟩
              · rw [List.getElem?_append_right h] at hi
                have h0 : i - us.length = 0 := by have := (List.getElem?_eq_some_iff.1 hi).1; simp at this; omega
                rw [h0] at hi
                simp at hi
                subst hi
                exact ⟨_, rfl, hB2, put _ hB2 HZ2.out⟩)
            have HX4 := Lib.hid (hX4.set (cs' := [.slice (some ⟨g, 0, none⟩) (k + 1) cap, .slice none 0 0, .int .i64 (-1), .bool false]) 0 (.slice (some ⟨g, 0, none⟩) (k + 1) cap) rfl)
            have HR4 := Lib.hid ((row_grown (HR.out.keep HW2.out) hgrow (own_ne HO2.out (HR.out.keep HW2.out) (by decide))).setFar (g' := w.heap.size + 1) 0 (.slice (some ⟨g, 0, none⟩) (k + 1) cap) (by omega))
            clear hown hgrow hat hlt4 hX4 x4 y4 hB4 put x1 x2 hmk
            go_wp2_with fail
            exact ⟨⟨k + 1, _, _, hlt, by go_num, HOW.out, HE4.out, HX4.out, HR4.out, HB4.out⟩, by simp [intOf]; omega⟩
        · obtain rfl : k = m := by omega
          clear x0 y0
          go_wp2_with (first
            | (refine wpList_load_dsk rfl (.tmp 4) rfl (w.heap.size + 1) _ (by rfl) rfl HX.out ?_)
            | (refine wpList_store_ags rfl 25 (.tmp 2) (.tmp 25) rfl w.heap.size [v, .slice none 0 0, .int .i64 (-1), .bool false] _ size25 (by rfl) rfl rfl HR.out (by rw [List.all_cons, HF.out]; rfl) HB.out (Nat.le_refl _) ?_; intro w9 hr hb hf))
          have hkl : us.length = k := by simpa using HO.out.1
          have hn : NRestS (fun b => w.heap.size + 2 ≤ b) wr (List.replicate k zeros) v := nrests_of_owns HO.out (by simp) (by simp [hkl]) (fun g h => (HO.out.lt g h).1) (fun i x u h1 h2 => by
            obtain ⟨g', rfl, e2, e3⟩ := HE.out i u h2
            have hx : x = zeros := by
              have hi := (List.getElem?_eq_some_iff.1 h1).1
              rw [List.length_replicate] at hi
              rw [List.getElem?_replicate_of_lt hi] at h1
              exact (Option.some.inj h1).symm
            subst hx
            exact rows_rest e3 (by simp [zeros]) (by omega) e2)
          have hn9 := (hn.keep (.far w.heap.size (fun hh => by omega) hf)).weak (S' := Ext S w.heap.size) (fun b hb _ => .inr (by omega))
          exact bodyPost_ret (results_dsk Try.results20 _ w9 w.heap.size _ rfl rfl _ rfl hr) rfl ⟨_, rfl, ⟨_, _, rfl, hn9, prests_nil _ _⟩, hb⟩
end Go.Proofs.Ytlaaolbdadempaa
