/- A sync. -/
import Derived.Deep.Cut
import Derived.Test.YtlaaolbdadempaaZe5
namespace Go.Proofs.Ytlaaolbdadempaa
open Go.RowKit

theorem keep4 {S : Nat → Prop} (w : World) (g : Nat) (a b c d : Value) (hg : ¬ S g) : KeepS S w ((((w.setCell ⟨g, 0, none⟩ a).setCell ⟨g, 1, none⟩ b).setCell ⟨g, 2, none⟩ c).setCell ⟨g, 3, none⟩ d) := fun i hi hl => by
  have hne : i ≠ g := fun e => hg (e ▸ hi)
  rw [heap_setCell_other _ _ _ _ hne, heap_setCell_other _ _ _ _ hne, heap_setCell_other _ _ _ _ hne, heap_setCell_other _ _ _ _ hne]
theorem below4 {B : Nat} {w0 w : World} (h : Below B w0 w) (g : Nat) (a b c d : Value) (hg : B ≤ g) : Below B w0 ((((w.setCell ⟨g, 0, none⟩ a).setCell ⟨g, 1, none⟩ b).setCell ⟨g, 2, none⟩ c).setCell ⟨g, 3, none⟩ d) :=
  below_setCell (below_setCell (below_setCell (below_setCell h g 0 a hg) g 1 b hg) g 2 c hg) g 3 d hg
def syncD (d : Dsk) : Dsk × Int :=
  if runsB d = true then
    (if d.left ≠ -1 ∧ d.left < (d.pend.length : Int) then (haltD d d.left.toNat (d.pend.getD d.left.toNat (0, [])), 40)
     else (⟨performL d.secs d.pend, [], if d.left = -1 then -1 else d.left - d.pend.length, false⟩, 0))
  else (zeroD, 40)
theorem runs_facts {d : Dsk} (h : runsB d = true) : 0 < d.secs.length ∧ d.secs.length ≤ 4096 ∧ (∀ x ∈ d.secs, x.length = 128) ∧ d.pend.length ≤ 4096 ∧ (∀ q ∈ d.pend, hasB d.secs.length q.1 = true ∧ q.2.length = 128) ∧ -1 ≤ d.left ∧ d.left ≤ 65536 ∧ d.stop = false := by
  unfold runsB validB at h
  simp only [Bool.and_eq_true, decide_eq_true_eq, Bool.not_eq_true'] at h
  obtain ⟨⟨h1, h2, h3, h4, h5, h6, h7⟩, h8⟩ := h
  refine ⟨by omega, h2, fun x hx => ?_, h4, fun q hq => ?_, h6, h7, h8⟩
  · have := List.any_eq_false.1 h3 x hx
    simpa [damB] using this
  · have := List.any_eq_false.1 h5 q hq
    simp only [wrongW, Bool.or_eq_true, Bool.not_eq_true', not_or, Bool.not_eq_true] at this
    refine ⟨by simpa using this.1, by simpa [damB] using this.2⟩
set_option maxHeartbeats 40000000 in
set_option maxRecDepth 100000 in
theorem sync_call (S : Nat → Prop) (d : Dsk) (v : Value) (w : World) (h : DRestS S w d v) :
    Calls Try.prog 30 #[v] w (AnswersS S w (syncD d)) := by
  have HD := Lib.hid h
  obtain ⟨s, p, rfl, hs, hp⟩ := h
  have HS := Lib.hid hs
  have HP := Lib.hid hp
  have HV : Hid (∀ W, Below w.heap.size w W → Calls Try.prog 53 #[dskOf s p d] W fun e w' => e = .returned (.bool (runsB d)) ∧ Below W.heap.size W w') := Lib.hid (fun W hW => runs_call d _ W ⟨s, p, rfl, hs.rest.keep hW, hp.rest.keep hW⟩)
  obtain ⟨a, cap, rfl, hc1, hc2⟩ := hs.rest.shape
  obtain ⟨a2, cap2, rfl, hc3, hc4⟩ := hp.rest.shape
  clear hs hp
  unfold syncD
  cases hr : runsB d with
  | false =>
    rw [hr] at HV
    rw [if_neg (by decide)]
    clear hr HD
    unfold dskOf dskCells at *
    have HRR := Lib.hid (row_new (w.alloc (.cells #[.slice a d.secs.length cap, .slice a2 d.pend.length cap2, .int .i64 d.left, .bool d.stop] 25)) 25 [.slice none 0 0, .slice none 0 0, .int .i64 0, .bool false])
    have HB0 := Lib.hid (below_two w (.cells #[.slice a d.secs.length cap, .slice a2 d.pend.length cap2, .int .i64 d.left, .bool d.stop] 25) (.cells #[.slice none 0 0, .slice none 0 0, .int .i64 0, .bool false] 25))
    rw [World.size_alloc] at HRR
    go_enter Try.func30, Try.ntmps30
    go_wp2_with fail
    refine (HV.out _ HB0.out).mono ?_
    rintro e w2 ⟨rfl, hb⟩
    have HB2 := Lib.hid (below_next HB0.out hb)
    have HRR2 := Lib.hid (HRR.out.keep hb)
    clear hb HRR HB0
    go_wp2_with (refine wpList_store_ags rfl 25 (.tmp 2) (.tmp 8) rfl (w.heap.size + 1) [.slice none 0 0, .slice none 0 0, .int .i64 0, .bool false] _ size25 (by rfl) rfl rfl HRR2.out (by rfl) HB2.out (by omega) ?_; intro w9 hr hb hf)
    exact bodyPost_ret (results_dsk Try.results30 _ w9 (w.heap.size + 1) _ rfl rfl _ rfl hr) rfl ⟨_, rfl, drests_zero _ _, hb⟩
  | true =>
    obtain ⟨f1, f2, f3, f4, f5, f6, f7, f8⟩ := runs_facts hr
    rw [hr] at HV
    rw [if_pos rfl]
    by_cases hh : d.left ≠ -1 ∧ d.left < (d.pend.length : Int)
    · rw [if_pos hh]
      obtain ⟨k, hk⟩ : ∃ k : Nat, d.left = k := ⟨d.left.toNat, by omega⟩
      rw [hk, Int.toNat_natCast]
      have hkl : k < d.pend.length := by omega
      obtain ⟨q, hq⟩ : ∃ q, d.pend[k]? = some q := ⟨_, List.getElem?_eq_getElem hkl⟩
      rw [show d.pend.getD k (0, []) = q by simp [List.getD, hq]]
      have HHALT : Hid (∀ W, Below w.heap.size w W → Calls Try.prog 57 #[dskOf (.slice a d.secs.length cap) (.slice a2 d.pend.length cap2) d] W fun e w' => ∃ v', e = .returned v' ∧ DRestS (Ext (Cut S w.heap.size) W.heap.size) w' (haltD d k q) v' ∧ Below W.heap.size W w') :=
        Lib.hid (fun W hW => halt_call _ d _ k q W (HD.out.later hW) hk hq (f5 q (List.mem_of_getElem? hq)).2 f1 f2 f4 (fun x hx => (f5 x hx).1))
      have hk1 : ((k : Int) != -1) = true := by simp
      have hk2 : (k : Int) < (d.pend.length : Int) := by omega
      unfold dskOf dskCells at HV HHALT ⊢
      rw [hk] at HV HHALT ⊢
      clear hr hk f3 f5 f8 hh hq
      have HRB : Hid (Row ((w.alloc (.cells #[.slice a d.secs.length cap, .slice a2 d.pend.length cap2, .int .i64 (k : Int), .bool d.stop] 25)).alloc (.cells #[.slice none 0 0, .slice none 0 0, .int .i64 0, .bool false] 25)) w.heap.size 25 [.slice a d.secs.length cap, .slice a2 d.pend.length cap2, .int .i64 (k : Int), .bool d.stop]) := Lib.hid ((row_new w 25 _).keep (Joins.below_alloc1 _ _))
      have HRR := Lib.hid (row_new (w.alloc (.cells #[.slice a d.secs.length cap, .slice a2 d.pend.length cap2, .int .i64 (k : Int), .bool d.stop] 25)) 25 [.slice none 0 0, .slice none 0 0, .int .i64 0, .bool false])
      have HB0 := Lib.hid (below_two w (.cells #[.slice a d.secs.length cap, .slice a2 d.pend.length cap2, .int .i64 (k : Int), .bool d.stop] 25) (.cells #[.slice none 0 0, .slice none 0 0, .int .i64 0, .bool false] 25))
      rw [World.size_alloc] at HRR
      go_enter Try.func30, Try.ntmps30
      go_wp2_with fail
      refine (HV.out _ HB0.out).mono ?_
      rintro e w2 ⟨rfl, hb⟩
      have HB2 := Lib.hid (below_next HB0.out hb)
      have HRR2 := Lib.hid (HRR.out.keep hb)
      have HRB2 := Lib.hid (HRB.out.keep hb)
      have c0 := HRB2.out.cell (i := 0) rfl
      have c1 := HRB2.out.cell (i := 1) rfl
      have c2 := HRB2.out.cell (i := 2) rfl
      have c3 := HRB2.out.cell (i := 3) rfl
      clear hb HRR HRB HB0
      go_wp2_with (first
        | (go_at_call 57; refine (HHALT.out w2 HB2.out).mono ?_; rintro e w3 ⟨v', rfl, hd, hb⟩; obtain ⟨s3, p3, rfl, hs3, hp3⟩ := id hd; obtain ⟨sa, sc, rfl, -, -⟩ := hs3.rest.shape; obtain ⟨pa, pc, rfl, -, -⟩ := hp3.rest.shape; unfold dskOf dskCells; have HD3 := Lib.hid hd; have HB3 := Lib.hid (below_next HB2.out hb); have HRR3 := Lib.hid (HRR2.out.keep hb); clear hd hb hs3 hp3)
        | (refine wpList_store_ags rfl 25 (.tmp 2) (.tmp 22) rfl (w.heap.size + 1) (dskCells (.slice sa (haltD d k q).secs.length sc) (.slice pa (haltD d k q).pend.length pc) (haltD d k q)) _ size25 (by rfl) rfl rfl HRR3.out (by rfl) HB3.out (by omega) ?_; intro w9 hr hb hf))
      have hd9 : DRestS (Ext S w.heap.size) w9 (haltD d k q) (dskOf (.slice sa (haltD d k q).secs.length sc) (.slice pa (haltD d k q).pend.length pc) (haltD d k q)) :=
        (HD3.out.keep (.far (w.heap.size + 1) (fun hh => by
          rcases hh with h1 | h1
          · have := h1.2; omega
          · have := HRR2.out.lt; omega) hf)).weak (fun b hh _ => by
          rcases hh with h1 | h1
          · exact .inl h1.1
          · exact .inr (by have := HB2.out.size; omega))
      exact bodyPost_ret (results_dsk Try.results30 _ w9 (w.heap.size + 1) _ rfl rfl _ rfl hr) rfl ⟨_, rfl, hd9, hb⟩
    · rw [if_neg hh]
      have HPERF : Hid (∀ W, Below w.heap.size w W → Calls Try.prog 58 #[.slice a d.secs.length cap, .slice a2 d.pend.length cap2] W fun e w' => ∃ s', e = .returned s' ∧ NRestS (Ext (Cut S w.heap.size) W.heap.size) w' (performL d.secs d.pend) s' ∧ Below W.heap.size W w') :=
        Lib.hid (fun W hW => perform_call _ d.secs d.pend _ _ W (HS.out.later hW) (HP.out.rest.keep hW) f1 f2 (fun x hx => (f5 x hx).1))
      unfold dskOf dskCells at HV ⊢
      have hcase : (d.left = -1) ∨ ((d.pend.length : Int) ≤ d.left ∧ d.left ≠ -1) := by omega
      have HCASE := Lib.hid hcase
      clear hr f3 f5 f8 hh hcase HD
      have HRB : Hid (Row ((w.alloc (.cells #[.slice a d.secs.length cap, .slice a2 d.pend.length cap2, .int .i64 d.left, .bool d.stop] 25)).alloc (.cells #[.slice none 0 0, .slice none 0 0, .int .i64 0, .bool false] 25)) w.heap.size 25 [.slice a d.secs.length cap, .slice a2 d.pend.length cap2, .int .i64 d.left, .bool d.stop]) := Lib.hid ((row_new w 25 _).keep (Joins.below_alloc1 _ _))
      have HRR := Lib.hid (row_new (w.alloc (.cells #[.slice a d.secs.length cap, .slice a2 d.pend.length cap2, .int .i64 d.left, .bool d.stop] 25)) 25 [.slice none 0 0, .slice none 0 0, .int .i64 0, .bool false])
      have HB0 := Lib.hid (below_two w (.cells #[.slice a d.secs.length cap, .slice a2 d.pend.length cap2, .int .i64 d.left, .bool d.stop] 25) (.cells #[.slice none 0 0, .slice none 0 0, .int .i64 0, .bool false] 25))
      rw [World.size_alloc] at HRR
      generalize hle : d.left = left at *
      generalize d.secs.length = n at *
      generalize d.pend.length = m at *
      have HLE := Lib.hid hle
      clear hle
      rcases HCASE.out with hl1 | ⟨hl1, hl2⟩
      · subst hl1
        go_enter Try.func30, Try.ntmps30
        go_wp2_with fail
        refine (HV.out _ HB0.out).mono ?_
        rintro e w2 ⟨rfl, hb⟩
        have HB2 := Lib.hid (below_next HB0.out hb)
        have HRR2 := Lib.hid (HRR.out.keep hb)
        have HRB2 := Lib.hid (HRB.out.keep hb)
        have c0 := HRB2.out.cell (i := 0) rfl
        have c1 := HRB2.out.cell (i := 1) rfl
        have c2 := HRB2.out.cell (i := 2) rfl
        have c3 := HRB2.out.cell (i := 3) rfl
        clear hb HRR HRB HB0
        go_wp2_with fail
        have HPF := Lib.hid (HPERF.out w2 HB2.out)
        refine' cut3 (F := fun (sa : Option Addr) (sc : Nat) (w4 : World) => NRestS (Ext (Cut S w.heap.size) w2.heap.size) w4 (performL d.secs d.pend) (.slice sa (performL d.secs d.pend).length sc) ∧ Below w2.heap.size w2 w4) _ ?rest ?kk
        case rest =>
          intro K
          go_region_law (go_simp; go_at_call 58; refine (HPERF.out w2.drew (below_drew HB2.out)).mono ?_; rintro e w4 ⟨s', rfl, hns, hb'⟩; obtain ⟨sa, sc, rfl, -, -⟩ := hns.rest.shape; have hb : Below w2.heap.size w2 w4 := below_undrew hb'; have r4 := HRR2.out.keep hb; have g0 := r4.cell (i := 0) rfl; have g1 := r4.cell (i := 1) rfl; have g2 := r4.cell (i := 2) rfl; have g3 := r4.cell (i := 3) rfl; have k0 := r4.free 0; have k1 := r4.free 1; have k2 := r4.free 2; have k3 := r4.free 3; have q2 := (HRB2.out.keep hb).cell (i := 2) rfl)
          all_goals exact K sa sc w4 ⟨hns, hb⟩
        case kk =>
          rintro sa sc w4 ⟨hns, hb⟩
          have HNS := Lib.hid hns
          have HB4 := Lib.hid (below_next HB2.out hb)
          have r4 := HRR2.out.keep hb
          have q2 := (HRB2.out.keep hb).cell (i := 2) rfl
          have R4 := Lib.hid r4
          have hw4 := r4.lt
          clear hns hb r4 c0 c1 c2 c3
          have HRX := Lib.hid ((((R4.out.set (cs' := [.slice sa (performL d.secs d.pend).length sc, .slice none 0 0, .int .i64 0, .bool false]) 0 (.slice sa (performL d.secs d.pend).length sc) rfl).set (cs' := [.slice sa (performL d.secs d.pend).length sc, .slice none 0 0, .int .i64 0, .bool false]) 1 (.slice none 0 0) rfl).set (cs' := [.slice sa (performL d.secs d.pend).length sc, .slice none 0 0, .int .i64 (-1), .bool false]) 2 (.int .i64 (-1)) rfl).set (cs' := [.slice sa (performL d.secs d.pend).length sc, .slice none 0 0, .int .i64 (-1), .bool false]) 3 (.bool false) rfl)
          go_wp2_with (first
            | (refine wpList_load_dsk rfl (.tmp 2) rfl (w.heap.size + 1) _ (by rfl) rfl HRX.out ?_)
            | (refine wpList_store_as rfl 25 (.tmp 2) (.tmp 39) rfl (w.heap.size + 1) [.slice sa (performL d.secs d.pend).length sc, .slice none 0 0, .int .i64 (-1), .bool false] size25 rfl rfl HRX.out (by rfl) ?_))
          have hn9 := (HNS.out.keep (keep4 w4 (w.heap.size + 1) (.slice sa (performL d.secs d.pend).length sc) (.slice none 0 0) (.int .i64 (-1)) (.bool false) (fun hh => by
            rcases hh with h1 | h1
            · have := h1.2; omega
            · have := HRR2.out.lt; omega))).weak (S' := Ext S w.heap.size) (fun b hh _ => by
            rcases hh with h1 | h1
            · exact .inl h1.1
            · exact .inr (by have := HB2.out.size; omega))
          have hb9 := below4 HB4.out (w.heap.size + 1) (.slice sa (performL d.secs d.pend).length sc) (.slice none 0 0) (.int .i64 (-1)) (.bool false) (by omega)
          exact bodyPost_ret (results_dsk Try.results30 _ _ (w.heap.size + 1) _ rfl rfl _ rfl HRX.out) rfl ⟨_, rfl, ⟨_, _, rfl, hn9, prests_nil _ _⟩, hb9⟩
      · have hl3 : (left != -1) = true := by simpa using hl2
        have hl4 : ¬ left < (m : Int) := by omega
        have hl5 : ¬ left = -1 := hl2
        have hl6 : 0 ≤ left - (m : Int) := by omega
        rw [if_neg hl2]
        clear hl2
        go_enter Try.func30, Try.ntmps30
        go_wp2_with fail
        refine (HV.out _ HB0.out).mono ?_
        rintro e w2 ⟨rfl, hb⟩
        have HB2 := Lib.hid (below_next HB0.out hb)
        have HRR2 := Lib.hid (HRR.out.keep hb)
        have HRB2 := Lib.hid (HRB.out.keep hb)
        have c0 := HRB2.out.cell (i := 0) rfl
        have c1 := HRB2.out.cell (i := 1) rfl
        have c2 := HRB2.out.cell (i := 2) rfl
        have c3 := HRB2.out.cell (i := 3) rfl
        clear hb HRR HRB HB0
        go_wp2_with fail
        have HPF := Lib.hid (HPERF.out w2 HB2.out)
        refine' cut3 (F := fun (sa : Option Addr) (sc : Nat) (w4 : World) => NRestS (Ext (Cut S w.heap.size) w2.heap.size) w4 (performL d.secs d.pend) (.slice sa (performL d.secs d.pend).length sc) ∧ Below w2.heap.size w2 w4) _ ?rest ?kk
        case rest =>
          intro K
          go_region_law (go_simp; go_at_call 58; refine (HPERF.out w2.drew (below_drew HB2.out)).mono ?_; rintro e w4 ⟨s', rfl, hns, hb'⟩; obtain ⟨sa, sc, rfl, -, -⟩ := hns.rest.shape; have hb : Below w2.heap.size w2 w4 := below_undrew hb'; have r4 := HRR2.out.keep hb; have g0 := r4.cell (i := 0) rfl; have g1 := r4.cell (i := 1) rfl; have g2 := r4.cell (i := 2) rfl; have g3 := r4.cell (i := 3) rfl; have k0 := r4.free 0; have k1 := r4.free 1; have k2 := r4.free 2; have k3 := r4.free 3; have q2 := (HRB2.out.keep hb).cell (i := 2) rfl)
          all_goals exact K sa sc w4 ⟨hns, hb⟩
        case kk =>
          rintro sa sc w4 ⟨hns, hb⟩
          have HNS := Lib.hid hns
          have HB4 := Lib.hid (below_next HB2.out hb)
          have r4 := HRR2.out.keep hb
          have q2 := (HRB2.out.keep hb).cell (i := 2) rfl
          have R4 := Lib.hid r4
          have hw4 := r4.lt
          clear hns hb r4 c0 c1 c2 c3
          have HRX := Lib.hid ((((R4.out.set (cs' := [.slice sa (performL d.secs d.pend).length sc, .slice none 0 0, .int .i64 0, .bool false]) 0 (.slice sa (performL d.secs d.pend).length sc) rfl).set (cs' := [.slice sa (performL d.secs d.pend).length sc, .slice none 0 0, .int .i64 0, .bool false]) 1 (.slice none 0 0) rfl).set (cs' := [.slice sa (performL d.secs d.pend).length sc, .slice none 0 0, .int .i64 left, .bool false]) 2 (.int .i64 left) rfl).set (cs' := [.slice sa (performL d.secs d.pend).length sc, .slice none 0 0, .int .i64 left, .bool false]) 3 (.bool false) rfl)
          have x2 := HRX.out.cell (i := 2) rfl
          have y2 := HRX.out.free 2
          go_upto_region 9 with (fail)
          have HRX2 := Lib.hid (HRX.out.set (cs' := [.slice sa (performL d.secs d.pend).length sc, .slice none 0 0, .int .i64 (left - (m : Int)), .bool false]) 2 (.int .i64 (left - (m : Int))) rfl)
          clear q2 hw4 x2 y2
          go_wp2_with (first
            | (refine wpList_load_dsk rfl (.tmp 2) rfl (w.heap.size + 1) _ (by rfl) rfl HRX2.out ?_)
            | (refine wpList_store_as rfl 25 (.tmp 2) (.tmp 39) rfl (w.heap.size + 1) [.slice sa (performL d.secs d.pend).length sc, .slice none 0 0, .int .i64 (left - (m : Int)), .bool false] size25 rfl rfl HRX2.out (by rfl) ?_))
          have hn9 := ((HNS.out.keep (keep4 w4 (w.heap.size + 1) (.slice sa (performL d.secs d.pend).length sc) (.slice none 0 0) (.int .i64 left) (.bool false) (fun hh => by
            rcases hh with h1 | h1
            · have := h1.2; omega
            · have := HRR2.out.lt; omega))).keep (.setCell _ (w.heap.size + 1) 2 (.int .i64 (left - (m : Int))) (fun hh => by
            rcases hh with h1 | h1
            · have := h1.2; omega
            · have := HRR2.out.lt; omega))).weak (S' := Ext S w.heap.size) (fun b hh _ => by
            rcases hh with h1 | h1
            · exact .inl h1.1
            · exact .inr (by have := HB2.out.size; omega))
          have hb9 := below_setCell (below4 HB4.out (w.heap.size + 1) (.slice sa (performL d.secs d.pend).length sc) (.slice none 0 0) (.int .i64 left) (.bool false) (by omega)) (w.heap.size + 1) 2 (.int .i64 (left - (m : Int))) (by omega)
          exact bodyPost_ret (results_dsk Try.results30 _ _ (w.heap.size + 1) _ rfl rfl _ rfl HRX2.out) rfl ⟨_, rfl, ⟨_, _, rfl, hn9, prests_nil _ _⟩, hb9⟩
end Go.Proofs.Ytlaaolbdadempaa
