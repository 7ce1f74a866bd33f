/- Climbing: the reference's function; what both functions answer to whatever they are asked. -/
import Derived.Test.YtjibhelahagliaaDoorPs
namespace Go.Proofs.YtjibhelahagliaaDoor
open Go.RowKit

set_option maxHeartbeats 4000000 in
set_option maxRecDepth 100000 in
theorem refClimb_ok (d : List UInt8) (hd : d.length = 32) (k n : Nat) (hk : k < n) (hn : n ≤ 1099511627776) (ps : List (List UInt8)) (hl : ps.length = steps k n) (v : Value) (w : World) (hr : DRest w.heap.size w ps v) :
    Calls Tryd.prog 23 #[dg d, .int .i64 (k : Int), .int .i64 (n : Int), v] w fun e w' => e = .returned (.tuple #[dg (climb d k n ps), .int .i64 0]) ∧ Below w.heap.size w w' := by
  have HDL := Lib.hid hd
  obtain ⟨a, cap, rfl⟩ : ∃ a cap, v = .slice a ps.length cap := by obtain ⟨_, a, cap, h, _⟩ := hr; exact ⟨a, cap, h⟩
  have HC : Hid (∀ W', Below w.heap.size w W' → Calls Tryd.prog 45 #[dg d, .int .i64 (k : Int), .int .i64 (n : Int), .slice a ps.length cap] W' (RetD W' (climb d k n ps))) := fun W' h => refclimb_call d hd n k ps _ W' hk hn hl (hr.keep h)
  obtain ⟨res, hres⟩ : ∃ res, res = climb d k n ps := ⟨_, rfl⟩
  rw [← hres] at HC ⊢
  have HLR : Hid (res.length = 32) := by rw [hres]; exact climb_len _ _ _ _
  have HP : Hid (∀ W' : World, Calls Tryd.prog 44 #[.int .i64 (k : Int), .int .i64 (n : Int)] W' fun e w' => e = .returned (.int .i64 (ps.length : Int)) ∧ W' = w') := fun W' => by rw [hl]; exact length_call n k W' hk hn
  have h1 : ¬ ((n : Int) < 1) := by omega
  have h2 : ¬ ((n : Int) > 1099511627776) := by omega
  have h3 : ¬ ((k : Int) < 0) := by omega
  have h4 : ¬ ((k : Int) ≥ (n : Int)) := by omega
  obtain ⟨m, hm⟩ : ∃ m, m = ps.length := ⟨_, rfl⟩
  rw [← hm] at HC HP ⊢
  have HB0 := Lib.hid (Below.refl w.heap.size w)
  clear hres hl hr hd hm
  go_enter Tryd.func23, Tryd.ntmps23
  go_wp2_with (first
    | (refine wpList_box_u rfl 4 rfl (.tmp 0) rfl (cellsOf d) rfl ?_; intro g4 w1 hg hrow hb; have H4 := Lib.hid hrow; have HB0 := Lib.hid (below_next HB0.out hb); clear hg hrow hb)
    | (refine wpList_alloc_dig rfl 8 rfl rfl ?_; intro g8 w2 hg hrow hb; have H8 := Lib.hid hrow; have hg8 : w.heap.size ≤ g8 := (by have := HB0.out.size; omega); have H4 := Lib.hid (H4.out.keep hb); have HB0 := Lib.hid (below_next HB0.out hb); clear hg hrow hb)
    | (go_at_call 44; (refine (HP.out _).mono ?_); rintro e w' ⟨rfl, rfl⟩)
    | (refine wpList_row_dig rfl (.tmp 4) rfl g4 d HDL.out rfl H4.out ?_)
    | (go_at_call 45; (refine (HC.out _ HB0.out).mono ?_); rintro e w3 ⟨rfl, hb⟩; have H8 := Lib.hid (H8.out.keep hb); have HB0 := Lib.hid (below_next HB0.out hb); clear hb)
    | (refine wpList_store_dig rfl (.tmp 8) (.tmp 38) rfl g8 res HLR.out rfl rfl H8.out HB0.out hg8 ?_; intro wE hrow hb hoth; have HRE := Lib.hid hrow; have HBE := Lib.hid hb; clear hrow hb hoth)
    | fail)
  exact bodyPost_ret (results_two (p := 8) (q := 9) rfl _ _ g8 (cellsOf res) rfl _ rfl HRE.out (size32' HLR.out)) rfl ⟨rfl, HBE.out⟩

set_option maxHeartbeats 4000000 in
set_option maxRecDepth 100000 in
theorem refClimb_no (d : List UInt8) (k n : Int) (m : Nat) (a : Option Addr) (cap : Nat) (w : World)
    (hno : n < 1 ∨ n > 1099511627776 ∨ k < 0 ∨ k ≥ n ∨ m ≠ steps k.toNat n.toNat) :
    Calls Tryd.prog 23 #[dg d, .int .i64 k, .int .i64 n, .slice a m cap] w fun e w' => e = .returned (.tuple #[dg zd, .int .i64 1]) ∧ Below w.heap.size w w' := by
  have HP : Hid (1 ≤ n → n ≤ 1099511627776 → 0 ≤ k → k < n → ∀ W' : World, Calls Tryd.prog 44 #[.int .i64 k, .int .i64 n] W' fun e w' => e = .returned (.int .i64 (steps k.toNat n.toNat : Int)) ∧ W' = w') := fun h1 h2 h3 h4 W' => by
    have := length_call n.toNat k.toNat W' (by omega) (by omega)
    rwa [show ((k.toNat : Nat) : Int) = k by omega, show ((n.toNat : Nat) : Int) = n by omega] at this
  obtain ⟨st, hst⟩ : ∃ st, st = steps k.toNat n.toNat := ⟨_, rfl⟩
  rw [← hst] at HP hno
  have HB0 := Lib.hid (Below.refl w.heap.size w)
  clear hst
  by_cases h1 : n < 1
  · clear hno HP
    go_enter Tryd.func23, Tryd.ntmps23
    go_wp2_with (first
      | (refine wpList_box_u rfl 4 rfl (.tmp 0) rfl (cellsOf d) rfl ?_; intro g4 w1 hg hrow hb; have HB0 := Lib.hid (below_next HB0.out hb); clear hg hrow hb)
      | (refine wpList_alloc_dig rfl 8 rfl rfl ?_; intro g8 w2 hg hrow hb; have H8 := Lib.hid hrow; have hg8 : w.heap.size ≤ g8 := (by have := HB0.out.size; omega); have HB0 := Lib.hid (below_next HB0.out hb); clear hg hrow hb)
      | (refine wpList_value 26 ⟨_, rfl⟩ rfl (dg zd) (by kernel_rfl) ?_)
      | (refine wpList_store_dig rfl (.tmp 8) (.tmp 33) rfl g8 zd zd_len rfl rfl H8.out HB0.out hg8 ?_; intro wE hrow hb hoth; have HRE := Lib.hid hrow; have HBE := Lib.hid hb; clear hrow hb hoth)
      | fail)
    exact bodyPost_ret (results_two (p := 8) (q := 9) rfl _ _ g8 (cellsOf zd) rfl _ rfl HRE.out (size32' zd_len)) rfl ⟨rfl, HBE.out⟩
  by_cases h2 : n > 1099511627776
  · clear hno HP
    go_enter Tryd.func23, Tryd.ntmps23
    go_wp2_with (first
      | (refine wpList_box_u rfl 4 rfl (.tmp 0) rfl (cellsOf d) rfl ?_; intro g4 w1 hg hrow hb; have HB0 := Lib.hid (below_next HB0.out hb); clear hg hrow hb)
      | (refine wpList_alloc_dig rfl 8 rfl rfl ?_; intro g8 w2 hg hrow hb; have H8 := Lib.hid hrow; have hg8 : w.heap.size ≤ g8 := (by have := HB0.out.size; omega); have HB0 := Lib.hid (below_next HB0.out hb); clear hg hrow hb)
      | (refine wpList_value 26 ⟨_, rfl⟩ rfl (dg zd) (by kernel_rfl) ?_)
      | (refine wpList_store_dig rfl (.tmp 8) (.tmp 33) rfl g8 zd zd_len rfl rfl H8.out HB0.out hg8 ?_; intro wE hrow hb hoth; have HRE := Lib.hid hrow; have HBE := Lib.hid hb; clear hrow hb hoth)
      | fail)
    exact bodyPost_ret (results_two (p := 8) (q := 9) rfl _ _ g8 (cellsOf zd) rfl _ rfl HRE.out (size32' zd_len)) rfl ⟨rfl, HBE.out⟩
  by_cases h3 : k < 0
  · clear hno HP
    go_enter Tryd.func23, Tryd.ntmps23
    go_wp2_with (first
      | (refine wpList_box_u rfl 4 rfl (.tmp 0) rfl (cellsOf d) rfl ?_; intro g4 w1 hg hrow hb; have HB0 := Lib.hid (below_next HB0.out hb); clear hg hrow hb)
      | (refine wpList_alloc_dig rfl 8 rfl rfl ?_; intro g8 w2 hg hrow hb; have H8 := Lib.hid hrow; have hg8 : w.heap.size ≤ g8 := (by have := HB0.out.size; omega); have HB0 := Lib.hid (below_next HB0.out hb); clear hg hrow hb)
      | (refine wpList_value 26 ⟨_, rfl⟩ rfl (dg zd) (by kernel_rfl) ?_)
      | (refine wpList_store_dig rfl (.tmp 8) (.tmp 33) rfl g8 zd zd_len rfl rfl H8.out HB0.out hg8 ?_; intro wE hrow hb hoth; have HRE := Lib.hid hrow; have HBE := Lib.hid hb; clear hrow hb hoth)
      | fail)
    exact bodyPost_ret (results_two (p := 8) (q := 9) rfl _ _ g8 (cellsOf zd) rfl _ rfl HRE.out (size32' zd_len)) rfl ⟨rfl, HBE.out⟩
  by_cases h4 : k ≥ n
  · clear hno HP
    go_enter Tryd.func23, Tryd.ntmps23
    go_wp2_with (first
      | (refine wpList_box_u rfl 4 rfl (.tmp 0) rfl (cellsOf d) rfl ?_; intro g4 w1 hg hrow hb; have HB0 := Lib.hid (below_next HB0.out hb); clear hg hrow hb)
      | (refine wpList_alloc_dig rfl 8 rfl rfl ?_; intro g8 w2 hg hrow hb; have H8 := Lib.hid hrow; have hg8 : w.heap.size ≤ g8 := (by have := HB0.out.size; omega); have HB0 := Lib.hid (below_next HB0.out hb); clear hg hrow hb)
      | (refine wpList_value 26 ⟨_, rfl⟩ rfl (dg zd) (by kernel_rfl) ?_)
      | (refine wpList_store_dig rfl (.tmp 8) (.tmp 33) rfl g8 zd zd_len rfl rfl H8.out HB0.out hg8 ?_; intro wE hrow hb hoth; have HRE := Lib.hid hrow; have HBE := Lib.hid hb; clear hrow hb hoth)
      | fail)
    exact bodyPost_ret (results_two (p := 8) (q := 9) rfl _ _ g8 (cellsOf zd) rfl _ rfl HRE.out (size32' zd_len)) rfl ⟨rfl, HBE.out⟩
  have h5 : ¬ ((m : Int) = (st : Int)) := by omega
  have HP' := Lib.hid (HP.out (by omega) (by omega) (by omega) (by omega))
  clear hno HP
  go_enter Tryd.func23, Tryd.ntmps23
  go_wp2_with (first
    | (refine wpList_box_u rfl 4 rfl (.tmp 0) rfl (cellsOf d) rfl ?_; intro g4 w1 hg hrow hb; have HB0 := Lib.hid (below_next HB0.out hb); clear hg hrow hb)
    | (refine wpList_alloc_dig rfl 8 rfl rfl ?_; intro g8 w2 hg hrow hb; have H8 := Lib.hid hrow; have hg8 : w.heap.size ≤ g8 := (by have := HB0.out.size; omega); have HB0 := Lib.hid (below_next HB0.out hb); clear hg hrow hb)
    | (go_at_call 44; (refine (HP'.out _).mono ?_); rintro e w' ⟨rfl, rfl⟩)
    | (refine wpList_value 26 ⟨_, rfl⟩ rfl (dg zd) (by kernel_rfl) ?_)
    | (refine wpList_store_dig rfl (.tmp 8) (.tmp 33) rfl g8 zd zd_len rfl rfl H8.out HB0.out hg8 ?_; intro wE hrow hb hoth; have HRE := Lib.hid hrow; have HBE := Lib.hid hb; clear hrow hb hoth)
    | fail)
  exact bodyPost_ret (results_two (p := 8) (q := 9) rfl _ _ g8 (cellsOf zd) rfl _ rfl HRE.out (size32' zd_len)) rfl ⟨rfl, HBE.out⟩

def Both (f g : Nat) (d : List UInt8) (i m : Int) (ps : List (List UInt8)) (r : List UInt8) (x : Int) : Prop :=
  (∀ (W : World) (v : Value), DRest W.heap.size W ps v → Tab W → Calls Tryd.prog f #[dg d, .int .i64 i, .int .i64 m, v] W fun e w' => e = .returned (.tuple #[dg r, .int .i64 x]) ∧ Below W.heap.size W w') ∧
  (∀ (W : World) (v : Value), DRest W.heap.size W ps v → Calls Tryd.prog g #[dg d, .int .i64 i, .int .i64 m, v] W fun e w' => e = .returned (.tuple #[dg r, .int .i64 x]) ∧ Below W.heap.size W w')
theorem both_climb (d : List UInt8) (hd : d.length = 32) (i m : Int) (ps : List (List UInt8)) : ∃ (r : List UInt8) (x : Int), r.length = 32 ∧ Both 22 23 d i m ps r x := by
  by_cases hno : m < 1 ∨ m > 1099511627776 ∨ i < 0 ∨ i ≥ m ∨ ps.length ≠ steps i.toNat m.toNat
  · refine ⟨zd, 1, zd_len, fun W v hr _ => ?_, fun W v hr => ?_⟩
    · obtain ⟨_, a, cap, rfl, _⟩ := hr
      exact Climb_no' d hd i m ps.length a cap W hno
    · obtain ⟨_, a, cap, rfl, _⟩ := hr
      exact refClimb_no d i m ps.length a cap W hno
  · have e1 : ((i.toNat : Nat) : Int) = i := by omega
    have e2 : ((m.toNat : Nat) : Int) = m := by omega
    have hl : ps.length = steps i.toNat m.toNat := by omega
    refine ⟨climb d i.toNat m.toNat ps, 0, climb_len _ _ _ _, fun W v hr hT => ?_, fun W v hr => ?_⟩
    · have := Climb_ok d hd i.toNat m.toNat (by omega) (by omega) ps hl v W hr hT
      rwa [e1, e2] at this
    · have := refClimb_ok d hd i.toNat m.toNat (by omega) (by omega) ps hl v W hr
      rwa [e1, e2] at this
theorem both_path (ds : List (List UInt8)) (hn : ds.length ≤ 1073741824) (i : Int) : ∃ (ps : List (List UInt8)) (x : Int), ps.length ≤ 40 ∧
    (∀ (W : World) (v : Value), DRest W.heap.size W ds v → Tab W → Calls Tryd.prog 19 #[v, .int .i64 i] W fun e w' => ∃ u, e = .returned (.tuple #[u, .int .i64 x]) ∧ DNew W w' u ps) ∧
    (∀ (W : World) (v : Value), DRest W.heap.size W ds v → Tab W → Calls Tryd.prog 20 #[v, .int .i64 i] W fun e w' => ∃ u, e = .returned (.tuple #[u, .int .i64 x]) ∧ DNew W w' u ps) := by
  by_cases hno : i < 0 ∨ i ≥ ds.length
  · refine ⟨[], 1, by simp, fun W v hr _ => ?_, fun W v hr _ => ?_⟩
    · obtain ⟨_, a, cap, rfl, _⟩ := hr
      exact (Path_no ds.length i hno a cap W).mono fun e w' ⟨h1, h2⟩ => ⟨_, h1, by rw [← h2]; exact dnew_nil W⟩
    · obtain ⟨_, a, cap, rfl, _⟩ := hr
      exact (refPath_no ds.length i hno a cap W).mono fun e w' ⟨h1, h2⟩ => ⟨_, h1, by rw [← h2]; exact dnew_nil W⟩
  · have e1 : ((i.toNat : Nat) : Int) = i := by omega
    refine ⟨path ds i.toNat, 0, by rw [path_len _ ds _ rfl]; exact steps_le 40 _ _ (by omega), fun W v hr hT => ?_, fun W v hr hT => ?_⟩
    · have := Path_ok ds i.toNat (by omega) hn v W hr hT
      rwa [e1] at this
    · have := refPath_ok ds i.toNat (by omega) hn v W hr hT
      rwa [e1] at this
end Go.Proofs.YtjibhelahagliaaDoor
