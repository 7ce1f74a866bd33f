/- Climb: the program's function. -/
import Derived.Test.YtjibhelahagliaaDoorS
namespace Go.Proofs.YtjibhelahagliaaDoor
open Go.RowKit

/-- 32 bytes that are 0 -/
def zd : List UInt8 := List.replicate 32 0
theorem zd_len : zd.length = 32 := by simp [zd]
theorem results_two {fn : Func} {p q : Tmp} (h : fn.results = #[.cell p 26, .tmp q]) (tmps : Array Value) (w : World) (g : Nat) (cs : List Value)
    (hp : tmps.getD p undef = .pointer (some ⟨g, 0, none⟩)) (x : Value) (hx : tmps.getD q undef = x) (hg : Row w g 26 cs) (hi : (Tryd.prog.info? 26).map (·.size) = some cs.toArray.size) :
    (results fn tmps).run Tryd.prog w = .ok (.tuple #[.agg cs.toArray, x]) w := by
  have hp' : tmps[p]?.getD undef = .pointer (some ⟨g, 0, none⟩) := by simpa using hp
  have hx' : tmps[q]?.getD undef = x := by simpa using hx
  have hl := run_loadVar_row (P := Tryd.prog) w g 26 26 cs.toArray (0, 0) _ hg Tryd.underlying26 rfl hi
  simp [results, h, hp', hx', asAddr, hl]

set_option maxHeartbeats 1000000 in
set_option maxRecDepth 100000 in
theorem Climb_ok (d : List UInt8) (hd : d.length = 32) (k n : Nat) (hk : k < n) (hn : n ≤ 1099511627776) (ps : List (List UInt8)) (hl : ps.length = steps k n) (v : Value) (w : World) (hr : DRest w.heap.size w ps v) (hT : Tab w) :
    Calls Tryd.prog 22 #[dg d, .int .i64 (k : Int), .int .i64 (n : Int), v] w fun e w' => e = .returned (.tuple #[dg (climb d k n ps), .int .i64 0]) ∧ Below w.heap.size w w' := by
  have HD := Lib.hid hd
  have HT := Lib.hid hT
  obtain ⟨a, cap, rfl⟩ : ∃ a cap, v = .slice a ps.length cap := by obtain ⟨_, a, cap, h, _⟩ := hr; exact ⟨a, cap, h⟩
  obtain ⟨W, hW⟩ : ∃ W, W = (w.alloc (.cells (cellsOf d).toArray 26)).alloc (.cells z32 26) := ⟨_, rfl⟩
  have hWb : Below w.heap.size w W := by rw [hW]; exact below2 w _ _
  have HRow : Hid (Row W (w.heap.size + 1) 26 zb) := by rw [hW]; exact row_at 26 zb _ (by simp)
  have HRowD : Hid (Row W w.heap.size 26 (cellsOf d)) := by rw [hW]; exact (row_new w 26 _).push _
  have HC : Hid (Calls Tryd.prog 43 #[dg d, .int .i64 (k : Int), .int .i64 (n : Int), .slice a ps.length cap] W (RetD W (climb d k n ps))) :=
    climb_call d hd n k ps _ W hk hn hl (hr.keep hWb) (hT.keep hWb)
  obtain ⟨res, hres⟩ : ∃ res, res = climb d k n ps := ⟨_, rfl⟩
  rw [← hres] at HC ⊢
  have HLR : Hid (res.length = 32) := by rw [hres]; exact climb_len _ _ _ _
  have HP : Hid (∀ W' : World, Calls Tryd.prog 42 #[.int .i64 (k : Int), .int .i64 (n : Int)] W' fun e w' => e = .returned (.int .i64 (ps.length : Int)) ∧ W' = w') := fun W' => by rw [hl]; exact pathLen_call k n W' hk hn
  have HWB := Lib.hid hWb
  have HW := Lib.hid hW
  have h1 : ¬ ((n : Int) < 1) := by omega
  have h2 : ¬ ((n : Int) > 1099511627776) := by omega
  have h3 : ¬ ((k : Int) < 0) := by omega
  have h4 : ¬ ((k : Int) ≥ (n : Int)) := by omega
  clear hres hl hr hT hWb hW hd
  rw [dg] 
  go_enter Tryd.func22, Tryd.ntmps22
  have HRA : Hid (Row ((w.alloc (.cells (cellsOf d).toArray 26)).alloc (.cells z32 26)) w.heap.size 26 (cellsOf d)) := (row_new w 26 _).push _
  go_wp2_with (first
    | (refine wpList_load_row rfl 26 (.tmp 4) rfl w.heap.size rfl 26 (cellsOf d).toArray (0, 0) _ HRA.out Tryd.underlying26 rfl (size32' HD.out) ?_)
    | (go_at_call 42; refine (HP.out _).mono ?_; rintro e w' ⟨rfl, rfl⟩))
  rw [← HW.out]
  refine HC.out.mono ?_
  rintro e w2 ⟨rfl, hb2⟩
  have HB := Lib.hid (below_next HWB.out hb2)
  have HR2 : Hid (Row w2 (w.heap.size + 1) 26 zb) := HRow.out.keep hb2
  clear hb2
  unfold dg
  go_wp2_with (refine wpList_store_row rfl 26 (.tmp 8) (.tmp 38) rfl (w.heap.size + 1) (cellsOf res).toArray rfl rfl 26 zb.toArray HR2.out (size32' HLR.out) (by rw [size32 HLR.out]; rfl) (cellsOf_one _) ?_)
  exact bodyPost_ret (results_two rfl _ _ (w.heap.size + 1) (cellsOf res) rfl _ rfl (HR2.out.setRow _) (size32' HLR.out)) rfl ⟨rfl, below_setRow HB.out _ _ (by omega)⟩

set_option maxHeartbeats 1000000 in
set_option maxRecDepth 100000 in
theorem Climb_no (d : List UInt8) (hd : d.length = 32) (k n : Int) (hk0 : -9223372036854775808 ≤ k) (hk1 : k ≤ 9223372036854775807) (hn0 : -9223372036854775808 ≤ n) (hn1 : n ≤ 9223372036854775807) (m : Nat) (a : Option Addr) (cap : Nat) (w : World)
    (hno : n < 1 ∨ n > 1099511627776 ∨ k < 0 ∨ k ≥ n ∨ m ≠ steps k.toNat n.toNat) :
    Calls Tryd.prog 22 #[dg d, .int .i64 k, .int .i64 n, .slice a m cap] w fun e w' => e = .returned (.tuple #[dg zd, .int .i64 1]) ∧ Below w.heap.size w w' := by
  have HD := Lib.hid hd
  have HRow : Hid (Row ((w.alloc (.cells (cellsOf d).toArray 26)).alloc (.cells z32 26)) (w.heap.size + 1) 26 zb) := row_at 26 zb _ (by simp)
  have HWB := Lib.hid (below2 w (.cells (cellsOf d).toArray 26) (.cells z32 26))
  have HP : Hid (1 ≤ n → n ≤ 1099511627776 → 0 ≤ k → k < n → ∀ W' : World, Calls Tryd.prog 42 #[.int .i64 k, .int .i64 n] W' fun e w' => e = .returned (.int .i64 (steps k.toNat n.toNat : Int)) ∧ W' = w') := fun h1 h2 h3 h4 W' => by
    have := pathLen_call k.toNat n.toNat W' (by omega) (by omega)
    rwa [show ((k.toNat : Nat) : Int) = k by omega, show ((n.toNat : Nat) : Int) = n by omega] at this
  obtain ⟨st, hst⟩ : ∃ st, st = steps k.toNat n.toNat := ⟨_, rfl⟩
  rw [← hst] at HP hno
  have HZ : Hid ((cellsOf zd).toArray = z32) := rfl
  unfold dg
  rw [HZ.out]
  clear hst hd
  by_cases h1 : n < 1
  · clear hno HP
    go_enter Tryd.func22, Tryd.ntmps22
    go_wp2_with (refine wpList_store_row rfl 26 (.tmp 8) (.tmp 33) rfl (w.heap.size + 1) z32 rfl rfl 26 zb.toArray HRow.out info26 rfl (cellsOf_one zd) ?_)
    exact bodyPost_ret (results_two rfl _ _ (w.heap.size + 1) zb rfl _ rfl (HRow.out.setRow _) info26) rfl ⟨rfl, below_setRow HWB.out _ _ (by omega)⟩
  by_cases h2 : n > 1099511627776
  · clear hno HP
    go_enter Tryd.func22, Tryd.ntmps22
    go_wp2_with (refine wpList_store_row rfl 26 (.tmp 8) (.tmp 33) rfl (w.heap.size + 1) z32 rfl rfl 26 zb.toArray HRow.out info26 rfl (cellsOf_one zd) ?_)
    exact bodyPost_ret (results_two rfl _ _ (w.heap.size + 1) zb rfl _ rfl (HRow.out.setRow _) info26) rfl ⟨rfl, below_setRow HWB.out _ _ (by omega)⟩
  by_cases h3 : k < 0
  · clear hno HP
    go_enter Tryd.func22, Tryd.ntmps22
    go_wp2_with (refine wpList_store_row rfl 26 (.tmp 8) (.tmp 33) rfl (w.heap.size + 1) z32 rfl rfl 26 zb.toArray HRow.out info26 rfl (cellsOf_one zd) ?_)
    exact bodyPost_ret (results_two rfl _ _ (w.heap.size + 1) zb rfl _ rfl (HRow.out.setRow _) info26) rfl ⟨rfl, below_setRow HWB.out _ _ (by omega)⟩
  by_cases h4 : k ≥ n
  · clear hno HP
    go_enter Tryd.func22, Tryd.ntmps22
    go_wp2_with (refine wpList_store_row rfl 26 (.tmp 8) (.tmp 33) rfl (w.heap.size + 1) z32 rfl rfl 26 zb.toArray HRow.out info26 rfl (cellsOf_one zd) ?_)
    exact bodyPost_ret (results_two rfl _ _ (w.heap.size + 1) zb rfl _ rfl (HRow.out.setRow _) info26) rfl ⟨rfl, below_setRow HWB.out _ _ (by omega)⟩
  have h5 : ¬ ((m : Int) = (st : Int)) := by omega
  have HP' := Lib.hid (HP.out (by omega) (by omega) (by omega) (by omega))
  clear hno HP
  go_enter Tryd.func22, Tryd.ntmps22
  go_wp2_with (first
    | (go_at_call 42; refine (HP'.out _).mono ?_; rintro e w' ⟨rfl, rfl⟩)
    | (refine wpList_store_row rfl 26 (.tmp 8) (.tmp 33) rfl (w.heap.size + 1) z32 rfl rfl 26 zb.toArray HRow.out info26 rfl (cellsOf_one zd) ?_))
  exact bodyPost_ret (results_two rfl _ _ (w.heap.size + 1) zb rfl _ rfl (HRow.out.setRow _) info26) rfl ⟨rfl, below_setRow HWB.out _ _ (by omega)⟩
end Go.Proofs.YtjibhelahagliaaDoor
