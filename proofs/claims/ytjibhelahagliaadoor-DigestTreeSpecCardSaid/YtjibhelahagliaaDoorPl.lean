/- DigestPlaces: the law's walk. -/
import Derived.Test.YtjibhelahagliaaDoorSt
import Derived.Test.YtjibhelahagliaaDoorT
namespace Go.Proofs.YtjibhelahagliaaDoor
open Go.RowKit

set_option maxHeartbeats 1000000 in
set_option maxRecDepth 100000 in
theorem Climb_no' (d : List UInt8) (hd : d.length = 32) (k n : Int) (m : Nat) (a : Option Addr) (cap : Nat) (w : World)
    (hno : n < 1 ∨ n > 1099511627776 ∨ k < 0 ∨ k ≥ n ∨ m ≠ steps k.toNat n.toNat) :
    Calls Tryd.prog 22 #[dg d, .int .i64 k, .int .i64 n, .slice a m cap] w fun e w' => e = .returned (.tuple #[dg zd, .int .i64 1]) ∧ Below w.heap.size w w' := by
  have HD := Lib.hid hd
  have HRow : Hid (Row ((w.alloc (.cells (cellsOf d).toArray 26)).alloc (.cells z32 26)) (w.heap.size + 1) 26 zb) := row_at 26 zb _ (by simp)
  have HWB := Lib.hid (below2 w (.cells (cellsOf d).toArray 26) (.cells z32 26))
  have HP : Hid (1 ≤ n → n ≤ 1099511627776 → 0 ≤ k → k < n → ∀ W' : World, Calls Tryd.prog 42 #[.int .i64 k, .int .i64 n] W' fun e w' => e = .returned (.int .i64 (steps k.toNat n.toNat : Int)) ∧ W' = w') := fun h1 h2 h3 h4 W' => by
    have := pathLen_call k.toNat n.toNat W' (by omega) (by omega)
    rwa [show ((k.toNat : Nat) : Int) = k by omega, show ((n.toNat : Nat) : Int) = n by omega] at this
  obtain ⟨st, hst⟩ : ∃ st, st = steps k.toNat n.toNat := ⟨_, rfl⟩
  rw [← hst] at HP hno
  have HZ : Hid ((cellsOf zd).toArray = z32) := rfl
  unfold dg
  rw [HZ.out]
  clear hst hd
  by_cases h1 : n < 1
  · clear hno HP
    go_enter Tryd.func22, Tryd.ntmps22
    go_wp2_with (refine wpList_store_row rfl 26 (.tmp 8) (.tmp 33) rfl (w.heap.size + 1) z32 rfl rfl 26 zb.toArray HRow.out info26 rfl (cellsOf_one zd) ?_)
    exact bodyPost_ret (results_two rfl _ _ (w.heap.size + 1) zb rfl _ rfl (HRow.out.setRow _) info26) rfl ⟨rfl, below_setRow HWB.out _ _ (by omega)⟩
  by_cases h2 : n > 1099511627776
  · clear hno HP
    go_enter Tryd.func22, Tryd.ntmps22
    go_wp2_with (refine wpList_store_row rfl 26 (.tmp 8) (.tmp 33) rfl (w.heap.size + 1) z32 rfl rfl 26 zb.toArray HRow.out info26 rfl (cellsOf_one zd) ?_)
    exact bodyPost_ret (results_two rfl _ _ (w.heap.size + 1) zb rfl _ rfl (HRow.out.setRow _) info26) rfl ⟨rfl, below_setRow HWB.out _ _ (by omega)⟩
  by_cases h3 : k < 0
  · clear hno HP
    go_enter Tryd.func22, Tryd.ntmps22
    go_wp2_with (refine wpList_store_row rfl 26 (.tmp 8) (.tmp 33) rfl (w.heap.size + 1) z32 rfl rfl 26 zb.toArray HRow.out info26 rfl (cellsOf_one zd) ?_)
    exact bodyPost_ret (results_two rfl _ _ (w.heap.size + 1) zb rfl _ rfl (HRow.out.setRow _) info26) rfl ⟨rfl, below_setRow HWB.out _ _ (by omega)⟩
  by_cases h4 : k ≥ n
  · clear hno HP
    go_enter Tryd.func22, Tryd.ntmps22
    go_wp2_with (refine wpList_store_row rfl 26 (.tmp 8) (.tmp 33) rfl (w.heap.size + 1) z32 rfl rfl 26 zb.toArray HRow.out info26 rfl (cellsOf_one zd) ?_)
    exact bodyPost_ret (results_two rfl _ _ (w.heap.size + 1) zb rfl _ rfl (HRow.out.setRow _) info26) rfl ⟨rfl, below_setRow HWB.out _ _ (by omega)⟩
  have h5 : ¬ ((m : Int) = (st : Int)) := by omega
  have HP' := Lib.hid (HP.out (by omega) (by omega) (by omega) (by omega))
  clear hno HP
  go_enter Tryd.func22, Tryd.ntmps22
  go_wp2_with (first
    | (go_at_call 42; refine (HP'.out _).mono ?_; rintro e w' ⟨rfl, rfl⟩)
    | (refine wpList_store_row rfl 26 (.tmp 8) (.tmp 33) rfl (w.heap.size + 1) z32 rfl rfl 26 zb.toArray HRow.out info26 rfl (cellsOf_one zd) ?_))
  exact bodyPost_ret (results_two rfl _ _ (w.heap.size + 1) zb rfl _ rfl (HRow.out.setRow _) info26) rfl ⟨rfl, below_setRow HWB.out _ _ (by omega)⟩

def PlHead (W : World) (s62 : Value) (wr : World) : Prop := ∃ i : Nat, i ≤ 4 ∧ s62 = .int .i64 (i : Int) ∧ Below W.heap.size W wr
theorem ints_get (a b c d : Int) (i : Nat) (hi : i < 4) : ∃ x : Int, ([Value.int .i64 a, .int .i64 b, .int .i64 c, .int .i64 d])[i]? = some (.int .i64 x) := by
  match i, hi with
  | 0, _ => exact ⟨a, rfl⟩
  | 1, _ => exact ⟨b, rfl⟩
  | 2, _ => exact ⟨c, rfl⟩
  | 3, _ => exact ⟨d, rfl⟩

set_option maxHeartbeats 4000000 in
set_option maxRecDepth 100000 in
theorem places_walk (hs : Sane) (bs : List UInt8) (v : Value) (k n : Int) (hk0 : -9223372036854775808 ≤ k) (hk1 : k ≤ 9223372036854775807) (hn0 : -9223372036854775808 ≤ n) (hn1 : n ≤ 9223372036854775807)
    (w : World) (hr : Rest w.heap.size w bs v) (hT : Tab w) :
    Calls Tryd.prog 9 #[v, .int .i64 k, .int .i64 n] w fun e w' => e = .returned (.bool true) ∧ Below w.heap.size w w' := by
  have HT := Lib.hid hT
  have HR := Lib.hid hr
  obtain ⟨a, cap, rfl⟩ : ∃ a cap, v = .slice a bs.length cap := by obtain ⟨a, cap, h, _⟩ := hr; exact ⟨a, cap, h⟩
  have HS := Lib.hid (hs w hT)
  clear hs hT hr
  go_enter Tryd.func9, Tryd.ntmps9
  go_wp2_with fail
  refine HS.out.mono ?_
  rintro e w1 ⟨rfl, hb1⟩
  have HB1 := Lib.hid hb1
  have HD := Lib.hid (digestsOf_call bs _ w1 (rest_keep HR.out hb1))
  clear HS hb1
  go_wp2_with fail
  refine HD.out.mono ?_
  rintro e w2 ⟨v3, rfl, hnew⟩
  clear HD
  obtain ⟨ds, hds⟩ : ∃ ds, ds = dgs bs := ⟨_, rfl⟩
  rw [← hds] at hnew
  have hlen : ds.length ≤ 24 := by rw [hds, dgs_len]; omega
  have HB2 := Lib.hid (below_next HB1.out hnew.2.1)
  have HDR := Lib.hid (dbuf_rest hnew.1)
  obtain ⟨a3, c3, rfl⟩ := hnew.shape
  clear hds hnew HB1 HR
  obtain ⟨m, hm⟩ : ∃ m, m = ds.length := ⟨_, rfl⟩
  rw [← hm] at HDR hlen ⊢
  by_cases hin : k < 0 ∨ k ≥ (m : Int)
  · have HP := Lib.hid (Path_no m k hin a3 c3 w2)
    by_cases h0 : k < 0
    · clear hin hm
      go_wp2_with (go_at_call 19; refine HP.out.mono ?_; rintro e w' ⟨rfl, rfl⟩)
      exact bodyPost_ret (results_tmp (p := 6) rfl _ _ (.bool true) rfl) rfl ⟨rfl, HB2.out⟩
    · have h1 : k ≥ (m : Int) := by omega
      clear hin hm
      go_wp2_with (go_at_call 19; refine HP.out.mono ?_; rintro e w' ⟨rfl, rfl⟩)
      exact bodyPost_ret (results_tmp (p := 6) rfl _ _ (.bool true) rfl) rfl ⟨rfl, HB2.out⟩
  · obtain ⟨q, rfl⟩ : ∃ q : Nat, k = (q : Int) := ⟨k.toNat, by omega⟩
    have hq : q < m := by omega
    have h0 : ¬ ((q : Int) < 0) := by omega
    have h1 : ¬ ((q : Int) ≥ (m : Int)) := by omega
    have HP := Lib.hid (Path_ok ds q (by omega) (by omega) _ w2 HDR.out (HT.out.keep HB2.out))
    have HMM := Lib.hid hm
    clear hin hm
    go_wp2_with fail
    refine HP.out.mono ?_
    rintro e w3 ⟨u, rfl, hnew⟩
    clear HP
    obtain ⟨ps, hps⟩ : ∃ ps, ps = path ds q := ⟨_, rfl⟩
    rw [← hps] at hnew
    have hpl : ps.length = steps q m := by rw [hps, HMM.out]; exact path_len _ ds q rfl
    have HB3 := Lib.hid (below_next HB2.out hnew.2.1)
    have HDR3 := Lib.hid (HDR.out.keep hnew.2.1)
    have HPR := Lib.hid (dbuf_rest hnew.1)
    obtain ⟨a4, c4, rfl⟩ := hnew.shape
    obtain ⟨t, ht⟩ : ∃ t, t = ps.length := ⟨_, rfl⟩
    rw [← ht] at hpl HPR ⊢
    have HSt := Lib.hid (steps_call q m w3 hq (by omega))
    rw [← hpl] at HSt
    have ht40 : t ≤ 40 := by rw [hpl]; exact steps_le 40 q m (by omega)
    have HTT := Lib.hid ht
    have HPP := Lib.hid hps
    clear hnew hps hpl ht HDR HB2
    go_wp2_with (go_at_call 24; refine HSt.out.mono ?_; rintro e w' ⟨rfl, rfl⟩)
    obtain ⟨x2, hx2⟩ : ∃ x, x = bits BinOp.and IntKind.i64 n 31 := ⟨_, rfl⟩
    rw [← hx2]
    obtain ⟨W, hW⟩ : ∃ W, W = w3.alloc (.cells #[.int .i64 n, .int .i64 x2, .int .i64 ((m : Int) + 1), .int .i64 (2 * (m : Int))] 3) := ⟨_, rfl⟩
    rw [← hW]
    have HRW : Hid (Row W w3.heap.size 3 [.int .i64 n, .int .i64 x2, .int .i64 ((m : Int) + 1), .int .i64 (2 * (m : Int))]) := by rw [hW]; exact row_new w3 3 _
    have hbW : Below w3.heap.size w3 W := by rw [hW]; exact Joins.below_alloc1 w3 _
    have HBW := Lib.hid (below_next HB3.out hbW)
    have HDW := Lib.hid (HDR3.out.keep hbW)
    have HPW := Lib.hid (HPR.out.keep hbW)
    have HTW := Lib.hid (HT.out.keep HBW.out)
    clear hx2 hW hbW HDR3 HPR HB3 HT HSt
    have hdq : decide ((q : Int) < 0) = false := decide_eq_false (by omega)
    rw [hdq]
    clear hdq
    go_loopw [62] (fun s62 wr => PlHead W s62 wr) (fun s62 _ => 4 - (intOf s62).toNat)
    case atStart => exact ⟨0, by omega, by go_num, Below.refl _ _⟩
    case round =>
      obtain ⟨i, hi, rfl, hbr⟩ := hrel
      have HBR := Lib.hid hbr
      clear hbr
      rcases Nat.lt_or_ge i 4 with hlt | hge
      · obtain ⟨x, hx⟩ := ints_get n x2 ((m : Int) + 1) (2 * (m : Int)) i hlt
        have hcell : wr.cell? ⟨w3.heap.size, i, none⟩ = some (.int .i64 x) := (HRW.out.keep HBR.out).cell hx
        have hi0 : (0 : Int) ≤ (i : Int) := by omega
        have hi4 : (i : Int) < 4 := by omega
        obtain ⟨d, hd⟩ : ∃ d, d = ds.getD q [] := ⟨_, rfl⟩
        have HDRr := Lib.hid (HDW.out.keep HBR.out)
        have hdl : d.length = 32 := by rw [hd]; exact HDW.out.1.get (by rw [← HMM.out]; exact hq)
        obtain ⟨b, off, cap3, he3, hcc, hcc2, hbl, hcd⟩ := HDRr.out.some (by rw [← HMM.out]; omega)
        injection he3 with he3a he3b he3c
        subst he3a he3c
        clear he3b
        have HCL : Hid (∀ j, j < 32 → wr.cell? ⟨b, off + q * 32 + j, none⟩ = some (.int .u8 ((d.getD j 0).toNat : Int))) := fun j hj => by rw [hd]; exact hcd q (by rw [← HMM.out]; exact hq) j hj
        have HDL := Lib.hid hdl
        have hqi : (q : Int) < (m : Int) := h1
        clear hx hd hdl hcc hcc2 hbl hcd HDRr
        by_cases hA : x > (q : Int)
        · by_cases hB : x ≤ 1099511627776
          · obtain ⟨X, rfl⟩ : ∃ X : Nat, x = (X : Int) := ⟨x.toNat, by omega⟩
            have hsx := steps_call q X wr (by omega) (by omega)
            obtain ⟨sx, hsx2⟩ : ∃ sx, sx = steps q X := ⟨_, rfl⟩
            rw [← hsx2] at hsx
            have HSX := Lib.hid hsx
            have hs40 : sx ≤ 40 := by rw [hsx2]; exact steps_le 40 q X (by omega)
            by_cases hE : sx = t
            · subst hE
              have HC := Lib.hid (Climb_ok d HDL.out q X (by omega) (by omega) ps (by rw [← HTT.out]; exact hsx2) _ wr (HPW.out.keep HBR.out) (HTW.out.keep HBR.out))
              clear hsx hsx2
              go_wp2_with (first
                | (refine wpList_load_dig rfl (.tmp 84) rfl b (off + q * 32) rfl d HDL.out HCL.out ?_)
                | (go_at_call 24; refine HSX.out.mono ?_; rintro e w' ⟨rfl, rfl⟩)
                | fail)
              refine HC.out.mono ?_
              rintro e w5 ⟨rfl, hb5⟩
              have HB5 := Lib.hid (below_next HBR.out hb5)
              obtain ⟨z, hz, HZ⟩ : ∃ z, z = climb d q X ps ∧ Hid (z.length = 32) := ⟨_, rfl, climb_len _ _ _ _⟩
              rw [← hz]
              clear hz hb5
              obtain ⟨W5, hW5⟩ : ∃ W, W = (w5.alloc (.cells z32 26)).setRow w5.heap.size (cellsOf z).toArray := ⟨_, rfl⟩
              have hb6 : Below w5.heap.size w5 W5 := by rw [hW5]; exact below_setRow (Joins.below_alloc1 w5 _) _ _ (Nat.le_refl _)
              have HB6 := Lib.hid (below_next HB5.out hb6)
              have HW5 := Lib.hid hW5
              have HR6 : Hid (Row (w5.alloc (.cells z32 26)) w5.heap.size 26 zb) := row_new w5 26 zb
              clear hW5 hb6
              unfold dg
              go_wp2_with (refine wpList_store_row rfl 26 (.tmp 13) (.tmp 90) rfl w5.heap.size (cellsOf z).toArray rfl rfl 26 zb.toArray HR6.out (size32' HZ.out) (by rw [size32 HZ.out]; rfl) (cellsOf_one _) ?_; rw [← HW5.out])
              go_roundw
              case rel => exact ⟨i + 1, by omega, by go_num, HB6.out⟩
              case measure => simp [intOf]; omega
            · have HC := Lib.hid (Climb_no' d HDL.out (q : Int) (X : Int) t a4 c4 wr (.inr (.inr (.inr (.inr (by rw [Int.toNat_natCast, Int.toNat_natCast, ← hsx2]; exact fun h => hE h.symm))))))
              have hE2 : ¬ ((sx : Int) = (t : Int)) := by omega
              clear hsx hsx2 hE
              go_wp2_with (first
                | (refine wpList_load_dig rfl (.tmp 84) rfl b (off + q * 32) rfl d HDL.out HCL.out ?_)
                | (go_at_call 24; refine HSX.out.mono ?_; rintro e w' ⟨rfl, rfl⟩)
                | fail)
              refine HC.out.mono ?_
              rintro e w5 ⟨rfl, hb5⟩
              have HB5 := Lib.hid (below_next HBR.out hb5)
              obtain ⟨z, hz, HZ⟩ : ∃ z, z = zd ∧ Hid (z.length = 32) := ⟨_, rfl, zd_len⟩
              rw [← hz]
              clear hz hb5
              obtain ⟨W5, hW5⟩ : ∃ W, W = (w5.alloc (.cells z32 26)).setRow w5.heap.size (cellsOf z).toArray := ⟨_, rfl⟩
              have hb6 : Below w5.heap.size w5 W5 := by rw [hW5]; exact below_setRow (Joins.below_alloc1 w5 _) _ _ (Nat.le_refl _)
              have HB6 := Lib.hid (below_next HB5.out hb6)
              have HW5 := Lib.hid hW5
              have HR6 : Hid (Row (w5.alloc (.cells z32 26)) w5.heap.size 26 zb) := row_new w5 26 zb
              clear hW5 hb6
              unfold dg
              go_wp2_with (refine wpList_store_row rfl 26 (.tmp 13) (.tmp 90) rfl w5.heap.size (cellsOf z).toArray rfl rfl 26 zb.toArray HR6.out (size32' HZ.out) (by rw [size32 HZ.out]; rfl) (cellsOf_one _) ?_; rw [← HW5.out])
              go_roundw
              case rel => exact ⟨i + 1, by omega, by go_num, HB6.out⟩
              case measure => simp [intOf]; omega
          · have HC := Lib.hid (Climb_no' d HDL.out (q : Int) x t a4 c4 wr (.inr (.inl (by omega))))
            go_wp2_with (first
              | (refine wpList_load_dig rfl (.tmp 84) rfl b (off + q * 32) rfl d HDL.out HCL.out ?_)
              | fail)
            refine HC.out.mono ?_
            rintro e w5 ⟨rfl, hb5⟩
            have HB5 := Lib.hid (below_next HBR.out hb5)
            obtain ⟨z, hz, HZ⟩ : ∃ z, z = zd ∧ Hid (z.length = 32) := ⟨_, rfl, zd_len⟩
            rw [← hz]
            clear hz hb5
            obtain ⟨W5, hW5⟩ : ∃ W, W = (w5.alloc (.cells z32 26)).setRow w5.heap.size (cellsOf z).toArray := ⟨_, rfl⟩
            have hb6 : Below w5.heap.size w5 W5 := by rw [hW5]; exact below_setRow (Joins.below_alloc1 w5 _) _ _ (Nat.le_refl _)
            have HB6 := Lib.hid (below_next HB5.out hb6)
            have HW5 := Lib.hid hW5
            have HR6 : Hid (Row (w5.alloc (.cells z32 26)) w5.heap.size 26 zb) := row_new w5 26 zb
            clear hW5 hb6
            unfold dg
            go_wp2_with (refine wpList_store_row rfl 26 (.tmp 13) (.tmp 90) rfl w5.heap.size (cellsOf z).toArray rfl rfl 26 zb.toArray HR6.out (size32' HZ.out) (by rw [size32 HZ.out]; rfl) (cellsOf_one _) ?_; rw [← HW5.out])
            go_roundw
            case rel => exact ⟨i + 1, by omega, by go_num, HB6.out⟩
            case measure => simp [intOf]; omega
        · have HC := Lib.hid (Climb_no' d HDL.out (q : Int) x t a4 c4 wr (.inr (.inr (.inr (.inl (by omega))))))
          go_wp2_with (first
            | (refine wpList_load_dig rfl (.tmp 84) rfl b (off + q * 32) rfl d HDL.out HCL.out ?_)
            | fail)
          refine HC.out.mono ?_
          rintro e w5 ⟨rfl, hb5⟩
          have HB5 := Lib.hid (below_next HBR.out hb5)
          obtain ⟨z, hz, HZ⟩ : ∃ z, z = zd ∧ Hid (z.length = 32) := ⟨_, rfl, zd_len⟩
          rw [← hz]
          clear hz hb5
          obtain ⟨W5, hW5⟩ : ∃ W, W = (w5.alloc (.cells z32 26)).setRow w5.heap.size (cellsOf z).toArray := ⟨_, rfl⟩
          have hb6 : Below w5.heap.size w5 W5 := by rw [hW5]; exact below_setRow (Joins.below_alloc1 w5 _) _ _ (Nat.le_refl _)
          have HB6 := Lib.hid (below_next HB5.out hb6)
          have HW5 := Lib.hid hW5
          have HR6 : Hid (Row (w5.alloc (.cells z32 26)) w5.heap.size 26 zb) := row_new w5 26 zb
          clear hW5 hb6
          unfold dg
          go_wp2_with (refine wpList_store_row rfl 26 (.tmp 13) (.tmp 90) rfl w5.heap.size (cellsOf z).toArray rfl rfl 26 zb.toArray HR6.out (size32' HZ.out) (by rw [size32 HZ.out]; rfl) (cellsOf_one _) ?_; rw [← HW5.out])
          go_roundw
          case rel => exact ⟨i + 1, by omega, by go_num, HB6.out⟩
          case measure => simp [intOf]; omega
      · obtain rfl : i = 4 := by omega
        go_wp2_with fail
        go_ret
        exact ⟨rfl, below_next HBW.out HBR.out⟩
end Go.Proofs.YtjibhelahagliaaDoor
