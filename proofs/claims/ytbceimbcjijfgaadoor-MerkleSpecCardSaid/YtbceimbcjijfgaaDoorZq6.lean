/- The words of a block, and those that follow from them: the program's function. -/
import Derived.StillTailTactics
import Derived.IntWalk
import Derived.Test.YtbceimbcjijfgaaDoorZq3
namespace Go.Proofs.YtbceimbcjijfgaaDoor.Dig
open Go.RowKit

/-- a word of which j bytes have been read -/
def pw (l : List UInt8) (i : Nat) : Nat → Nat
  | 0 => 0
  | j + 1 => pw l i j * 256 + (l.getD (4 * i + j) 0).toNat
theorem pw_lt (l : List UInt8) (i : Nat) : ∀ j, pw l i j < 256 ^ j
  | 0 => by simp [pw]
  | j + 1 => by
    have := pw_lt l i j
    have h2 := (l.getD (4 * i + j) 0).toNat_lt
    rw [pw, Nat.pow_succ]; omega
theorem pw_4 (l : List UInt8) (i : Nat) : pw l i 4 = wd l i := by
  unfold wd; simp only [pw, Nat.add_zero]; omega
theorem pw_or (l : List UInt8) (i j : Nat) (hj : j < 4) : bits .or .u32 ((pw l i j : Int) * 256 % 4294967296) (((l[4 * i + j]?.getD 0).toNat : Int) % 4294967296) = (pw l i (j + 1) : Int) := by
  rw [← List.getD_eq_getElem?_getD]
  have h1 := pw_lt l i j
  have h1' : pw l i j < 16777216 := Nat.lt_of_lt_of_le h1 (by rw [show (16777216 : Nat) = 256 ^ 3 from rfl]; exact Nat.pow_le_pow_right (by omega) (by omega))
  have h2 := (l.getD (4 * i + j) 0).toNat_lt
  have e : (pw l i j : Int) * 256 % 4294967296 = ((pw l i j * 256 : Nat) : Int) := by omega
  have e2 : ((l.getD (4 * i + j) 0).toNat : Int) % 4294967296 = (((l.getD (4 * i + j) 0).toNat : Nat) : Int) := by omega
  rw [e, e2, u32_or_nat _ _ (by omega) (by omega), nat_join 8 _ _ (by omega) (by omega)]; rfl

/-- the first i words and noughts -/
def fw (l : List UInt8) (i : Nat) : List Nat := words l i ++ List.replicate (64 - i) 0
def fp (l : List UInt8) (i j : Nat) : List Nat := words l i ++ pw l i j :: List.replicate (63 - i) 0
theorem fp_0 (l : List UInt8) (i : Nat) (h : i < 64) : fp l i 0 = fw l i := by
  unfold fp fw; rw [pw, show 64 - i = (63 - i) + 1 by omega, List.replicate_succ]
theorem fp_4 (l : List UInt8) (i : Nat) (h : i < 64) : fp l i 4 = fw l (i + 1) := by
  unfold fp fw; rw [pw_4, words, List.append_assoc, show 64 - (i + 1) = 63 - i by omega]; rfl
theorem fp_get (l : List UInt8) (i j : Nat) : (fp l i j)[i]? = some (pw l i j) := by
  unfold fp; rw [List.getElem?_append_right (by rw [words_len]; omega), words_len]; simp
theorem fp_set (l : List UInt8) (i j : Nat) : (fp l i j).set i (pw l i (j + 1)) = fp l i (j + 1) := by
  unfold fp; rw [List.set_append_right _ _ (by rw [words_len]; omega), words_len]; simp
def SchHead (w : World) (l : List UInt8) (g : Nat) (s : Value) (wr : World) : Prop := ∃ i : Nat, i ≤ 16 ∧ s = .int .i64 (i : Int) ∧ Row wr g 76 (u32s (fw l i)) ∧ Below w.heap.size w wr
def SchIn (w : World) (l : List UInt8) (g i : Nat) (s : Value) (wr : World) : Prop := ∃ j : Nat, j ≤ 4 ∧ s = .int .i64 (j : Int) ∧ Row wr g 76 (u32s (fp l i j)) ∧ Below w.heap.size w wr

theorem ror_same (v n : Nat) (w : World) (h1 : v < 4294967296) (h2 : 0 < n) (h3 : n < 32) :
    Calls Tryd.prog 51 #[.int .u32 v, .int .i64 n] w fun e w' => e = .returned (.int .u32 (rr n v)) ∧ w' = w :=
  (ror_call v n w h1 h2 h3).mono fun _ _ ⟨h, k⟩ => ⟨h, k.symm⟩

def gw (l : List UInt8) (k : Nat) : List Nat := wl l k ++ List.replicate (48 - k) 0
theorem gw_len (l : List UInt8) (k : Nat) (h : k ≤ 48) : (gw l k).length = 64 := by unfold gw; rw [List.length_append, wl_len]; simp; omega
theorem gw_get (l : List UInt8) (k i : Nat) (h : i < 16 + k) (hk : k ≤ 48) : (u32s (gw l k))[i]? = some (.int .u32 ((wl l k).getD i 0 : Int)) := by
  rw [u32s_get (by rw [gw_len l k hk]; omega), gw]
  simp [List.getElem?_append_left (by rw [wl_len]; omega : i < (wl l k).length)]
theorem gw_set (l : List UInt8) (k : Nat) (hk : k < 48) (n : Nat) (hn : n = nxt (wl l k)) : (u32s (gw l k)).set (16 + k) (.int .u32 (n : Int)) = u32s (gw l (k + 1)) := by
  subst hn
  unfold gw
  rw [wl, show 48 - k = (48 - (k + 1)) + 1 by omega, List.replicate_succ, u32s_append, u32s_append, u32s_append, List.set_append_right _ _ (by rw [u32s_len, wl_len]; omega), u32s_len, wl_len]
  simp [u32s]
theorem wl_at (l : List UInt8) (k i : Nat) : (wl l k).getD i 0 < 4294967296 := by
  rw [List.getD_eq_getElem?_getD]
  cases h : (wl l k)[i]? with
  | none => simp
  | some x => exact wl_lt l k x (List.mem_of_getElem? h)

theorem nxt_at (l : List UInt8) (k : Nat) {x y z u : Nat} (hx : x = (wl l k).getD (16 + k - 15) 0) (hy : y = (wl l k).getD (16 + k - 2) 0) (hz : z = (wl l k).getD (16 + k - 16) 0) (hu : u = (wl l k).getD (16 + k - 7) 0) :
    ((z : Int) + (sg0 x : Int) + (u : Int) + (sg1 y : Int)) % 4294967296 = (nxt (wl l k) : Int) := by
  subst hx hy hz hu
  unfold nxt; rw [wl_len]; omega

def SchHi (w : World) (l : List UInt8) (g : Nat) (s : Value) (wr : World) : Prop := ∃ k : Nat, k ≤ 48 ∧ s = .int .i64 ((16 + k : Nat) : Int) ∧ Row wr g 76 (u32s (gw l k)) ∧ Below w.heap.size w wr

theorem rest_cells {B : Nat} {w : World} {l : List UInt8} {v : Value} (hr : Rest B w l v) (h0 : 0 < l.length) : ∃ b off cap, v = .slice (some ⟨b, off, none⟩) l.length cap ∧ l.length ≤ cap ∧ cap ≤ 9223372036854775807 ∧ b < B ∧ ∀ i, i < l.length → w.cell? ⟨b, off + i, none⟩ = some (.int .u8 ((l.getD i 0).toNat : Int)) := by
  obtain ⟨a, cap, rfl, h2, h3, h4, h5⟩ := hr
  rcases h5 with h5 | ⟨b, off, rfl, hb, hc⟩
  · omega
  · refine ⟨b, off, cap, rfl, h2, h3, hb, fun i hi => ?_⟩
    rw [hc i hi]; simp [hi]

set_option maxHeartbeats 1000000 in
set_option maxRecDepth 100000 in
theorem schedule_call (l : List UInt8) (hl : l.length = 64) (v : Value) (w : World) (hr : Rest w.heap.size w l v) :
    Calls Tryd.prog 50 #[v] w fun e w' => e = .returned (.agg (u32s (wl l 48)).toArray) ∧ Below w.heap.size w w' := by
  obtain ⟨b, off, cap, rfl, hcap, hcap2, hbl, hcs⟩ := rest_cells hr (by omega)
  have HC := Lib.hid hcs
  rw [hl]
  have hcap : 64 ≤ cap := by omega
  clear hcs hr
  go_enter Tryd.func50, Tryd.ntmps50
  go_wp2_with fail
  go_loopw [9] (fun s9 wr => SchHead w l w.heap.size s9 wr) (fun s9 _ => 16 - (intOf s9).toNat)
  case atStart => exact ⟨0, by omega, rfl, row_new w 76 (u32s (fw l 0)), Joins.below_alloc1 w _⟩
  case round =>
    obtain ⟨i, hi, rfl, hrow, hbe⟩ := hrel
    rcases Nat.lt_or_ge i 16 with hlt | hge
    · have HR := Lib.hid hrow
      have HB := Lib.hid hbe
      clear hrow hbe
      have hne : ¬ cap = 4 * i := by omega
      go_wp2_with fail
      go_loopw [20] (fun s20 wr2 => SchIn w l w.heap.size i s20 wr2) (fun s20 _ => 4 - (intOf s20).toNat)
      case atStart => exact ⟨0, by omega, rfl, by rw [fp_0 l i (by omega)]; exact HR.out, HB.out⟩
      case round =>
        obtain ⟨j, hj, rfl, hrow, hbe⟩ := hrel
        have HR2 := Lib.hid hrow
        have HB2 := Lib.hid hbe
        clear hrow hbe
        rcases Nat.lt_or_ge j 4 with hlt2 | hge2
        · have hc : wr.cell? ⟨b, off + 4 * i + j, none⟩ = some (.int .u8 ((l.getD (4 * i + j) 0).toNat : Int)) := by
            rw [Nat.add_assoc]; exact (HB2.out.cell (p := ⟨b, off + (4 * i + j), none⟩) hbl).trans (HC.out _ (by omega))
          have hcr : wr.cell? ⟨w.heap.size, i, none⟩ = some (.int .u32 (pw l i j : Int)) := HR2.out.cell (by simp [u32s, fp_get])
          have hfr : wr.frozen? ⟨w.heap.size, i, none⟩ = false := HR2.out.free i
          have HO := Lib.hid (pw_or l i j hlt2)
          go_wp2_with fail
          go_roundw
          case rel => exact ⟨j + 1, by omega, by go_num, by rw [HO.out]; exact HR2.out.set i _ (by rw [← fp_set l i j]; simp [u32s]), HB2.out.setCell (Nat.le_refl _) _⟩
          case measure => simp [intOf]; omega
        · obtain rfl : j = 4 := by omega
          go_wp2_with fail
          go_roundw
          case rel => exact ⟨i + 1, by omega, by go_num, by rw [← fp_4 l i (by omega)]; exact HR2.out, HB2.out⟩
          case measure => simp [intOf]; omega
    · obtain rfl : i = 16 := by omega
      rw [show ((16 : Nat) : Int) = 16 from rfl]
      obtain ⟨wo, rfl⟩ : ∃ wo : World, wo = wr := ⟨_, rfl⟩
      have HR := Lib.hid hrow
      have HB := Lib.hid hbe
      clear hrow hbe
      go_wp2_with fail
      go_loopw [6] (fun s6 wr2 => SchHi w l w.heap.size s6 wr2) (fun s6 _ => 64 - (intOf s6).toNat)
      case atStart => exact ⟨0, by omega, rfl, by rw [show gw l 0 = fw l 16 from rfl]; exact HR.out, HB.out⟩
      case round =>
        obtain ⟨k, hk, rfl, hrow, hbe⟩ := hrel
        have HR2 := Lib.hid hrow
        have HB2 := Lib.hid hbe
        clear hrow hbe
        rcases Nat.lt_or_ge k 48 with hlt2 | hge2
        · obtain ⟨x, hx⟩ : ∃ x, x = (wl l k).getD (16 + k - 15) 0 := ⟨_, rfl⟩
          obtain ⟨y, hy⟩ : ∃ y, y = (wl l k).getD (16 + k - 2) 0 := ⟨_, rfl⟩
          obtain ⟨z, hz⟩ : ∃ z, z = (wl l k).getD (16 + k - 16) 0 := ⟨_, rfl⟩
          obtain ⟨u, hu⟩ : ∃ u, u = (wl l k).getD (16 + k - 7) 0 := ⟨_, rfl⟩
          have cx : wr.cell? ⟨w.heap.size, 16 + k - 15, none⟩ = some (.int .u32 (x : Int)) := by rw [hx]; exact HR2.out.cell (gw_get l k _ (by omega) hk)
          have cy : wr.cell? ⟨w.heap.size, 16 + k - 2, none⟩ = some (.int .u32 (y : Int)) := by rw [hy]; exact HR2.out.cell (gw_get l k _ (by omega) hk)
          have cz : wr.cell? ⟨w.heap.size, 16 + k - 16, none⟩ = some (.int .u32 (z : Int)) := by rw [hz]; exact HR2.out.cell (gw_get l k _ (by omega) hk)
          have cu : wr.cell? ⟨w.heap.size, 16 + k - 7, none⟩ = some (.int .u32 (u : Int)) := by rw [hu]; exact HR2.out.cell (gw_get l k _ (by omega) hk)
          obtain ⟨nn, hnn⟩ : ∃ nn, nn = gw l k := ⟨_, rfl⟩
          have cs : ∃ q, wr.cell? ⟨w.heap.size, 16 + k, none⟩ = some q := ⟨_, HR2.out.cell (v := .int .u32 ((gw l k).getD (16 + k) 0 : Int)) (u32s_get (by rw [gw_len l k hk]; omega))⟩
          obtain ⟨q, cq⟩ := cs
          have hfr : wr.frozen? ⟨w.heap.size, 16 + k, none⟩ = false := HR2.out.free _
          have lx : x < 4294967296 := by rw [hx]; exact wl_at l k _
          have ly : y < 4294967296 := by rw [hy]; exact wl_at l k _
          have lz : z < 4294967296 := by rw [hz]; exact wl_at l k _
          have lu : u < 4294967296 := by rw [hu]; exact wl_at l k _
          have HX := Lib.hid hx
          have HY := Lib.hid hy
          have HZ := Lib.hid hz
          have HU := Lib.hid hu
          clear hx hy hz hu hnn
          go_wp2_with fail
          go_quiet (fail)
          go_wp2_with fail
          refine wp_region_still_tail 29 (by kernel_rfl) (by kernel_rfl) ?_
          simp only [List.take_succ_cons, List.take_zero, List.drop_succ_cons, List.drop_zero]
          obtain ⟨W2, hW2⟩ : ∃ W2, W2 = (wr.drewN nq).drew := ⟨_, rfl⟩
          obtain ⟨i7, hi7⟩ : ∃ i7, i7 = 16 + k - 7 := ⟨_, rfl⟩
          obtain ⟨i16, hi16⟩ : ∃ i16, i16 = 16 + k - 16 := ⟨_, rfl⟩
          obtain ⟨i0, hi0⟩ : ∃ i0, i0 = 16 + k := ⟨_, rfl⟩
          have e7 : IntKind.i64.wrap ((i0 : Int) - 7) = (i7 : Int) := by rw [IntKind.wrap_i64]; omega
          have e16 : IntKind.i64.wrap ((i0 : Int) - 16) = (i16 : Int) := by rw [IntKind.wrap_i64]; omega
          have e0 : 16 + (k : Int) = (i0 : Int) := by omega
          have b7 : (i7 : Int) < 64 := by omega
          have b16 : (i16 : Int) < 64 := by omega
          have b0 : (i0 : Int) < 64 := by omega
          have c7 : W2.cell? ⟨w.heap.size, i7, none⟩ = some (.int .u32 (u : Int)) := by rw [hW2, hi7]; exact cu
          have c16 : W2.cell? ⟨w.heap.size, i16, none⟩ = some (.int .u32 (z : Int)) := by rw [hW2, hi16]; exact cz
          have c0 : W2.cell? ⟨w.heap.size, i0, none⟩ = some q := by rw [hW2, hi0]; exact cq
          have f0 : W2.frozen? ⟨w.heap.size, i0, none⟩ = false := by rw [hW2, hi0]; exact hfr
          have H7 := Lib.hid hi7
          have H16 := Lib.hid hi16
          have H0 := Lib.hid hi0
          change wpStill Tryd.prog _ ((wr.drewN nq).drew) (fun a' => wpList Tryd.prog _ _ _ a' ((wr.drewN nq).drew)) _ _
          rw [← hW2]
          have HW2 := Lib.hid hW2
          clear hi7 hi16 hi0 hW2 cx cy cz cu cq hfr
          repeat still_step
          still_call (ror_same x 7 _ lx (by omega) (by omega))
          repeat still_step
          still_call (ror_same x 18 _ lx (by omega) (by omega))
          repeat still_step
          still_call (ror_same y 17 _ ly (by omega) (by omega))
          repeat still_step
          still_call (ror_same y 19 _ ly (by omega) (by omega))
          repeat still_step
          refine wpStill_nil ?_
          go_wp2_with fail
          go_roundw
          case rel =>
            have hi0 : i0 = 16 + k := H0.out
            have hW2 : W2 = (wr.drewN nq).drew := HW2.out
            rw [sg0_bits x lx, sg1_bits y ly, nxt_at l k HX.out HY.out HZ.out HU.out]
            have hr2 : Row W2 w.heap.size 76 (u32s (gw l k)) := by rw [hW2]; exact HR2.out
            have hb2 : Below w.heap.size w W2 := by rw [hW2]; exact (below_drewN HB2.out nq).drew
            subst hi0
            exact ⟨k + 1, by omega, by go_num, hr2.set _ _ (gw_set l k hlt2 _ rfl), hb2.setCell (Nat.le_refl _) _⟩
          case measure =>
            have := H0.out
            simp [intOf]; omega
        · obtain rfl : k = 48 := by omega
          go_wp2_with (first | (refine wpList_load_row rfl 76 (.tmp 2) rfl w.heap.size rfl 76 (u32s (gw l 48)).toArray (0, 0) _ HR2.out Tryd.underlying76 rfl (by kernel_rfl) ?_) | (refine wpList_store_row rfl 76 (.tmp 2) (.tmp 76) rfl w.heap.size (u32s (gw l 48)).toArray rfl rfl 76 (u32s (gw l 48)).toArray HR2.out (by kernel_rfl) rfl (u32s_one _) ?_))
          refine bodyPost_ret (results_cell_row rfl _ _ w.heap.size 76 (u32s (gw l 48)).toArray (0, 0) _ rfl (HR2.out.setRow _) Tryd.underlying76 rfl (by kernel_rfl)) rfl ⟨?_, below_setRow HB2.out _ _ (Nat.le_refl _)⟩
          rw [gw, Nat.sub_self, List.replicate_zero, List.append_nil]
end Go.Proofs.YtbceimbcjijfgaaDoor.Dig
