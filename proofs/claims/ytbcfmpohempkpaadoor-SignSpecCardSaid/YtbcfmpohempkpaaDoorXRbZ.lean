/- What a block does to the state: the reference's function. -/
import Derived.Test.YtbcfmpohempkpaaDoorXRcZ
import Derived.Deep.RegionLaw
import Derived.Deep.RegionHeld
import Derived.BigRegion
import Derived.Deep.RegionHeld3
namespace Go.Proofs.YtbcfmpohempkpaaDoor.Dig
open Go.RowKit

theorem fw_set (l : List UInt8) (i : Nat) (h : i < 64) (x : Nat) (hx : x = pw l i 4) : (u32s (fw l i)).set i (.int .u32 (x : Int)) = u32s (fw l (i + 1)) := by
  subst hx
  have e : (fw l i).set i (pw l i 4) = fw l (i + 1) := by
    rw [← fp_4 l i h, ← fp_0 l i h]
    unfold fp
    rw [List.set_append_right _ _ (by rw [words_len]; omega), words_len]; simp
  rw [← e]
  simp [u32s]
theorem refror_any (v : Nat) (x : Int) (w : World) (h1 : v < 4294967296) (h2 : 0 < x) (h3 : x < 32) :
    Calls Tryd.prog 87 #[.int .u32 v, .int .i64 x] w fun e w' => e = .returned (.int .u32 (rr x.toNat v)) ∧ ∃ k, w' = w.drewN k := by
  have h := refror_call v x.toNat w h1 (by omega) (by omega)
  rwa [Int.toNat_of_nonneg (by omega)] at h
def BkHead (w : World) (l : List UInt8) (g gs gr : Nat) (st : St) (s : Value) (wr : World) : Prop := ∃ i : Nat, i ≤ 16 ∧ s = .int .i64 (i : Int) ∧ Row wr g 97 (u32s (fw l i)) ∧ Row wr gs 90 (u32s st.list) ∧ Row wr gr 90 (u32s (List.replicate 8 0)) ∧ Below w.heap.size w wr
def BkHi (w : World) (l : List UInt8) (g gs gr : Nat) (st : St) (s : Value) (wr : World) : Prop := ∃ k : Nat, k ≤ 48 ∧ s = .int .i64 ((16 + k : Nat) : Int) ∧ Row wr g 97 (u32s (gw l k)) ∧ Row wr gs 90 (u32s st.list) ∧ Row wr gr 90 (u32s (List.replicate 8 0)) ∧ Below w.heap.size w wr
theorem und58 : Tryd.prog.underlying 90 = some (.array 8 89) := by kernel_rfl
theorem info90 : (Tryd.prog.info? 90).map (·.size) = some 8 := by kernel_rfl

theorem Row.setOther' {w : World} {g g' T i : Nat} {cs : List Value} {v : Value} (h : Row w g T cs) (hne : g ≠ g') {n : Nat} : Row ((w.drewN n).setCell ⟨g', i, none⟩ v) g T cs := (Below.heap_setCell (w.drewN n) ⟨g', i, none⟩ v g hne).trans h
theorem Like.rowSet {W wr : World} {g g' T i : Nat} {cs : List Value} {v : Value} (h : Like W wr) (k : Row W g T cs) (hne : g ≠ g') : Row (wr.setCell ⟨g', i, none⟩ v) g T cs := (Below.heap_setCell wr ⟨g', i, none⟩ v g hne).trans (h.row k)
theorem Like.belowSet {w W wr : World} {g' i : Nat} {v : Value} (h : Like W wr) (hb : Below w.heap.size w W) (hg : w.heap.size ≤ g') : Below w.heap.size w (wr.setCell ⟨g', i, none⟩ v) := by
  obtain ⟨n, rfl⟩ := h
  exact (below_drewN hb n).setCell hg _
set_option maxHeartbeats 8000000 in
set_option maxRecDepth 100000 in
theorem refblock_call (s : St) (hs : s.ok) (l : List UInt8) (hl : l.length = 64) (v : Value) (w : World) (hr : Rest w.heap.size w l v) :
    Calls Tryd.prog 79 #[.agg (u32s s.list).toArray, v] w fun e w' => e = .returned (.agg (u32s (blockF s l).list).toArray) ∧ Below w.heap.size w w' := by
  obtain ⟨b, off, cap, rfl, hcap, hcap2, hbl, hcs⟩ := rest_cells hr (by omega)
  have HC := Lib.hid hcs
  rw [hl]
  have hcap : 64 ≤ cap := by omega
  have HB0 := Lib.hid (Below.refl w.heap.size w)
  clear hcs hr
  go_enter Tryd.func79, Tryd.ntmps79
  go_wp2_with (first
    | (refine wpList_box_u rfl 2 rfl (.tmp 0) rfl (u32s s.list) rfl ?_; intro gs w1 hg hrow hb; have HS := Lib.hid hrow; have HB0 := Lib.hid (below_next HB0.out hb); have hgs : w.heap.size ≤ gs := (by omega); clear hg hrow hb)
    | (refine wpList_alloc_u rfl 4 rfl rfl (u32s (List.replicate 8 0)) (by kernel_rfl) ?_; intro gr w2 hg hrow hb; have HRR := Lib.hid hrow; have HS := Lib.hid (HS.out.keep hb); have hgr : w.heap.size ≤ gr := (by have := HB0.out.size; omega); have HB0 := Lib.hid (below_next HB0.out hb); clear hg hrow hb)
    | (refine wpList_value 97 ⟨_, rfl⟩ rfl (.agg z64.toArray) (by kernel_rfl) ?_)
    | (refine wpList_alloc_u rfl 5 rfl rfl z64 (by kernel_rfl) ?_; intro g5 w3 hg hrow hb; have H5 := Lib.hid hrow; have hsg : gs ≠ g5 := (by have := HS.out.lt; omega); have hrg : gr ≠ g5 := (by have := HRR.out.lt; omega); have HS := Lib.hid (HS.out.keep hb); have HRR := Lib.hid (HRR.out.keep hb); have hg5 : w.heap.size ≤ g5 := (by have := HB0.out.size; omega); have HB0 := Lib.hid (below_next HB0.out hb); clear hg hrow hb)
    | (refine wpList_store_u rfl (.tmp 5) (.tmp 22) rfl g5 z64 z64 rfl rfl H5.out (by kernel_rfl) rfl (u32s_one _) HB0.out hg5 ?_; intro w4 hrow hb hoth; have H5 := Lib.hid hrow; have HS := Lib.hid (hoth _ _ _ hsg HS.out); have HRR := Lib.hid (hoth _ _ _ hrg HRR.out); have HB0 := Lib.hid hb; clear hrow hb hoth)
    | fail)
  go_loopw [6] (fun s6 wr => BkHead w l g5 gs gr s s6 wr) (fun s6 _ => 16 - (intOf s6).toNat)
  case atStart => exact ⟨0, by omega, by go_num, H5.out, HS.out, HRR.out, HB0.out⟩
  case round =>
    obtain ⟨i, hi, rfl, hrow, hrs, hrr, hbe⟩ := hrel
    have HR := Lib.hid hrow
    have HRs := Lib.hid hrs
    have HRr := Lib.hid hrr
    have HB := Lib.hid hbe
    clear hrow hrs hrr hbe
    rcases Nat.lt_or_ge i 16 with hlt | hge
    · have hne : ¬ cap = 4 * i := by omega
      have HW4 := Lib.hid (fun (j : Nat) (hj : j < 4) => show wr.cell? ⟨b, off + 4 * i + j, none⟩ = some (.int .u8 ((l.getD (4 * i + j) 0).toNat : Int)) by
        rw [Nat.add_assoc]; exact (HB.out.cell (p := ⟨b, off + (4 * i + j), none⟩) hbl).trans (HC.out _ (by omega)))
      have hcr : wr.cell? ⟨g5, i, none⟩ = some (.int .u32 ((fw l i).getD i 0 : Int)) := HR.out.cell (u32s_get (by rw [fw, List.length_append, words_len, List.length_replicate]; omega))
      have hfr : wr.frozen? ⟨g5, i, none⟩ = false := HR.out.free i
      have hcap4 : 4 ≤ cap - 4 * i := by omega
      go_wp2_with fail
      refine (refword_call l i b (off + 4 * i) (cap - 4 * i) hcap4 wr HW4.out).mono ?_
      rintro e w5 ⟨rfl, kq, rfl⟩
      obtain ⟨pv, hpv⟩ : ∃ pv, pv = pw l i 4 := ⟨_, rfl⟩
      rw [← hpv]
      have HPV := Lib.hid hpv
      clear hpv
      go_wp2_with fail
      go_roundw
      case rel => exact ⟨i + 1, by omega, by go_num, (show Row (wr.drewN kq) g5 97 (u32s (fw l i)) from HR.out).set i _ (fw_set l i (by omega) _ HPV.out), HRs.out.setOther' hsg, HRr.out.setOther' hrg, (below_drewN HB.out kq).setCell hg5 _⟩
      case measure => simp [intOf]; omega
    · obtain rfl : i = 16 := by omega
      rw [show ((16 : Nat) : Int) = 16 from rfl]
      obtain ⟨wo, rfl⟩ : ∃ wo : World, wo = wr := ⟨_, rfl⟩
      go_wp2_with fail
      go_loopw [7] (fun s7 wr => BkHi w l g5 gs gr s s7 wr) (fun s7 _ => 64 - (intOf s7).toNat)
      case atStart => exact ⟨0, by omega, rfl, by rw [show gw l 0 = fw l 16 from rfl]; exact HR.out, HRs.out, HRr.out, HB.out⟩
      case round =>
        obtain ⟨k, hk, rfl, hrow, hrs, hrr, hbe⟩ := hrel
        have HR2 := Lib.hid hrow
        have HRs2 := Lib.hid hrs
        have HRr2 := Lib.hid hrr
        have HB2 := Lib.hid hbe
        clear hrow hrs hrr hbe
        rcases Nat.lt_or_ge k 48 with hlt2 | hge2
        · obtain ⟨x, hx⟩ : ∃ x, x = (wl l k).getD (16 + k - 15) 0 := ⟨_, rfl⟩
          obtain ⟨y, hy⟩ : ∃ y, y = (wl l k).getD (16 + k - 2) 0 := ⟨_, rfl⟩
          obtain ⟨z, hz⟩ : ∃ z, z = (wl l k).getD (16 + k - 16) 0 := ⟨_, rfl⟩
          obtain ⟨u, hu⟩ : ∃ u, u = (wl l k).getD (16 + k - 7) 0 := ⟨_, rfl⟩
          have cx : wr.cell? ⟨g5, 16 + k - 15, none⟩ = some (.int .u32 (x : Int)) := by rw [hx]; exact HR2.out.cell (gw_get l k _ (by omega) hk)
          have cy : wr.cell? ⟨g5, 16 + k - 2, none⟩ = some (.int .u32 (y : Int)) := by rw [hy]; exact HR2.out.cell (gw_get l k _ (by omega) hk)
          have lx : x < 4294967296 := by rw [hx]; exact wl_at l k _
          have ly : y < 4294967296 := by rw [hy]; exact wl_at l k _
          have lz : z < 4294967296 := by rw [hz]; exact wl_at l k _
          have lu : u < 4294967296 := by rw [hu]; exact wl_at l k _
          obtain ⟨i7, hi7⟩ : ∃ i7, i7 = 16 + k - 7 := ⟨_, rfl⟩
          obtain ⟨i16, hi16⟩ : ∃ i16, i16 = 16 + k - 16 := ⟨_, rfl⟩
          obtain ⟨i0, hi0⟩ : ∃ i0, i0 = 16 + k := ⟨_, rfl⟩
          have HX := Lib.hid hx
          have HY := Lib.hid hy
          have HZ := Lib.hid hz
          have HU := Lib.hid hu
          have C7 : Hid (CellAt (fun w' => ∀ j, j ≠ i0 → w'.cell? ⟨g5, j, none⟩ = wr.cell? ⟨g5, j, none⟩) g5 i7 u) := fun W' h => (h i7 (by omega)).trans (by rw [hi7, hu]; exact HR2.out.cell (gw_get l k _ (by omega) hk))
          have C16 : Hid (CellAt (fun w' => ∀ j, j ≠ i0 → w'.cell? ⟨g5, j, none⟩ = wr.cell? ⟨g5, j, none⟩) g5 i16 z) := fun W' h => (h i16 (by omega)).trans (by rw [hi16, hz]; exact HR2.out.cell (gw_get l k _ (by omega) hk))
          have C0 : Hid (∀ W' : World, Like wr W' → (∃ q, W'.cell? ⟨g5, i0, none⟩ = some q) ∧ W'.frozen? ⟨g5, i0, none⟩ = false) := fun W' h =>
            ⟨⟨_, (h.row HR2.out).cell (v := .int .u32 ((gw l k).getD i0 0 : Int)) (u32s_get (by rw [gw_len l k hk]; omega))⟩, (h.row HR2.out).free i0⟩
          have HSL : Hid (∀ W' : World, Like wr W' → ∀ j, j ≠ i0 → W'.cell? ⟨g5, j, none⟩ = wr.cell? ⟨g5, j, none⟩) := fun W' h j _ => h.cell _
          have H7 := Lib.hid hi7
          have H16 := Lib.hid hi16
          have H0 := Lib.hid hi0
          clear hi7 hi16 hi0
          clear hx hy hz hu
          go_wp2_with fail
          have hi7 := H7.out
          have hi16 := H16.out
          have hi0 := H0.out
          have e7 : IntKind.i64.wrap ((i0 : Int) - 7) = (i7 : Int) := by rw [IntKind.wrap_i64]; omega
          have e16 : IntKind.i64.wrap ((i0 : Int) - 16) = (i16 : Int) := by rw [IntKind.wrap_i64]; omega
          have e0 : 16 + (k : Int) = (i0 : Int) := by omega
          have b7 : (i7 : Int) < 64 := by omega
          have b16 : (i16 : Int) < 64 := by omega
          have b0 : (i0 : Int) < 64 := by omega
          clear hi7 hi16 hi0 cx cy
          refine' cut1 (F := fun (w' : World) => ∃ wl, Like wr wl ∧ w' = wl.setCell ⟨g5, i0, none⟩ (.int .u32 (IntKind.u32.wrap (IntKind.u32.wrap (IntKind.u32.wrap ((z : Int) + bits BinOp.xor IntKind.u32 (bits BinOp.xor IntKind.u32 (rr 7 x : Int) (rr 18 x : Int)) ((x : Int) / 8)) + (u : Int)) + bits BinOp.xor IntKind.u32 (bits BinOp.xor IntKind.u32 (rr 17 y : Int) (rr 19 y : Int)) ((y : Int) / 1024))))) _ ?rest ?kk
          case rest =>
            intro K
            (refine wp_region_held_drew (S := fun w' => ∀ j, j ≠ i0 → w'.cell? ⟨g5, j, none⟩ = wr.cell? ⟨g5, j, none⟩) (by kernel_rfl) (fun j _ => rfl) (fun hHeld => ?_))
            (obtain ⟨w0, hw0⟩ : ∃ x, x = wr.drew := ⟨_, rfl⟩; rw [← hw0] at hHeld ⊢; have HB0 := Lib.hid hHeld; have HL : Hid (Like wr w0) := ⟨1, hw0⟩; clear hHeld hw0)
            refine wpAnyH_take (i := 0) (oi := { dst := some 49, op := Op.move (Operand.tmp 7), type := 3, pos := "ref.go:36", after := #[], guard := none }) (v := ?_) rfl (by kernel_rfl) (by kernel_rfl) (by kernel_rfl) (fun _ _ _ h => h) (Or.inl ⟨by rfl, ?_⟩) HB0.out ?_
            rotate_left
            · (intro w _; go_simp; with_reducible rfl)
            try simp only [Act.put, List.setIfInBounds_toArray, List.set_cons_zero, List.set_cons_succ]
            refine wpAnyH_take (i := 1) (oi := { dst := some 50, op := Op.move (Operand.tmp 7), type := 3, pos := "ref.go:36", after := #[], guard := none }) (v := ?_) rfl (by kernel_rfl) (by kernel_rfl) (by kernel_rfl) (fun _ _ _ h => h) (Or.inl ⟨by rfl, ?_⟩) HB0.out ?_
            rotate_left
            · (intro w _; go_simp; with_reducible rfl)
            try simp only [Act.put, List.setIfInBounds_toArray, List.set_cons_zero, List.set_cons_succ]
            refine wpAnyH_take (i := 2) (oi := { dst := some 51, op := Op.binOp BinOp.sub 3 (Operand.tmp 50) (Operand.const (Value.int IntKind.i64 16)) 3, type := 3, pos := "ref.go:36", after := #[{ on := 1, ground := Ground.data }], guard := none }) (v := ?_) rfl (by kernel_rfl) (by kernel_rfl) (by kernel_rfl) (fun _ _ _ h => h) (Or.inl ⟨by rfl, ?_⟩) HB0.out ?_
            rotate_left
            · (intro w _; go_simp; with_reducible rfl)
            try simp only [Act.put, List.setIfInBounds_toArray, List.set_cons_zero, List.set_cons_succ]
            refine wpAnyH_take (i := 3) (oi := { dst := some 52, op := Op.indexAddr 97 (Operand.tmp 5) (Operand.tmp 51), type := 0, pos := "ref.go:36", after := #[{ on := 2, ground := Ground.data }], guard := none }) (v := ?_) rfl (by kernel_rfl) (by kernel_rfl) (by kernel_rfl) (fun _ _ _ h => h) (Or.inl ⟨by rfl, ?_⟩) HB0.out ?_
            rotate_left
            · (intro w _; go_simp; with_reducible rfl)
            try simp only [Act.put, List.setIfInBounds_toArray, List.set_cons_zero, List.set_cons_succ]
            refine wpAnyH_take (i := 5) (oi := { dst := some 54, op := Op.move (Operand.tmp 8), type := 89, pos := "ref.go:36", after := #[], guard := none }) (v := ?_) rfl (by kernel_rfl) (by kernel_rfl) (by kernel_rfl) (fun _ _ _ h => h) (Or.inl ⟨by rfl, ?_⟩) HB0.out ?_
            rotate_left
            · (intro w _; go_simp; with_reducible rfl)
            try simp only [Act.put, List.setIfInBounds_toArray, List.set_cons_zero, List.set_cons_succ]
            refine wpAnyH_take (i := 7) (oi := { dst := some 56, op := Op.move (Operand.tmp 8), type := 89, pos := "ref.go:36", after := #[], guard := none }) (v := ?_) rfl (by kernel_rfl) (by kernel_rfl) (by kernel_rfl) (fun _ _ _ h => h) (Or.inl ⟨by rfl, ?_⟩) HB0.out ?_
            rotate_left
            · (intro w _; go_simp; with_reducible rfl)
            try simp only [Act.put, List.setIfInBounds_toArray, List.set_cons_zero, List.set_cons_succ]
            refine wpAnyH_take (i := 10) (oi := { dst := some 59, op := Op.move (Operand.tmp 8), type := 89, pos := "ref.go:36", after := #[], guard := none }) (v := ?_) rfl (by kernel_rfl) (by kernel_rfl) (by kernel_rfl) (fun _ _ _ h => h) (Or.inl ⟨by rfl, ?_⟩) HB0.out ?_
            rotate_left
            · (intro w _; go_simp; with_reducible rfl)
            try simp only [Act.put, List.setIfInBounds_toArray, List.set_cons_zero, List.set_cons_succ]
            refine wpAnyH_take (i := 11) (oi := { dst := some 60, op := Op.binOp BinOp.shr 89 (Operand.tmp 59) (Operand.const (Value.int IntKind.u64 3)) 61, type := 89, pos := "ref.go:36", after := #[{ on := 10, ground := Ground.data }], guard := none }) (v := ?_) rfl (by kernel_rfl) (by kernel_rfl) (by kernel_rfl) (fun _ _ _ h => h) (Or.inl ⟨by rfl, ?_⟩) HB0.out ?_
            rotate_left
            · (intro w _; go_simp; with_reducible rfl)
            try simp only [Act.put, List.setIfInBounds_toArray, List.set_cons_zero, List.set_cons_succ]
            refine wpAnyH_take (i := 14) (oi := { dst := some 63, op := Op.move (Operand.tmp 7), type := 3, pos := "ref.go:36", after := #[], guard := none }) (v := ?_) rfl (by kernel_rfl) (by kernel_rfl) (by kernel_rfl) (fun _ _ _ h => h) (Or.inl ⟨by rfl, ?_⟩) HB0.out ?_
            rotate_left
            · (intro w _; go_simp; with_reducible rfl)
            try simp only [Act.put, List.setIfInBounds_toArray, List.set_cons_zero, List.set_cons_succ]
            refine wpAnyH_take (i := 15) (oi := { dst := some 64, op := Op.binOp BinOp.sub 3 (Operand.tmp 63) (Operand.const (Value.int IntKind.i64 7)) 3, type := 3, pos := "ref.go:36", after := #[{ on := 14, ground := Ground.data }], guard := none }) (v := ?_) rfl (by kernel_rfl) (by kernel_rfl) (by kernel_rfl) (fun _ _ _ h => h) (Or.inl ⟨by rfl, ?_⟩) HB0.out ?_
            rotate_left
            · (intro w _; go_simp; with_reducible rfl)
            try simp only [Act.put, List.setIfInBounds_toArray, List.set_cons_zero, List.set_cons_succ]
            refine wpAnyH_take (i := 16) (oi := { dst := some 65, op := Op.indexAddr 97 (Operand.tmp 5) (Operand.tmp 64), type := 0, pos := "ref.go:36", after := #[{ on := 15, ground := Ground.data }], guard := none }) (v := ?_) rfl (by kernel_rfl) (by kernel_rfl) (by kernel_rfl) (fun _ _ _ h => h) (Or.inl ⟨by rfl, ?_⟩) HB0.out ?_
            rotate_left
            · (intro w _; go_simp; with_reducible rfl)
            try simp only [Act.put, List.setIfInBounds_toArray, List.set_cons_zero, List.set_cons_succ]
            refine wpAnyH_take (i := 19) (oi := { dst := some 68, op := Op.move (Operand.tmp 9), type := 89, pos := "ref.go:36", after := #[], guard := none }) (v := ?_) rfl (by kernel_rfl) (by kernel_rfl) (by kernel_rfl) (fun _ _ _ h => h) (Or.inl ⟨by rfl, ?_⟩) HB0.out ?_
            rotate_left
            · (intro w _; go_simp; with_reducible rfl)
            try simp only [Act.put, List.setIfInBounds_toArray, List.set_cons_zero, List.set_cons_succ]
            refine wpAnyH_take (i := 21) (oi := { dst := some 70, op := Op.move (Operand.tmp 9), type := 89, pos := "ref.go:36", after := #[], guard := none }) (v := ?_) rfl (by kernel_rfl) (by kernel_rfl) (by kernel_rfl) (fun _ _ _ h => h) (Or.inl ⟨by rfl, ?_⟩) HB0.out ?_
            rotate_left
            · (intro w _; go_simp; with_reducible rfl)
            try simp only [Act.put, List.setIfInBounds_toArray, List.set_cons_zero, List.set_cons_succ]
            refine wpAnyH_take (i := 24) (oi := { dst := some 73, op := Op.move (Operand.tmp 9), type := 89, pos := "ref.go:36", after := #[], guard := none }) (v := ?_) rfl (by kernel_rfl) (by kernel_rfl) (by kernel_rfl) (fun _ _ _ h => h) (Or.inl ⟨by rfl, ?_⟩) HB0.out ?_
            rotate_left
            · (intro w _; go_simp; with_reducible rfl)
            try simp only [Act.put, List.setIfInBounds_toArray, List.set_cons_zero, List.set_cons_succ]
            refine wpAnyH_take (i := 25) (oi := { dst := some 74, op := Op.binOp BinOp.shr 89 (Operand.tmp 73) (Operand.const (Value.int IntKind.u64 10)) 61, type := 89, pos := "ref.go:36", after := #[{ on := 24, ground := Ground.data }], guard := none }) (v := ?_) rfl (by kernel_rfl) (by kernel_rfl) (by kernel_rfl) (fun _ _ _ h => h) (Or.inl ⟨by rfl, ?_⟩) HB0.out ?_
            rotate_left
            · (intro w _; go_simp; with_reducible rfl)
            try simp only [Act.put, List.setIfInBounds_toArray, List.set_cons_zero, List.set_cons_succ]
            refine take_u (i := 4) (oi := { dst := some 53, op := Op.load 89 (Operand.tmp 52), type := 89, pos := "ref.go:36", after := #[{ on := 3, ground := Ground.data }], guard := none }) C16.out rfl (by kernel_rfl) (by kernel_rfl) (by kernel_rfl) (fun _ _ _ h => h) HB0.out rfl rfl (by rfl) ?_
            try simp only [Act.put, List.setIfInBounds_toArray, List.set_cons_zero, List.set_cons_succ]
            refine take_u (i := 17) (oi := { dst := some 66, op := Op.load 89 (Operand.tmp 65), type := 89, pos := "ref.go:36", after := #[{ on := 16, ground := Ground.data }], guard := none }) C7.out rfl (by kernel_rfl) (by kernel_rfl) (by kernel_rfl) (fun _ _ _ h => h) HB0.out rfl rfl (by rfl) ?_
            try simp only [Act.put, List.setIfInBounds_toArray, List.set_cons_zero, List.set_cons_succ]
            refine wpAnyH_ready (rs := [6]) (by kernel_rfl) (by simp) ?_
            refine AllReadyH.cons (o := { dst := some 55, op := Op.call { callee := Callee.value (Operand.func 87), args := #[Operand.tmp 54, Operand.const (Value.int IntKind.i64 7)], argTypes := #[89, 3] }, type := 89, pos := "ref.go:36", after := #[{ on := 5, ground := Ground.data }], guard := none }) rfl (fun K hK => ?_) ?_
            · rw [if_pos (by rfl)]
              go_simp
              go_wp2_with ((go_at_call 87; with_reducible refine (refror_any x _ _ lx (by omega) (by omega)).mono ?_; rintro e w5 ⟨rfl, hk⟩; have HL := Lib.hid (like_draw HL.out hk); have HB0 := Lib.hid (HSL.out _ HL.out); clear hk))
              refine hK.out _ _ HB0.out (fun _ => ?_)
              clear hK K
              try simp only [Act.put, List.setIfInBounds_toArray, List.set_cons_zero, List.set_cons_succ]
              refine wpAnyH_ready (rs := [8]) (by kernel_rfl) (by simp) ?_
              refine AllReadyH.cons (o := { dst := some 57, op := Op.call { callee := Callee.value (Operand.func 87), args := #[Operand.tmp 56, Operand.const (Value.int IntKind.i64 18)], argTypes := #[89, 3] }, type := 89, pos := "ref.go:36", after := #[{ on := 7, ground := Ground.data }, { on := 6, ground := Ground.chain }], guard := none }) rfl (fun K hK => ?_) ?_
              · rw [if_pos (by rfl)]
                go_simp
                go_wp2_with ((go_at_call 87; with_reducible refine (refror_any x _ _ lx (by omega) (by omega)).mono ?_; rintro e w5 ⟨rfl, hk⟩; have HL := Lib.hid (like_draw HL.out hk); have HB0 := Lib.hid (HSL.out _ HL.out); clear hk))
                refine hK.out _ _ HB0.out (fun _ => ?_)
                clear hK K
                try simp only [Act.put, List.setIfInBounds_toArray, List.set_cons_zero, List.set_cons_succ]
                refine wpAnyH_take (i := 9) (oi := { dst := some 58, op := Op.binOp BinOp.xor 89 (Operand.tmp 55) (Operand.tmp 57) 89, type := 89, pos := "ref.go:36", after := #[{ on := 6, ground := Ground.data }, { on := 8, ground := Ground.data }], guard := none }) (v := ?_) rfl (by kernel_rfl) (by kernel_rfl) (by kernel_rfl) (fun _ _ _ h => h) (Or.inl ⟨by rfl, ?_⟩) HB0.out ?_
                rotate_left
                · (intro w _; go_simp; with_reducible rfl)
                try simp only [Act.put, List.setIfInBounds_toArray, List.set_cons_zero, List.set_cons_succ]
                refine wpAnyH_take (i := 12) (oi := { dst := some 61, op := Op.binOp BinOp.xor 89 (Operand.tmp 58) (Operand.tmp 60) 89, type := 89, pos := "ref.go:36", after := #[{ on := 9, ground := Ground.data }, { on := 11, ground := Ground.data }], guard := none }) (v := ?_) rfl (by kernel_rfl) (by kernel_rfl) (by kernel_rfl) (fun _ _ _ h => h) (Or.inl ⟨by rfl, ?_⟩) HB0.out ?_
                rotate_left
                · (intro w _; go_simp; with_reducible rfl)
                try simp only [Act.put, List.setIfInBounds_toArray, List.set_cons_zero, List.set_cons_succ]
                refine wpAnyH_take (i := 13) (oi := { dst := some 62, op := Op.binOp BinOp.add 89 (Operand.tmp 53) (Operand.tmp 61) 89, type := 89, pos := "ref.go:36", after := #[{ on := 4, ground := Ground.data }, { on := 12, ground := Ground.data }], guard := none }) (v := ?_) rfl (by kernel_rfl) (by kernel_rfl) (by kernel_rfl) (fun _ _ _ h => h) (Or.inl ⟨by rfl, ?_⟩) HB0.out ?_
                rotate_left
                · (intro w _; go_simp; with_reducible rfl)
                try simp only [Act.put, List.setIfInBounds_toArray, List.set_cons_zero, List.set_cons_succ]
                refine wpAnyH_take (i := 18) (oi := { dst := some 67, op := Op.binOp BinOp.add 89 (Operand.tmp 62) (Operand.tmp 66) 89, type := 89, pos := "ref.go:36", after := #[{ on := 13, ground := Ground.data }, { on := 17, ground := Ground.data }], guard := none }) (v := ?_) rfl (by kernel_rfl) (by kernel_rfl) (by kernel_rfl) (fun _ _ _ h => h) (Or.inl ⟨by rfl, ?_⟩) HB0.out ?_
                rotate_left
                · (intro w _; go_simp; with_reducible rfl)
                try simp only [Act.put, List.setIfInBounds_toArray, List.set_cons_zero, List.set_cons_succ]
                refine wpAnyH_ready (rs := [20]) (by kernel_rfl) (by simp) ?_
                refine AllReadyH.cons (o := { dst := some 69, op := Op.call { callee := Callee.value (Operand.func 87), args := #[Operand.tmp 68, Operand.const (Value.int IntKind.i64 17)], argTypes := #[89, 3] }, type := 89, pos := "ref.go:36", after := #[{ on := 19, ground := Ground.data }, { on := 8, ground := Ground.chain }], guard := none }) rfl (fun K hK => ?_) ?_
                · rw [if_pos (by rfl)]
                  go_simp
                  go_wp2_with ((go_at_call 87; with_reducible refine (refror_any y _ _ ly (by omega) (by omega)).mono ?_; rintro e w5 ⟨rfl, hk⟩; have HL := Lib.hid (like_draw HL.out hk); have HB0 := Lib.hid (HSL.out _ HL.out); clear hk))
                  refine hK.out _ _ HB0.out (fun _ => ?_)
                  clear hK K
                  try simp only [Act.put, List.setIfInBounds_toArray, List.set_cons_zero, List.set_cons_succ]
                  refine wpAnyH_ready (rs := [22]) (by kernel_rfl) (by simp) ?_
                  refine AllReadyH.cons (o := { dst := some 71, op := Op.call { callee := Callee.value (Operand.func 87), args := #[Operand.tmp 70, Operand.const (Value.int IntKind.i64 19)], argTypes := #[89, 3] }, type := 89, pos := "ref.go:36", after := #[{ on := 21, ground := Ground.data }, { on := 20, ground := Ground.chain }], guard := none }) rfl (fun K hK => ?_) ?_
                  · rw [if_pos (by rfl)]
                    go_simp
                    go_wp2_with ((go_at_call 87; with_reducible refine (refror_any y _ _ ly (by omega) (by omega)).mono ?_; rintro e w5 ⟨rfl, hk⟩; have HL := Lib.hid (like_draw HL.out hk); have HB0 := Lib.hid (HSL.out _ HL.out); clear hk))
                    refine hK.out _ _ HB0.out (fun _ => ?_)
                    clear hK K
                    try simp only [Act.put, List.setIfInBounds_toArray, List.set_cons_zero, List.set_cons_succ]
                    refine wpAnyH_take (i := 23) (oi := { dst := some 72, op := Op.binOp BinOp.xor 89 (Operand.tmp 69) (Operand.tmp 71) 89, type := 89, pos := "ref.go:36", after := #[{ on := 20, ground := Ground.data }, { on := 22, ground := Ground.data }], guard := none }) (v := ?_) rfl (by kernel_rfl) (by kernel_rfl) (by kernel_rfl) (fun _ _ _ h => h) (Or.inl ⟨by rfl, ?_⟩) HB0.out ?_
                    rotate_left
                    · (intro w _; go_simp; with_reducible rfl)
                    try simp only [Act.put, List.setIfInBounds_toArray, List.set_cons_zero, List.set_cons_succ]
                    refine wpAnyH_take (i := 26) (oi := { dst := some 75, op := Op.binOp BinOp.xor 89 (Operand.tmp 72) (Operand.tmp 74) 89, type := 89, pos := "ref.go:36", after := #[{ on := 23, ground := Ground.data }, { on := 25, ground := Ground.data }], guard := none }) (v := ?_) rfl (by kernel_rfl) (by kernel_rfl) (by kernel_rfl) (fun _ _ _ h => h) (Or.inl ⟨by rfl, ?_⟩) HB0.out ?_
                    rotate_left
                    · (intro w _; go_simp; with_reducible rfl)
                    try simp only [Act.put, List.setIfInBounds_toArray, List.set_cons_zero, List.set_cons_succ]
                    refine wpAnyH_take (i := 27) (oi := { dst := some 76, op := Op.binOp BinOp.add 89 (Operand.tmp 67) (Operand.tmp 75) 89, type := 89, pos := "ref.go:36", after := #[{ on := 18, ground := Ground.data }, { on := 26, ground := Ground.data }], guard := none }) (v := ?_) rfl (by kernel_rfl) (by kernel_rfl) (by kernel_rfl) (fun _ _ _ h => h) (Or.inl ⟨by rfl, ?_⟩) HB0.out ?_
                    rotate_left
                    · (intro w _; go_simp; with_reducible rfl)
                    try simp only [Act.put, List.setIfInBounds_toArray, List.set_cons_zero, List.set_cons_succ]
                    refine wpAnyH_take (i := 28) (oi := { dst := some 77, op := Op.indexAddr 97 (Operand.tmp 5) (Operand.tmp 49), type := 0, pos := "ref.go:36", after := #[{ on := 0, ground := Ground.data }, { on := 0, ground := Ground.phase }, { on := 1, ground := Ground.phase }, { on := 2, ground := Ground.phase }, { on := 3, ground := Ground.phase }, { on := 4, ground := Ground.phase }, { on := 5, ground := Ground.phase }, { on := 6, ground := Ground.phase }, { on := 7, ground := Ground.phase }, { on := 8, ground := Ground.phase }, { on := 9, ground := Ground.phase }, { on := 10, ground := Ground.phase }, { on := 11, ground := Ground.phase }, { on := 12, ground := Ground.phase }, { on := 13, ground := Ground.phase }, { on := 14, ground := Ground.phase }, { on := 15, ground := Ground.phase }, { on := 16, ground := Ground.phase }, { on := 17, ground := Ground.phase }, { on := 18, ground := Ground.phase }, { on := 19, ground := Ground.phase }, { on := 20, ground := Ground.phase }, { on := 21, ground := Ground.phase }, { on := 22, ground := Ground.phase }, { on := 23, ground := Ground.phase }, { on := 24, ground := Ground.phase }, { on := 25, ground := Ground.phase }, { on := 26, ground := Ground.phase }, { on := 27, ground := Ground.phase }], guard := none }) (v := ?_) rfl (by kernel_rfl) (by kernel_rfl) (by kernel_rfl) (fun _ _ _ h => h) (Or.inl ⟨by rfl, ?_⟩) HB0.out ?_
                    rotate_left
                    · (intro w _; go_simp; with_reducible rfl)
                    try simp only [Act.put, List.setIfInBounds_toArray, List.set_cons_zero, List.set_cons_succ]
                    refine wpAnyH_ready (rs := [29]) (by kernel_rfl) (by simp) ?_
                    refine AllReadyH.cons (o := { dst := none, op := Op.store 89 (Operand.tmp 77) (Operand.tmp 76), type := 0, pos := "ref.go:36", after := #[{ on := 28, ground := Ground.data }, { on := 27, ground := Ground.data }, { on := 22, ground := Ground.chain }, { on := 0, ground := Ground.phase }, { on := 1, ground := Ground.phase }, { on := 2, ground := Ground.phase }, { on := 3, ground := Ground.phase }, { on := 4, ground := Ground.phase }, { on := 5, ground := Ground.phase }, { on := 6, ground := Ground.phase }, { on := 7, ground := Ground.phase }, { on := 8, ground := Ground.phase }, { on := 9, ground := Ground.phase }, { on := 10, ground := Ground.phase }, { on := 11, ground := Ground.phase }, { on := 12, ground := Ground.phase }, { on := 13, ground := Ground.phase }, { on := 14, ground := Ground.phase }, { on := 15, ground := Ground.phase }, { on := 16, ground := Ground.phase }, { on := 17, ground := Ground.phase }, { on := 18, ground := Ground.phase }, { on := 19, ground := Ground.phase }, { on := 20, ground := Ground.phase }, { on := 21, ground := Ground.phase }, { on := 22, ground := Ground.phase }, { on := 23, ground := Ground.phase }, { on := 24, ground := Ground.phase }, { on := 25, ground := Ground.phase }, { on := 26, ground := Ground.phase }, { on := 27, ground := Ground.phase }], guard := none }) rfl (fun K hK => ?_) ?_
                    · rw [if_pos (by rfl)]
                      ((refine wp_store_u _ _ rfl g5 i0 _ rfl rfl (C0.out _ HL.out).1 (C0.out _ HL.out).2 ?_; intro w6 hst; have HB0 : Hid (∀ j, j ≠ i0 → w6.cell? ⟨g5, j, none⟩ = wr.cell? ⟨g5, j, none⟩) := (fun j hj => by rw [hst, World.cell?_setCell_other _ _ _ _ (by first | (simp; omega) | simp)]; exact HL.out.cell _); have HST := Lib.hid hst; clear hst))
                      refine hK.out _ _ HB0.out (fun _ => ?_)
                      clear hK K
                      try simp only [Act.put, List.setIfInBounds_toArray, List.set_cons_zero, List.set_cons_succ]
                      refine wpAnyH_done (by kernel_rfl) ?_ _
                      ((exact K _ ⟨_, HL.out, HST.out⟩))
                    exact AllReadyH.nil
                  exact AllReadyH.nil
                exact AllReadyH.nil
              exact AllReadyH.nil
            exact AllReadyH.nil
          case kk =>
            rintro wS ⟨wl, hlk, hwS⟩
            rw [sg0_bits x lx, sg1_bits y ly] at hwS
            have hval : IntKind.u32.wrap (IntKind.u32.wrap (IntKind.u32.wrap ((z : Int) + (sg0 x : Int)) + (u : Int)) + (sg1 y : Int)) = (nxt (Go.Proofs.YtbcfmpohempkpaaDoor.Dig.wl l k) : Int) := by
              rw [IntKind.wrap_u32, IntKind.wrap_u32, IntKind.wrap_u32, ← nxt_at l k HX.out HY.out HZ.out HU.out]; omega
            rw [hval] at hwS
            have HWS := Lib.hid hwS
            have HLK := Lib.hid hlk
            have hi0 := H0.out
            clear hval hwS hlk
            clear hi0
            go_wp2_with fail
            have hi0 := H0.out
            rw [HWS.out, hi0]
            exact ⟨⟨k + 1, by omega, by go_num, (HLK.out.row HR2.out).set _ _ (gw_set l k hlt2 _ rfl), HLK.out.rowSet HRs2.out hsg, HLK.out.rowSet HRr2.out hrg, HLK.out.belowSet HB2.out hg5⟩, by simp [intOf]; omega⟩
        · obtain rfl : k = 48 := by omega
          rw [show (16 + 48 : Nat) = 64 from rfl]
          obtain ⟨ws, hws⟩ : ∃ ws, ws = Go.Proofs.YtbcfmpohempkpaaDoor.Dig.wl l 48 := ⟨_, rfl⟩
          have hrow5 : Row wr g5 97 (u32s ws) := by
            have := HR2.out
            rw [Go.Proofs.YtbcfmpohempkpaaDoor.Dig.gw, Nat.sub_self, List.replicate_zero, List.append_nil, ← hws] at this
            exact this
          have hwl : ws.length = 64 := by rw [hws, wl_len]
          have HWLT : Hid (∀ i, ws.getD i 0 < 4294967296) := by rw [hws]; exact fun i => wl_at l 48 i
          have HWS := Lib.hid hws
          obtain ⟨wp, hwp⟩ : ∃ wp : World, wp = wr := ⟨_, rfl⟩
          rw [← hwp] at hrow5
          have HR5 := Lib.hid hrow5
          have HRs3 : Hid (Row wp gs 90 (u32s s.list)) := by rw [hwp]; exact HRs2.out
          have HRr3 : Hid (Row wp gr 90 (u32s (List.replicate 8 0))) := by rw [hwp]; exact HRr2.out
          have HB3 : Hid (Below w.heap.size w wp) := by rw [hwp]; exact HB2.out
          rw [← hwp]
          have HN := Lib.hid (numbers_call wp)
          clear hrow5 hwp hws
          go_wp2_with fail
          refine HN.out.mono ?_
          rintro e w7 ⟨rfl, hb7⟩
          have HB7 := Lib.hid hb7
          clear hb7 HN
          go_wp2_with (first
            | (refine wpList_alloc_u rfl 10 rfl rfl z64 (by kernel_rfl) ?_; intro g10 w8 hg hrow hb; have HK := Lib.hid hrow; have hg10 : wp.heap.size ≤ g10 := (by have := HB7.out.size; omega); have HB8 := Lib.hid (below_next HB7.out hb); clear hg hrow hb)
            | (refine wpList_store_u rfl (.tmp 10) (.tmp 78) rfl g10 (u32s kTab) z64 rfl rfl HK.out (by kernel_rfl) (by kernel_rfl) (u32s_one _) HB8.out hg10 ?_; intro W hrow hb hoth; have HK := Lib.hid hrow; have HBW := Lib.hid hb; clear hrow hb hoth)
            | fail)
          have HR5W := Lib.hid (HR5.out.keep HBW.out)
          have HRsW := Lib.hid (HRs3.out.keep HBW.out)
          have HRrW := Lib.hid (HRr3.out.keep HBW.out)
          have HBWw := Lib.hid (below_next HB3.out HBW.out)
          have c0 : W.cell? ⟨gs, 0, none⟩ = some (.int .u32 (s.a : Int)) := HRsW.out.cell rfl
          have c1 : W.cell? ⟨gs, 1, none⟩ = some (.int .u32 (s.b : Int)) := HRsW.out.cell rfl
          have c2 : W.cell? ⟨gs, 2, none⟩ = some (.int .u32 (s.c : Int)) := HRsW.out.cell rfl
          have c3 : W.cell? ⟨gs, 3, none⟩ = some (.int .u32 (s.d : Int)) := HRsW.out.cell rfl
          have c4 : W.cell? ⟨gs, 4, none⟩ = some (.int .u32 (s.e : Int)) := HRsW.out.cell rfl
          have c5 : W.cell? ⟨gs, 5, none⟩ = some (.int .u32 (s.f : Int)) := HRsW.out.cell rfl
          have c6 : W.cell? ⟨gs, 6, none⟩ = some (.int .u32 (s.g : Int)) := HRsW.out.cell rfl
          have c7 : W.cell? ⟨gs, 7, none⟩ = some (.int .u32 (s.h : Int)) := HRsW.out.cell rfl
          go_quiet (fail)
          clear c0 c1 c2 c3 c4 c5 c6 c7
          go_wp2_with fail
          go_loopw [11, 12, 13, 14, 15, 16, 17, 18, 19] (fun s5 s6 s7 s8 s9 s10 s11 s12 s60 wr => RndHead ws s W s5 s6 s7 s8 s9 s10 s11 s12 s60 wr) (fun _ _ _ _ _ _ _ _ s60 _ => 64 - (intOf s60).toNat)
          case atStart => exact ⟨0, s, by omega, rfl, rfl, rfl, rfl, rfl, rfl, rfl, rfl, rfl, rfl, nq, rfl⟩
          case round =>
            obtain ⟨t, r, ht, rfl, hrr, rfl, rfl, rfl, rfl, rfl, rfl, rfl, rfl, hlk⟩ := hrel
            have HLK := Lib.hid hlk
            clear hlk
            have HRR' := Lib.hid hrr
            have hok : r.ok := by rw [hrr]; exact rnds_ok hs t
            clear hrr
            obtain ⟨a, b', c, d, e, f, g, hv⟩ := r
            obtain ⟨ha, hb, hc, hd, he, hf, hg, hh⟩ := hok
            simp only at ha hb hc hd he hf hg hh
            rcases Nat.lt_or_ge t 64 with hlt | hge
            · have ck : wr.cell? ⟨g10, t, none⟩ = some (.int .u32 (kTab.getD t 0 : Int)) := (HLK.out.cell _).trans (HK.out.cell (u32s_get (by rw [show kTab.length = 64 from rfl]; exact hlt)))
              have cw : wr.cell? ⟨g5, t, none⟩ = some (.int .u32 (ws.getD t 0 : Int)) := (HLK.out.cell _).trans (HR5W.out.cell (u32s_get (by omega)))
              obtain ⟨kk, hkk⟩ : ∃ kk, kk = kTab.getD t 0 := ⟨_, rfl⟩
              obtain ⟨wt, hwt⟩ : ∃ wt, wt = ws.getD t 0 := ⟨_, rfl⟩
              rw [← hkk] at ck
              rw [← hwt] at cw
              have lk : kk < 4294967296 := by rw [hkk]; exact kTab_lt t
              have lw : wt < 4294967296 := by rw [hwt]; exact HWLT.out t
              have HKK := Lib.hid hkk
              have HWT := Lib.hid hwt
              clear hkk hwt
              go_wp2_with fail
              go_quiet ((go_at_call 87; exact Calls.quiet_of (refror_any _ _ _ (by omega) (by omega) (by omega))))
              go_wp2_with (go_at_call 87; refine (refror_any _ _ _ (by omega) (by omega) (by omega)).mono ?_; rintro e' w' ⟨rfl, kq, rfl⟩)
              go_roundw
              case rel =>
                rw [bg1_bits e he, bg0_bits a ha, chs_bits e f g he hf hg, maj_bits a b' c ha hb hc, rnd_a kk wt a b' c d e f g hv, rnd_e kk wt a b' c d e f g hv]
                exact ⟨t + 1, rnd kk wt ⟨a, b', c, d, e, f, g, hv⟩, by omega, by go_num, by rw [rnds, ← HRR'.out, ← HKK.out, ← HWT.out], rfl, rfl, rfl, rfl, rfl, rfl, rfl, rfl, HLK.out.drewN _⟩
              case measure => simp [intOf]; omega
            · obtain rfl : t = 64 := by omega
              rw [show ((64 : Nat) : Int) = 64 from rfl]
              have c0 : wr.cell? ⟨gs, 0, none⟩ = some (.int .u32 (s.a : Int)) := (HLK.out.cell _).trans (HRsW.out.cell rfl)
              have c1 : wr.cell? ⟨gs, 1, none⟩ = some (.int .u32 (s.b : Int)) := (HLK.out.cell _).trans (HRsW.out.cell rfl)
              have c2 : wr.cell? ⟨gs, 2, none⟩ = some (.int .u32 (s.c : Int)) := (HLK.out.cell _).trans (HRsW.out.cell rfl)
              have c3 : wr.cell? ⟨gs, 3, none⟩ = some (.int .u32 (s.d : Int)) := (HLK.out.cell _).trans (HRsW.out.cell rfl)
              have c4 : wr.cell? ⟨gs, 4, none⟩ = some (.int .u32 (s.e : Int)) := (HLK.out.cell _).trans (HRsW.out.cell rfl)
              have c5 : wr.cell? ⟨gs, 5, none⟩ = some (.int .u32 (s.f : Int)) := (HLK.out.cell _).trans (HRsW.out.cell rfl)
              have c6 : wr.cell? ⟨gs, 6, none⟩ = some (.int .u32 (s.g : Int)) := (HLK.out.cell _).trans (HRsW.out.cell rfl)
              have c7 : wr.cell? ⟨gs, 7, none⟩ = some (.int .u32 (s.h : Int)) := (HLK.out.cell _).trans (HRsW.out.cell rfl)
              have HRrr : Hid (Row wr gr 90 (u32s (List.replicate 8 0))) := HLK.out.row HRrW.out
              obtain ⟨nd, hnd⟩ := HLK.out
              have HBr : Hid (Below w.heap.size w wr) := by rw [hnd]; exact below_drewN HBWw.out nd
              clear hnd
              go_wp2_with (first
                | (refine wpList_store_u rfl (.tmp 4) (.tmp 190) rfl gr [.int .u32 (((s.a : Int) + (a : Int)) % 4294967296), .int .u32 (((s.b : Int) + (b' : Int)) % 4294967296), .int .u32 (((s.c : Int) + (c : Int)) % 4294967296), .int .u32 (((s.d : Int) + (d : Int)) % 4294967296), .int .u32 (((s.e : Int) + (e : Int)) % 4294967296), .int .u32 (((s.f : Int) + (f : Int)) % 4294967296), .int .u32 (((s.g : Int) + (g : Int)) % 4294967296), .int .u32 (((s.h : Int) + (hv : Int)) % 4294967296)] (u32s (List.replicate 8 0)) rfl rfl HRrr.out (by exact info90) rfl (by simp [Value.oneCell']) HBr.out hgr ?_; intro wS hrow hb hoth; have HRS := Lib.hid hrow; have HBS := Lib.hid hb; clear hrow hb hoth)
                | fail)
              have e8 : ([.int .u32 (((s.a : Int) + (a : Int)) % 4294967296), .int .u32 (((s.b : Int) + (b' : Int)) % 4294967296), .int .u32 (((s.c : Int) + (c : Int)) % 4294967296), .int .u32 (((s.d : Int) + (d : Int)) % 4294967296), .int .u32 (((s.e : Int) + (e : Int)) % 4294967296), .int .u32 (((s.f : Int) + (f : Int)) % 4294967296), .int .u32 (((s.g : Int) + (g : Int)) % 4294967296), .int .u32 (((s.h : Int) + (hv : Int)) % 4294967296)] : List Value) = u32s (blockF s l).list := by
                rw [blockF, ← HWS.out, ← HRR'.out]
                simp [addS, u32s, St.list]
              have HRf : Hid (Row wS gr 90 (u32s (blockF s l).list)) := by rw [← e8]; exact HRS.out
              exact bodyPost_ret (results_cell_row rfl _ _ gr 90 (u32s (blockF s l).list).toArray (0, 0) _ rfl HRf.out und58 rfl (by exact info90)) rfl ⟨rfl, HBS.out⟩
end Go.Proofs.YtbcfmpohempkpaaDoor.Dig
