/- A sector made of parts. -/
import Derived.Test.YtlaaolbdadempaaF
import Derived.Laws.CopyOwn
import Derived.Laws.OwnMore
namespace Go.Proofs.Ytlaaolbdadempaa
open Go.RowKit

def overlay (acc p : List UInt8) : List UInt8 := p.take acc.length ++ acc.drop p.length
def sectorL (parts : List (List UInt8)) : List UInt8 := parts.foldl overlay (List.replicate 128 0)
theorem overlay_len (acc p : List UInt8) : (overlay acc p).length = acc.length := by unfold overlay; simp; omega
theorem foldl_len : ∀ (parts : List (List UInt8)) (acc : List UInt8), (parts.foldl overlay acc).length = acc.length
  | [], _ => rfl
  | p :: ps, acc => by rw [List.foldl_cons, foldl_len ps, overlay_len]
theorem sectorL_len (parts : List (List UInt8)) : (sectorL parts).length = 128 := by unfold sectorL; rw [foldl_len]; rfl
theorem sectorL_step {parts : List (List UInt8)} {k : Nat} {p : List UInt8} (h : parts[k]? = some p) : sectorL (parts.take (k + 1)) = overlay (sectorL (parts.take k)) p := by
  obtain ⟨h1, h2⟩ := List.getElem?_eq_some_iff.1 h
  unfold sectorL
  rw [List.take_succ_eq_append_getElem h1, List.foldl_append, h2]; rfl

theorem made_bytes (n : Nat) : madeCells (Value.int IntKind.u8 0).cells (n * 1) = (cellsOf (List.replicate n 0)).toArray := by
  apply Array.ext'
  rw [Nat.mul_one, show (Value.int IntKind.u8 0).cells = #[Value.int IntKind.u8 0] from rfl, toList_madeCells_one]
  simp [cellsOf]
theorem wpList_make {ops : Array Oper} {rest : List Oper} {o : Oper} {a : Act} {w : World} {Q : Exit → Act → World → Prop} (hgd : o.guard = none) (x : Operand) (ho : o.op = .makeSlice 35 x x) (n : Nat) (hn : n ≤ 1000000) (hx : a.eval x = .int .i64 (n : Int))
    (h : ∀ g w', Row w' g 5 (cellsOf (List.replicate n 0)) → w.heap.size ≤ g → Below w.heap.size w w' → wpList Try.prog ops Q rest (a.put o.dst (.slice (some ⟨g, 0, none⟩) n n)) w') : wpList Try.prog ops Q (o :: rest) a w :=
  wpList_plain hgd fun _ hK => by
    obtain ⟨i0, hi, hz0, hz1, hz2⟩ := info_parts Try.info5
    have hr := run_makeSlice (P := Try.prog) w 35 5 i0 (.int .u8 0) Try.underlying35 hi hz0 .i64 .i64 (n : Int) (n : Int) (by omega) (by omega) (by rw [hz1, Int.toNat_natCast]; omega) (by rw [hz2]; omega) (by omega)
    rw [hz1, Int.toNat_natCast, made_bytes] at hr
    have h1 := hK _ _ (h _ _ (row_new w 5 _) (Nat.le_refl _) (Joins.below_alloc1 w _))
    unfold Oper.wp execOp
    simp [ho, hx, hr, Sem.run_bind]
    exact h1
theorem splice_overlay (acc p : List UInt8) (n : Nat) (hn : acc.length = n) : splice (cellsOf acc) 0 (cellsOf (p.take n)) = cellsOf (overlay acc p) := by
  subst hn
  unfold splice overlay cellsOf
  rw [List.take_zero, List.nil_append, Nat.zero_add, List.length_map, List.length_take, List.map_append, ← List.map_drop]
  rcases Nat.lt_or_ge p.length acc.length with h | h
  · rw [Nat.min_eq_right (by omega)]
  · rw [Nat.min_eq_left (by omega), List.drop_eq_nil_of_le (Nat.le_refl _), List.drop_eq_nil_of_le h]

def SecHead (parts : List (List UInt8)) (g : Nat) (w : World) (s9 : Value) (wr : World) : Prop := ∃ k : Nat, k ≤ parts.length ∧ s9 = .int .i64 (k : Int) ∧ Row wr g 5 (cellsOf (sectorL (parts.take k))) ∧ Below w.heap.size w wr
theorem cells_one (l : List UInt8) : ∀ v ∈ cellsOf l, v.oneCell' = true := by
  intro v hv
  simp only [cellsOf, List.mem_map] at hv
  obtain ⟨c, _, rfl⟩ := hv
  rfl
theorem copy_src {B n cap N : Nat} {w : World} {xs : List UInt8} {a : Option Addr} (h : Rest B w xs (.slice a n cap)) (M : Nat) {q : Addr} (hq : q = ⟨N, 0, none⟩ := by rfl) :
    0 < (cellsOf (xs.take M)).length → some q = some ⟨N, 0, none⟩ ∧ ∃ ad, a = some ad ∧ ∀ j v, (cellsOf (xs.take M))[j]? = some v → w.cell? (ad.add j) = some v := by
  intro h0
  refine ⟨by rw [hq], ?_⟩
  obtain ⟨a2, cap2, he, h2, h3, h4, h5⟩ := h
  injection he with he1 he2 he3
  subst he1 he2 he3
  rw [cellsOf_len, List.length_take] at h0
  rcases h5 with h5 | ⟨b, off, rfl, hb, hc⟩
  · omega
  · refine ⟨_, rfl, fun j v hj => ?_⟩
    simp only [cellsOf, List.getElem?_map, Option.map_eq_some_iff] at hj
    obtain ⟨c, hj, rfl⟩ := hj
    rw [List.getElem?_take] at hj
    split at hj
    · obtain ⟨h6, rfl⟩ := List.getElem?_eq_some_iff.1 hj
      rw [Addr.add_lit]; exact hc j h6
    · cases hj
set_option maxHeartbeats 2000000 in
set_option maxRecDepth 100000 in
theorem sector_call (parts : List (List UInt8)) (v : Value) (w : World) (h : NRest w.heap.size w parts v) :
    Calls Try.prog 51 #[v] w fun e w' => ∃ g, e = .returned (.slice (some ⟨g, 0, none⟩) 128 128) ∧ w.heap.size ≤ g ∧ Row w' g 5 (cellsOf (sectorL parts)) ∧ Below w.heap.size w w' := by
  have HV := Lib.hid h
  obtain ⟨a, cap, rfl, hc1, hc2⟩ := h.shape
  clear h
  obtain ⟨m, hm⟩ : ∃ m, m = parts.length := ⟨_, rfl⟩
  rw [← hm] at HV hc2 ⊢
  have HM := Lib.hid hm
  clear hm
  go_enter Try.func51, Try.ntmps51
  go_wp2_with (refine wpList_make rfl (.const (.int .i64 128)) rfl 128 (by omega) rfl ?_; intro g w1 hrow hg hb; have HG := Lib.hid hrow; have HGL := Lib.hid hg; have HB := Lib.hid hb; clear hrow hg hb)
  go_loopw [9] (fun s9 wr => SecHead parts g w s9 wr) (fun s9 _ => m - (intOf s9).toNat)
  case atStart => exact ⟨0, Nat.zero_le _, rfl, HG.out, HB.out⟩
  case round =>
    obtain ⟨k, hk, rfl, hrow, hb⟩ := hrel
    have HR := Lib.hid hrow
    have HB := Lib.hid hb
    rw [← HM.out] at hk
    clear hb hrow
    rcases Nat.lt_or_ge k m with hlt | hge
    · obtain ⟨x, hx⟩ : ∃ x, parts[k]? = some x := ⟨_, List.getElem?_eq_getElem (by rw [← HM.out]; exact hlt)⟩
      obtain ⟨b, off, u, rfl, hbl, hru, hcell⟩ := HV.out.at hx
      have hcu := hcell wr HB.out
      have HST := Lib.hid (sectorL_step hx)
      have hru2 := hru.stays HB.out
      obtain ⟨ua, uc, rfl, _, _⟩ := hru.shape
      have HRU := Lib.hid hru2
      have hkm : (k : Int) < (m : Int) := by omega
      have hk0 : (0 : Int) ≤ (k : Int) := by omega
      obtain ⟨acc, hacc⟩ : ∃ acc, acc = sectorL (parts.take k) := ⟨_, rfl⟩
      have hal : acc.length = 128 := by rw [hacc, sectorL_len]
      have HAL := Lib.hid hal
      rw [← hacc] at HR HST
      clear hru hru2 hcell hx hacc hal
      go_wp2_with (refine wpList_copy_splice rfl (.tmp 13) (.tmp 14) 35 35 rfl 5 Try.underlying35 (by kernel_rfl) (some ⟨g, 0, none⟩) ua 128 128 x.length uc rfl rfl g 0 (cellsOf acc) 5 HR.out (cellsOf (x.take 128)) (by rw [cellsOf_len, List.length_take]; exact Nat.min_comm _ _) (copy_src HRU.out 128) (by rw [cellsOf_len, cellsOf_len, List.length_take, HAL.out]; omega) (cells_one _) w.heap.size w HB.out HGL.out ?_; intro w2 hrow hb; have HR2 := Lib.hid hrow.out; have HB2 := Lib.hid hb; clear hrow hb)
      refine ⟨⟨k + 1, by rw [← HM.out]; omega, by go_num, ?_, HB2.out⟩, by simp [intOf]; omega⟩
      rw [HST.out, ← splice_overlay acc x 128 HAL.out]; exact HR2.out
    · obtain rfl : k = m := by omega
      go_wp2_with fail
      go_ret
      refine ⟨g, rfl, HGL.out, ?_, HB.out⟩
      have := HR.out
      rwa [HM.out, List.take_length] at this
end Go.Proofs.Ytlaaolbdadempaa
