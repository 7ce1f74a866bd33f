/- The specification's reader: the next byte, and the number that is next. -/
import Derived.Test.YtgliddedimpgaaaS
import Derived.Deep.QuietTactic
import Derived.BigQuiet
namespace Go.Proofs.Ytgliddedimpgaaa
open Go.RowKit

/-- The specification's reader at block rb: the bytes bs, the place p, whether it is bad. -/
structure RR (B rb : Nat) (w : World) (a : Option Addr) (cap : Nat) (bs : List UInt8) (p : Nat) (bad : Bool) : Prop where
  lo : B ≤ rb
  le : p ≤ bs.length
  len : bs.length ≤ 1000000
  heap : w.heap[rb]? = some (.cells #[.slice a bs.length cap, .int .i64 (p : Int), .bool bad] 54)
  rest : Rest B w bs (.slice a bs.length cap)

theorem RR.hi {B rb : Nat} {w : World} {a : Option Addr} {cap : Nat} {bs : List UInt8} {p : Nat} {bad : Bool} (h : RR B rb w a cap bs p bad) : rb < w.heap.size := (Array.getElem?_eq_some_iff.1 h.heap).1

theorem RR.cells {B rb : Nat} {w : World} {a : Option Addr} {cap : Nat} {bs : List UInt8} {p : Nat} {bad : Bool} (h : RR B rb w a cap bs p bad) :
    w.cell? ⟨rb, 0, none⟩ = some (.slice a bs.length cap) ∧ w.cell? ⟨rb, 1, none⟩ = some (.int .i64 (p : Int)) ∧ w.cell? ⟨rb, 2, none⟩ = some (.bool bad) ∧ w.frozen? ⟨rb, 0, none⟩ = false ∧ w.frozen? ⟨rb, 1, none⟩ = false ∧ w.frozen? ⟨rb, 2, none⟩ = false :=
  ⟨by rw [Joins.cell_of_block h.heap]; rfl, by rw [Joins.cell_of_block h.heap]; rfl, by rw [Joins.cell_of_block h.heap]; rfl, Joins.unfrozen_of_block h.heap 0, Joins.unfrozen_of_block h.heap 1, Joins.unfrozen_of_block h.heap 2⟩

theorem RR.draws {B rb : Nat} {w : World} {a : Option Addr} {cap : Nat} {bs : List UInt8} {p : Nat} {bad : Bool} (h : RR B rb w a cap bs p bad) (n : Nat) : RR B rb (w.drewN n) a cap bs p bad :=
  ⟨h.lo, h.le, h.len, by simpa using h.heap, h.rest.stays (Joins.below_draws _ _ _)⟩

theorem RR.stays {B rb C : Nat} {w w' : World} {a : Option Addr} {cap : Nat} {bs : List UInt8} {p : Nat} {bad : Bool} (h : RR B rb w a cap bs p bad) (hb : Below C w w') (hC : rb < C) : RR B rb w' a cap bs p bad :=
  ⟨h.lo, h.le, h.len, (hb.block rb hC).trans h.heap, h.rest.stays (hb.mono (by have := h.lo; omega))⟩

theorem RR.setAt {B rb : Nat} {w : World} {a : Option Addr} {cap : Nat} {bs : List UInt8} {p : Nat} {bad : Bool} (h : RR B rb w a cap bs p bad) (q : Nat) (x : Int) (hx : x = (q : Int)) (hq : q ≤ bs.length) : RR B rb (w.setCell ⟨rb, 1, none⟩ (.int .i64 x)) a cap bs q bad :=
  ⟨h.lo, hq, h.len, by subst hx; exact Joins.block_setCell h.heap _, h.rest.stays ((Below.refl _ _).setCell h.lo _)⟩

theorem RR.setBad {B rb : Nat} {w : World} {a : Option Addr} {cap : Nat} {bs : List UInt8} {p : Nat} {bad : Bool} (h : RR B rb w a cap bs p bad) (b : Bool) : RR B rb (w.setCell ⟨rb, 2, none⟩ (.bool b)) a cap bs p b :=
  ⟨h.lo, h.le, h.len, Joins.block_setCell h.heap _, h.rest.stays ((Below.refl _ _).setCell h.lo _)⟩

def NextR (B rb : Nat) (w w' : World) (a : Option Addr) (cap : Nat) (bs : List UInt8) (p : Nat) (e : Ending) : Prop :=
  match bs.drop p with
  | d :: _ => e = .returned (.int .u8 (d.toNat : Int)) ∧ RR B rb w' a cap bs (p + 1) false ∧ Only rb w w'
  | [] => e = .returned (.int .u8 0) ∧ RR B rb w' a cap bs p true ∧ Only rb w w'

set_option maxHeartbeats 1000000 in
theorem refnext_yes (B rb : Nat) (w : World) (b off cap : Nat) (bs : List UInt8) (p : Nat) (d : UInt8) (h : RR B rb w (some ⟨b, off, none⟩) cap bs p false) (hp : p < bs.length) (hd : w.cell? ⟨b, off + p, none⟩ = some (.int .u8 (d.toNat : Int))) (hb : b < B) (hcap : cap ≤ maxLen) :
    Calls Try.prog 45 #[.pointer (some ⟨rb, 0, none⟩)] w fun e w' => e = .returned (.int .u8 (d.toNat : Int)) ∧ RR B rb w' (some ⟨b, off, none⟩) cap bs (p + 1) false ∧ Only rb w w' := by
  obtain ⟨c0, c1, c2, f0, f1, f2⟩ := h.cells
  have hl := h.len
  have hlo := h.lo
  have hne : decide (b = rb) = false := by simp; omega
  go_enter Try.func45, Try.ntmps45
  go_wp2_with fail
  go_quiet (fail)
  go_wp2_with fail
  have hR := (h.draws nq).setAt (p + 1) ((p : Int) + 1) (by omega) (by omega)
  have hO : Only rb w ((w.drewN nq).setCell ⟨rb, 1, none⟩ (.int .i64 ((p : Int) + 1))) := (only_below (Joins.below_draws _ _ _)).trans (only_set rb _ 1 _)
  have hd2 : ((w.drewN nq).setCell ⟨rb, 1, none⟩ (.int .i64 ((p : Int) + 1))).cell? ⟨b, off + p, none⟩ = some (.int .u8 (d.toNat : Int)) := by
    rw [((Below.refl B _).setCell (p := ⟨rb, 1, none⟩) h.lo _).cell (p := ⟨b, off + p, none⟩) hb]; simpa using hd
  clear hd c0 c1 c2 f0 f1 f2
  generalize (w.drewN nq).setCell ⟨rb, 1, none⟩ (.int .i64 ((p : Int) + 1)) = w2 at hR hO hd2 ⊢
  obtain ⟨c0, c1, c2, f0, f1, f2⟩ := hR.cells
  have HR := Lib.hid hR
  clear hR
  have e1 : ((p + 1 : Nat) : Int) = (p : Int) + 1 := by omega
  rw [e1] at c1
  clear e1
  go_quiet (fail)
  go_wp2_with fail
  go_ret
  exact ⟨rfl, HR.out.draws _, hO.trans (only_below (Joins.below_draws _ _ _))⟩

set_option maxHeartbeats 1000000 in
theorem refnext_no (B rb : Nat) (w : World) (a : Option Addr) (cap : Nat) (bs : List UInt8) (h : RR B rb w a cap bs bs.length false) :
    Calls Try.prog 45 #[.pointer (some ⟨rb, 0, none⟩)] w fun e w' => e = .returned (.int .u8 0) ∧ RR B rb w' a cap bs bs.length true ∧ Only rb w w' := by
  obtain ⟨c0, c1, c2, f0, f1, f2⟩ := h.cells
  have hl := h.len
  go_enter Try.func45, Try.ntmps45
  go_wp2_with fail
  go_quiet (fail)
  go_wp2_with fail
  go_ret
  exact ⟨rfl, (h.draws nq).setBad true, (only_below (Joins.below_draws _ _ _)).trans (only_set rb _ 2 _)⟩

theorem refnext_call (B rb : Nat) (w : World) (a : Option Addr) (cap : Nat) (bs : List UInt8) (p : Nat) (h : RR B rb w a cap bs p false) :
    Calls Try.prog 45 #[.pointer (some ⟨rb, 0, none⟩)] w fun e w' => NextR B rb w w' a cap bs p e := by
  unfold NextR
  rcases Nat.lt_or_ge p bs.length with hp | hp
  · obtain ⟨a2, cap2, he, hl, hm, ha, hc⟩ := h.rest
    injection he with he1 he2 he3
    subst he1 he3
    rcases hc with h0 | ⟨b, off, rfl, hb, hc⟩
    · omega
    refine (refnext_yes B rb w b off cap bs p bs[p] h hp (hc p hp) hb hm).mono fun e w' hq => ?_
    rw [List.drop_eq_getElem_cons hp]
    exact hq
  · have e : p = bs.length := by have := h.le; omega
    subst e
    refine (refnext_no B rb w a cap bs h).mono fun e w' hq => ?_
    rw [List.drop_length]
    exact hq

def NumOut (bs : List UInt8) (p u q : Nat) (bad : Bool) : Prop :=
  match readNum (bs.drop p) with
  | some (v, r) => bad = false ∧ u = v ∧ r = bs.drop q
  | none => bad = true

def NumR (B rb : Nat) (w w' : World) (a : Option Addr) (cap : Nat) (bs : List UInt8) (p : Nat) (e : Ending) : Prop :=
  ∃ (u q : Nat) (bad : Bool), e = .returned (.int .u64 (u : Int)) ∧ u ≤ 18446744073709551615 ∧ RR B rb w' a cap bs q bad ∧ Only rb w w' ∧ NumOut bs p u q bad

def NumHd (B rb : Nat) (w : World) (a : Option Addr) (cap : Nat) (bs : List UInt8) (p : Nat) (s3 s4 : Value) (wr : World) : Prop :=
  ∃ (j u q : Nat), s4 = .int .i64 (j : Int) ∧ s3 = .int .u64 (u : Int) ∧ j ≤ 9 ∧ u < 128 ^ j ∧ RR B rb wr a cap bs q false ∧ Only rb w wr ∧ rd j u (bs.drop q) = readNum (bs.drop p)

theorem add_digit (j u y : Nat) (hj : j ≤ 9) (hu : u < 128 ^ j) (hy : y < 128) (h9 : j = 9 → y ≤ 1) :
    IntKind.u64.wrap ((u : Int) + IntKind.u64.wrap (((y : Nat) : Int) * 2 ^ (7 * j))) = ((u + y * 128 ^ j : Nat) : Int) := by
  have hlt := digit_lt j y hj hy h9
  have hj9 : 128 ^ j ≤ 128 ^ 9 := Nat.pow_le_pow_right (by omega) hj
  have e1 : ((y : Nat) : Int) * 2 ^ (7 * j) = ((y * 128 ^ j : Nat) : Int) := by rw [pow_128]; simp
  rw [e1, IntKind.wrap_u64, IntKind.wrap_u64]
  omega

theorem numr_bad {B rb : Nat} {w w' : World} {a : Option Addr} {cap : Nat} {bs : List UInt8} {p j u q : Nat} {q' v : Nat} (h : rd j u (bs.drop q) = readNum (bs.drop p)) (h2 : rd j u (bs.drop q) = none) (hv : v ≤ 18446744073709551615) (hr : RR B rb w' a cap bs q' true) (ho : Only rb w w') : NumR B rb w w' a cap bs p (.returned (.int .u64 (v : Int))) :=
  ⟨v, q', true, rfl, hv, hr, ho, by unfold NumOut; rw [← h, h2]⟩
theorem numr_ok {B rb : Nat} {w w' : World} {a : Option Addr} {cap : Nat} {bs : List UInt8} {p j u q : Nat} {q' v : Nat} {e : Ending} (h : rd j u (bs.drop q) = readNum (bs.drop p)) (h2 : rd j u (bs.drop q) = some (v, bs.drop q')) (he : e = .returned (.int .u64 (v : Int))) (hv : v ≤ 18446744073709551615) (hr : RR B rb w' a cap bs q' false) (ho : Only rb w w') : NumR B rb w w' a cap bs p e :=
  ⟨v, q', false, he, hv, hr, ho, by unfold NumOut; rw [← h, h2]; exact ⟨rfl, rfl, rfl⟩⟩

theorem drop_next {bs r : List UInt8} {q : Nat} {d : UInt8} (h : bs.drop q = d :: r) : bs.drop (q + 1) = r := by
  have e : bs.drop (q + 1) = (bs.drop q).drop 1 := by rw [List.drop_drop]
  rw [e, h]; rfl

set_option maxHeartbeats 4000000 in
set_option maxRecDepth 100000 in
theorem refnumber_call (B rb : Nat) (w : World) (a : Option Addr) (cap : Nat) (bs : List UInt8) (p : Nat) (h : RR B rb w a cap bs p false) :
    Calls Try.prog 46 #[.pointer (some ⟨rb, 0, none⟩)] w fun e w' => NumR B rb w w' a cap bs p e := by
  go_enter Try.func46, Try.ntmps46
  go_wp2_with fail
  go_loopw [3, 4] (fun s3 s4 wr => NumHd B rb w a cap bs p s3 s4 wr) (fun _ s4 _ => (70 - intOf s4).toNat)
  case atStart => exact ⟨0, 0, p, rfl, rfl, by omega, by simp, h, Only.refl _ _, rfl⟩
  case round =>
    obtain ⟨j, u, q, rfl, rfl, hj, hu, hr, ho, hrd⟩ := hrel
    have HRD := Lib.hid hrd
    have HU := Lib.hid hu
    have HO := Lib.hid ho
    obtain ⟨c0, c1, c2, f0, f1, f2⟩ := hr.cells
    have HR := Lib.hid hr
    clear hrd hu ho hr
    go_wp2_with fail
    refine (refnext_call B rb wr a cap bs q HR.out).mono ?_
    rintro e w1 hq
    unfold NextR at hq
    cases hdr : bs.drop q with
    | nil =>
      rw [hdr] at hq
      obtain ⟨rfl, hr1, ho1⟩ := hq
      have HN : Hid (rd j u (bs.drop q) = none) := by unfold Hid; rw [hdr]; rfl
      have HR1 := Lib.hid hr1
      have HO1 := Lib.hid ho1
      obtain ⟨c0, c1, c2, f0, f1, f2⟩ := HR1.out.cells
      clear hdr hr1 ho1
      by_cases hj0 : j = 0
      · subst hj0
        have hu0 : u = 0 := by have := HU.out; simp at this; exact this
        subst hu0
        go_wp2_with fail
        go_ret
        exact numr_bad HRD.out HN.out (v := 0) (by omega) HR1.out (HO.out.trans HO1.out)
      · have hj1 : decide (0 < j) = true := by simp; omega
        have hj9 : (((j : Nat) : Int) == 9) = false ∨ (((j : Nat) : Int) == 9) = true := by cases (((j : Nat) : Int) == 9) <;> simp
        clear hj0
        rcases hj9 with hj9 | hj9
        all_goals go_wp2_with fail
        all_goals go_ret
        all_goals exact numr_bad HRD.out HN.out (v := 0) (by omega) (HR1.out.setBad true) ((HO.out.trans HO1.out).trans (only_set rb _ 2 _))
    | cons d r =>
      rw [hdr] at hq
      obtain ⟨rfl, hr1, ho1⟩ := hq
      obtain ⟨x, hx⟩ : ∃ x : Nat, x = d.toNat := ⟨_, rfl⟩
      have hx256 : x < 256 := by rw [hx]; exact d.toNat_lt
      rw [← hx]
      have HE : Hid (rd j u (bs.drop q) = if (j = 9 ∧ 1 < x) ∨ (0 < j ∧ x = 0) then none else if x < 128 then some (u + x % 128 * 128 ^ j, bs.drop (q + 1)) else rd (j + 1) (u + x % 128 * 128 ^ j) (bs.drop (q + 1))) := by
        unfold Hid; rw [drop_next hdr, hdr, rd, ← hx]
      have HR1 := Lib.hid hr1
      have HO1 := Lib.hid (HO.out.trans ho1)
      obtain ⟨c0, c1, c2, f0, f1, f2⟩ := HR1.out.cells
      clear hdr hr1 ho1 hx
      by_cases hbad : (j = 9 ∧ 1 < x) ∨ (0 < j ∧ x = 0)
      · have HN := Lib.hid (HE.out.trans (if_pos hbad))
        have h4 : ((((j : Nat) : Int) == 9) = true ∧ decide ((1 : Int) < (x : Int)) = true) ∨ ((((j : Nat) : Int) == 9) = true ∧ decide ((1 : Int) < (x : Int)) = false ∧ decide (0 < j) = true ∧ (((x : Nat) : Int) == 0) = true) ∨ ((((j : Nat) : Int) == 9) = false ∧ decide (0 < j) = true ∧ (((x : Nat) : Int) == 0) = true) := by simp; omega
        clear hbad
        rcases h4 with ⟨t1, t2⟩ | ⟨t1, t2, t3, t4⟩ | ⟨t1, t3, t4⟩
        all_goals go_wp2_with fail
        all_goals go_ret
        all_goals exact numr_bad HRD.out HN.out (v := 0) (by omega) (HR1.out.setBad true) (HO1.out.trans (only_set rb _ 2 _))
      · have HE2 := Lib.hid (HE.out.trans (if_neg hbad))
        have HY9 : Hid (j = 9 → x % 128 ≤ 1) := fun h => by have := hx256; have : ¬ 1 < x := fun h2 => hbad (.inl ⟨h, h2⟩); omega
        have HAD := Lib.hid (add_digit j u (x % 128) hj HU.out (by omega) HY9.out)
        have h4 : ((((j : Nat) : Int) == 9) = true ∧ decide ((1 : Int) < (x : Int)) = false ∧ decide (0 < j) = true ∧ (((x : Nat) : Int) == 0) = false) ∨ ((((j : Nat) : Int) == 9) = false ∧ decide (0 < j) = true ∧ (((x : Nat) : Int) == 0) = false) ∨ ((((j : Nat) : Int) == 9) = false ∧ decide (0 < j) = false) := by simp; omega
        by_cases hlt : x < 128
        · have HN := Lib.hid (HE2.out.trans (if_pos hlt))
          have HL := Lib.hid (sum_le j u (x % 128) hj HU.out (by omega) HY9.out)
          have hlt2 : decide (((x : Nat) : Int) < 128) = true := by simp; omega
          clear hbad
          rcases h4 with ⟨t1, t2, t3, t4⟩ | ⟨t1, t2, t3⟩ | ⟨t1, t2⟩
          all_goals go_wp2_with fail
          all_goals go_ret
          all_goals exact numr_ok HRD.out HN.out (ret_u64 (by rw [← HAD.out]; simp)) HL.out HR1.out HO1.out
        · have HN := Lib.hid (HE2.out.trans (if_neg hlt))
          have hj8 : j ≤ 8 := by have : ¬ j = 9 := fun h => hbad (.inl ⟨h, by omega⟩); omega
          have hlt2 : decide (((x : Nat) : Int) < 128) = false := by simp; omega
          have HS := Lib.hid (sum_lt j u (x % 128) hj8 HU.out (by omega))
          clear hbad
          rcases h4 with ⟨t1, t2, t3, t4⟩ | ⟨t1, t2, t3⟩ | ⟨t1, t2⟩
          · exfalso; simp at t1; omega
          all_goals go_wp2_with fail
          all_goals go_roundw
          case rel => 
              refine ⟨j + 1, u + x % 128 * 128 ^ j, q + 1, by simp, ?_, by omega, HS.out, HR1.out, HO1.out, HN.out.symm.trans HRD.out⟩
              rw [← HAD.out]; simp
          case measure => simp [intOf]; omega
          case rel => 
              refine ⟨j + 1, u + x % 128 * 128 ^ j, q + 1, by simp, ?_, by omega, HS.out, HR1.out, HO1.out, HN.out.symm.trans HRD.out⟩
              rw [← HAD.out]; simp
          case measure => simp [intOf]; omega

end Go.Proofs.Ytgliddedimpgaaa
