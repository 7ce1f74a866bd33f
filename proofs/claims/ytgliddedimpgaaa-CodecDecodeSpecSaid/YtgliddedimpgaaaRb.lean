/- The specification's reader: the value that is next. -/
import Derived.Test.YtgliddedimpgaaaRa
import Derived.Deep.RegionLaw
namespace Go.Proofs.Ytgliddedimpgaaa
open Go.RowKit

def ValOut (W0 d : Nat) (bs : List UInt8) (p q : Nat) (bad : Bool) (w' : World) (v : Value) : Prop :=
  match dec d (bs.drop p) with
  | some (x, r) => bad = false ∧ r = bs.drop q ∧ Sure (fun b => W0 ≤ b) w' x v
  | none => bad = true

def ValR (B rb : Nat) (w w' : World) (a : Option Addr) (cap : Nat) (bs : List UInt8) (d p : Nat) (e : Ending) : Prop :=
  ∃ (k n : Int) (s : ByteArray) (va : Option Addr) (l c q : Nat) (bad : Bool), e = .returned (val k n s va l c) ∧ RR B rb w' a cap bs q bad ∧ Only rb w w' ∧ ValOut w.heap.size d bs p q bad w' (val k n s va l c)

def RefValSaid (d : Nat) : Prop := ∀ (m B rb : Nat) (w : World) (a : Option Addr) (cap : Nat) (bs : List UInt8) (p : Nat), m + d = 16 → RR B rb w a cap bs p false →
  Calls Try.prog 35 #[.pointer (some ⟨rb, 0, none⟩), .int .i64 (m : Int)] w fun e w' => ValR B rb w w' a cap bs d p e

theorem valr_bad {B rb : Nat} {w w' : World} {a : Option Addr} {cap : Nat} {bs : List UInt8} {d p q : Nat} {k n : Int} {s : ByteArray} {va : Option Addr} {l c : Nat} (hd : dec d (bs.drop p) = none) (hr : RR B rb w' a cap bs q true) (ho : Only rb w w') : ValR B rb w w' a cap bs d p (.returned (val k n s va l c)) :=
  ⟨k, n, s, va, l, c, q, true, rfl, hr, ho, by unfold ValOut; rw [hd]⟩
theorem valr_ok {B rb : Nat} {w w' : World} {a : Option Addr} {cap : Nat} {bs r : List UInt8} {d p q : Nat} {k n : Int} {s : ByteArray} {va : Option Addr} {l c : Nat} {x : V} (hd : dec d (bs.drop p) = some (x, r)) (hq : r = bs.drop q) (hr : RR B rb w' a cap bs q false) (ho : Only rb w w') (hs : Sure (fun b => w.heap.size ≤ b) w' x (val k n s va l c)) : ValR B rb w w' a cap bs d p (.returned (val k n s va l c)) :=
  ⟨k, n, s, va, l, c, q, false, rfl, hr, ho, by unfold ValOut; rw [hd]; exact ⟨rfl, hq, hs⟩⟩

theorem RR.new4 {B rb : Nat} {w : World} {a : Option Addr} {cap : Nat} {bs : List UInt8} {p : Nat} {bad : Bool} {b : Nat} {v0 v1 v2 v3 : Value} (h : RR B rb w a cap bs p bad) (hb : rb < b) :
    RR B rb ((((w.setCell ⟨b, 0, none⟩ v0).setCell ⟨b, 1, none⟩ v1).setCell ⟨b, 2, none⟩ v2).setCell ⟨b, 3, none⟩ v3) a cap bs p bad :=
  h.stays (C := b) (((((Below.refl _ _).setCell (p := ⟨b, 0, none⟩) (Nat.le_refl _) v0).setCell (p := ⟨b, 1, none⟩) (Nat.le_refl _) v1).setCell (p := ⟨b, 2, none⟩) (Nat.le_refl _) v2).setCell (p := ⟨b, 3, none⟩) (Nat.le_refl _) v3) hb

set_option maxHeartbeats 2000000 in
set_option maxRecDepth 100000 in
theorem refval_1 (d m B rb : Nat) (w : World) (a : Option Addr) (cap : Nat) (bs r : List UInt8) (p : Nat) (h : RR B rb w a cap bs p false) (hdr : bs.drop p = 1 :: r) :
    Calls Try.prog 35 #[.pointer (some ⟨rb, 0, none⟩), .int .i64 (m : Int)] w fun e w' => ValR B rb w w' a cap bs d p e := by
  have hrb := h.hi
  have HB : Hid (Below w.heap.size w (w.alloc zeroCells4)) := Joins.below_alloc1 w _
  have HDR := Lib.hid hdr
  have HR0 := Lib.hid (h.stays HB.out hrb)
  clear hdr
  go_enter Try.func35, Try.ntmps35
  go_wp2_with fail
  refine (refnext_call B rb _ a cap bs p HR0.out).mono ?_
  rintro e w1 hq
  unfold NextR at hq
  rw [HDR.out] at hq
  obtain ⟨rfl, hr1, ho1⟩ := hq
  go_wp2_with fail
  refine (refnumber_call B rb _ a cap bs (p + 1) hr1).mono ?_
  rintro e w2 ⟨u, q, bad, rfl, hu, hr2, ho2, hout⟩
  have HO2 := Lib.hid (ho1.trans ho2)
  have HOUT := Lib.hid hout
  have HR2 := Lib.hid hr2
  obtain ⟨z0, z1, z2, z3, f0, f1, f2, f3, hsz⟩ := only_zero HO2.out hrb
  clear hr1 ho1 ho2 hout hr2
  have HV : Hid (ValOut w.heap.size d bs p q bad ((((w2.setCell ⟨w.heap.size, 0, none⟩ (.int .i64 1)).setCell ⟨w.heap.size, 1, none⟩ (.int .i64 (sgn u))).setCell ⟨w.heap.size, 2, none⟩ (.string ⟨#[]⟩)).setCell ⟨w.heap.size, 3, none⟩ (.slice none 0 0)) (val 1 (sgn u) ⟨#[]⟩ none 0 0)) := by
    have ho := HOUT.out
    unfold NumOut at ho
    unfold Hid ValOut
    rw [drop_next HDR.out] at ho
    rw [HDR.out, dec, decHead, if_pos (show UInt8.toNat 1 = 1 from rfl)]
    cases hn : readNum r with
    | none => rw [hn] at ho; exact ho
    | some v =>
      obtain ⟨v, r2⟩ := v
      rw [hn] at ho
      obtain ⟨rfl, rfl, rfl⟩ := ho
      exact ⟨rfl, rfl, sure_int _ _ _ (sgn_lo u (by omega))⟩
  by_cases hodd : u % 2 = 1
  · have HS : Hid (-((u : Int) / 2) - 1 = sgn u) := by unfold Hid sgn; rw [if_neg (by omega)]; omega
    have hb : ((((u : Nat) : Int) % 2) == 1) = true := by simp; omega
    clear hodd
    go_wp2_with fail
    refine bodyPost_ret (v := val 1 (sgn u) ⟨#[]⟩ none 0 0) (by rw [← HS.out]; simp [results, Try.results35, go_sem, z0, z1, z2, z3]) rfl ⟨1, sgn u, ⟨#[]⟩, none, 0, 0, q, bad, rfl, ?_, ?_, ?_⟩
    · exact HR2.out.new4 hrb
    · exact only_new4 ((only_below HB.out).trans HO2.out)
    · rw [HS.out]; exact HV.out
  · have HS : Hid ((u : Int) / 2 = sgn u) := by unfold Hid sgn; rw [if_pos (by omega)]; omega
    have hb : ((((u : Nat) : Int) % 2) == 1) = false := by simp; omega
    clear hodd
    go_wp2_with fail
    refine bodyPost_ret (v := val 1 (sgn u) ⟨#[]⟩ none 0 0) (by rw [← HS.out]; simp [results, Try.results35, go_sem, z0, z1, z2, z3]) rfl ⟨1, sgn u, ⟨#[]⟩, none, 0, 0, q, bad, rfl, ?_, ?_, ?_⟩
    · exact HR2.out.new4 hrb
    · exact only_new4 ((only_below HB.out).trans HO2.out)
    · rw [HS.out]; exact HV.out

set_option maxHeartbeats 2000000 in
set_option maxRecDepth 100000 in
theorem refval_none (d m B rb : Nat) (w : World) (a : Option Addr) (cap : Nat) (bs : List UInt8) (p : Nat) (h : RR B rb w a cap bs p false) (hdr : bs.drop p = []) :
    Calls Try.prog 35 #[.pointer (some ⟨rb, 0, none⟩), .int .i64 (m : Int)] w fun e w' => ValR B rb w w' a cap bs d p e := by
  have hrb := h.hi
  have HB : Hid (Below w.heap.size w (w.alloc zeroCells4)) := Joins.below_alloc1 w _
  have HDR := Lib.hid hdr
  have HR0 := Lib.hid (h.stays HB.out hrb)
  clear hdr
  go_enter Try.func35, Try.ntmps35
  go_wp2_with fail
  refine (refnext_call B rb _ a cap bs p HR0.out).mono ?_
  rintro e w1 hq
  unfold NextR at hq
  rw [HDR.out] at hq
  obtain ⟨rfl, hr1, ho1⟩ := hq
  have HO1 := Lib.hid ho1
  have HR1 := Lib.hid hr1
  obtain ⟨z0, z1, z2, z3, g0, g1, g2, g3, hsz⟩ := only_zero HO1.out hrb
  obtain ⟨c0, c1, c2, f0, f1, f2⟩ := hr1.cells
  clear hr1 ho1
  go_wp2_with fail
  refine bodyPost_ret (v := val 0 0 ⟨#[]⟩ none 0 0) (by simp [results, Try.results35, go_sem, z0, z1, z2, z3]) rfl (valr_bad (by rw [HDR.out]; rfl) ((HR1.out.setBad true).new4 hrb) (only_new4 ((only_below HB.out).trans (HO1.out.trans (only_set rb _ 2 _)))))

set_option maxHeartbeats 2000000 in
set_option maxRecDepth 100000 in
theorem refval_other (d m B rb : Nat) (w : World) (a : Option Addr) (cap : Nat) (bs r : List UInt8) (p : Nat) (c : UInt8) (h : RR B rb w a cap bs p false) (hdr : bs.drop p = c :: r) (h1 : ¬ c.toNat = 1) (h2 : ¬ c.toNat = 2) (h3 : ¬ c.toNat = 3) :
    Calls Try.prog 35 #[.pointer (some ⟨rb, 0, none⟩), .int .i64 (m : Int)] w fun e w' => ValR B rb w w' a cap bs d p e := by
  have hrb := h.hi
  have HB : Hid (Below w.heap.size w (w.alloc zeroCells4)) := Joins.below_alloc1 w _
  have HDR := Lib.hid hdr
  have HR0 := Lib.hid (h.stays HB.out hrb)
  have HN : Hid (dec d (bs.drop p) = none) := by unfold Hid; rw [hdr, dec, decHead, if_neg h1, if_neg h2, if_neg h3]
  have e1 : (((c.toNat : Nat) : Int) == 1) = false := by simp; omega
  have e2 : (((c.toNat : Nat) : Int) == 2) = false := by simp; omega
  have e3 : (((c.toNat : Nat) : Int) == 3) = false := by simp; omega
  clear hdr h1 h2 h3
  go_enter Try.func35, Try.ntmps35
  go_wp2_with fail
  refine (refnext_call B rb _ a cap bs p HR0.out).mono ?_
  rintro e w1 hq
  unfold NextR at hq
  rw [HDR.out] at hq
  obtain ⟨rfl, hr1, ho1⟩ := hq
  have HO1 := Lib.hid ho1
  have HR1 := Lib.hid hr1
  obtain ⟨z0, z1, z2, z3, g0, g1, g2, g3, hsz⟩ := only_zero HO1.out hrb
  obtain ⟨c0, c1, c2, f0, f1, f2⟩ := hr1.cells
  clear hr1 ho1
  go_wp2_with fail
  refine bodyPost_ret (v := val 0 0 ⟨#[]⟩ none 0 0) (by simp [results, Try.results35, go_sem, z0, z1, z2, z3]) rfl (valr_bad HN.out ((HR1.out.setBad true).new4 hrb) (only_new4 ((only_below HB.out).trans (HO1.out.trans (only_set rb _ 2 _)))))
end Go.Proofs.Ytgliddedimpgaaa
