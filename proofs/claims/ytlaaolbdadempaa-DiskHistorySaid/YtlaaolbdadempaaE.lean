/- The tests of a disk: sectors and pending writes. -/
import Derived.Test.YtlaaolbdadempaaD
namespace Go.Proofs.Ytlaaolbdadempaa
open Go.RowKit

def anyDam (xs : List (List UInt8)) : Bool := xs.any fun x => damB x.length
theorem any_step {α} {p : α → Bool} {xs : List α} {k : Nat} {x : α} (h : xs[k]? = some x) : (xs.drop k).any p = (p x || (xs.drop (k + 1)).any p) := by
  obtain ⟨h1, h2⟩ := List.getElem?_eq_some_iff.1 h
  rw [List.drop_eq_getElem_cons h1, List.any_cons, h2]
def IxHead {α} (p : α → Bool) (xs : List α) (w : World) (s8 : Value) (wr : World) : Prop := ∃ k : Nat, k ≤ xs.length ∧ s8 = .int .i64 (k : Int) ∧ xs.any p = (xs.drop k).any p ∧ Below w.heap.size w wr
set_option maxHeartbeats 1000000 in
set_option maxRecDepth 100000 in
theorem index_dam (xs : List (List UInt8)) (v : Value) (w : World) (h : NRest w.heap.size w xs v) :
    Calls Try.prog 92 #[v, .func (.func 75) #[] #[]] w fun e w' => ∃ r : Int, e = .returned (.int .i64 r) ∧ decide (0 ≤ r) = anyDam xs ∧ Below w.heap.size w w' := by
  have HV := Lib.hid h
  obtain ⟨a, cap, rfl, hc1, hc2⟩ := h.shape
  clear h
  unfold anyDam
  obtain ⟨m, hm⟩ : ∃ m, m = xs.length := ⟨_, rfl⟩
  rw [← hm] at HV hc2 ⊢
  have HM := Lib.hid hm
  clear hm
  go_enter Try.func92, Try.ntmps92
  go_wp2_with fail
  go_loopw [8] (fun s8 wr => IxHead (fun x => damB x.length) xs w s8 wr) (fun s8 _ => m - (intOf s8).toNat)
  case atStart => exact ⟨0, Nat.zero_le _, rfl, rfl, Below.refl _ _⟩
  case round =>
    obtain ⟨k, hk, rfl, hany, hb⟩ := hrel
    have HB := Lib.hid hb
    have HA := Lib.hid hany
    rw [← HM.out] at hk
    clear hb hany
    rcases Nat.lt_or_ge k m with hlt | hge
    · obtain ⟨x, hx⟩ : ∃ x, xs[k]? = some x := ⟨_, List.getElem?_eq_getElem (by rw [← HM.out]; exact hlt)⟩
      obtain ⟨b, off, u, rfl, hbl, hru, hcell⟩ := HV.out.at hx
      have hcu := hcell wr HB.out
      have HD : Hid (∀ W, Calls Try.prog 75 #[u] W fun e w' => e = .returned (.bool (damB x.length)) ∧ W = w') := Lib.hid (fun W => damaged_call x u _ W _ hru)
      have HS := Lib.hid (any_step (p := fun x => damB x.length) hx)
      have hkm : (k : Int) < (m : Int) := by omega
      have hk0 : (0 : Int) ≤ (k : Int) := by omega
      obtain ⟨r, hr⟩ : ∃ r, r = damB x.length := ⟨_, rfl⟩
      simp only [← hr] at HD HS
      clear hru hcell hx hr
      go_wp2_with (go_at_call 75; refine (HD.out _).mono ?_; rintro e w6 ⟨rfl, rfl⟩)
      · rename_i h
        go_ret
        exact ⟨_, rfl, by rw [HA.out, HS.out, h, Bool.true_or]; simp, HB.out⟩
      · rename_i h
        exact ⟨⟨k + 1, by rw [← HM.out]; omega, by go_num, by rw [HA.out, HS.out, h, Bool.false_or], HB.out⟩, by simp [intOf]; omega⟩
    · obtain rfl : k = m := by omega
      go_wp2_with fail
      go_ret
      exact ⟨_, rfl, by rw [HA.out, HM.out, List.drop_length]; rfl, HB.out⟩
set_option maxHeartbeats 1000000 in
set_option maxRecDepth 100000 in
theorem contains_dam (xs : List (List UInt8)) (v : Value) (w : World) (h : NRest w.heap.size w xs v) :
    Calls Try.prog 76 #[v, .func (.func 75) #[] #[]] w fun e w' => e = .returned (.bool (anyDam xs)) ∧ Below w.heap.size w w' := by
  have HI := Lib.hid (index_dam xs v w h)
  clear h
  go_enter Try.func76, Try.ntmps76
  go_wp2_with (go_at_call 92; refine HI.out.mono ?_; rintro e w2 ⟨r, rfl, hr, hb⟩)
  go_ret
  exact ⟨rfl, hb⟩

/-- a write that is not one of a disk with n sectors -/
def wrongW (n : Nat) (x : Int × List UInt8) : Bool := !hasB n x.1 || damB x.2.length
def anyWrong (n : Nat) (ps : List (Int × List UInt8)) : Bool := ps.any (wrongW n)
def wrOf (at' : Int) (u : Value) : Value := .agg #[.int .i64 at', u]
set_option maxHeartbeats 1000000 in
set_option maxRecDepth 100000 in
theorem wrong_call (d : Dsk) (s p : Value) (x : Int × List UInt8) (u : Value) (g : Nat) (B : Nat) (w w0 : World) (h : NRest B w0 d.secs s) (hp : PRest B w0 d.pend p) (hg : Row w g 25 (dskCells s p d)) (hu : Rest B w0 x.2 u) :
    Calls Try.prog 74 #[wrOf x.1 u, .pointer (some ⟨g, 0, none⟩)] w fun e w' => e = .returned (.bool (wrongW d.secs.length x)) ∧ Below w.heap.size w w' := by
  have HH : Hid (∀ W, Calls Try.prog 54 #[dskOf s p d, .int .i64 x.1] W fun e w' => e = .returned (.bool (hasB d.secs.length x.1)) ∧ Below W.heap.size W w') := Lib.hid (fun W => has_call d _ x.1 B W w0 ⟨s, p, rfl, h, hp⟩)
  have HD : Hid (∀ W, Calls Try.prog 75 #[u] W fun e w' => e = .returned (.bool (damB x.2.length)) ∧ W = w') := Lib.hid (fun W => damaged_call x.2 u B W w0 hu)
  have HR := Lib.hid hg
  have HN := Lib.hid (row_new w 76 [.int .i64 x.1, u])
  have c0 := hg.keep (Joins.below_alloc1 w (.cells #[.int .i64 x.1, u] 76)) |>.cell (i := 0) rfl
  have c1 := hg.keep (Joins.below_alloc1 w (.cells #[.int .i64 x.1, u] 76)) |>.cell (i := 1) rfl
  have c2 := hg.keep (Joins.below_alloc1 w (.cells #[.int .i64 x.1, u] 76)) |>.cell (i := 2) rfl
  have c3 := hg.keep (Joins.below_alloc1 w (.cells #[.int .i64 x.1, u] 76)) |>.cell (i := 3) rfl
  clear h hp hg hu
  unfold wrongW wrOf
  unfold dskOf dskCells at HH
  obtain ⟨r1, hr1⟩ : ∃ r, r = hasB d.secs.length x.1 := ⟨_, rfl⟩
  obtain ⟨r2, hr2⟩ : ∃ r, r = damB x.2.length := ⟨_, rfl⟩
  rw [← hr1] at HH ⊢
  rw [← hr2] at HD ⊢
  clear hr1 hr2
  go_enter Try.func74, Try.ntmps74
  go_wp2_with fail
  refine (HH.out _).mono ?_
  rintro e w1 ⟨rfl, hb⟩
  have HB := Lib.hid (below_next (Joins.below_alloc1 w _) hb)
  have d1 := HN.out.later hb (i := 1) rfl
  clear hb c0 c1 c2 c3
  cases r1
  · go_wp2_with fail
    go_ret
    exact ⟨rfl, HB.out⟩
  · go_wp2_with (go_at_call 75; refine (HD.out _).mono ?_; rintro e w6 ⟨rfl, rfl⟩)
    go_ret
    exact ⟨ret_bool (by simp), HB.out⟩

theorem run_load_wr (w : World) (b o : Nat) (at' : Int) (u : Value) (h0 : w.cell? ⟨b, o, none⟩ = some (.int .i64 at')) (h1 : w.cell? ⟨b, o + 1, none⟩ = some u) : (loadVar 76 ⟨b, o, none⟩).run Try.prog w = .ok (wrOf at' u) w := by
  have hl : (loadCells ⟨b, o, none⟩ 2).run Try.prog w = .ok #[.int .i64 at', u] w :=
    run_loadCells_list (P := Try.prog) w ⟨b, o, none⟩ [.int .i64 at', u] (fun j v hv => by
      rw [Addr.add_lit]
      match j, hv with
      | 0, hv => injection hv with hv; subst hv; exact h0
      | 1, hv => injection hv with hv; subst hv; exact h1)
  have hagg : (isAgg 76).run Try.prog w = .ok true w := by
    unfold isAgg
    rw [Sem.run_bind, run_underlying Try.underlying76 w]
    rfl
  have hs : (sizeOf 76).run Try.prog w = .ok 2 w := by
    obtain ⟨i0, hi, hz0, hz1, hz2⟩ := info_parts (show (Try.prog.info? 76).map (fun i => (i.zero, i.size, i.bytes)) = some (some (.agg #[.int .i64 0, .slice none 0 0]), 2, 32) by kernel_rfl)
    simp [sizeOf, typeInfo, hi, hz1]
  simp [loadVar, Sem.run_bind, hagg, hs, hl, wrOf]
theorem wpList_load_wr {ops : Array Oper} {rest : List Oper} {o : Oper} {a : Act} {w : World} {Q : Exit → Act → World → Prop} (hgd : o.guard = none) (x : Operand) (ho : o.op = .load 76 x)
    (b q : Nat) (at' : Int) (u : Value) (hx : a.eval x = .pointer (some ⟨b, q, none⟩)) (hc : w.cell? ⟨b, q, none⟩ = some (.int .i64 at') ∧ w.cell? ⟨b, q + 1, none⟩ = some u)
    (h : wpList Try.prog ops Q rest (a.put o.dst (wrOf at' u)) w) : wpList Try.prog ops Q (o :: rest) a w :=
  wpList_plain hgd fun _ hK => by
    unfold Oper.wp execOp
    simp only [ho, hx, Instr.loadAt, Instr.sureAddr, Sem.run_bind, Sem.run_pure, Result.andThen_ok, run_load_wr w b q at' u hc.1 hc.2]
    exact hK _ _ h

set_option maxHeartbeats 2000000 in
set_option maxRecDepth 100000 in
theorem index_wrong (d : Dsk) (s p : Value) (g : Nat) (w : World) (h : NRest w.heap.size w d.secs s) (hp : PRest w.heap.size w d.pend p) (hg : Row w g 25 (dskCells s p d)) :
    Calls Try.prog 93 #[p, .func (.func 74) #[] #[.pointer (some ⟨g, 0, none⟩)]] w fun e w' => ∃ r : Int, e = .returned (.int .i64 r) ∧ decide (0 ≤ r) = anyWrong d.secs.length d.pend ∧ Below w.heap.size w w' := by
  have HV := Lib.hid hp
  have HW : Hid (∀ (k : Nat) x u W, d.pend[k]? = some x → Rest w.heap.size w x.2 u → Below w.heap.size w W → Calls Try.prog 74 #[wrOf x.1 u, .pointer (some ⟨g, 0, none⟩)] W fun e w' => e = .returned (.bool (wrongW d.secs.length x)) ∧ Below W.heap.size W w') :=
    Lib.hid (fun k x u W _ hu hW => wrong_call d s p x u g _ W w h hp (hg.keep hW) hu)
  obtain ⟨a, cap, rfl, hc1, hc2⟩ := hp.shape
  clear h hp hg
  unfold anyWrong
  generalize d.secs.length = n at HW ⊢
  generalize d.pend = xs at HV HW hc2 ⊢
  clear d
  obtain ⟨m, hm⟩ : ∃ m, m = xs.length := ⟨_, rfl⟩
  rw [← hm] at HV hc2 ⊢
  have HM := Lib.hid hm
  clear hm
  go_enter Try.func93, Try.ntmps93
  go_wp2_with fail
  go_loopw [8] (fun s8 wr => IxHead (wrongW n) xs w s8 wr) (fun s8 _ => m - (intOf s8).toNat)
  case atStart => exact ⟨0, Nat.zero_le _, rfl, rfl, Below.refl _ _⟩
  case round =>
    obtain ⟨k, hk, rfl, hany, hb⟩ := hrel
    have HB := Lib.hid hb
    have HA := Lib.hid hany
    rw [← HM.out] at hk
    clear hb hany
    rcases Nat.lt_or_ge k m with hlt | hge
    · obtain ⟨x, hx⟩ : ∃ x, xs[k]? = some x := ⟨_, List.getElem?_eq_getElem (by rw [← HM.out]; exact hlt)⟩
      obtain ⟨b, off, u, rfl, hbl, hru, hcell⟩ := HV.out.at hx
      have HC := Lib.hid (hcell wr HB.out)
      have HD := Lib.hid (HW.out k x u wr hx hru HB.out)
      have HS := Lib.hid (any_step (p := wrongW n) hx)
      have hkm : (k : Int) < (m : Int) := by omega
      have hk0 : (0 : Int) ≤ (k : Int) := by omega
      obtain ⟨r, hr⟩ : ∃ r, r = wrongW n x := ⟨_, rfl⟩
      simp only [← hr] at HD HS
      clear hru hcell hx hr HW
      go_wp2_with (first
        | (refine wpList_load_wr rfl (.tmp 14) rfl b (off + k * 2) x.1 u rfl HC.out ?_)
        | (go_at_call 74; refine HD.out.mono ?_; rintro e w6 ⟨rfl, hb⟩; have HB := Lib.hid (below_next HB.out hb); clear hb))
      · rename_i h
        go_ret
        exact ⟨_, rfl, by rw [HA.out, HS.out, h, Bool.true_or]; simp, HB.out⟩
      · rename_i h
        exact ⟨⟨k + 1, by rw [← HM.out]; omega, by go_num, by rw [HA.out, HS.out, h, Bool.false_or], HB.out⟩, by simp [intOf]; omega⟩
    · obtain rfl : k = m := by omega
      go_wp2_with fail
      go_ret
      exact ⟨_, rfl, by rw [HA.out, HM.out, List.drop_length]; rfl, HB.out⟩
set_option maxHeartbeats 1000000 in
set_option maxRecDepth 100000 in
theorem contains_wrong (d : Dsk) (s p : Value) (g : Nat) (w : World) (h : NRest w.heap.size w d.secs s) (hp : PRest w.heap.size w d.pend p) (hg : Row w g 25 (dskCells s p d)) :
    Calls Try.prog 77 #[p, .func (.func 74) #[] #[.pointer (some ⟨g, 0, none⟩)]] w fun e w' => e = .returned (.bool (anyWrong d.secs.length d.pend)) ∧ Below w.heap.size w w' := by
  have HI := Lib.hid (index_wrong d s p g w h hp hg)
  clear h hp hg
  go_enter Try.func77, Try.ntmps77
  go_wp2_with (go_at_call 93; refine HI.out.mono ?_; rintro e w2 ⟨r, rfl, hr, hb⟩)
  go_ret
  exact ⟨rfl, hb⟩
end Go.Proofs.Ytlaaolbdadempaa
