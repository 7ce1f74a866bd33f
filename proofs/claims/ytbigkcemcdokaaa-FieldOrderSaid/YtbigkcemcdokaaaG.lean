/- Are the X of points different: the program's map, and the specification's two loops. -/
import Derived.Test.YtbigkcemcdokaaaF
import Derived.Maps.OwnSet
import Derived.WalkKit
namespace Go.Proofs.Ytbigkcemcdokaaa
open Go.RowKit Go.Maps

theorem plainElem_bool_inv {H : Type} {P : Program} {e : TypeId} (he : P.underlying e = some .bool) {v : Value} {z : DataW H × List MemPlace} (h : plainElem P e v = some z) : ∃ c, v = .bool c ∧ z = (.lit (.bool c), []) := by
  unfold plainElem at h
  rw [he] at h
  cases v <;> simp at h
  exact ⟨_, rfl, h.symm⟩
theorem wpList_lookup_own_bool {H : Type} {P : Program} (w : World) {ops : Array Oper} {rest : List Oper} {o : Oper} {a : Act} {Q : Exit → Act → World → Prop}
    (hg : o.guard = none) (m x : Operand) (t : TypeId) (hop : o.op = Op.lookup t m x false)
    (k e : TypeId) (K : Keyed P k) (ht : P.underlying t = some (.map k e)) (he : P.underlying e = some .bool) (hz : (zeroValue e).run P w = .ok (.bool false) w) (b n : Nat) (D : DataW H)
    (hm : a.eval m = .map (some b)) (hown : w.ownsMap P k (plainElem P e) b n D) (key : Value) (kl : Lit) (hx : a.eval x = key) (hkey : keyOf P k key = some kl)
    (hK : ∀ c : Bool, D.atKey kl (.lit (.bool false)) = .lit (.bool c) → wpList P ops Q rest (a.put o.dst (.bool c)) w) :
    wpList P ops Q (o :: rest) a w := by
  refine wpList_plain hg fun K' hK' => ?_
  obtain ⟨v, ps, hrun, hv⟩ := hown.lookup K ht hz (plainElem_bool he false) hkey
  obtain ⟨c, rfl, hc⟩ := plainElem_bool_inv he hv
  simp only [Prod.mk.injEq] at hc
  unfold Oper.wp
  simp [execOp, hop, hm, hx, hrun, Result.andThen]
  exact hK' _ _ (hK c hc.1)
theorem law3 : Keyed Try.prog 3 := int_keyed Try.underlying3
theorem zeroE (w : World) : (zeroValue 4).run Try.prog w = .ok (.bool false) w := by kernel_rfl
theorem key_mk {x : Int} (h : I64 x) : keyOf Try.prog 3 (.int .i64 x) = some (.int .i64 x) := keyOf_int_mk Try.underlying3 (by obtain ⟨h1, h2⟩ := h; simp [Lit.wf, IntKind.min, IntKind.max, IntKind.signed, IntKind.bits]; omega)

/-- the first k X are different -/
def DifK (xs : List Int) (k : Nat) : Prop := ∀ i j, i < j → j < k → xs.getD i 0 % 1073741789 ≠ xs.getD j 0 % 1073741789
theorem difK_all {xs : List Int} : DifK xs xs.length ↔ Dif xs := Iff.rfl
theorem difK_zero (xs : List Int) : DifK xs 0 := fun _ _ _ h => by omega
theorem difK_succ {xs : List Int} {k : Nat} (h : DifK xs k) (hk : ∀ j, j < k → xs.getD j 0 % 1073741789 ≠ xs.getD k 0 % 1073741789) : DifK xs (k + 1) := fun i j h1 h2 => by
  by_cases hj : j = k
  · subst hj; exact hk i h1
  · exact h i j h1 (by omega)
/-- the datum of the map when k X have come -/
def Met (xs : List Int) (k : Nat) (D : DataW Unit) : Prop := ∀ y, D.atKey (.int .i64 y) (.lit (.bool false)) = .lit (.bool true) ∧ (∃ j, j < k ∧ xs.getD j 0 % 1073741789 = y) ∨ D.atKey (.int .i64 y) (.lit (.bool false)) = .lit (.bool false) ∧ ∀ j, j < k → xs.getD j 0 % 1073741789 ≠ y
theorem met_zero (xs : List Int) : Met xs 0 (.map []) := fun y => .inr ⟨rfl, fun j h => by omega⟩
theorem met_succ {xs : List Int} {k : Nat} {D : DataW Unit} (h : Met xs k D) (hm : IsMap D) : Met xs (k + 1) (D.put (.int .i64 (xs.getD k 0 % 1073741789)) (.lit (.bool true))) := fun y => by
  by_cases hy : y = xs.getD k 0 % 1073741789
  · subst hy
    exact .inl ⟨atKey_put_same hm (by simp [WideAt.IsKeyLit]) _ _, k, by omega, rfl⟩
  · have e : (D.put (.int .i64 (xs.getD k 0 % 1073741789)) (.lit (.bool true))).atKey (.int .i64 y) (.lit (.bool false)) = D.atKey (.int .i64 y) (.lit (.bool false)) := atKey_put_other (by simpa using hy) _ _
    rw [e]
    rcases h y with ⟨h1, j, h2, h3⟩ | ⟨h1, h2⟩
    · exact .inl ⟨h1, j, by omega, h3⟩
    · refine .inr ⟨h1, fun j hj => ?_⟩
      by_cases hjk : j = k
      · subst hjk; exact fun e => hy e.symm
      · exact h2 j (by omega)
theorem PRest.cells {B : Nat} {w : World} {l : List (Int × Int)} {a : Option Addr} {n cap : Nat} (h : PRest B w l (.slice a n cap)) : n = l.length ∧ n ≤ cap ∧ cap ≤ maxLen ∧ ∀ W, Below B w W → ∀ i, i < n → ∃ b off, a = some ⟨b, off, none⟩ ∧ b < B ∧ W.cell? ⟨b, off + i * 2, none⟩ = some (.int .i64 ((l.map (·.1)).getD i 0)) ∧ W.cell? ⟨b, off + i * 2 + 1, none⟩ = some (.int .i64 ((l.map (·.2)).getD i 0)) := by
  obtain ⟨a2, cap2, he, h2, h3, _, h5⟩ := h
  injection he with e1 e2 e3
  subst e1 e2 e3
  refine ⟨rfl, h2, h3, fun W hW i hi => ?_⟩
  rcases h5 with h0 | ⟨b, off, rfl, hb, hcl⟩
  · omega
  · rw [← getD_fst, ← getD_snd, show l.getD i (0, 0) = l[i] by simp [hi]]
    exact ⟨b, off, rfl, hb, (hW.cell (p := ⟨b, off + i * 2, none⟩) hb).trans (hcl i hi).1, (hW.cell (p := ⟨b, off + i * 2 + 1, none⟩) hb).trans (hcl i hi).2⟩
theorem PRest.shape {B : Nat} {w : World} {l : List (Int × Int)} {v : Value} (h : PRest B w l v) : ∃ a n cap, v = .slice a n cap := by
  obtain ⟨a, cap, h1, _⟩ := h; exact ⟨a, _, cap, h1⟩
theorem below_grown {w a b : World} (h : Below w.heap.size w a) (hg : a.grownBy b (some w.heap.size)) : Below w.heap.size w b :=
  ⟨hg.os.trans h.os, hg.tape.trans h.tape, hg.output.trans h.output, Nat.le_trans h.size hg.size, fun i hi => (hg.block i (Nat.lt_of_lt_of_le hi h.size) (fun e => by cases e; omega)).trans (h.block i hi)⟩
def DifHead (xs : List Int) (n : Nat) (w : World) (s10 : Value) (wr : World) : Prop :=
  ∃ (k : Nat) (D : DataW Unit), k ≤ n ∧ s10 = .int .i64 (k : Int) ∧ wr.ownsMap Try.prog 3 (plainElem Try.prog 4) w.heap.size k D ∧ Met xs k D ∧ DifK xs k ∧ Below w.heap.size w wr
set_option maxHeartbeats 2000000 in
set_option maxRecDepth 100000 in
theorem different_call (l : List (Int × Int)) (v : Value) (w : World) (h : PRest w.heap.size w l v) :
    Calls Try.prog 23 #[v] w fun e w' => (∃ b, e = .returned (.bool b) ∧ (b = true ↔ Dif (l.map (·.1)))) ∧ Below w.heap.size w w' := by
  have HPI : Hid (∀ k, I64 (l.map (·.1) |>.getD k 0)) := Lib.hid (fun k => by rw [← getD_fst]; exact (h.i64 k).1)
  obtain ⟨a, n, cap, rfl⟩ := h.shape
  obtain ⟨hn, hc1, hc2, hcl⟩ := h.cells
  have HN : Hid (n = (l.map (·.1)).length) := Lib.hid (by rw [List.length_map]; exact hn)
  have HCL := Lib.hid hcl
  unfold maxLen at hc2
  have hnm : (n : Int) ≤ 9223372036854775807 := by omega
  have HCC := Lib.hid (show n ≤ 9223372036854775807 by omega)
  clear hn h hcl hc1 hc2
  have hmm := @run_makeMap Try.prog
  have hown0 : (w.alloc (.map #[] 0)).ownsMap Try.prog 3 (plainElem Try.prog 4) w.heap.size 0 (.map ([] : List (Lit × DataW Unit))) := World.ownsMap_made _ _ _ _
  go_enter Try.func23, Try.ntmps23
  go_wp2_with fail
  go_loopw [10] (fun s10 wr => DifHead (l.map (·.1)) n w s10 wr) (fun s10 _ => n - (intOf s10).toNat)
  case atStart => exact ⟨0, _, by omega, rfl, hown0, met_zero _, difK_zero _, Joins.below_alloc1 w _⟩
  case round =>
    obtain ⟨k, D, hk, rfl, hown, hmet, hdif, hB⟩ := hrel
    rcases Nat.lt_or_ge k n with hlt | hge
    · obtain ⟨b, off, rfl, hbl, hcx, hcy⟩ := HCL.out wr hB k hlt
      have hxI := HPI.out k
      have hki : (k : Int) < (n : Int) := by omega
      have HD2 : Hid (∀ h : DifK (l.map (·.1)) k, ∀ h2 : (∀ j, j < k → (l.map (·.1)).getD j 0 % 1073741789 ≠ (l.map (·.1)).getD k 0 % 1073741789), DifK (l.map (·.1)) (k + 1)) := Lib.hid (fun h h2 => difK_succ h h2)
      have HM2 := Lib.hid (met_succ hmet (hown.isMap))
      have HMY := Lib.hid (hmet ((l.map (·.1)).getD k 0 % 1073741789))
      have HDF := Lib.hid hdif
      have HRNG := Lib.hid (i64_mod ((l.map (·.1)).getD k 0))
      clear hmet hdif
      obtain ⟨x, hx⟩ : ∃ x, x = (l.map (·.1)).getD k 0 := ⟨_, rfl⟩
      obtain ⟨y, hy⟩ : ∃ y, y = (l.map (·.2)).getD k 0 := ⟨_, rfl⟩
      rw [← hx] at hcx hxI HD2 HM2 HMY HRNG
      rw [← hy] at hcy
      have HX := Lib.hid hx
      have HB1 := Lib.hid (hB.trans ((Joins.below_alloc1 wr (.cells #[.int .i64 x, .int .i64 y] 35)).mono hB.size))
      have hown1 := hown.alloc (.cells #[.int .i64 x, .int .i64 y] 35)
      have hkey := key_mk (i64_mod x)
      have HB := Lib.hid hB
      clear hx hy hB hown
      go_wp2_with (first
        | (go_at_call 10; refine (mod_call x _ hxI).mono ?_; rintro e w4 ⟨rfl, rfl⟩)
        | (at_lookup; refine wpList_lookup_own_bool _ rfl _ _ 45 rfl 3 4 law3 Try.underlying45 Try.underlying4 (zeroE _) w.heap.size k _ rfl hown1 _ _ rfl hkey ?_; intro c hat; cases c)
        | (at_mapUpdate; refine wpList_mapUpdate_own _ rfl _ _ _ 45 rfl 3 4 law3 Try.underlying45 _ w.heap.size k _ rfl hown1 (by unfold maxLen; omega) _ _ _ rfl rfl hkey _ [] (plainElem_bool Try.underlying4 true) ?_; intro w5 hown5 hgrow5))
      · refine ⟨⟨k + 1, _, by omega, by go_num, hown5, HM2.out, ?_, below_grown HB1.out hgrow5⟩, by simp [intOf]; omega⟩
        refine HD2.out HDF.out fun j hj => ?_
        rcases HMY.out with ⟨h1, _⟩ | ⟨_, h2⟩
        · rw [hat] at h1; simp at h1
        · exact h2 j hj
      · go_ret
        refine ⟨⟨_, rfl, ?_⟩, HB1.out⟩
        refine ⟨fun h => (by cases h), fun hd => ?_⟩
        rcases HMY.out with ⟨_, j, h1, h2⟩ | ⟨h1, _⟩
        · exact absurd (h2.trans (by rw [HX.out])) (hd j k h1 (by rw [← HN.out]; exact hlt))
        · rw [hat] at h1; simp at h1
    · obtain rfl : k = n := by omega
      go_wp2_with fail
      go_ret
      refine ⟨⟨_, rfl, ?_⟩, hB⟩
      simp only [true_iff]
      rw [← difK_all, ← HN.out]; exact hdif
end Go.Proofs.Ytbigkcemcdokaaa
