/- nearest. -/
import Derived.Test.YthkmbbgcadfilaaF
import Derived.Deep.MidRow
namespace Go.Proofs.Ythkmbbgcadfilaa
open Go.RowKit Go.Shelf

theorem idxA (cs : Array Value) (k : Nat) (x : Int) (w : World) (hk : k < 16) (h : cs[k]? = some (.int .i64 x)) : (Instr.index 80 (.agg cs) (.int .i64 (k : Int))).run Try.prog w = .ok (.int .i64 x) w := by
  obtain ⟨i0, hi, hz⟩ := info_parts Try.infoI
  simp only [Prod.mk.injEq] at hz
  obtain ⟨hz0, hz1, hz2⟩ := hz
  have h1 : (k : Int) < 16 := by omega
  simp [Instr.index, run_underlying Try.underlying80, run_underlying Try.underlying3, asIntOf, h1, sizeOf, typeInfo, hi, hz1, part, isAgg, h, go_sem]
  intro h2; omega
/-- which column is the nearest -/
def NearP (LN : List Int) (SU : List Bool) (b : Nat) (k l : Int) : Prop :=
  (k = -1 ∧ l = farI ∧ ∀ j, j < b → gB SU j = false → farI ≤ gI LN farI j) ∨ ∃ e : Nat, e < b ∧ k = (e : Int) ∧ l = gI LN farI e ∧ gB SU e = false ∧ gI LN farI e < farI ∧ ∀ j, j < b → gB SU j = false → gI LN farI e ≤ gI LN farI j
theorem NearP.far {LN : List Int} {SU : List Bool} {b : Nat} {k l : Int} (h : NearP LN SU b k l) : l ≤ farI ∧ ∀ j, j < b → gB SU j = false → l ≤ gI LN farI j := by
  rcases h with ⟨_, h1, h2⟩ | ⟨e, _, _, h1, _, h2, h3⟩
  · exact ⟨by omega, fun j hj hs => by rw [h1]; exact h2 j hj hs⟩
  · exact ⟨by omega, fun j hj hs => by rw [h1]; exact h3 j hj hs⟩
theorem NearP.skip {LN : List Int} {SU : List Bool} {b : Nat} {k l : Int} (h : NearP LN SU b k l) (hs : gB SU b = true ∨ l ≤ gI LN farI b) : NearP LN SU (b + 1) k l := by
  have hall : ∀ j, j < b + 1 → gB SU j = false → l ≤ gI LN farI j := fun j hj hx => by
    by_cases e : j = b
    · subst e
      rcases hs with hs | hs
      · rw [hs] at hx; cases hx
      · exact hs
    · exact h.far.2 j (by omega) hx
  rcases h with ⟨h0, h1, h2⟩ | ⟨e, h0, h1, h2, h3, h4, h5⟩
  · exact .inl ⟨h0, h1, fun j hj hx => by have := hall j hj hx; omega⟩
  · exact .inr ⟨e, by omega, h1, h2, h3, h4, fun j hj hx => by have := hall j hj hx; omega⟩
theorem NearP.take {LN : List Int} {SU : List Bool} {b : Nat} {k l : Int} (h : NearP LN SU b k l) (hs : gB SU b = false) (hl : gI LN farI b < l) : NearP LN SU (b + 1) (b : Int) (gI LN farI b) := by
  refine .inr ⟨b, by omega, rfl, rfl, hs, by have := h.far.1; omega, fun j hj hx => ?_⟩
  by_cases e : j = b
  · subst e; exact Int.le_refl _
  · have := h.far.2 j (by omega) hx; omega
set_option maxRecDepth 100000 in
set_option maxHeartbeats 8000000 in
theorem nearest_call {gp : Nat} {LN FR : List Int} {SU : List Bool} (w : World) (hp : PMem gp LN FR SU w) :
    Calls Try.prog 60 #[.pointer (some ⟨gp, 0, none⟩)] w fun e w' => ∃ k l, e = .returned (.int .i64 k) ∧ w' = w ∧ NearP LN SU 16 k l := by
  have HP := Lib.hid hp
  have hll := hp.ll
  have hran : w.rangeAt gp 0 (nums LN) := fun j v hj => by
    have h9 := hp.row
    rw [Nat.zero_add]
    refine h9.cell (i := j) ?_
    rw [List.getElem?_append_left (by have := (List.getElem?_eq_some_iff.1 hj).1; exact this)]
    exact hj
  have HRAN := Lib.hid hran
  obtain ⟨ns, hns⟩ : ∃ ns, ns = nums LN := ⟨_, rfl⟩
  have hsz : ns.length = 16 := by rw [hns]; simp [hll]
  obtain ⟨cs, hcs⟩ : ∃ cs, cs = ns.toArray := ⟨_, rfl⟩
  have hat : ∀ v : Nat, v < 16 → cs[v]? = some (.int .i64 (gI LN farI v)) := fun v hv => by
    rw [hcs, hns]
    have h9 : v < LN.length := by omega
    simp [gI, h9]
  have HAT := Lib.hid hat
  have HCS := Lib.hid hcs
  rw [← hns] at HRAN
  have HSZ : Hid ((Try.prog.info? 80).map (·.size) = some ns.length) := Lib.hid (by rw [hsz]; kernel_rfl)
  clear hns hcs hat hran hp hsz hll
  go_enter Try.func60, Try.ntmps60
  go_upto_region 3 with (refine wpList_load_mid rfl 80 (.tmp 9) rfl gp 0 rfl ns _ HRAN.out Try.underlying80 rfl HSZ.out ?_)
  rw [← HCS.out]
  go_loopw [3, 4, 11] (fun s3 s4 s11 wr => ∃ (j : Nat) (k l : Int), j ≤ 16 ∧ s3 = .int .i64 k ∧ s4 = .int .i64 l ∧ s11 = .int .i64 (j : Int) ∧ wr = w ∧ NearP LN SU j k l) (fun _ _ s11 _ => 16 - (intOf s11).toNat)
  case atStart => exact ⟨0, -1, farI, by omega, rfl, rfl, rfl, rfl, .inl ⟨rfl, rfl, fun j hj => by omega⟩⟩
  case round =>
    obtain ⟨j, k, l, hj, rfl, rfl, rfl, rfl, hn⟩ := hrel
    have HJ := Lib.hid hj
    have HN := Lib.hid hn
    clear hj hn
    by_cases hlt : j < 16
    · have hji : (j : Int) < 16 := by omega
      have HLT := Lib.hid hlt
      have e0 := HAT.out j hlt
      have e9 := fun W => idxA cs j _ W hlt e0
      have cS := HP.out.at_sure hlt
      obtain ⟨x, hx⟩ : ∃ x, x = gI LN farI j := ⟨_, rfl⟩
      obtain ⟨z, hz⟩ : ∃ z, z = gB SU j := ⟨_, rfl⟩
      rw [← hx] at e0 e9
      rw [show SU.getD j false = z from hz.symm] at cS
      have HX := Lib.hid (And.intro hx hz)
      clear hx hz hlt
      cases z with
      | true =>
        have HN2 := Lib.hid (HN.out.skip (.inl HX.out.2.symm))
        go_wp2_with fail
        exact ⟨⟨j + 1, k, l, by have := HLT.out; omega, rfl, rfl, by go_num, by first | rfl | trivial, HN2.out⟩, by have := HLT.out; simp [intOf]; omega⟩
      | false =>
        by_cases hl : x < l
        · have HN2 := Lib.hid (HN.out.take HX.out.2.symm (by rw [← HX.out.1]; exact hl))
          go_wp2_with fail
          exact ⟨⟨j + 1, _, _, by have := HLT.out; omega, rfl, rfl, by go_num, by first | rfl | trivial, by rw [HX.out.1]; exact HN2.out⟩, by have := HLT.out; simp [intOf]; omega⟩
        · have HN2 := Lib.hid (HN.out.skip (.inr (by rw [← HX.out.1]; omega)))
          go_wp2_with fail
          exact ⟨⟨j + 1, k, l, by have := HLT.out; omega, rfl, rfl, by go_num, by first | rfl | trivial, HN2.out⟩, by have := HLT.out; simp [intOf]; omega⟩
    · obtain rfl : j = 16 := by have := HJ.out; omega
      go_wp2_with fail
      go_ret
      exact ⟨k, l, rfl, by first | rfl | trivial, HN.out⟩
end Go.Proofs.Ythkmbbgcadfilaa
