/- The reference's Max and Most. -/
import Derived.Test.YtbmbddapbgnioaaKh
namespace Go.Proofs.Ytbmbddapbgnioaa
open Go.RowKit Go.Shelf

set_option maxRecDepth 100000 in
set_option maxHeartbeats 8000000 in
theorem rmax_bad (N s t : Int) (A : List Ar) (va : Value) (w : World) (hA : ARest w.heap.size w A va) (hE : netE N s t A ≠ 0) :
    Calls Try.prog 19 #[netV N s t va] w fun e w' => e = .returned (.tuple #[.slice none 0 0, .slice none 0 0, .int .i64 (netE N s t A)]) ∧ Kd w w' := by
  have HCK : Hid (∀ W, Below w.heap.size w W → Calls Try.prog 16 #[netV N s t va] W fun e w' => e = .returned (.int .i64 (netE N s t A)) ∧ Below W.heap.size W w') := Lib.hid (fun W hW => rcheck_call N s t A va W ((hA.stays hW).mono hW.size))
  obtain ⟨er, her⟩ : ∃ er, er = netE N s t A := ⟨_, rfl⟩
  rw [← her] at HCK hE ⊢
  have gb : (er != 0) = true := by simp [hE]
  clear her hA
  unfold netV at HCK ⊢
  have HX := Lib.hid (bx_new w N s t va)
  obtain ⟨W1, hW1⟩ : ∃ W1, W1 = w.alloc (.cells #[.int .i64 N, .int .i64 s, .int .i64 t, va] 24) := ⟨_, rfl⟩
  have HW1 := Lib.hid hW1
  rw [← hW1] at HX
  clear hW1
  have HCK1 := Lib.hid (HCK.out W1 HX.out.bw)
  have d0 := HX.out.row.cell (i := 0) rfl
  have d1 := HX.out.row.cell (i := 1) rfl
  have d2 := HX.out.row.cell (i := 2) rfl
  have d3 := HX.out.row.cell (i := 3) rfl
  go_enter Try.func19, Try.ntmps19
  go_upto_region 1 with (fail)
  rw [← HW1.out]
  go_wp2_with (go_at_call 16; refine HCK1.out.mono ?_; rintro e w5 ⟨rfl, hb5⟩; have HR5 := Lib.hid (HX.out.keep hb5); clear hb5)
  go_ret3
  exact ⟨rfl, Kd.of HR5.out.bw⟩
/-- what the reference's Max answers -/
structure RMx (N s t : Nat) (A : List Ar) (w : World) (e : Ending) (w' : World) (X : List Int) (l : List Bool) (vf vs : Value) : Prop where
  e : e = .returned (.tuple #[vf, vs, .int .i64 0])
  kd : Kd w w'
  fl : IRest w'.heap.size w' X vf
  sd : BRest w'.heap.size w' l vs
  len : l.length = N
  max : IsMax N s t A X (ofL l)
set_option maxRecDepth 100000 in
set_option maxHeartbeats 8000000 in
theorem rmax_good (N s t : Nat) (A : List Ar) (va : Value) (w : World) (hA : ARest w.heap.size w A va) (hE : netE N s t A = 0) :
    Calls Try.prog 19 #[netV N s t va] w fun e w' => ∃ X l vf vs, RMx N s t A w e w' X l vf vs := by
  have hnk := net_ok hE
  have HNK := Lib.hid hnk
  have HE := Lib.hid hE
  have HCK : Hid (∀ W, Below w.heap.size w W → Calls Try.prog 16 #[netV N s t va] W fun e w' => e = .returned (.int .i64 0) ∧ Below W.heap.size W w') := Lib.hid (fun W hW => by
    have h9 := rcheck_call N s t A va W ((hA.stays hW).mono hW.size)
    rw [hE] at h9; exact h9)
  have HST : Hid (∀ W X vx, Kd w W → IRest W.heap.size W X vx → okF A X → Calls Try.prog 37 #[netV N s t va, vx] W fun e w' => ∃ by' sd l vb vs, StP N s t A X W e w' by' sd l vb vs) := Lib.hid (fun W X vx hW hX hok => rsteps_call N s t A X va vx W (hW.arest hA) hX hE hok)
  have HRO : Hid (∀ W X by' sd l L vx vb, Kd w W → IRest W.heap.size W X vx → IRest W.heap.size W by' vb → okF A X → BI N s A X by' sd l → (∀ x, x ∈ by' → -1000 ≤ x ∧ x ≤ 1000) → Chn s (parB A by') (t : Int) L → (∀ u, u ∈ L → u ∈ l ∧ u ≠ s) → (t : Int) ∈ l → (∀ v, v ∈ l → v ≠ (s : Int) → byB by' v ≠ 0) →
      Calls Try.prog 39 #[netV N s t va, vx, vb] W fun e w' => e = .returned (.int .i64 (roomL (slk A X (idxB by') (fwB by')) L 1073741824)) ∧ Kd W w') := Lib.hid (fun W X by' sd l L vx vb hW hX hB h1 h2 h3 h4 h5 h6 h7 => rroom_call N s t A X by' sd l L va vx vb W (hW.arest hA) hX hB hE h1 h2 h3 h4 h5 h6 h7)
  have HSE : Hid (∀ W X by' sd l L M vx vb, Kd w W → IRest W.heap.size W X vx → IRest W.heap.size W by' vb → okF A X → BI N s A X by' sd l → (∀ x, x ∈ by' → -1000 ≤ x ∧ x ≤ 1000) → Chn s (parB A by') (t : Int) L → (∀ u, u ∈ L → u ∈ l ∧ u ≠ s) → (t : Int) ∈ l → (∀ v, v ∈ l → v ≠ (s : Int) → byB by' v ≠ 0) → 0 ≤ M ∧ M ≤ 1073741824 → L.length ≤ 64 →
      Calls Try.prog 38 #[netV N s t va, vx, vb, .int .i64 M] W fun e w' => ∃ v', e = .returned v' ∧ Kd W w' ∧ IBuf w' v' (sendL (idxB by') (fwB by') M L X)) := Lib.hid (fun W X by' sd l L M vx vb hW hX hB h1 h2 h3 h4 h5 h6 h7 h8 h9 => rsend_call N s t A X by' sd l L M va vx vb W (hW.arest hA) hX hB hE h1 h2 h3 h4 h5 h6 h7 h8 h9)
  obtain ⟨a, c, rfl, -⟩ := id hA
  obtain ⟨n, hn⟩ : ∃ n, n = A.length := ⟨_, rfl⟩
  rw [← hn] at HCK HST HRO HSE ⊢
  have HNL := Lib.hid (And.intro hn (show n ≤ 512 by have := hnk.few; omega))
  have hn512 := HNL.out.2
  clear hA hn hnk hE
  unfold netV at HCK HST HRO HSE ⊢
  have HX := Lib.hid (bx_new w N s t (.slice a n c))
  obtain ⟨W1, hW1⟩ : ∃ W1, W1 = w.alloc (.cells #[.int .i64 (N : Int), .int .i64 (s : Int), .int .i64 (t : Int), .slice a n c] 24) := ⟨_, rfl⟩
  have HW1 := Lib.hid hW1
  rw [← hW1] at HX
  clear hW1
  have HCK1 := Lib.hid (HCK.out W1 HX.out.bw)
  have d0 := HX.out.row.cell (i := 0) rfl
  have d1 := HX.out.row.cell (i := 1) rfl
  have d2 := HX.out.row.cell (i := 2) rfl
  have d3 := HX.out.row.cell (i := 3) rfl
  go_enter Try.func19, Try.ntmps19
  go_upto_region 1 with (fail)
  rw [← HW1.out]
  go_upto_region 4 with (go_at_call 16; refine HCK1.out.mono ?_; rintro e w5 ⟨rfl, hb5⟩; have HR5 := Lib.hid (HX.out.keep hb5); clear hb5)
  clear d0 d1 d2 d3 HCK1 HCK HX HW1
  have d3 := HR5.out.row.cell (i := 3) rfl
  go_upto_region 5 with (first | (refine wpList_make rfl (.tmp 16) rfl n (by omega) rfl ?_; intro f W6 hf hrow hsz hb; have HF := Lib.hid (And.intro hf (And.intro hrow (And.intro hsz hb))); clear hf hrow hsz hb) | fail)
  clear d3
  have HR6 := Lib.hid (HR5.out.keep HF.out.2.2.2)
  have HI6 : Hid (IRest W6.heap.size W6 (List.replicate n 0) (.slice (some ⟨f, 0, none⟩) n n)) := Lib.hid (irest_rowN HF.out.2.1 (by simp) (by unfold maxLen; omega) (fun x hx => by rw [List.eq_of_mem_replicate hx]; unfold I64; omega))
  have HF0 : Hid (Flo N s t A (List.replicate n 0)) := Lib.hid (by
    have h9 := Flo.zero (N := N) (s := (s : Int)) (t := (t : Int)) (A := A) (fun a ha => (HNK.out.caps a ha).1)
    rw [← HNL.out.1] at h9
    exact h9.1)
  go_loopg [6] (bnd A (List.replicate n 0) s) (fun k s6 wr => ∃ (af : Option Addr) (cf : Nat) (X : List Int), s6 = .slice af n cf ∧ IRest wr.heap.size wr X (.slice af n cf) ∧ Flo N s t A X ∧ k = bnd A X s ∧ Bx w wr w.heap.size N s t (.slice a n c))
  case atStart => exact ⟨_, _, _, rfl, HI6.out, HF0.out, rfl, HR6.out⟩
  case round =>
    obtain ⟨af, cf, X, rfl, hX, hF, hgk, hR⟩ := hrel
    have HR := Lib.hid hR
    have HXI := Lib.hid hX
    have HFL := Lib.hid hF
    have HGK := Lib.hid hgk
    clear hR hX hF hgk HR5 HR6 HI6 HF0 HF
    have d0 := HR.out.row.cell (i := 0) rfl
    have d1 := HR.out.row.cell (i := 1) rfl
    have d2 := HR.out.row.cell (i := 2) rfl
    have d3 := HR.out.row.cell (i := 3) rfl
    have HST1 := Lib.hid (HST.out wr X (.slice af n cf) (Kd.of HR.out.bw) HXI.out HFL.out.ok)
    go_upto_region 6 with (go_at_call 37; refine HST1.out.mono ?_; rintro e w7 ⟨by', sd, l, vb, vs, hp⟩; have HP := Lib.hid hp; obtain rfl := hp.e; clear hp)
    clear d0 d1 d2 d3 HST1
    have HR7 := Lib.hid (HR.out.keep HP.out.kd.below)
    have HX7 := Lib.hid (HP.out.kd.irest HXI.out)
    obtain ⟨ab, cb, hvb, -⟩ := HP.out.rb
    obtain ⟨as7, cs7, hvs⟩ : ∃ a c, vs = .slice a sd.length c := by obtain ⟨a, c, h1, -⟩ := HP.out.rs; exact ⟨a, c, h1⟩
    rw [HP.out.bi.lb] at hvb
    rw [HP.out.bi.ls] at hvs
    subst hvb hvs
    have d2 := HR7.out.row.cell (i := 2) rfl
    have hat := (bools_at HP.out.rs).2.2.2
    have htN : t < N := by have := HNK.out.net.snk; omega
    obtain ⟨b1, o1, q1, -, f1⟩ := hat t (by rw [HP.out.bi.ls]; exact htN)
    subst q1
    have hti : (t : Int) < (N : Int) := by omega
    clear hat
    cases hz : sd.getD t false with
    | false =>
      rw [hz] at f1
      have HMAX : Hid (IsMax N s t A X (ofL sd)) := Lib.hid (HP.out.bi.isMax HNK.out.net HFL.out (fun h => by
        have h9 := (HP.out.bi.says (t : Int) (by omega) (by omega)).2 h
        rw [Int.toNat_natCast, hz] at h9; cases h9) HP.out.dn)
      clear hz
      go_wp2_with fail
      go_ret3
      exact ⟨X, sd, _, _, rfl, Kd.of HR7.out.bw, HX7.out, HP.out.rs, HP.out.bi.ls, HMAX.out⟩
    | true =>
      rw [hz] at f1
      have htl : (t : Int) ∈ l := (HP.out.bi.says (t : Int) (by omega) (by omega)).1 (by rw [Int.toNat_natCast, hz])
      obtain ⟨L, hL1, hL2, hL3, hL4, hL5, hL6⟩ := HP.out.bi.more HNK.out.net.ne HFL.out htl 1073741824 (by omega)
      obtain ⟨M, hM⟩ : ∃ M, M = roomL (slk A X (idxB by') (fwB by')) L 1073741824 := ⟨_, rfl⟩
      have hM2 : M ≤ 1073741824 := by rw [hM]; exact (roomL_le _ L _).1
      rw [← hM] at hL4 hL5 hL6
      have HM := Lib.hid hM
      have HLL := Lib.hid (And.intro hL1 (And.intro hL2 (And.intro hL3 (And.intro hL4 (And.intro hL5 (And.intro hL6 (And.intro htl hM2)))))))
      clear hz hL1 hL2 hL3 hL4 hL5 hL6 htl hM
      go_upto_region 8 with (fail)
      have e0 : ∀ W, Below w7.heap.size w7 W → W.cell? ⟨w.heap.size, 0, none⟩ = some (.int .i64 (N : Int)) := fun W hW => (HR7.out.row.keep hW).cell (i := 0) rfl
      have e1 : ∀ W, Below w7.heap.size w7 W → W.cell? ⟨w.heap.size, 1, none⟩ = some (.int .i64 (s : Int)) := fun W hW => (HR7.out.row.keep hW).cell (i := 1) rfl
      have e2 : ∀ W, Below w7.heap.size w7 W → W.cell? ⟨w.heap.size, 2, none⟩ = some (.int .i64 (t : Int)) := fun W hW => (HR7.out.row.keep hW).cell (i := 2) rfl
      have e3 : ∀ W, Below w7.heap.size w7 W → W.cell? ⟨w.heap.size, 3, none⟩ = some (.slice a n c) := fun W hW => (HR7.out.row.keep hW).cell (i := 3) rfl
      have HRO1 : Hid (∀ W, Below w7.heap.size w7 W → Calls Try.prog 39 #[.agg #[.int .i64 (N : Int), .int .i64 (s : Int), .int .i64 (t : Int), .slice a n c], .slice af n cf, .slice ab N cb] W fun e w' => e = .returned (.int .i64 M) ∧ Kd W w') := Lib.hid (fun W hW => by
        have h9 := HRO.out W X by' sd l L _ _ (Kd.of (HR7.out.bw.trans (hW.mono HR7.out.bw.size))) ((Kd.of hW).irest HX7.out) ((Kd.of hW).irest HP.out.rb) HFL.out.ok HP.out.bi HP.out.bz HLL.out.1 HLL.out.2.1 HLL.out.2.2.2.2.2.2.1 HP.out.nz
        rw [← HM.out] at h9
        exact h9)
      have HSE1 : Hid (∀ W, Below w7.heap.size w7 W → Calls Try.prog 38 #[.agg #[.int .i64 (N : Int), .int .i64 (s : Int), .int .i64 (t : Int), .slice a n c], .slice af n cf, .slice ab N cb, .int .i64 M] W fun e w' => ∃ v', e = .returned v' ∧ Kd W w' ∧ IBuf w' v' (sendL (idxB by') (fwB by') M L X)) := Lib.hid (fun W hW =>
        HSE.out W X by' sd l L M _ _ (Kd.of (HR7.out.bw.trans (hW.mono HR7.out.bw.size))) ((Kd.of hW).irest HX7.out) ((Kd.of hW).irest HP.out.rb) HFL.out.ok HP.out.bi HP.out.bz HLL.out.1 HLL.out.2.1 HLL.out.2.2.2.2.2.2.1 HP.out.nz ⟨Int.le_of_lt HLL.out.2.2.2.1, HLL.out.2.2.2.2.2.2.2⟩ (by have := HLL.out.2.2.1; have := HNK.out.rng; omega))
      clear f1 d2 HST HRO HSE
      go_region_held3 (fun W => Below w7.heap.size w7 W) (first | assumption | exact (Below.refl _ _).drew) (first
        | (go_at_call 38; refine (HSE1.out _ (by assumption)).mono ?_; rintro e w9 ⟨v9, rfl, hk9, hb9⟩; have hB9 : Below w7.heap.size w7 w9 := below_next (by assumption) hk9.below; obtain ⟨a9, c9, h9s, -⟩ := hb9.shape; subst h9s; have HB9 := Lib.hid hb9; clear hk9 hb9)
        | (go_at_call 39; refine (HRO1.out _ (by assumption)).mono ?_; rintro e w8 ⟨rfl, hk8⟩; have hB8 : Below w7.heap.size w7 w8 := below_next (by assumption) hk8.below; clear hk8))
      all_goals
        obtain ⟨X', hX'⟩ : ∃ X', X' = sendL (idxB by') (fwB by') M L X := ⟨_, rfl⟩
        have hF' := HLL.out.2.2.2.2.1
        have hS' := HLL.out.2.2.2.2.2.1
        rw [← hX'] at HB9 hF' hS' ⊢
        have hlX' : X'.length = n := by rw [((okF_iff A X').1 hF'.ok).1]; exact HNL.out.1.symm
        have HFX := Lib.hid (And.intro hF' (And.intro hS' hlX'))
        rw [hlX'] at HB9 ⊢
        clear hX' hF' hS' hlX'
        have HW := Lib.hid (show Below w7.heap.size w7 w9 by assumption)
        go_wp2_with fail
        go_roundg (bnd A X' s)
        case measure =>
          have h1 := HFX.out.1.bound (M := 1073741824) HNK.out.net HNK.out.caps
          have h2 := HFX.out.2.1
          have h3 := HLL.out.2.2.2.1
          rw [HGK.out]
          unfold bnd
          omega
        case rel => exact ⟨_, _, X', rfl, HB9.out.rest (okF_i64 HFX.out.1.ok HNK.out.caps), HFX.out.1, rfl, HR7.out.keep HW.out⟩
set_option maxRecDepth 100000 in
set_option maxHeartbeats 8000000 in
theorem rmost_call (N s t : Nat) (A : List Ar) (va : Value) (w : World) (hA : ARest w.heap.size w A va) (hE : netE N s t A = 0) :
    Calls Try.prog 20 #[netV N s t va] w fun e w' => ∃ X l, e = .returned (.int .i64 (surp A X s)) ∧ Kd w w' ∧ IsMax N s t A X (ofL l) := by
  have HE := Lib.hid hE
  have HMX : Hid (∀ W, Kd w W → Calls Try.prog 19 #[netV N s t va] W fun e w' => ∃ X l vf vs, RMx N s t A W e w' X l vf vs) := Lib.hid (fun W hW => rmax_good N s t A va W (hW.arest hA) hE)
  have HVA : Hid (∀ W X vf, Kd w W → IRest W.heap.size W X vf → Calls Try.prog 12 #[netV N s t va, vf] W fun e w' => e = .returned (.tuple #[.int .i64 (valV N s t A X), .int .i64 (valE N s t A X)]) ∧ Below W.heap.size W w') := Lib.hid (fun W X vf hW hX => rvalue_call N s t A X va vf W (hW.arest hA) hX)
  clear hE hA
  unfold netV at HMX HVA ⊢
  have HX := Lib.hid (bx_new w (N : Int) s t va)
  obtain ⟨W1, hW1⟩ : ∃ W1, W1 = w.alloc (.cells #[.int .i64 (N : Int), .int .i64 (s : Int), .int .i64 (t : Int), va] 24) := ⟨_, rfl⟩
  have HW1 := Lib.hid hW1
  rw [← hW1] at HX
  clear hW1
  have HK1 : Hid (Kd w W1) := Lib.hid (Kd.of HX.out.bw)
  have HQ1 := Lib.hid HX.out.row
  have HMX1 := Lib.hid (HMX.out W1 HK1.out)
  clear HMX HX
  have d0 := HQ1.out.cell (i := 0) rfl
  have d1 := HQ1.out.cell (i := 1) rfl
  have d2 := HQ1.out.cell (i := 2) rfl
  have d3 := HQ1.out.cell (i := 3) rfl
  go_enter Try.func20, Try.ntmps20
  go_upto_region 1 with (fail)
  rw [← HW1.out]
  go_upto_region 2 with (go_at_call 19; refine HMX1.out.mono ?_; rintro e w5 ⟨X, l, vf, vs, hm⟩; have HM := Lib.hid hm; obtain rfl := hm.e; clear hm)
  have HK5 : Hid (Kd w w5) := Lib.hid (HK1.out.trans HM.out.kd)
  have HQ5 := Lib.hid (HM.out.kd.row HQ1.out)
  have HVA5 : Hid (Calls Try.prog 12 #[.agg #[.int .i64 (N : Int), .int .i64 (s : Int), .int .i64 (t : Int), va], vf] w5 fun e w' => e = .returned (.tuple #[.int .i64 (surp A X s), .int .i64 0]) ∧ Below w5.heap.size w5 w') := Lib.hid (by
    have h9 := HVA.out w5 X vf HK5.out HM.out.fl
    have h8 := val_of (X := X) HE.out (by simpa using HM.out.max.flo)
    rw [h8.1, h8.2] at h9; exact h9)
  clear HMX1 HVA HQ1 HK1 d0 d1 d2 d3 HW1
  have d0 := HQ5.out.cell (i := 0) rfl
  have d1 := HQ5.out.cell (i := 1) rfl
  have d2 := HQ5.out.cell (i := 2) rfl
  have d3 := HQ5.out.cell (i := 3) rfl
  go_wp2_with (go_at_call 12; refine HVA5.out.mono ?_; rintro e w6 ⟨rfl, hb6⟩; have HB6 := Lib.hid hb6; clear hb6)
  go_ret
  exact ⟨X, l, rfl, HK5.out.trans (Kd.of HB6.out), HM.out.max⟩
end Go.Proofs.Ytbmbddapbgnioaa
