/- Value. -/
import Derived.Test.YtbmbddapbgnioaaGc
import Derived.Test.YtbmbddapbgnioaaMf
namespace Go.Proofs.Ytbmbddapbgnioaa
open Go.RowKit Go.Shelf

theorem surp_far {N : Nat} {v : Int} (hv : (N : Int) ≤ v) : ∀ (A : List Ar) (X : List Int), Inn N A → surp A X v = 0
  | [], X, _ => by cases X <;> rfl
  | _ :: _, [], _ => rfl
  | a :: A, x :: X, h => by
    have ih := surp_far hv A X (fun b hb => h b (by simp [hb]))
    have ha := h a (by simp)
    show (if a.1 = v then x else 0) - (if a.2.1 = v then x else 0) + surp A X v = 0
    rw [if_neg (by omega), if_neg (by omega), ih]; omega
theorem exL_all {A : List Ar} {X : List Int} (hX : X.length = A.length) (v : Nat) (h : v < 64) : (exL A X A.length).getD v 0 = surp A X (v : Int) := by
  rw [exL_get A X _ v h, List.take_of_length_le (Nat.le_refl _), List.take_of_length_le (by omega)]
theorem ps_flo {N s t : Int} {A : List Ar} {X : List Int} (hE : netE N s t A = 0) (hok : okF A X) : (psB (exL A X A.length) s t = true → Flo N.toNat s t A X) ∧ (psB (exL A X A.length) s t = false → ¬ Flo N.toNat s t A X) := by
  have hn := net_ok hE
  have hX := ((okF_iff A X).1 hok).1
  have hr := hn.rng
  constructor
  · intro h
    refine ⟨hok, fun v h0 h1 h2 h3 => ?_⟩
    unfold psB at h
    rw [List.all_eq_true] at h
    have h4 := of_decide_eq_true (h v.toNat (List.mem_range.2 (by omega)))
    rw [exL_all hX v.toNat (by omega), Int.toNat_of_nonneg h0] at h4
    rcases h4 with h4 | h4 | h4
    · exact h4
    · exact absurd h4 h2
    · exact absurd h4 h3
  · intro h hf
    have : psB (exL A X A.length) s t = true := ps_yes fun v hv => by
      rw [exL_all hX v hv]
      rcases Nat.lt_or_ge v N.toNat with h1 | h1
      · by_cases h2 : (v : Int) = s
        · exact .inr (.inl h2)
        · by_cases h3 : (v : Int) = t
          · exact .inr (.inr h3)
          · exact .inl (hf.bal v (by omega) (by omega) h2 h3)
      · exact .inl (surp_far (by omega) A X hn.net.inn)
    rw [this] at h; cases h
set_option maxRecDepth 100000 in
set_option maxHeartbeats 8000000 in
theorem value_call (N s t : Int) (A : List Ar) (X : List Int) (va vx : Value) (w : World) (hA : ARest w.heap.size w A va) (hX : IRest w.heap.size w X vx) :
    Calls Try.prog 11 #[netV N s t va, vx] w fun e w' => e = .returned (.tuple #[.int .i64 (valV N s t A X), .int .i64 (valE N s t A X)]) ∧ Below w.heap.size w w' := by
  have HCK : Hid (∀ W, Below w.heap.size w W → Calls Try.prog 15 #[netV N s t va] W fun e w' => e = .returned (.int .i64 (netE N s t A)) ∧ Below W.heap.size W w') := Lib.hid (fun W hW => check_call N s t A va W ((hA.stays hW).mono hW.size))
  have HFI : Hid (∀ W, Below w.heap.size w W → Calls Try.prog 24 #[netV N s t va, vx] W fun e w' => e = .returned (.bool (okB A X)) ∧ Below W.heap.size W w') := Lib.hid (fun W hW => fits_call N s t A X va vx W ((hA.stays hW).mono hW.size) ((hX.stays hW).mono hW.size))
  obtain ⟨er, her⟩ : ∃ er, er = netE N s t A := ⟨_, rfl⟩
  rw [← her] at HCK
  have HER := Lib.hid her
  have HAX := Lib.hid (And.intro hA hX)
  clear her hA hX
  unfold netV at HCK HFI ⊢
  have HX := Lib.hid (bx_new w N s t va)
  obtain ⟨W1, hW1⟩ : ∃ W1, W1 = w.alloc (.cells #[.int .i64 N, .int .i64 s, .int .i64 t, va] 24) := ⟨_, rfl⟩
  have HW1 := Lib.hid hW1
  rw [← hW1] at HX
  clear hW1
  have HCK1 := Lib.hid (HCK.out W1 HX.out.bw)
  have d0 := HX.out.row.cell (i := 0) rfl
  have d1 := HX.out.row.cell (i := 1) rfl
  have d2 := HX.out.row.cell (i := 2) rfl
  have d3 := HX.out.row.cell (i := 3) rfl
  go_enter Try.func11, Try.ntmps11
  go_upto_region 1 with (fail)
  rw [← HW1.out]
  by_cases he : er = 0
  · subst he
    have HCK0 := Lib.hid (HER.out.symm)
    go_upto_region 4 with (go_at_call 15; refine HCK1.out.mono ?_; rintro e w5 ⟨rfl, hb5⟩; have HR5 := Lib.hid (HX.out.keep hb5); clear hb5)
    clear d0 d1 d2 d3 HX HCK1 HCK HW1
    have d0 := HR5.out.row.cell (i := 0) rfl
    have d1 := HR5.out.row.cell (i := 1) rfl
    have d2 := HR5.out.row.cell (i := 2) rfl
    have d3 := HR5.out.row.cell (i := 3) rfl
    have HFI5 := Lib.hid (HFI.out w5 HR5.out.bw)
    clear HFI
    cases hok : okB A X with
    | false =>
      rw [hok] at HFI5
      have HV : Hid (valE N s t A X = 130 ∧ valV N s t A X = 0) := Lib.hid (val_no HCK0.out (fun hf => by rw [okB_yes hf.ok] at hok; cases hok))
      go_wp2_with (go_at_call 24; refine HFI5.out.mono ?_; rintro e w6 ⟨rfl, hb6⟩; have HR6 := Lib.hid (HR5.out.keep hb6); clear hb6)
      go_ret2
      exact ⟨by rw [HV.out.1, HV.out.2]; rfl, HR6.out.bw⟩
    | true =>
      rw [hok] at HFI5
      have hok2 : okF A X := Classical.byContradiction fun h => by rw [okB_no h] at hok; cases hok
      have hnk := net_ok HCK0.out
      have hlen := ((okF_iff A X).1 hok2).1
      obtain ⟨sn, rfl⟩ : ∃ sn : Nat, s = (sn : Int) := ⟨s.toNat, by have h1 := hnk.net.src; omega⟩
      obtain ⟨E, hE⟩ : ∃ E, E = exL A X A.length := ⟨_, rfl⟩
      obtain ⟨cs, hcs⟩ : ∃ cs, cs = (nums E).toArray := ⟨_, rfl⟩
      have hE64 : E.length = 64 := by rw [hE]; exact exL_len A X _
      have HEX : Hid (∀ W, Below w.heap.size w W → Calls Try.prog 25 #[netV N sn t va, vx] W fun e w' => e = .returned (.agg cs) ∧ Below W.heap.size W w') := Lib.hid (fun W hW => by
        rw [hcs, hE]
        exact excess_call N sn t A X va vx W ((HAX.out.1.stays hW).mono hW.size) ((HAX.out.2.stays hW).mono hW.size) (fun a ha => by
          have h1 := hnk.net.inn a ha
          have h2 := hnk.rng
          have h3 := hnk.loops a ha
          have h4 := hnk.caps a ha
          exact ⟨⟨h1.1.1, by omega⟩, ⟨h1.2.1, by omega⟩, h3, h4.2⟩) hnk.few hok2)
      have HPS : Hid (∀ W, Calls Try.prog 26 #[netV N sn t va, .agg cs] W fun e w' => e = .returned (.bool (psB E sn t)) ∧ Below W.heap.size W w') := Lib.hid (fun W => by rw [hcs]; exact passes_call N sn t E va W hE64)
      have hsz : cs.size = 64 := by rw [hcs]; simp [nums, hE64]
      have HSZ : Hid ((Try.prog.info? 50).map (·.size) = some cs.size) := Lib.hid (by rw [hsz]; kernel_rfl)
      have HS64 := Lib.hid hsz
      have HONE : Hid (cs.all (·.oneCell') = true) := Lib.hid (by rw [hcs]; simp [nums, Value.oneCell'])
      have hs64 : (sn : Int) < 64 := by have h1 := hnk.net.src; have h2 := hnk.rng; omega
      have HCS : Hid (cs[sn]? = some (.int .i64 (surp A X sn))) := Lib.hid (by
        have h1 := exL_all hlen sn (by omega)
        rw [← hE] at h1
        rw [hcs, ← h1]
        have h2 : sn < E.length := by omega
        simp [nums, h2])
      have HFLO : Hid ((psB E sn t = true → Flo N.toNat sn t A X) ∧ (psB E sn t = false → ¬ Flo N.toNat sn t A X)) := Lib.hid (by rw [hE]; exact ps_flo HCK0.out hok2)
      unfold netV at HEX HPS
      clear hnk hlen hE hcs hE64 hsz hok2 hok HAX
      go_upto_region 6 with (go_at_call 24; refine HFI5.out.mono ?_; rintro e w6 ⟨rfl, hb6⟩; have HR6 := Lib.hid (HR5.out.keep hb6); clear hb6)
      clear d0 d1 d2 d3 HR5 HFI5
      have d0 := HR6.out.row.cell (i := 0) rfl
      have d1 := HR6.out.row.cell (i := 1) rfl
      have d2 := HR6.out.row.cell (i := 2) rfl
      have d3 := HR6.out.row.cell (i := 3) rfl
      have HEX6 := Lib.hid (HEX.out w6 HR6.out.bw)
      clear HEX
      go_upto_region 7 with (first | (go_at_call 25; refine HEX6.out.mono ?_; rintro e w7 ⟨rfl, hb7⟩; have HR7 := Lib.hid (HR6.out.keep hb7); clear hb7) | (refine wpList_store_row rfl 50 (.tmp 6) (.tmp 18) rfl w7.heap.size cs rfl rfl 50 _ (heap_alloc_new w7 _) HSZ.out (by rw [HS64.out]; rfl) HONE.out ?_; rw [World.setRow_alloc_new]))
      have HR8 := Lib.hid (HR7.out.keep (Joins.below_alloc1 w7 (.cells cs 50)))
      have HQ8 : Hid ((w7.alloc (.cells cs 50)).heap[w7.heap.size]? = some (.cells cs 50 (0, 0))) := Lib.hid (heap_alloc_new w7 _)
      simp only [Act.put]
      generalize w7.alloc (.cells cs 50) = w8 at *
      obtain ⟨bE, hbE⟩ : ∃ bE, bE = w7.heap.size := ⟨_, rfl⟩
      rw [← hbE] at HQ8 ⊢
      clear d0 d1 d2 d3 HR6 HR7 HEX6 hbE
      have d0 := HR8.out.row.cell (i := 0) rfl
      have d1 := HR8.out.row.cell (i := 1) rfl
      have d2 := HR8.out.row.cell (i := 2) rfl
      have d3 := HR8.out.row.cell (i := 3) rfl
      have HPS8 := Lib.hid (HPS.out w8)
      clear HPS
      cases hps : psB E sn t with
      | false =>
        rw [hps] at HPS8 HFLO
        have HV : Hid (valE N sn t A X = 130 ∧ valV N sn t A X = 0) := Lib.hid (val_no HCK0.out (HFLO.out.2 rfl))
        go_wp2_with (first | (refine wpList_load_row rfl 50 (.tmp 6) rfl bE rfl 50 cs (0, 0) _ HQ8.out Try.underlying50 rfl HSZ.out ?_) | (go_at_call 26; refine HPS8.out.mono ?_; rintro e w9 ⟨rfl, hb9⟩; have HR9 := Lib.hid (HR8.out.keep hb9); clear hb9))
        go_ret2
        exact ⟨by rw [HV.out.1, HV.out.2]; rfl, HR9.out.bw⟩
      | true =>
        rw [hps] at HPS8 HFLO
        have HV : Hid (valE N sn t A X = 0 ∧ valV N sn t A X = surp A X sn) := Lib.hid (val_of HCK0.out (HFLO.out.1 rfl))
        have HQ : Hid (∀ W, Below w8.heap.size w8 W → W.cell? ⟨bE, sn, none⟩ = some (.int .i64 (surp A X sn))) := Lib.hid (fun W hW => (hW.cell (p := ⟨bE, sn, none⟩) (Array.getElem?_eq_some_iff.1 HQ8.out).1).trans ((cell_of_row w8 bE sn cs 50 (0, 0) HQ8.out).trans HCS.out))
        go_wp2_with (first | (refine wpList_load_row rfl 50 (.tmp 6) rfl bE rfl 50 cs (0, 0) _ HQ8.out Try.underlying50 rfl HSZ.out ?_) | (go_at_call 26; refine HPS8.out.mono ?_; rintro e w9 ⟨rfl, hb9⟩; have HR9 := Lib.hid (HR8.out.keep hb9); have g1 := HR9.out.row.cell (i := 1) rfl; have g2 := HQ.out w9 hb9; clear hb9))
        go_ret2
        exact ⟨by rw [HV.out.1, HV.out.2]; rfl, HR9.out.bw⟩
  · have HV : Hid (valE N s t A X = er ∧ valV N s t A X = 0) := Lib.hid (by have h9 := val_bad (X := X) (show netE N s t A ≠ 0 by rw [← HER.out]; exact he); rw [← HER.out] at h9; exact h9)
    go_wp2_with (go_at_call 15; refine HCK1.out.mono ?_; rintro e w5 ⟨rfl, hb5⟩; have HR5 := Lib.hid (HX.out.keep hb5); clear hb5)
    go_ret2
    exact ⟨by rw [HV.out.1, HV.out.2]; rfl, HR5.out.bw⟩
end Go.Proofs.Ytbmbddapbgnioaa
