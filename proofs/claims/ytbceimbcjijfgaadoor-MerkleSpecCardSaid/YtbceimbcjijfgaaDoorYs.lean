/- The specification: lists of digests compared. -/
import Derived.Test.YtbceimbcjijfgaaDoorYe
import Derived.Deep.RegionLaw
import Derived.Deep.RegionHeld
import Derived.BigRegion
namespace Go.Proofs.YtbceimbcjijfgaaDoor.Dig
open Go.RowKit

def SmHead (m : Nat) (W : World) (s5 : Value) (wr : World) : Prop := ∃ i : Nat, i ≤ m ∧ s5 = .int .i64 (i : Int) ∧ Below W.heap.size W wr
theorem cut0 {A : Type} {F : A → Prop} (G : A → Prop) {R : Prop} (rest : (∀ a, F a → G a) → R) (kk : ∀ a, F a → G a) : R := rest kk

set_option maxHeartbeats 4000000 in
set_option maxRecDepth 100000 in
theorem same_call (ds : List (List UInt8)) (u v : Value) (w : World) (hu : DRest w.heap.size w ds u) (hv : DRest w.heap.size w ds v) :
    Calls Tryd.prog 16 #[u, v] w fun e w' => e = .returned (.bool true) ∧ Below w.heap.size w w' := by
  have HU := Lib.hid hu
  have HV := Lib.hid hv
  obtain ⟨a, c, rfl⟩ : ∃ a cap, u = .slice a ds.length cap := by obtain ⟨_, a, cap, h, _⟩ := hu; exact ⟨a, cap, h⟩
  obtain ⟨a2, c2, rfl⟩ : ∃ a cap, v = .slice a ds.length cap := by obtain ⟨_, a, cap, h, _⟩ := hv; exact ⟨a, cap, h⟩
  obtain ⟨m, hm⟩ : ∃ m, m = ds.length := ⟨_, rfl⟩
  rw [← hm] at HU HV ⊢
  have hlim : m ≤ 9223372036854775807 := by
    rcases Nat.eq_zero_or_pos m with h0 | h0
    · omega
    · obtain ⟨_, _, _, _, h1, h2, _⟩ := hu.some (by omega)
      omega
  have HM := Lib.hid hm
  clear hu hv hm
  go_enter Tryd.func16, Tryd.ntmps16
  go_wp2_with fail
  go_loopw [5] (fun s5 wr => SmHead m w s5 wr) (fun s5 _ => m - (intOf s5).toNat)
  case atStart => exact ⟨0, by omega, by go_num, Below.refl _ _⟩
  case round =>
    obtain ⟨i, hi, rfl, hbr⟩ := hrel
    have HBR := Lib.hid hbr
    clear hbr
    rcases Nat.lt_or_ge i m with hlt | hge
    · obtain ⟨d, hd⟩ : ∃ d, d = ds.getD i [] := ⟨_, rfl⟩
      have hul := HU.out
      have hvl := HV.out
      rw [HM.out] at hul hvl
      have hdl : d.length = 32 := by rw [hd]; exact hul.1.get (by rw [← HM.out]; exact hlt)
      obtain ⟨b, off, c', he, hcc, hcc2, hbl, hcd⟩ := hul.some (by rw [← HM.out]; omega)
      injection he with h1 h2 h3
      subst h1 h3
      obtain ⟨b2, off2, c2', he, hcc', hcc2', hbl2, hcd2⟩ := hvl.some (by rw [← HM.out]; omega)
      injection he with h1 h2 h3
      subst h1 h3
      have HC1 : Hid (∀ W', Below w.heap.size w W' → ∀ j, j < 32 → W'.cell? ⟨b, off + i * 32 + j, none⟩ = some (.int .u8 ((d.getD j 0).toNat : Int))) := fun W' h j hj => by rw [h.cell (p := ⟨b, off + i * 32 + j, none⟩) hbl, hd]; exact hcd i (by rw [← HM.out]; exact hlt) j hj
      have HC2 : Hid (∀ W', Below w.heap.size w W' → ∀ j, j < 32 → W'.cell? ⟨b2, off2 + i * 32 + j, none⟩ = some (.int .u8 ((d.getD j 0).toNat : Int))) := fun W' h j hj => by rw [h.cell (p := ⟨b2, off2 + i * 32 + j, none⟩) hbl2, hd]; exact hcd2 i (by rw [← HM.out]; exact hlt) j hj
      have HDL := Lib.hid hdl
      have hi0 : (0 : Int) ≤ (i : Int) := by omega
      have him : (i : Int) < (m : Int) := by omega
      clear hd hdl hcc hcc2 hcd hcc' hcc2' hcd2 hul hvl h2
      go_wp2_with fail
      refine' cut0 (F := fun (w' : World) => Below w.heap.size w w') _ ?rest ?kk
      case rest =>
        intro K
        refine wp_region_any (by kernel_rfl) ?_
        try (change wpAny _ _ _ _ _ _ _ (World.drew _))
        (obtain ⟨w0, hw0⟩ : ∃ x, x = wr.drew := ⟨_, rfl⟩; rw [← hw0]; have HB0 : Hid (Below w.heap.size w w0) := (by rw [hw0]; exact HBR.out.drew); clear hw0)
        refine wpAny_take (i := 0) (oi := { dst := some 17, op := Op.move (Operand.tmp 0), type := 25, pos := "ref.go:148", after := #[], guard := none }) (v := ?_) rfl (by kernel_rfl) (by kernel_rfl) (by kernel_rfl) (fun _ _ _ h => h) (Or.inl ⟨by rfl, ?_⟩) ?_
        rotate_left
        · (intro w; go_simp; with_reducible rfl)
        try simp only [Act.put, List.setIfInBounds_toArray, List.set_cons_zero, List.set_cons_succ]
        refine wpAny_take (i := 1) (oi := { dst := some 18, op := Op.move (Operand.tmp 5), type := 3, pos := "ref.go:148", after := #[], guard := none }) (v := ?_) rfl (by kernel_rfl) (by kernel_rfl) (by kernel_rfl) (fun _ _ _ h => h) (Or.inl ⟨by rfl, ?_⟩) ?_
        rotate_left
        · (intro w; go_simp; with_reducible rfl)
        try simp only [Act.put, List.setIfInBounds_toArray, List.set_cons_zero, List.set_cons_succ]
        refine wpAny_take (i := 2) (oi := { dst := some 19, op := Op.indexAddr 25 (Operand.tmp 17) (Operand.tmp 18), type := 0, pos := "ref.go:148", after := #[{ on := 0, ground := Ground.data }, { on := 1, ground := Ground.data }], guard := none }) (v := ?_) rfl (by kernel_rfl) (by kernel_rfl) (by kernel_rfl) (fun _ _ _ h => h) (Or.inl ⟨by rfl, ?_⟩) ?_
        rotate_left
        · (intro w; go_simp; with_reducible rfl)
        try simp only [Act.put, List.setIfInBounds_toArray, List.set_cons_zero, List.set_cons_succ]
        refine wpAny_take (i := 4) (oi := { dst := some 21, op := Op.move (Operand.tmp 1), type := 25, pos := "ref.go:148", after := #[], guard := none }) (v := ?_) rfl (by kernel_rfl) (by kernel_rfl) (by kernel_rfl) (fun _ _ _ h => h) (Or.inl ⟨by rfl, ?_⟩) ?_
        rotate_left
        · (intro w; go_simp; with_reducible rfl)
        try simp only [Act.put, List.setIfInBounds_toArray, List.set_cons_zero, List.set_cons_succ]
        refine wpAny_take (i := 5) (oi := { dst := some 22, op := Op.move (Operand.tmp 5), type := 3, pos := "ref.go:148", after := #[], guard := none }) (v := ?_) rfl (by kernel_rfl) (by kernel_rfl) (by kernel_rfl) (fun _ _ _ h => h) (Or.inl ⟨by rfl, ?_⟩) ?_
        rotate_left
        · (intro w; go_simp; with_reducible rfl)
        try simp only [Act.put, List.setIfInBounds_toArray, List.set_cons_zero, List.set_cons_succ]
        refine wpAny_take (i := 6) (oi := { dst := some 23, op := Op.indexAddr 25 (Operand.tmp 21) (Operand.tmp 22), type := 0, pos := "ref.go:148", after := #[{ on := 4, ground := Ground.data }, { on := 5, ground := Ground.data }], guard := none }) (v := ?_) rfl (by kernel_rfl) (by kernel_rfl) (by kernel_rfl) (fun _ _ _ h => h) (Or.inl ⟨by rfl, ?_⟩) ?_
        rotate_left
        · (intro w; go_simp; with_reducible rfl)
        try simp only [Act.put, List.setIfInBounds_toArray, List.set_cons_zero, List.set_cons_succ]
        refine wpAny_ready (rs := [3, 7]) (by kernel_rfl) (by simp) ?_
        refine Go.BigFrame.allReady_want (o := { dst := some 20, op := Op.load 30 (Operand.tmp 19), type := 30, pos := "ref.go:148", after := #[{ on := 2, ground := Ground.data }], guard := none }) rfl (by rfl) (fun K hK => ?_) ?_
        · skip
          ((refine wp_load_dig _ rfl b (off + i * 32) rfl d HDL.out (HC1.out _ HB0.out) ?_))
          refine hK _ _ ?_
          clear hK K
          try simp only [Act.put, List.setIfInBounds_toArray, List.set_cons_zero, List.set_cons_succ]
          refine wpAny_ready (rs := [7]) (by kernel_rfl) (by simp) ?_
          refine Go.BigFrame.allReady_want (o := { dst := some 24, op := Op.load 30 (Operand.tmp 23), type := 30, pos := "ref.go:148", after := #[{ on := 6, ground := Ground.data }], guard := none }) rfl (by rfl) (fun K hK => ?_) ?_
          · skip
            ((refine wp_load_dig _ rfl b2 (off2 + i * 32) rfl d HDL.out (HC2.out _ HB0.out) ?_))
            refine hK _ _ ?_
            clear hK K
            try simp only [Act.put, List.setIfInBounds_toArray, List.set_cons_zero, List.set_cons_succ]
            refine wpAny_ready (rs := [8]) (by kernel_rfl) (by simp) ?_
            refine Go.BigFrame.allReady_want (o := { dst := some 25, op := Op.binOp BinOp.neq 30 (Operand.tmp 20) (Operand.tmp 24) 30, type := 4, pos := "ref.go:148", after := #[{ on := 3, ground := Ground.data }, { on := 7, ground := Ground.data }], guard := none }) rfl (by rfl) (fun K hK => ?_) ?_
            · skip
              ((refine wp_neq_dig _ _ rfl d d HDL.out HDL.out rfl rfl ?_; rw [beq_self_eq_true, Bool.not_true]))
              refine hK _ _ ?_
              clear hK K
              try simp only [Act.put, List.setIfInBounds_toArray, List.set_cons_zero, List.set_cons_succ]
              refine wpAny_done (by kernel_rfl) ?_ _
              ((exact K _ HB0.out))
            exact AllReady.nil
          exact AllReady.nil
        refine Go.BigFrame.allReady_want (o := { dst := some 24, op := Op.load 30 (Operand.tmp 23), type := 30, pos := "ref.go:148", after := #[{ on := 6, ground := Ground.data }], guard := none }) rfl (by rfl) (fun K hK => ?_) ?_
        · skip
          ((refine wp_load_dig _ rfl b2 (off2 + i * 32) rfl d HDL.out (HC2.out _ HB0.out) ?_))
          refine hK _ _ ?_
          clear hK K
          try simp only [Act.put, List.setIfInBounds_toArray, List.set_cons_zero, List.set_cons_succ]
          refine wpAny_ready (rs := [3]) (by kernel_rfl) (by simp) ?_
          refine Go.BigFrame.allReady_want (o := { dst := some 20, op := Op.load 30 (Operand.tmp 19), type := 30, pos := "ref.go:148", after := #[{ on := 2, ground := Ground.data }], guard := none }) rfl (by rfl) (fun K hK => ?_) ?_
          · skip
            ((refine wp_load_dig _ rfl b (off + i * 32) rfl d HDL.out (HC1.out _ HB0.out) ?_))
            refine hK _ _ ?_
            clear hK K
            try simp only [Act.put, List.setIfInBounds_toArray, List.set_cons_zero, List.set_cons_succ]
            refine wpAny_ready (rs := [8]) (by kernel_rfl) (by simp) ?_
            refine Go.BigFrame.allReady_want (o := { dst := some 25, op := Op.binOp BinOp.neq 30 (Operand.tmp 20) (Operand.tmp 24) 30, type := 4, pos := "ref.go:148", after := #[{ on := 3, ground := Ground.data }, { on := 7, ground := Ground.data }], guard := none }) rfl (by rfl) (fun K hK => ?_) ?_
            · skip
              ((refine wp_neq_dig _ _ rfl d d HDL.out HDL.out rfl rfl ?_; rw [beq_self_eq_true, Bool.not_true]))
              refine hK _ _ ?_
              clear hK K
              try simp only [Act.put, List.setIfInBounds_toArray, List.set_cons_zero, List.set_cons_succ]
              refine wpAny_done (by kernel_rfl) ?_ _
              ((exact K _ HB0.out))
            exact AllReady.nil
          exact AllReady.nil
        exact AllReady.nil
      case kk =>
        intro w5 hb5
        have HB5 := Lib.hid hb5
        clear hb5
        go_wp2_with fail
        exact ⟨⟨i + 1, by omega, by go_num, HB5.out⟩, by simp [intOf]; omega⟩
    · obtain rfl : i = m := by omega
      go_wp2_with fail
      go_ret
      exact ⟨rfl, HBR.out⟩
end Go.Proofs.YtbceimbcjijfgaaDoor.Dig
