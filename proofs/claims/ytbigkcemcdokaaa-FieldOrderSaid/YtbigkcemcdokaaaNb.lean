/- Points in another order, and a further one: the walk of the law FieldOrder. -/
import Derived.Test.YtbigkcemcdokaaaN
namespace Go.Proofs.Ytbigkcemcdokaaa
open Go.RowKit

theorem cut3 {A B C : Type} {F : A → B → C → Prop} (G : A → B → C → Prop) {R : Prop} (rest : (∀ a b c, F a b c → G a b c) → R) (kk : ∀ a b c, F a b c → G a b c) : R := rest kk
theorem order_no (l : List (Int × Int)) (v : Value) (tu x t : Int) (w : World) (h : PRest w.heap.size w l v) (hn : ¬ (l.length < 64 ∧ Dif (l.map (·.1)) ∧ l.length ≠ 0)) :
    Calls Try.prog 6 #[v, .int .u8 tu, .int .i64 x, .int .i64 t] w fun e w' => e = .returned (.bool true) ∧ Below w.heap.size w w' := by
  have HRD : Hid (∀ W, Below w.heap.size w W → Calls Try.prog 17 #[v] W fun e w' => (∃ b, e = .returned (.bool b) ∧ (b = true ↔ Dif (l.map (·.1)))) ∧ Below W.heap.size W w') := Lib.hid (fun W hW => refDifferent_call l v W (h.keep hW))
  obtain ⟨a, n, cap, rfl⟩ := h.shape
  obtain ⟨hnl, hc1, hc2, _⟩ := h.cells
  rw [← hnl] at hn
  have HN := Lib.hid hn
  clear h hn hnl
  unfold maxLen at hc2
  go_enter Try.func6, Try.ntmps6
  go_wp2_with fail
  refine (sane_call w).mono ?_
  rintro e w1 ⟨rfl, hb1⟩
  have HB := Lib.hid hb1
  clear hb1
  by_cases h1 : n < 64
  · have hn1 : ¬ (64 : Int) ≤ (n : Int) := by omega
    go_wp2_with fail
    refine (HRD.out w1 HB.out).mono ?_
    rintro e w2 ⟨⟨b, rfl, hb⟩, hb2⟩
    replace HB := Lib.hid (below_next HB.out hb2)
    clear hb2
    cases b with
    | false =>
      clear hb
      go_wp2_with fail
      go_ret
      exact ⟨rfl, HB.out⟩
    | true =>
      have h2 : n = 0 := Classical.byContradiction fun h => HN.out ⟨h1, hb.1 rfl, h⟩
      subst h2
      clear hb
      go_wp2_with fail
      go_ret
      exact ⟨rfl, HB.out⟩
  · have hn1 : (64 : Int) ≤ (n : Int) := by omega
    go_wp2_with fail
    go_ret
    exact ⟨rfl, HB.out⟩
set_option maxHeartbeats 4000000 in
set_option maxRecDepth 100000 in
theorem order_walk (l : List (Int × Int)) (v : Value) (tu x t : Int) (w : World) (h : PRest w.heap.size w l v) (htu : 0 ≤ tu ∧ tu < 256) (hx : I64 x) (ht : I64 t) :
    Calls Try.prog 6 #[v, .int .u8 tu, .int .i64 x, .int .i64 t] w fun e w' => e = .returned (.bool true) ∧ Below w.heap.size w w' := by
  by_cases hgo : ¬ (l.length < 64 ∧ Dif (l.map (·.1)) ∧ l.length ≠ 0)
  · exact order_no l v tu x t w h hgo
  obtain ⟨h64, hd, hn0⟩ := Classical.not_not.1 hgo
  clear hgo
  have HRD : Hid (∀ W, Below w.heap.size w W → Calls Try.prog 17 #[v] W fun e w' => (∃ b, e = .returned (.bool b) ∧ (b = true ↔ Dif (l.map (·.1)))) ∧ Below W.heap.size W w') := Lib.hid (fun W hW => refDifferent_call l v W (h.keep hW))
  have HAT : Hid (∀ W, Below w.heap.size w W → ∀ t, I64 t → Calls Try.prog 18 #[v, .int .i64 t] W fun e w' => e = .returned (.tuple #[.int .i64 (lagP l t % 1073741789), .int .i64 0]) ∧ Below W.heap.size W w') := Lib.hid (fun W hW t ht => at_call l v t W (h.keep hW) (by omega) hd ht)
  have HATt := Lib.hid (fun W hW => HAT.out W hW t ht)
  have HATx := Lib.hid (fun W hW => HAT.out W hW x hx)
  clear HAT
  have hli : ∀ p, p ∈ l → I64 p.1 ∧ I64 p.2 := by obtain ⟨_, _, _, _, _, h4, _⟩ := h; exact h4
  obtain ⟨k, hk⟩ : ∃ k : Nat, k = tu.toNat % l.length := ⟨_, rfl⟩
  have hkl : k < l.length := by rw [hk]; exact Nat.mod_lt _ (by omega)
  have hkI : Hid (tu % (l.length : Int) = (k : Int)) := Lib.hid (by rw [hk, Int.natCast_emod, Int.toNat_of_nonneg htu.1])
  have HROT : Hid (∀ W vo, PBuf 0 W vo (l.drop k ++ l.take k) → Calls Try.prog 18 #[vo, .int .i64 t] W fun e w' => e = .returned (.tuple #[.int .i64 (lagP l t % 1073741789), .int .i64 0]) ∧ Below W.heap.size W w') := Lib.hid (fun W vo hW => by
    have h1 := at_call (rot l k) vo t W (hW.rest (fun p hp => hli p ((rot_perm l k).mem_iff.1 hp))) (by rw [(rot_perm l k).length_eq]; omega) (dif_rot k hd) ht
    have h2 := lagP_rot hd k t
    unfold lagP at h2
    rw [h2] at h1
    exact h1)
  obtain ⟨more, hmore⟩ : ∃ more, more = l ++ [(x, lagP l x % 1073741789)] := ⟨_, rfl⟩
  have hmi : ∀ p, p ∈ more → I64 p.1 ∧ I64 p.2 := fun p hp => by
    rw [hmore] at hp
    rcases List.mem_append.1 hp with hp | hp
    · exact hli p hp
    · simp at hp; subst hp; exact ⟨hx, i64_mod _⟩
  have hml : more.length ≤ 64 := by rw [hmore]; simp; omega
  have HMD : Hid (∀ W vo, PBuf 0 W vo more → Calls Try.prog 17 #[vo] W fun e w' => (∃ b, e = .returned (.bool b) ∧ (b = true ↔ Dif (more.map (·.1)))) ∧ Below W.heap.size W w') := Lib.hid (fun W vo hW => refDifferent_call more vo W (hW.rest hmi))
  have HMA : Hid (∀ W vo, PBuf 0 W vo more → Dif (more.map (·.1)) → Calls Try.prog 18 #[vo, .int .i64 t] W fun e w' => e = .returned (.tuple #[.int .i64 (lagP l t % 1073741789), .int .i64 0]) ∧ Below W.heap.size W w') := Lib.hid (fun W vo hW hd2 => by
    have h1 := at_call more vo t W (hW.rest hmi) hml hd2 ht
    have h2 : lagP more t % 1073741789 = lagP l t % 1073741789 := by
      subst hmore; exact lagP_more hd x hd2 t
    unfold lagP at h2
    rw [h2] at h1
    exact h1)
  have HMS : Hid (∀ W vo, PBuf 0 W vo more → ¬ Dif (more.map (·.1)) → Calls Try.prog 18 #[vo, .int .i64 t] W fun e w' => e = .returned (.tuple #[.int .i64 0, .int .i64 90]) ∧ Below W.heap.size W w') := Lib.hid (fun W vo hW hd2 => same_call more vo t W (hW.rest hmi) hml hd2)
  have HPR := Lib.hid h
  have HMORE := Lib.hid hmore
  have HDD := Lib.hid hd
  obtain ⟨a, n, cap, rfl⟩ := h.shape
  obtain ⟨hnl, hc1, hc2, hcl⟩ := h.cells
  obtain ⟨b, off, rfl, hbl, _, _⟩ := hcl w (Below.refl _ _) 0 (by omega)
  have HNL := Lib.hid hnl
  rw [← hnl] at h64 hn0 hkl hkI
  have HLI := Lib.hid (lagP_i64 l x)
  generalize lagP l t % 1073741789 = E1 at *
  generalize lagP l x % 1073741789 = E2 at *
  clear h hnl hcl hd hk hmore hli hmi hml
  unfold maxLen at hc2
  have hn1 : ¬ (64 : Int) ≤ (n : Int) := by omega
  have hn2 : (n : Int) < 64 := by omega
  have hn3 : ¬ (n : Int) = 0 := by omega
  have hn4 : (0 : Int) < (n : Int) := by omega
  have hkn : (k : Int) < (n : Int) := by omega
  have hkt := hkI.out
  have hb0 : ((n : Int) == 0) = false := by simpa using hn3
  have hd64 : decide ((64 : Int) ≤ (n : Int)) = false := by simp; omega
  obtain ⟨tu1, tu2⟩ := htu
  go_enter Try.func6, Try.ntmps6
  go_wp2_with fail
  refine (sane_call w).mono ?_
  rintro e w1 ⟨rfl, hb1⟩
  have HB := Lib.hid hb1
  clear hb1
  go_wp2_with fail
  refine (HRD.out w1 HB.out).mono ?_
  rintro e w2 ⟨⟨bb, rfl, hb⟩, hb2⟩
  obtain rfl : bb = true := hb.2 HDD.out
  replace HB := Lib.hid (below_next HB.out hb2)
  clear hb2 hb
  go_wp2_with fail
  rw [hkt]
  have hkle : k ≤ n := by omega
  have hkcle : k ≤ cap := by omega
  have hnk0 : ¬ n - k = 0 := by omega
  have hcn : ¬ cap = 0 := by omega
  have hck : ¬ cap = k := by omega
  have hcki : ¬ (cap : Int) = (k : Int) := by omega
  have hkc : (k : Int) ≤ (cap : Int) := by omega
  have hnc : (n : Int) ≤ (cap : Int) := by omega
  clear hkt
  refine' cut3 (F := fun (_ : Value) (vo : Value) (w7 : World) => PBuf 0 w7 vo (l.drop k ++ l.take k) ∧ Below w.heap.size w w7) _ ?rest ?kk
  case rest =>
    intro K
    have HE : Hid (Below w.heap.size w w2.drew) := Lib.hid (below_drewN HB.out 1)
    have HP1 : Hid (∀ W, Below w.heap.size w W → PRest w.heap.size W (l.drop k) (.slice (some ⟨b, off + k * 2, none⟩) (n - k) (cap - k))) := Lib.hid (fun W hW => by
      have h1 := prest_part (HPR.out.stays hW) k (n - k) (cap - k) (by rw [← HNL.out]; omega) (by omega) (by omega)
      rwa [show (l.drop k).take (n - k) = l.drop k from List.take_of_length_le (by rw [List.length_drop, ← HNL.out]; exact Nat.le_refl _)] at h1)
    have HP2 : Hid (∀ W, Below w.heap.size w W → PRest w.heap.size W (l.take k) (.slice (some ⟨b, off, none⟩) k cap)) := Lib.hid (fun W hW => by
      have h1 := prest_part (HPR.out.stays hW) 0 k cap (by rw [← HNL.out]; omega) (by omega) (by omega)
      simpa using h1)
    have HLD : Hid ((l.drop k).length = n - k) := Lib.hid (by rw [List.length_drop, ← HNL.out])
    have HLT : Hid ((l.take k).length = k) := Lib.hid (by rw [List.length_take, ← HNL.out]; omega)
    go_region_law (first
      | (refine step_pts rfl (.tmp 40) (.tmp 43) rfl (.slice (some ⟨w2.heap.size, 0, none⟩) 0 0) [] (by simp [Act.eval, Act.put]) (pbuf_made (row_new w2 35 [])) _ _ (l.drop k) (by simp [Act.eval, Act.put]) (HP1.out _ (HE.out.trans ((Joins.below_alloc1 _ _).mono HE.out.size))) ⟨_, _, _, rfl⟩ (by rw [HLD.out]; simp; omega) ?_; intro v5 w5 hp5 hw5; have hq5 : Below w.heap.size w w5 := (HE.out.trans ((Joins.below_alloc1 _ _).mono HE.out.size)).trans (hw5.toBelow (by have := HB.out.size; simp; omega) (fun g hg => by simp [Value.ownBlock] at hg; have := HB.out.size; omega)); have ho5 : ∀ g, v5.ownBlock = some g → w.heap.size ≤ g := (fun g hg => by rcases hw5.own with h1 | h1; (· rw [h1] at hg; simp [Value.ownBlock] at hg; have := HB.out.size; omega); (· have := h1 g hg; have := HB.out.size; simp at *; omega)))
      | (refine step_pts rfl (.tmp 44) (.tmp 47) rfl v5 ([] ++ l.drop k) (by simp [Act.eval, Act.put]) hp5 _ _ (l.take k) (by simp [Act.eval, Act.put]) (HP2.out _ hq5) ⟨_, _, _, rfl⟩ (by rw [List.nil_append, HLD.out, HLT.out]; omega) ?_; intro v6 w6 hp6 hw6; have hq6 : Below w.heap.size w w6 := hq5.trans (hw6.toBelow hq5.size ho5)))
    all_goals exact K v5 v6 w6 ⟨hp6, hq6⟩
  case kk =>
    rintro vq vo w7 ⟨hp7, hb7⟩
    replace HB := Lib.hid hb7
    have HP7 := Lib.hid hp7
    clear hb7 hp7
    go_wp2_with fail
    refine (HATt.out _ HB.out).mono ?_
    rintro e w8 ⟨rfl, hb8⟩
    have HP8 := Lib.hid (HP7.out.keep hb8)
    replace HB := Lib.hid (below_next HB.out hb8)
    clear hb8
    go_wp2_with fail
    refine (HROT.out _ _ HP8.out).mono ?_
    rintro e w9 ⟨rfl, hb9⟩
    replace HB := Lib.hid (below_next HB.out hb9)
    clear hb9 HP8 HP7
    go_wp2_with fail
    refine (HATx.out _ HB.out).mono ?_
    rintro e w10 ⟨rfl, hb10⟩
    replace HB := Lib.hid (below_next HB.out hb10)
    clear hb10
    have HE : Hid (Below w.heap.size w (w10.alloc (.cells #[] 35))) := Lib.hid (HB.out.trans ((Joins.below_alloc1 _ _).mono HB.out.size))
    have HLL : Hid (l.length = n) := Lib.hid HNL.out.symm
    go_wp2_with (first
      | (at_builtin; refine wpList_pts rfl (.tmp 78) (.tmp 79) rfl (.slice (some ⟨w10.heap.size, 0, none⟩) 0 0) [] rfl (pbuf_made (row_new w10 35 [])) _ _ l rfl (HPR.out.stays HE.out) ⟨_, _, _, rfl⟩ (by rw [HLL.out]; simp; omega) ?_; intro v11 w11 hp11 hw11; have hq11 : Below w.heap.size w w11 := HE.out.trans (hw11.toBelow (by have := HB.out.size; simp; omega) (fun g hg => by simp [Value.ownBlock] at hg; have := HB.out.size; omega)); have ho11 : ∀ g, v11.ownBlock = some g → w.heap.size ≤ g := (fun g hg => by rcases hw11.own with h1 | h1; (· rw [h1] at hg; simp [Value.ownBlock] at hg; have := HB.out.size; omega); (· have := h1 g hg; have := HB.out.size; simp at *; omega)))
      | (at_builtin; refine wpList_pts rfl (.tmp 80) (.tmp 84) rfl v11 ([] ++ l) rfl (hp11.keep (Joins.below_alloc1 _ _)) _ _ [(x, E2)] rfl (prest_one (x, E2) ⟨hx, HLI.out⟩ (row_new w11 35 _)) ⟨_, _, _, rfl⟩ (by rw [List.nil_append, HLL.out]; simp; omega) ?_; intro v12 w12 hp12 hw12; have hq12 : Below w.heap.size w w12 := (hq11.trans ((Joins.below_alloc1 w11 _).mono hq11.size)).trans (hw12.toBelow (by have := hq11.size; simp; omega) ho11); rw [List.nil_append, ← HMORE.out] at hp12))
    have HP := Lib.hid hp12
    have HQ := Lib.hid hq12
    clear hp12 hq12 hp11 hw11 hw12 hq11 ho11
    by_cases hdm : Dif (more.map (·.1))
    · have HDM := Lib.hid hdm
      clear hdm
      refine (HMA.out _ _ HP.out HDM.out).mono ?_
      rintro e w13 ⟨rfl, hb13⟩
      replace HP := Lib.hid (HP.out.keep hb13)
      replace HQ := Lib.hid (below_next HQ.out hb13)
      clear hb13
      go_wp2_with fail
      refine (HMD.out _ _ HP.out).mono ?_
      rintro e w14 ⟨⟨bb, rfl, hbb⟩, hb14⟩
      obtain rfl : bb = true := hbb.2 HDM.out
      replace HQ := Lib.hid (below_next HQ.out hb14)
      clear hb14 hbb
      go_wp2_with fail
      go_ret
      exact ⟨rfl, HQ.out⟩
    · have HDM := Lib.hid hdm
      clear hdm
      refine (HMS.out _ _ HP.out HDM.out).mono ?_
      rintro e w13 ⟨rfl, hb13⟩
      replace HP := Lib.hid (HP.out.keep hb13)
      replace HQ := Lib.hid (below_next HQ.out hb13)
      clear hb13
      go_wp2_with fail
      refine (HMD.out _ _ HP.out).mono ?_
      rintro e w14 ⟨⟨bb, rfl, hbb⟩, hb14⟩
      obtain rfl : bb = false := by cases bb with
        | false => rfl
        | true => exact absurd (hbb.1 rfl) HDM.out
      replace HQ := Lib.hid (below_next HQ.out hb14)
      clear hb14 hbb
      go_wp2_with fail
      go_ret
      exact ⟨rfl, HQ.out⟩
end Go.Proofs.Ytbigkcemcdokaaa
