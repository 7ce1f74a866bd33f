/- The specification: hashes, points, signing, whether a signature is right. -/
import Derived.Test.YtbcfmpohempkpaaDoorSmZ
import Derived.Test.YtbcfmpohempkpaaDoorUhZ
import Derived.Test.YtbcfmpohempkpaaDoorZc22
namespace Go.Proofs.YtbcfmpohempkpaaDoor.Dig
open Go.RowKit

theorem refbuf {w w' : World} {x : Cod.V} {e : Ending} (hc : Cod.code x = 0) (h : Cod.REncR w w' x e) : ∃ va vc, e = .returned (.tuple #[.slice va (Cod.enc x).length vc, .int .i64 0]) ∧ Below w.heap.size w w' ∧ Rest w'.heap.size w' (Cod.enc x) (.slice va (Cod.enc x).length vc) := by
  obtain ⟨v, he, hb, hbuf⟩ := h
  rw [hc, if_pos rfl] at hbuf
  rw [hc] at he
  obtain ⟨va, vc, rfl, hr⟩ := buf_rest hbuf
  exact ⟨va, vc, he, hb, hr⟩
abbrev c3 (a c : Int) (b : List UInt8) : Array Value := #[.int .i64 1, .int .i64 a, .string ⟨#[]⟩, .slice none 0 0, .int .i64 1, .int .i64 c, .string ⟨#[]⟩, .slice none 0 0, .int .i64 2, .int .i64 0, .string ⟨b.toArray⟩, .slice none 0 0]
abbrev c2 (a : Int) (b : List UInt8) : Array Value := #[.int .i64 1, .int .i64 a, .string ⟨#[]⟩, .slice none 0 0, .int .i64 2, .int .i64 0, .string ⟨b.toArray⟩, .slice none 0 0]
theorem list3 (a c : Int) (b : List UInt8) (W : World) : Calls Tryd.prog 24 #[.slice (some ⟨W.heap.size, 0, none⟩) 3 3] (W.alloc (.cells (c3 a c b) 41)) fun e w' => e = .returned (Cod.val 3 0 ⟨#[]⟩ (some ⟨W.heap.size, 0, none⟩) 3 3) ∧ Below W.heap.size W w' ∧ Row w' W.heap.size 41 (iA a ++ iA c ++ tA b) :=
  (Cod.list_call _ _ _ _).mono fun _ _ ⟨h, k⟩ => ⟨h, below_next (Joins.below_alloc1 _ _) k, (row_new W 41 (iA a ++ iA c ++ tA b)).keep k⟩
theorem list2 (a : Int) (b : List UInt8) (W : World) : Calls Tryd.prog 24 #[.slice (some ⟨W.heap.size, 0, none⟩) 2 2] (W.alloc (.cells (c2 a b) 41)) fun e w' => e = .returned (Cod.val 3 0 ⟨#[]⟩ (some ⟨W.heap.size, 0, none⟩) 2 2) ∧ Below W.heap.size W w' ∧ Row w' W.heap.size 41 (iA a ++ tA b) :=
  (Cod.list_call _ _ _ _).mono fun _ _ ⟨h, k⟩ => ⟨h, below_next (Joins.below_alloc1 _ _) k, (row_new W 41 (iA a ++ tA b)).keep k⟩
/-- what is known of an encoded list: its hash -/
def Hashes (tag : ByteArray) (z : Int) (va : Option Addr) (ln vc : Nat) (w : World) : Prop :=
  ∀ W, Below w.heap.size w W → Calls Tryd.prog 27 #[.string tag, .slice va ln vc] W fun e w' => e = .returned (.int .i64 z) ∧ Below W.heap.size W w'
theorem enc3 (tag : ByteArray) (a c : Int) (b : List UInt8) (g : Nat) (W : World) (ht : tag.size ≤ 549755813888) (ha : I64 a) (hc : I64 c) (hl : b.length ≤ 600) (h : Row W g 41 (iA a ++ iA c ++ tA b)) :
    Calls Tryd.prog 23 #[Cod.val 3 0 ⟨#[]⟩ (some ⟨g, 0, none⟩) 3 3] W fun e w' => ∃ va ln vc, e = .returned (.tuple #[.slice va ln vc, .int .i64 0]) ∧ Below W.heap.size W w' ∧ Hashes tag (hsg tag [a, c] b) va ln vc w' := by
  have hn := enc_three ha hc hl
  refine (Cod.refEncode_call (lst [a, c] b) _ W (is_three h ha hc hl) (by rw [depth_three]; omega) (by omega)).mono fun e w' hr => ?_
  obtain ⟨va, vc, he, hb, hrest⟩ := refbuf (code_three a c b) hr
  exact ⟨va, _, vc, he, hb, fun W2 h2 => refHash_call tag (Cod.enc (lst [a, c] b)) _ W2 ht (by omega) (rest_keep hrest h2)⟩
theorem enc2 (tag : ByteArray) (a : Int) (b : List UInt8) (g : Nat) (W : World) (ht : tag.size ≤ 549755813888) (ha : I64 a) (hl : b.length ≤ 600) (h : Row W g 41 (iA a ++ tA b)) :
    Calls Tryd.prog 23 #[Cod.val 3 0 ⟨#[]⟩ (some ⟨g, 0, none⟩) 2 2] W fun e w' => ∃ va ln vc, e = .returned (.tuple #[.slice va ln vc, .int .i64 0]) ∧ Below W.heap.size W w' ∧ Hashes tag (hsg tag [a] b) va ln vc w' := by
  have hn := enc_two ha hl
  refine (Cod.refEncode_call (lst [a] b) _ W (is_two h ha hl) (by rw [depth_two]; omega) (by omega)).mono fun e w' hr => ?_
  obtain ⟨va, vc, he, hb, hrest⟩ := refbuf (code_two a b) hr
  exact ⟨va, _, vc, he, hb, fun W2 h2 => refHash_call tag (Cod.enc (lst [a] b)) _ W2 ht (by omega) (rest_keep hrest h2)⟩
set_option maxHeartbeats 4000000 in
set_option maxRecDepth 100000 in
theorem refhash3_call (a c : Int) (b : List UInt8) (v : Value) (w : World) (ha : I64 a) (hc : I64 c) (hl : b.length ≤ 600) (hr : Rest w.heap.size w b v) :
    Calls Tryd.prog 29 #[.int .i64 a, .int .i64 c, v] w fun e w' => e = .returned (.int .i64 (hsg tagS [a, c] b)) ∧ Below w.heap.size w w' := by
  have KP : Hid (∀ {W : World}, Below w.heap.size w W → (Below w.heap.size w W ∧ (convert 22 9 v).run Tryd.prog W = .ok (.string ⟨b.toArray⟩) W)) := Lib.hid (fun h => ⟨h, conv_rest (rest_keep hr h)⟩)
  have HL := Lib.hid (fun W => list3 a c b W)
  have HE := Lib.hid (fun g W (h : Row W g 41 (iA a ++ iA c ++ tA b)) => enc3 tagS a c b g W (by decide) ha hc hl h)
  obtain ⟨z, hz⟩ : ∃ z, z = hsg tagS [a, c] b := ⟨_, rfl⟩
  rw [← hz] at HE ⊢
  clear hz hr ha hc hl
  go_enter Tryd.func29, Tryd.ntmps29
  go_upto_region 1 with (fail)
  go_region_held3 (fun W => Below w.heap.size w W ∧ (convert 22 9 v).run Tryd.prog W = .ok (.string ⟨b.toArray⟩) W) (first | assumption | exact KP.out (below_drew (Below.refl _ _)) | exact KP.out (by assumption) | exact KP.out (below_next (And.left (by assumption)) (Joins.below_alloc1 _ _))) (first
    | (go_at_call 25; (first | with_reducible refine (Cod.int_call a _).mono ?_ | with_reducible refine (Cod.int_call c _).mono ?_); rintro e w4 ⟨rfl, hb4⟩; have hB4 : Below w.heap.size w w4 := below_next (by first | assumption | exact And.left (by assumption)) hb4)
    | (go_at_call 26; refine (Cod.text_call ⟨b.toArray⟩ _).mono ?_; rintro e w5 ⟨rfl, hb5⟩; have hB5 : Below w.heap.size w w5 := below_next (by first | assumption | exact And.left (by assumption)) hb5)
    | (go_at_call 24; refine (HL.out _).mono ?_; rintro e w6 ⟨rfl, hb6, hrow6⟩; have hB6 : Below w.heap.size w w6 := below_next (by first | assumption | exact And.left (by assumption)) hb6)
    | (go_at_call 23; refine (HE.out _ _ (by assumption)).mono ?_; rintro e w7 ⟨va, ln, vc, rfl, hb7, hH⟩; have hB7 : Below w.heap.size w w7 := below_next (by first | assumption | exact And.left (by assumption)) hb7))
  all_goals
    go_wp2_with fail
    refine (hH _ (Below.refl _ _)).mono ?_
    rintro e w8 ⟨rfl, hb8⟩
    go_wp2_with fail
    go_ret
    exact ⟨rfl, below_next hB7 hb8⟩
set_option maxHeartbeats 2000000 in
set_option maxRecDepth 100000 in
theorem refpoint_call (key E S : Int) (w : World) (hk : valid key = true) (hE : 0 ≤ E ∧ E < 1073741789) (hS : 0 ≤ S ∧ S < 1073741789) :
    Calls Tryd.prog 33 #[.int .i64 key, sgV E S] w fun e w' => e = .returned (.int .i64 (pt key E S)) ∧ Below w.heap.size w w' := by
  have HA := Lib.hid (fun W => refPow_call 4 S W ⟨by omega, by omega⟩ ⟨by omega, by omega⟩)
  have HB := Lib.hid (fun W => refPow_call key (-E) W (valid_rp hk).i64 ⟨by omega, by omega⟩)
  have HM := Lib.hid (fun W => refMul_call (powQ 4 S) (powQ key (-E)) W (powQ_rng _ _).i64 (powQ_rng _ _).i64)
  rw [mulT_ok (powQ_valid valid_4 _) (powQ_valid hk _) rfl] at HM
  rw [powT_ok valid_4 rfl] at HA
  rw [powT_ok hk rfl] at HB
  unfold pt
  obtain ⟨x, hx⟩ : ∃ x, x = powQ 4 S := ⟨_, rfl⟩
  obtain ⟨y, hy⟩ : ∃ y, y = powQ key (-E) := ⟨_, rfl⟩
  rw [← hx] at HA HM ⊢
  rw [← hy] at HB HM ⊢
  obtain ⟨z, hz⟩ : ∃ z, z = x * y % 2147483579 := ⟨_, rfl⟩
  rw [← hz] at HM ⊢
  have hw : wrap64 (-E) = -E := by unfold wrap64; omega
  clear hx hy hz hk hS
  go_enter Tryd.func33, Tryd.ntmps33
  go_wp2_with fail
  have HB0 := Lib.hid (Joins.below_alloc1 w (.cells #[.int .i64 E, .int .i64 S] 24))
  have c0 := (row_new w 24 [.int .i64 E, .int .i64 S]).cell (i := 0) rfl
  refine (HA.out _).mono ?_
  rintro e w1 ⟨rfl, rfl⟩
  go_wp2_with fail
  refine (HB.out _).mono ?_
  rintro e w2 ⟨rfl, rfl⟩
  go_wp2_with fail
  refine (HM.out _).mono ?_
  rintro e w3 ⟨rfl, rfl⟩
  go_wp2_with fail
  go_ret
  exact ⟨rfl, HB0.out⟩
set_option maxHeartbeats 4000000 in
set_option maxRecDepth 100000 in
theorem refVerify_call (key : Int) (b : List UInt8) (v : Value) (E S : Int) (w : World) (hk : I64 key) (hl : b.length ≤ 600) (hr : Rest w.heap.size w b v) :
    Calls Tryd.prog 11 #[.int .i64 key, v, sgV E S] w fun e w' => e = .returned (.bool (verR key b E S)) ∧ Below w.heap.size w w' := by
  have HVA := Lib.hid (fun W => refValid_call key W hk)
  by_cases hn : valid key = true ∧ inE E = true ∧ inE S = true
  · obtain ⟨n1, n2, n3⟩ := hn
    have he0 : 0 ≤ E := (inE_rng n2).1
    have he1 : E < 1073741789 := (inE_rng n2).2
    have hs0 : 0 ≤ S := (inE_rng n3).1
    have hs1 : S < 1073741789 := (inE_rng n3).2
    rw [verR_in n1 n2 n3]
    rw [n1] at HVA
    have HPT := Lib.hid (fun W => refpoint_call key E S W n1 ⟨he0, he1⟩ ⟨hs0, hs1⟩)
    have HH := Lib.hid (fun W (hW : Below w.heap.size w W) => refhash3_call (pt key E S) key b v W (pt_rng _ _ _).i64 hk hl (rest_keep hr hW))
    obtain ⟨p, hp⟩ : ∃ p, p = pt key E S := ⟨_, rfl⟩
    rw [← hp] at HPT HH ⊢
    obtain ⟨h, hh⟩ : ∃ h, h = hsg tagS [p, key] b := ⟨_, rfl⟩
    rw [← hh] at HH ⊢
    clear hp hh n1 n2 n3 hr
    go_enter Tryd.func11, Tryd.ntmps11
    go_wp2_with fail
    refine (HVA.out _).mono ?_
    rintro e w1 ⟨rfl, rfl⟩
    go_upto_region 3 with (fail)
    generalize hW0 : w.alloc (.cells #[.int .i64 E, .int .i64 S] 24) = W0
    have HB0 : Hid (Below w.heap.size w W0) := Lib.hid (by rw [← hW0]; exact Joins.below_alloc1 _ _)
    have R0 : Row W0 w.heap.size 24 [.int .i64 E, .int .i64 S] := by rw [← hW0]; exact row_new w _ _
    have c0 : ∀ W, Below W0.heap.size W0 W → W.cell? ⟨w.heap.size, 0, none⟩ = some (.int .i64 E) := fun W hW => (R0.keep hW).cell (i := 0) rfl
    have c1 : ∀ W, Below W0.heap.size W0 W → W.cell? ⟨w.heap.size, 1, none⟩ = some (.int .i64 S) := fun W hW => (R0.keep hW).cell (i := 1) rfl
    clear R0 hW0
    go_region_held3 (fun W => Below W0.heap.size W0 W) (first | assumption | exact below_drew (Below.refl _ _)) (first
      | (go_at_call 33; refine (HPT.out _).mono ?_; rintro e w4 ⟨rfl, hb4⟩; have hB4 : Below W0.heap.size W0 w4 := below_next (by assumption) hb4)
      | (go_at_call 29; refine (HH.out _ (below_next HB0.out (by assumption))).mono ?_; rintro e w5 ⟨rfl, hb5⟩; have hB5 : Below W0.heap.size W0 w5 := below_next (by assumption) hb5))
    all_goals
      go_wp2_with fail
      go_ret
      exact ⟨rfl, below_next HB0.out (by assumption)⟩
  · rw [verR_out hn]
    have hcs : valid key = false ∨ (valid key = true ∧ (E < 0 ∨ (0 ≤ E ∧ 1073741789 ≤ E) ∨ (0 ≤ E ∧ E < 1073741789 ∧ S < 0) ∨ (0 ≤ E ∧ E < 1073741789 ∧ 0 ≤ S ∧ 1073741789 ≤ S))) := by
      cases hv : valid key
      · exact .inl rfl
      · refine .inr ⟨rfl, ?_⟩
        rcases Int.lt_or_le E 0 with a | a
        · exact .inl a
        rcases Int.lt_or_le E 1073741789 with c | c
        · rcases Int.lt_or_le S 0 with d | d
          · exact .inr (.inr (.inl ⟨a, c, d⟩))
          rcases Int.lt_or_le S 1073741789 with e | e
          · exact absurd ⟨hv, inE_of ⟨a, c⟩, inE_of ⟨d, e⟩⟩ hn
          · exact .inr (.inr (.inr ⟨a, c, d, e⟩))
        · exact .inr (.inl ⟨a, c⟩)
    clear hn hr
    rcases hcs with g | ⟨g, a | ⟨a, c⟩ | ⟨a, c, d⟩ | ⟨a, c, d, f⟩⟩
    all_goals
      rw [g] at HVA
      go_enter Tryd.func11, Tryd.ntmps11
      go_wp2_with fail
      refine (HVA.out _).mono ?_
      rintro e w1 ⟨rfl, rfl⟩
      try have n1 : ¬ E < 0 := by omega
      try have n2 : ¬ E < 1073741789 := by omega
      try have n3 : ¬ S < 0 := by omega
      try have n4 : ¬ S < 1073741789 := by omega
      go_wp2_with fail
      go_ret
      exact ⟨rfl, Joins.below_alloc1 _ _⟩
end Go.Proofs.YtbcfmpohempkpaaDoor.Dig
