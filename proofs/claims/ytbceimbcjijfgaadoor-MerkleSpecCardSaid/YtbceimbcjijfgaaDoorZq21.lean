/- Climbing a path of the right length: the program's function. -/
import Derived.Test.YtbceimbcjijfgaaDoorZq20
namespace Go.Proofs.YtbceimbcjijfgaaDoor.Dig
open Go.RowKit Go.Shelf
attribute [local go_sem] Oper.semAt_some

theorem anyG {F : Fence} {n : Nat} {P : Program} {md : Region.Mode} {ops : Array Oper} {Q : Exit → Act → World → Prop} {fuel : Nat} {listed : Array Bool} {a : Act} {w : World} (h : ∀ G, G = wpAnyIn F n P md ops Q → G fuel listed a w) : wpAnyIn F n P md ops Q fuel listed a w := h _ rfl
theorem toG {F : Fence} {n : Nat} {P : Program} {md : Region.Mode} {ops : Array Oper} {Q : Exit → Act → World → Prop} {G : Nat → Array Bool → Act → World → Prop} (hG : G = wpAnyIn F n P md ops Q) {fuel : Nat} {l l' : Array Bool} {a : Act} {w : World} (h : G fuel l a w) (e : l = l') : wpAnyIn F n P md ops Q fuel l' a w := by
  rw [← hG, ← e]; exact h
theorem row_cells32 {w : World} {g T : Nat} {d : List UInt8} (h : Row w g T (cellsOf d)) (hd : d.length = 32) : ∀ j, j < 32 → w.cell? ⟨g, 0 + j, none⟩ = some (.int .u8 ((d.getD j 0).toNat : Int)) := by
  intro j hj
  rw [Nat.zero_add, h.cell (cellsOf_get (by omega))]
  simp [show j < d.length by omega]
/-- behind the store of a digest, in a round -/
def CmSt (w W W' : World) (B : Nat → Prop) (d : List UInt8) (pv : Value) : Prop :=
  KeepsOthers W W' ∧ KpS B W W' ∧ Row W' (w.heap.size + 2) 30 (cellsOf d) ∧ Row W' (w.heap.size + 1) 25 [pv] ∧ Row W' w.heap.size 51 [fH] ∧ Below w.heap.size w W'
theorem keeps_setRow {W : World} {g T : Nat} {cs : List Value} (h : Row W g T cs) (cs' : Array Value) : KeepsOthers W (W.setRow g cs') :=
  ⟨by simp, fun k o hk ho => by
    by_cases e : k = g
    · subst e
      have h1 : o = .cells cs.toArray T (0, 0) := Option.some.inj (hk.symm.trans h)
      subst h1
      cases ho
    · exact (setRow_other W g k cs' e).trans hk⟩
theorem kps_setRow {S : Nat → Prop} (W : World) (g : Nat) (cs : Array Value) (h : ¬ S g) : KpS S W (W.setRow g cs) :=
  ⟨by simp, .far g h fun b hb => setRow_other W g b cs hb⟩
theorem cmst_new {w W V w5 : World} {B : Nat → Prop} {d e : List UInt8} {pv : Value} (hV : Below W.heap.size W V) (h5 : Below V.heap.size V w5) (hB : Below w.heap.size w W) (hd : Row V (w.heap.size + 2) 30 (cellsOf e)) (hp : Row V (w.heap.size + 1) 25 [pv]) (hh : Row V w.heap.size 51 [fH]) (hS : ¬ B (w.heap.size + 2)) :
    CmSt w W (w5.setRow (w.heap.size + 2) (cellsOf d).toArray) B d pv := by
  have hb := below_next hV h5
  refine ⟨(others_below hb).trans (keeps_setRow (hd.keep h5) _), (KpS.below hb).trans (kps_setRow _ _ _ hS), (hd.keep h5).setRow _, row_far (hp.keep h5) _ (by omega), row_far (hh.keep h5) _ (by omega), below_setRow (below_next hB hb) _ _ (by omega)⟩
theorem stL_in : ∀ (f n i : Nat) (x : Nat × Nat), x ∈ stL f n i → x.2 ≤ i
  | 0, _, _, x, h => by simp [stL] at h
  | f + 1, n, i, x, h => by
    rw [stL] at h
    split at h
    · simp at h
    · rcases List.mem_cons.1 h with rfl | h
      · exact Nat.le_refl _
      · have := stL_in f _ _ x h; omega
def CmI (w : World) (d0 : List UInt8) (p : List (List UInt8)) (pre : List (Nat × Nat)) (W : World) : Prop :=
  Row W (w.heap.size + 2) 30 (cellsOf (cmF d0 p pre).1) ∧ (∃ a c, Row W (w.heap.size + 1) 25 [.slice a (cmF d0 p pre).2.length c] ∧ DRest w.heap.size w (cmF d0 p pre).2 (.slice a (cmF d0 p pre).2.length c)) ∧ Row W w.heap.size 51 [fH] ∧ Below w.heap.size w W
set_option maxHeartbeats 4000000 in
set_option maxRecDepth 100000 in
theorem climb_ok (f n i : Nat) (b : List UInt8) (bv : Value) (p : List (List UInt8)) (pv : Value) (w : World) (hf : f ≤ 1000) (hn : n ≤ 2 ^ f) (hl : isL n i = true) (hbl : b.length ≤ 1000000) (hb : Rest w.heap.size w b bv) (hr : DRest w.heap.size w p pv) (hp : p.length = plen f n i) (hT : Tab w) :
    Calls Tryd.prog 31 #[fH, .int .i64 (n : Int), .int .i64 (i : Int), bv, pv] w fun e w' => e = .returned (.tuple #[dg (clm sha Ndd f n i (leafD b) p), .int .i64 0]) ∧ Below w.heap.size w w' := by
  have HL := Lib.hid hl
  obtain ⟨hl1, hl2, hl3⟩ := isL_nat hl
  have HPL : Hid (∀ W, Calls Tryd.prog 46 #[.int .i64 (n : Int), .int .i64 (i : Int)] W fun e w' => e = .returned (.int .i64 ((plen f n i : Nat) : Int)) ∧ Below W.heap.size W w') := Lib.hid (fun W => pathLen_call f n i W hf hn (by omega) (by omega))
  have HN2 : Hid (n ≤ 65536 ∧ i ≤ 65536) := Lib.hid ⟨by omega, by omega⟩
  have HF := Lib.hid hf
  have HN := Lib.hid hn
  have HR := Lib.hid hr
  have HBT := Lib.hid hb
  have HT := Lib.hid hT
  have HBL := Lib.hid hbl
  have HCM := Lib.hid (cm_all f n i (leafD b) p)
  have HINV : Hid (∀ L, cntP L ≤ p.length → (cmF (leafD b) p L).1.length = 32 ∧ (cmF (leafD b) p L).2.length + cntP L = p.length ∧ Digs (cmF (leafD b) p L).2) := Lib.hid (fun L h => cmF_inv L (leafD b) p (leafD_len b) hr.1 h)
  have HCN : Hid (cntP (stL f n i) = p.length) := Lib.hid (by rw [hp]; exact cntP_all f n i)
  obtain ⟨pa, pc, rfl⟩ : ∃ a c, pv = .slice a p.length c := by obtain ⟨_, a, c, h, _⟩ := hr; exact ⟨a, c, h⟩
  obtain ⟨ba, bc, rfl⟩ : ∃ a c, bv = .slice a b.length c := by obtain ⟨a, c, h, _⟩ := hb; exact ⟨a, c, h⟩
  obtain ⟨pl, hpl⟩ : ∃ pl, pl = p.length := ⟨_, rfl⟩
  obtain ⟨bl, hbl2⟩ : ∃ bl, bl = b.length := ⟨_, rfl⟩
  have HPLE := Lib.hid hpl
  rw [← hp, ← hpl] at HPL
  rw [← hpl] at HR ⊢
  rw [← hbl2] at HBT ⊢
  clear hl hl1 hl2 hl3 hr hp hpl hf hn hb hT hbl hbl2
  refine (callsIn_wide (n := 6)).1 ?_
  refine callsIn_of_wp_marks Tryd.func31 rfl trivial ?_ rfl
  simp only [Tryd.ntmps31, List.size_toArray, List.length_cons, List.length_nil, Nat.reduceAdd, Nat.reduceSub, Array.replicate_succ, Array.replicate_zero, List.push_toArray, List.append_toArray, List.nil_append, List.cons_append]
  unfold fH
  refine wpIn_wide.2 ?_
  go_upto_region 3 with (first
    | (refine wpList_alloc_dig rfl 10 rfl rfl ?_; intro g1 w1 hg hrow hb; have H1 := Lib.hid hrow; have HCP : Hid (Row w1 (w.heap.size + 1) 25 [.slice pa pl pc]) := Lib.hid (by have h9 := (row_new (w.alloc (.cells #[fH] 51)) 25 [.slice pa pl pc]).keep hb; rwa [World.size_alloc] at h9); have HCH : Hid (Row w1 w.heap.size 51 [fH]) := Lib.hid (((row_new w 51 [fH]).push (.cells #[.slice pa pl pc] 25)).keep hb); have hg1 : g1 = w.heap.size + 2 := (by rw [hg]; simp); have HB1 := Lib.hid (below_next (below_next (Joins.below_alloc1 w _) (Joins.below_alloc1 _ _)) hb); clear hg hrow hb)
    | (go_at_call 23; refine (isLeaf_call n i _).mono ?_; rintro e w2 ⟨rfl, rfl⟩; rw [HL.out])
    | fail)
  subst hg1
  have fcp : ∀ W, Below w2.heap.size w2 W → W.cell? ⟨w.heap.size + 1, 0, none⟩ = some (.slice pa pl pc) := fun W hW => (HCP.out.keep hW).cell (i := 0) rfl
  go_region_held3 (fun W => Below w2.heap.size w2 W) (first | assumption | exact (Below.refl _ _).drew | exact below_next (by assumption) (by assumption)) (first
    | (go_at_call 46; refine (HPL.out _).mono ?_; rintro e w5 ⟨rfl, hb5a⟩; have hb5 : Below w2.heap.size w2 w5 := below_next (by assumption) hb5a; clear hb5a))
  have H5 := Lib.hid (H1.out.keep hb5)
  have HB5 := Lib.hid (below_next HB1.out hb5)
  have HCP5 := Lib.hid (HCP.out.keep hb5)
  have HCH5 := Lib.hid (HCH.out.keep hb5)
  clear fcp hb5
  have fch : ∀ W, Below w5.heap.size w5 W → W.cell? ⟨w.heap.size, 0, none⟩ = some (.func (.func 21) #[] #[]) := fun W hW => (HCH5.out.keep hW).cell (i := 0) rfl
  go_upto_region 5 with (fail)
  refine wp_region_noPanic ?_
  (refine wp_region_held_drew (S := fun w' => Below w.heap.size w w' ∧ w'.cell? ⟨w.heap.size, 0, none⟩ = some (.func (.func 21) #[] #[])) (by kernel_rfl) (⟨HB5.out.drew, fch _ (Below.refl _ w5).drew⟩) (fun hHeld => ?_))
  have HB0' := Lib.hid ((Below.refl w5.heap.size w5).drew)
  (obtain ⟨w0, hw0⟩ : ∃ x, x = w5.drew := ⟨_, rfl⟩; rw [← hw0] at hHeld HB0' ⊢; have HS := Lib.hid hHeld; have HB0 := HB0'; clear hHeld hw0 HB0')
  refine wpAnyH_take (i := 0) (oi := { dst := some 28, op := Op.load 51 (Operand.tmp 5), type := 51, pos := "ways.go:21", after := #[], guard := none }) (v := ?_) rfl (by kernel_rfl) (by kernel_rfl) (by kernel_rfl) (fun _ _ _ h => h) (Or.inl ⟨by rfl, ?_⟩) HS.out ?_
  rotate_left
  · (intro w hSw; (try dsimp only at hSw); go_simp; with_reducible rfl)
  try simp only [Act.put, List.setIfInBounds_toArray, List.set_cons_zero, List.set_cons_succ]
  refine wpAnyH_take (i := 1) (oi := { dst := some 29, op := Op.move (Operand.tmp 3), type := 34, pos := "ways.go:21", after := #[], guard := none }) (v := ?_) rfl (by kernel_rfl) (by kernel_rfl) (by kernel_rfl) (fun _ _ _ h => h) (Or.inl ⟨by rfl, ?_⟩) HS.out ?_
  rotate_left
  · (intro w hSw; (try dsimp only at hSw); go_simp; with_reducible rfl)
  try simp only [Act.put, List.setIfInBounds_toArray, List.set_cons_zero, List.set_cons_succ]
  refine wpAnyH_ready (rs := [2]) (by kernel_rfl) (by simp) ?_
  refine AllReadyH.cons (o := { dst := some 30, op := Op.buildSlice 22 1 #[(0, Operand.tmp 29)], type := 22, pos := "ways.go:21", after := #[{ on := 1, ground := Ground.data }], guard := none }) rfl (fun K hK => ?_) AllReadyH.nil
  rw [if_pos (by rfl)]
  go_simp
  have HG2 := Lib.hid (row_new w0 34 [.slice ba bl bc]); replace HB0 := Lib.hid (below_next HB0.out (Joins.below_alloc1 w0 (.cells #[.slice ba bl bc] 34))); replace HS := Lib.hid (And.intro (below_next HB5.out HB0.out) (fch _ HB0.out))
  refine hK.out _ _ HS.out (fun _ => ?_)
  clear hK K
  try simp only [Act.put, List.setIfInBounds_toArray, List.set_cons_zero, List.set_cons_succ]
  refine wpAnyH_ready (rs := [3]) (by kernel_rfl) (by simp) ?_
  refine AllReadyH.cons (o := { dst := some 31, op := Op.call { callee := Callee.value (Operand.func 41), args := #[Operand.const (Value.string { data := #[108, 101, 97, 102] }), Operand.tmp 30], argTypes := #[9, 22] }, type := 34, pos := "ways.go:21", after := #[{ on := 2, ground := Ground.data }], guard := none }) rfl (fun K hK => ?_) AllReadyH.nil
  rw [if_pos (by rfl)]
  go_simp
  go_wp2_with (go_at_call 41; refine (text_leaf b _ _ _ HBL.out HG2.out (rest_keep (rest_keep HBT.out HB5.out) HB0.out) ((HT.out.keep HB5.out).keep HB0.out)).mono ?_; rintro e w6 ⟨v6, rfl, hr6, hb6⟩; replace HB0 := Lib.hid (below_next HB0.out hb6); have HV6 := Lib.hid hr6; replace HS := Lib.hid (And.intro (below_next HB5.out HB0.out) (fch _ HB0.out)); clear hr6 hb6 HG2)
  refine hK.out _ _ HS.out (fun _ => ?_)
  clear hK K
  try simp only [Act.put, List.setIfInBounds_toArray, List.set_cons_zero, List.set_cons_succ]
  refine wpAnyH_ready (rs := [4]) (by kernel_rfl) (by simp) ?_
  refine AllReadyH.cons (o := { dst := some 32, op := Op.call { callee := Callee.value (Operand.tmp 28), args := #[Operand.tmp 31], argTypes := #[34] }, type := 30, pos := "ways.go:21", after := #[{ on := 0, ground := Ground.data }, { on := 3, ground := Ground.data }, { on := 3, ground := Ground.chain }], guard := none }) rfl (fun K hK => ?_) AllReadyH.nil
  rw [if_pos (by rfl)]
  go_simp
  go_wp2_with (go_at_call 21; refine (sum_call (Lf ++ b) v6 w6 HV6.out ((HT.out.keep HB5.out).keep HB0.out) (by rw [List.length_append, show Lf.length = 32 from sha_len _]; have := HBL.out; omega)).mono ?_; rintro e w7 ⟨rfl, hb7⟩; replace HB0 := Lib.hid (below_next HB0.out hb7); replace HS := Lib.hid (And.intro (below_next HB5.out HB0.out) (fch _ HB0.out)); clear hb7)
  refine hK.out _ _ HS.out (fun _ => ?_)
  clear hK K
  try simp only [Act.put, List.setIfInBounds_toArray, List.set_cons_zero, List.set_cons_succ]
  refine wpAnyH_ready (rs := [5]) (by kernel_rfl) (by simp) ?_
  refine AllReadyH.cons (o := { dst := none, op := Op.store 30 (Operand.tmp 10) (Operand.tmp 32), type := 0, pos := "ways.go:21", after := #[{ on := 4, ground := Ground.data }, { on := 4, ground := Ground.chain }, { on := 0, ground := Ground.phase }, { on := 1, ground := Ground.phase }, { on := 2, ground := Ground.phase }, { on := 3, ground := Ground.phase }, { on := 4, ground := Ground.phase }], guard := none }) rfl (fun K hK => ?_) AllReadyH.nil
  rw [if_pos (by rfl)]
  (have H7 := Lib.hid (H5.out.keep HB0.out); refine wp_store_dig' _ _ rfl (w.heap.size + 2) (leafD b) (leafD_len b) rfl rfl H7.out (below_next HB5.out HB0.out) (by omega) ?_; intro w8 hrow hb hoth; have H8 := Lib.hid hrow; have HB8 := Lib.hid hb; have HCP8 := Lib.hid (hoth _ _ _ (by omega) (HCP5.out.keep HB0.out)); have HCH8 := Lib.hid (hoth _ _ _ (by omega) (HCH5.out.keep HB0.out)); replace HS := Lib.hid (And.intro HB8.out (HCH8.out.cell (i := 0) rfl)); clear hrow hb hoth)
  refine hK.out _ _ HS.out (fun _ => ?_)
  clear hK K
  try simp only [Act.put, List.setIfInBounds_toArray, List.set_cons_zero, List.set_cons_succ]
  refine wpAnyH_done (by kernel_rfl) ?_ _
  refine NoPanic.normal ?_
  clear fch HS HB0 HV6 H7
  clear HCP HCH HCP5 HCH5 H5 H1 HB1 HL HPL
  obtain ⟨d0, hd0⟩ : ∃ d0, d0 = leafD b := ⟨_, rfl⟩
  rw [← hd0] at HCM HINV H8
  have HD0 := Lib.hid hd0
  clear hd0
  go_wp2_with (go_at_call 25; refine (callsIn_wide.1 (steps_in 5 n i _)).mono ?_; rintro e w9 ⟨rfl, rfl⟩)
  generalize Value.slice (some ⟨w0.heap.size, 0, none⟩) 1 1 = u30
  generalize dg (sha (Lf ++ b)) = u32
  generalize v6 = u31
  have hb1 := Joins.below_alloc1 w8 (.cells #[.int .i64 (n : Int)] 3)
  have hb2 := Joins.below_alloc1 (w8.alloc (.cells #[.int .i64 (n : Int)] 3)) (.cells #[.int .i64 (i : Int)] 3)
  have hc1 : Row ((w8.alloc (.cells #[.int .i64 (n : Int)] 3)).alloc (.cells #[.int .i64 (i : Int)] 3)) w8.heap.size 3 [.int .i64 (n : Int)] := (row_new w8 3 _).keep hb2
  have hc2 : Row ((w8.alloc (.cells #[.int .i64 (n : Int)] 3)).alloc (.cells #[.int .i64 (i : Int)] 3)) (w8.alloc (.cells #[.int .i64 (n : Int)] 3)).heap.size 3 [.int .i64 (i : Int)] := row_new _ 3 _
  have hs2 : ((w8.alloc (.cells #[.int .i64 (n : Int)] 3)).alloc (.cells #[.int .i64 (i : Int)] 3)).heap.size = w8.heap.size + 2 := by simp
  have hb3 := below_next hb1 hb2
  rw [World.size_alloc] at hc2
  generalize (w8.alloc (.cells #[.int .i64 (n : Int)] 3)).alloc (.cells #[.int .i64 (i : Int)] 3) = W3 at *
  have HRD := H8.out.keep hb3
  have HRP := HCP8.out.keep hb3
  have HRH := HCH8.out.keep hb3
  have HB3 : Below w.heap.size w W3 := below_next HB8.out hb3
  have hlt8 : w.heap.size + 2 < w8.heap.size := H8.out.lt
  clear hb1 hb2 hb3
  refine (wpIn_wide (n := 6)).1 ?_
  refine range_told (F := Fence.wide) (n := 6) rfl (by omega) (gf := 42) (lb := #[.pointer (some ⟨w8.heap.size, 0, none⟩), .pointer (some ⟨w8.heap.size + 1, 0, none⟩)]) rfl trivial (enters_of Tryd.func42 (by kernel_rfl) rfl)
    (encs := encW) (T := fun _ _ => True) (fun x => ownFrom_pure _ _) (B := fun b => b < w8.heap.size + 2 ∧ b ≠ w.heap.size + 2 ∧ b ≠ w.heap.size + 1) (fun b hb => by omega) (S := fun ys => ys = stL f n i) (G := Goes (stL f n i))
    (fun W hW => steps_tells 5 (by omega) w8.heap.size (w8.heap.size + 1) _ f n i HN.out HN2.out.1 HN2.out.2 W ⟨by omega, by omega, by omega⟩ ⟨by omega, by omega, by omega⟩ (fun b hb => by have := hW.size; omega) ((hW.cell (p := ⟨w8.heap.size, 0, none⟩) (show w8.heap.size < W3.heap.size by omega)).trans (hc1.cell (i := 0) rfl)) ((hW.cell (p := ⟨w8.heap.size + 1, 0, none⟩) (show w8.heap.size + 1 < W3.heap.size by omega)).trans (hc2.cell (i := 0) rfl))) (fun _ => rfl)
    (CmI w d0 p)
    ?own ⟨HRD, ⟨pa, pc, by rw [show (cmF d0 p []).2.length = pl from HPLE.out.symm]; exact HRP, by rw [show (cmF d0 p []).2.length = pl from HPLE.out.symm]; exact HR.out⟩, HRH, HB3⟩
    (fun x => { tmps := #[.func (.func 21) #[] #[], .int .i64 (n : Int), .int .i64 (i : Int), .slice ba bl bc, .slice pa pl pc, .pointer (some ⟨w.heap.size, 0, none⟩), undef, undef, undef, .pointer (some ⟨w.heap.size + 1, 0, none⟩), .pointer (some ⟨w.heap.size + 2, 0, none⟩), .int .i64 0, .int .i64 (x.2 : Int), .bool (decide (x.1 ≤ bs x.2)), .bool false, .int .i64 (n : Int), .int .i64 (i : Int), .bool true, .bool false, undef, .bool false, .slice pa pl pc, .int .i64 (pl : Int), .int .i64 (n : Int), .int .i64 (i : Int), .int .i64 (pl : Int), .bool false, undef, .func (.func 21) #[] #[], .slice ba bl bc, u30, u31, u32, .int .i64 (n : Int), .int .i64 (i : Int), .func (.func 42) #[] #[.pointer (some ⟨w8.heap.size, 0, none⟩), .pointer (some ⟨w8.heap.size + 1, 0, none⟩)], .int .i64 (x.2 : Int), .bool (decide (x.1 ≤ bs x.2)), undef, undef, undef, undef, undef, undef, undef, undef, undef, undef, undef, undef], defers := [] }) ?assign ?body ?done
  case own =>
    rintro pre A B row ⟨h1, ⟨a, c, h2, h3⟩, h4, h5⟩ hg hr
    have hnc : ∀ r, row = some r → ∃ o : Obj, A.heap[r]? = some o ∧ o.isCells = false := fun r e => (hr r e).2
    exact ⟨row_kept h1 hg hnc, ⟨a, c, row_kept h2 hg hnc, h3⟩, row_kept h4 hg hnc, ownFrom_below (β := Unit) (Nat.le_refl _) (by omega) () A B row h5 hg hr⟩
  case assign =>
    intro l k W K hK
    unfold encW
    gi_wp2
    exact hK
  case body =>
    rintro l pre x W ⟨hcd, ⟨a, cap, hcp, hdr⟩, hch, hB⟩ - ⟨rest, hrest⟩
    have hsn := cmF_snoc d0 p pre x
    have hcs : cntP (pre ++ [x]) ≤ p.length := by
      rw [← HCN.out, hrest]
      unfold cntP
      simp only [List.countP_append, List.countP_cons, List.countP_nil]
      omega
    obtain ⟨i1, i2, i3⟩ := HINV.out pre (by rw [cntP_snoc] at hcs; omega)
    have hple : x.2 ≤ 65536 := by
      have h9 := stL_in f n i x (by rw [hrest]; simp)
      have := HN2.out.2
      omega
    obtain ⟨⟨dc, rs⟩, hst⟩ : ∃ st, st = cmF d0 p pre := ⟨_, rfl⟩
    rw [← hst] at hcd hcp hdr hsn i1 i2 i3
    by_cases h2 : bs x.2 < x.1
    · obtain ⟨x0, r, rfl⟩ : ∃ x0 r, rs = x0 :: r := by
        rw [cntP_snoc, if_pos h2] at hcs
        match rs, i2 with
        | [], h => simp at h; omega
        | x0 :: r, _ => exact ⟨x0, r, rfl⟩
      have hd : decide (x.1 ≤ bs x.2) = false := decide_eq_false (by omega)
      rw [hd]
      obtain ⟨pb, po, ha⟩ : ∃ pb po, a = some ⟨pb, po, none⟩ := by
        obtain ⟨_, a', cap', h1, _, _, _, h4⟩ := hdr
        injection h1 with e1 _ _
        rcases h4 with h0 | ⟨b, off, h5, _, _⟩
        · simp at h0
        · exact ⟨b, off, by rw [e1, h5]⟩
      subst ha
      obtain ⟨na, nc, hdr2, hsl⟩ := slice_tail hdr
      obtain ⟨jx, hjx⟩ : ∃ jx, jx = joinX Ndd x.2 dc x0 := ⟨_, rfl⟩
      have HSN : Hid (cmF d0 p (pre ++ [x]) = (sha jx, r)) := Lib.hid (by rw [hsn]; unfold cmS; rw [if_pos h2, hjx]; rfl)
      have HX0 : Hid (x0.length = 32) := Lib.hid (hdr.1 x0 (by simp))
      have HDC : Hid (dc.length = 32) := Lib.hid i1
      have HJL : Hid (jx.length ≤ 1099511627776) := Lib.hid (by rw [hjx]; unfold joinX nodeX; split <;> (rw [List.length_append, List.length_append, HX0.out, HDC.out, show Ndd.length = 32 from sha_len _]; omega))
      have HWV : Hid (Below W.heap.size W W.drew) := Lib.hid (Below.refl _ W).drew
      have HBW := Lib.hid hB
      have HTV : Hid (Tab W.drew) := Lib.hid (HT.out.keep (below_next hB HWV.out))
      have HX0R : Hid (Rest w.heap.size W.drew x0 (.slice (some ⟨pb, po, none⟩) 32 32)) := Lib.hid (by
        have h8 := hdr.stays (below_next hB HWV.out)
        have h9 := drest_bytes h8 0 (by simp)
        simpa using h9)
      have HJN : Hid (Calls Tryd.prog 47 #[.int .i64 (x.2 : Int), dg dc, dg x0] W.drew fun e w' => ∃ v', e = .returned v' ∧ Rest w'.heap.size w' jx v' ∧ Below W.drew.heap.size W.drew w') := Lib.hid (by rw [hjx]; exact joined_call x.2 dc x0 W.drew hple i1 HX0.out HTV.out)
      have HCD : Hid (Row W.drew (w.heap.size + 2) 30 (cellsOf dc)) := Lib.hid hcd
      have HCP : Hid (Row W.drew (w.heap.size + 1) 25 [.slice (some ⟨pb, po, none⟩) (x0 :: r).length cap]) := Lib.hid hcp
      have HCH : Hid (Row W.drew w.heap.size 51 [fH]) := Lib.hid hch
      have HDR2 := Lib.hid hdr2
      have HSL := Lib.hid hsl
      obtain ⟨BB, hBB⟩ : ∃ BB : Nat → Prop, BB = fun b => b < w8.heap.size + 2 ∧ b ≠ w.heap.size + 2 ∧ b ≠ w.heap.size + 1 := ⟨_, rfl⟩
      rw [← hBB]
      have HBB : Hid (¬ BB (w.heap.size + 2)) := Lib.hid (by rw [hBB]; exact fun h => h.2.1 rfl)
      have HBB2 : Hid (¬ BB (w.heap.size + 1)) := Lib.hid (by rw [hBB]; exact fun h => h.2.2 rfl)
      obtain ⟨place, hpc⟩ : ∃ place, place = x.2 := ⟨_, rfl⟩
      rw [← hpc] at HJN ⊢
      obtain ⟨rl, hrl⟩ : ∃ rl, rl = r.length + 1 := ⟨_, rfl⟩
      obtain ⟨rm, hrm⟩ : ∃ rm, rm = r.length := ⟨_, rfl⟩
      have e9 : (x0 :: r).length = rl := by rw [hrl]; rfl
      rw [e9] at HCP
      rw [← hrl, ← hrm] at HSL
      have h0i : (0 : Int) < (rl : Int) := by omega
      have h0n : 0 < rl := by omega
      have HRM := Lib.hid hrm
      have cph : W.drew.cell? ⟨w.heap.size, 0, none⟩ = some (.func (.func 21) #[] #[]) := HCH.out.cell (i := 0) rfl
      have cpp0 : W.drew.cell? ⟨w.heap.size + 1, 0, none⟩ = some (.slice (some ⟨pb, po, none⟩) rl cap) := HCP.out.cell (i := 0) rfl
      clear hcd hcp hch hB hdr hdr2 hsl hjx hsn hcs i1 i2 i3 hst hrest hd h2 hBB hpc hple e9 hrl hrm
      gi_wp2
      refine wpIn_region_any (by kernel_rfl) ?_
      change wpAnyIn _ _ _ _ _ _ _ _ _ (World.drew _)
      generalize W.drew = V at *
      refine anyG (fun G hG => ?_)
      have S0123456789ab : ∀ (v4 : Value) (w6 : World) (h6 : CmSt w W w6 BB (sha jx) (.slice (some ⟨pb, po, none⟩) rl cap)), G 0 #[true, true, true, true, true, true, true, true, true, true, true, true] ⟨#[.func (.func 21) #[] #[], .int .i64 (n : Int), .int .i64 (i : Int), .slice ba bl bc, .slice pa pl pc, .pointer (some ⟨w.heap.size, 0, none⟩), undef, undef, undef, .pointer (some ⟨w.heap.size + 1, 0, none⟩), .pointer (some ⟨w.heap.size + 2, 0, none⟩), .int .i64 0, .int .i64 (place : Int), .bool false, .bool false, .int .i64 (n : Int), .int .i64 (i : Int), .bool true, .bool false, undef, .bool false, .slice pa pl pc, .int .i64 (pl : Int), .int .i64 (n : Int), .int .i64 (i : Int), .int .i64 (pl : Int), .bool false, undef, .func (.func 21) #[] #[], .slice ba bl bc, u30, u31, u32, .int .i64 (n : Int), .int .i64 (i : Int), .func (.func 42) #[] #[.pointer (some ⟨w8.heap.size, 0, none⟩), .pointer (some ⟨w8.heap.size + 1, 0, none⟩)], .int .i64 (place : Int), .bool false, .bool false, .func (.func 21) #[] #[], .int .i64 (place : Int), dg dc, .slice (some ⟨pb, po, none⟩) rl cap, .pointer (some ⟨pb, po, none⟩), dg x0, v4, dg (sha jx), .slice (some ⟨pb, po, none⟩) rl cap, .slice na rm nc, undef], []⟩ (w6.setCell ⟨w.heap.size + 1, 0, none⟩ (.slice na rm nc)) := by
        intro v4 w6 h6
        rw [hG]
        refine wpAnyIn_done (by kernel_rfl) ?_ _
        gi_wp2_with fail
        have e := HRM.out
        subst e
        exact ⟨(h6.1.trans (KeepsOthers.setCell _ _ _)).from _, h6.2.1.trans ⟨by simp, KeepS.setCell _ _ _ _ HBB2.out⟩, by unfold CmI; rw [HSN.out]; exact ⟨h6.2.2.1.setFar 0 _ (by omega), ⟨na, nc, h6.2.2.2.1.set (cs' := [.slice na r.length nc]) 0 _ rfl, HDR2.out⟩, h6.2.2.2.2.1.setFar 0 _ (by omega), below_setCell h6.2.2.2.2.2 _ 0 _ (by omega)⟩⟩
      have S0123456789a : ∀ (v4 : Value) (w6 : World) (h6 : CmSt w W w6 BB (sha jx) (.slice (some ⟨pb, po, none⟩) rl cap)), G 1 #[true, true, true, true, true, true, true, true, true, true, true, false] ⟨#[.func (.func 21) #[] #[], .int .i64 (n : Int), .int .i64 (i : Int), .slice ba bl bc, .slice pa pl pc, .pointer (some ⟨w.heap.size, 0, none⟩), undef, undef, undef, .pointer (some ⟨w.heap.size + 1, 0, none⟩), .pointer (some ⟨w.heap.size + 2, 0, none⟩), .int .i64 0, .int .i64 (place : Int), .bool false, .bool false, .int .i64 (n : Int), .int .i64 (i : Int), .bool true, .bool false, undef, .bool false, .slice pa pl pc, .int .i64 (pl : Int), .int .i64 (n : Int), .int .i64 (i : Int), .int .i64 (pl : Int), .bool false, undef, .func (.func 21) #[] #[], .slice ba bl bc, u30, u31, u32, .int .i64 (n : Int), .int .i64 (i : Int), .func (.func 42) #[] #[.pointer (some ⟨w8.heap.size, 0, none⟩), .pointer (some ⟨w8.heap.size + 1, 0, none⟩)], .int .i64 (place : Int), .bool false, .bool false, .func (.func 21) #[] #[], .int .i64 (place : Int), dg dc, .slice (some ⟨pb, po, none⟩) rl cap, .pointer (some ⟨pb, po, none⟩), dg x0, v4, dg (sha jx), .slice (some ⟨pb, po, none⟩) rl cap, .slice na rm nc, undef], []⟩ w6 := by
        intro v4 w6 h6
        have cpp := h6.2.2.2.1.cell (i := 0) rfl; have fpp := h6.2.2.2.1.free 0
        rw [hG]
        refine wpAnyIn_ready (rs := [11]) (by kernel_rfl) (by simp) ?_
        refine AllReadyIn.cons rfl (fun K hK => ?_) ?_
        · go_simp
          refine hK _ _ ?_
          exact toG hG (S0123456789ab v4 w6 h6) (by kernel_rfl)
        exact AllReadyIn.nil
      have S0123456789 : ∀ (v4 : Value) (w4 : World) (hb4 : Below V.heap.size V w4), G 2 #[true, true, true, true, true, true, true, true, true, true, false, false] ⟨#[.func (.func 21) #[] #[], .int .i64 (n : Int), .int .i64 (i : Int), .slice ba bl bc, .slice pa pl pc, .pointer (some ⟨w.heap.size, 0, none⟩), undef, undef, undef, .pointer (some ⟨w.heap.size + 1, 0, none⟩), .pointer (some ⟨w.heap.size + 2, 0, none⟩), .int .i64 0, .int .i64 (place : Int), .bool false, .bool false, .int .i64 (n : Int), .int .i64 (i : Int), .bool true, .bool false, undef, .bool false, .slice pa pl pc, .int .i64 (pl : Int), .int .i64 (n : Int), .int .i64 (i : Int), .int .i64 (pl : Int), .bool false, undef, .func (.func 21) #[] #[], .slice ba bl bc, u30, u31, u32, .int .i64 (n : Int), .int .i64 (i : Int), .func (.func 42) #[] #[.pointer (some ⟨w8.heap.size, 0, none⟩), .pointer (some ⟨w8.heap.size + 1, 0, none⟩)], .int .i64 (place : Int), .bool false, .bool false, .func (.func 21) #[] #[], .int .i64 (place : Int), dg dc, .slice (some ⟨pb, po, none⟩) rl cap, .pointer (some ⟨pb, po, none⟩), dg x0, v4, dg (sha jx), .slice (some ⟨pb, po, none⟩) rl cap, .slice na rm nc, undef], []⟩ w4 := by
        intro v4 w4 hb4
        have cpp := (HCP.out.keep hb4).cell (i := 0) rfl; have chh := (HCH.out.keep hb4).cell (i := 0) rfl; unfold fH at chh
        rw [hG]
        refine wpAnyIn_ready (rs := [10]) (by kernel_rfl) (by simp) ?_
        refine AllReadyIn.cons rfl (fun K hK => ?_) ?_
        · rw [if_pos (by rfl)]
          refine wpIn_store_dig _ _ rfl _ (sha jx) dc (sha_len _) HDC.out rfl rfl (HCD.out.keep hb4) ?_
          refine hK _ _ ?_
          exact toG hG (S0123456789a v4 _ (cmst_new HWV.out hb4 HBW.out HCD.out HCP.out HCH.out HBB.out)) (by kernel_rfl)
        exact AllReadyIn.nil
      have S012345678a : ∀ (v4 : Value) (w6 : World) (h6 : CmSt w W w6 BB (sha jx) (.slice (some ⟨pb, po, none⟩) rl cap)), G 2 #[true, true, true, true, true, true, true, true, true, false, true, false] ⟨#[.func (.func 21) #[] #[], .int .i64 (n : Int), .int .i64 (i : Int), .slice ba bl bc, .slice pa pl pc, .pointer (some ⟨w.heap.size, 0, none⟩), undef, undef, undef, .pointer (some ⟨w.heap.size + 1, 0, none⟩), .pointer (some ⟨w.heap.size + 2, 0, none⟩), .int .i64 0, .int .i64 (place : Int), .bool false, .bool false, .int .i64 (n : Int), .int .i64 (i : Int), .bool true, .bool false, undef, .bool false, .slice pa pl pc, .int .i64 (pl : Int), .int .i64 (n : Int), .int .i64 (i : Int), .int .i64 (pl : Int), .bool false, undef, .func (.func 21) #[] #[], .slice ba bl bc, u30, u31, u32, .int .i64 (n : Int), .int .i64 (i : Int), .func (.func 42) #[] #[.pointer (some ⟨w8.heap.size, 0, none⟩), .pointer (some ⟨w8.heap.size + 1, 0, none⟩)], .int .i64 (place : Int), .bool false, .bool false, .func (.func 21) #[] #[], .int .i64 (place : Int), dg dc, .slice (some ⟨pb, po, none⟩) rl cap, .pointer (some ⟨pb, po, none⟩), dg x0, v4, dg (sha jx), .slice (some ⟨pb, po, none⟩) rl cap, undef, undef], []⟩ w6 := by
        intro v4 w6 h6
        have cpp := h6.2.2.2.1.cell (i := 0) rfl; have fpp := h6.2.2.2.1.free 0
        rw [hG]
        refine wpAnyIn_ready (rs := [9]) (by kernel_rfl) (by simp) ?_
        refine AllReadyIn.cons rfl (fun K hK => ?_) ?_
        · rw [if_pos (by rfl)]
          refine HSL.out _ _ _ _ _ _ _ _ _ rfl rfl ?_
          refine hK _ _ ?_
          exact toG hG (S0123456789a v4 w6 h6) (by kernel_rfl)
        exact AllReadyIn.nil
      have S012345678 : ∀ (v4 : Value) (w4 : World) (hb4 : Below V.heap.size V w4), G 3 #[true, true, true, true, true, true, true, true, true, false, false, false] ⟨#[.func (.func 21) #[] #[], .int .i64 (n : Int), .int .i64 (i : Int), .slice ba bl bc, .slice pa pl pc, .pointer (some ⟨w.heap.size, 0, none⟩), undef, undef, undef, .pointer (some ⟨w.heap.size + 1, 0, none⟩), .pointer (some ⟨w.heap.size + 2, 0, none⟩), .int .i64 0, .int .i64 (place : Int), .bool false, .bool false, .int .i64 (n : Int), .int .i64 (i : Int), .bool true, .bool false, undef, .bool false, .slice pa pl pc, .int .i64 (pl : Int), .int .i64 (n : Int), .int .i64 (i : Int), .int .i64 (pl : Int), .bool false, undef, .func (.func 21) #[] #[], .slice ba bl bc, u30, u31, u32, .int .i64 (n : Int), .int .i64 (i : Int), .func (.func 42) #[] #[.pointer (some ⟨w8.heap.size, 0, none⟩), .pointer (some ⟨w8.heap.size + 1, 0, none⟩)], .int .i64 (place : Int), .bool false, .bool false, .func (.func 21) #[] #[], .int .i64 (place : Int), dg dc, .slice (some ⟨pb, po, none⟩) rl cap, .pointer (some ⟨pb, po, none⟩), dg x0, v4, dg (sha jx), .slice (some ⟨pb, po, none⟩) rl cap, undef, undef], []⟩ w4 := by
        intro v4 w4 hb4
        have cpp := (HCP.out.keep hb4).cell (i := 0) rfl; have chh := (HCH.out.keep hb4).cell (i := 0) rfl; unfold fH at chh
        rw [hG]
        refine wpAnyIn_ready (rs := [9, 10]) (by kernel_rfl) (by simp) ?_
        refine AllReadyIn.cons rfl (fun K hK => ?_) ?_
        · rw [if_pos (by rfl)]
          refine HSL.out _ _ _ _ _ _ _ _ _ rfl rfl ?_
          refine hK _ _ ?_
          exact toG hG (S0123456789 v4 w4 hb4) (by kernel_rfl)
        refine AllReadyIn.cons rfl (fun K hK => ?_) ?_
        · rw [if_pos (by rfl)]
          refine wpIn_store_dig _ _ rfl _ (sha jx) dc (sha_len _) HDC.out rfl rfl (HCD.out.keep hb4) ?_
          refine hK _ _ ?_
          exact toG hG (S012345678a v4 _ (cmst_new HWV.out hb4 HBW.out HCD.out HCP.out HCH.out HBB.out)) (by kernel_rfl)
        exact AllReadyIn.nil
      have S01234567a : ∀ (v4 : Value) (w6 : World) (h6 : CmSt w W w6 BB (sha jx) (.slice (some ⟨pb, po, none⟩) rl cap)), G 3 #[true, true, true, true, true, true, true, true, false, false, true, false] ⟨#[.func (.func 21) #[] #[], .int .i64 (n : Int), .int .i64 (i : Int), .slice ba bl bc, .slice pa pl pc, .pointer (some ⟨w.heap.size, 0, none⟩), undef, undef, undef, .pointer (some ⟨w.heap.size + 1, 0, none⟩), .pointer (some ⟨w.heap.size + 2, 0, none⟩), .int .i64 0, .int .i64 (place : Int), .bool false, .bool false, .int .i64 (n : Int), .int .i64 (i : Int), .bool true, .bool false, undef, .bool false, .slice pa pl pc, .int .i64 (pl : Int), .int .i64 (n : Int), .int .i64 (i : Int), .int .i64 (pl : Int), .bool false, undef, .func (.func 21) #[] #[], .slice ba bl bc, u30, u31, u32, .int .i64 (n : Int), .int .i64 (i : Int), .func (.func 42) #[] #[.pointer (some ⟨w8.heap.size, 0, none⟩), .pointer (some ⟨w8.heap.size + 1, 0, none⟩)], .int .i64 (place : Int), .bool false, .bool false, .func (.func 21) #[] #[], .int .i64 (place : Int), dg dc, .slice (some ⟨pb, po, none⟩) rl cap, .pointer (some ⟨pb, po, none⟩), dg x0, v4, dg (sha jx), undef, undef, undef], []⟩ w6 := by
        intro v4 w6 h6
        have cpp := h6.2.2.2.1.cell (i := 0) rfl; have fpp := h6.2.2.2.1.free 0
        rw [hG]
        refine wpAnyIn_ready (rs := [8]) (by kernel_rfl) (by simp) ?_
        refine AllReadyIn.cons rfl (fun K hK => ?_) ?_
        · go_simp
          refine hK _ _ ?_
          exact toG hG (S012345678a v4 w6 h6) (by kernel_rfl)
        exact AllReadyIn.nil
      have S012345689 : ∀ (v4 : Value) (w4 : World) (hb4 : Below V.heap.size V w4) (hr4 : Rest w4.heap.size w4 jx v4), G 3 #[true, true, true, true, true, true, true, false, true, true, false, false] ⟨#[.func (.func 21) #[] #[], .int .i64 (n : Int), .int .i64 (i : Int), .slice ba bl bc, .slice pa pl pc, .pointer (some ⟨w.heap.size, 0, none⟩), undef, undef, undef, .pointer (some ⟨w.heap.size + 1, 0, none⟩), .pointer (some ⟨w.heap.size + 2, 0, none⟩), .int .i64 0, .int .i64 (place : Int), .bool false, .bool false, .int .i64 (n : Int), .int .i64 (i : Int), .bool true, .bool false, undef, .bool false, .slice pa pl pc, .int .i64 (pl : Int), .int .i64 (n : Int), .int .i64 (i : Int), .int .i64 (pl : Int), .bool false, undef, .func (.func 21) #[] #[], .slice ba bl bc, u30, u31, u32, .int .i64 (n : Int), .int .i64 (i : Int), .func (.func 42) #[] #[.pointer (some ⟨w8.heap.size, 0, none⟩), .pointer (some ⟨w8.heap.size + 1, 0, none⟩)], .int .i64 (place : Int), .bool false, .bool false, .func (.func 21) #[] #[], .int .i64 (place : Int), dg dc, .slice (some ⟨pb, po, none⟩) rl cap, .pointer (some ⟨pb, po, none⟩), dg x0, v4, undef, .slice (some ⟨pb, po, none⟩) rl cap, .slice na rm nc, undef], []⟩ w4 := by
        intro v4 w4 hb4 hr4
        have cpp := (HCP.out.keep hb4).cell (i := 0) rfl; have chh := (HCH.out.keep hb4).cell (i := 0) rfl; unfold fH at chh
        rw [hG]
        refine wpAnyIn_ready (rs := [7]) (by kernel_rfl) (by simp) ?_
        refine AllReadyIn.cons rfl (fun K hK => ?_) ?_
        · go_simp
          gi_wp2_with (refine ⟨trivial, ?_⟩; gi_at_call 21; refine (CallsIn.inRound l (callsIn_wide.2 (sum_call jx v4 w4 hr4 (HTV.out.keep hb4) HJL.out))).mono ?_; rintro e w5 ⟨rfl, hb5⟩)
          exact toG hG (S0123456789 v4 w5 (below_next hb4 hb5)) (by kernel_rfl)
        exact AllReadyIn.nil
      have S01234567 : ∀ (v4 : Value) (w4 : World) (hb4 : Below V.heap.size V w4), G 4 #[true, true, true, true, true, true, true, true, false, false, false, false] ⟨#[.func (.func 21) #[] #[], .int .i64 (n : Int), .int .i64 (i : Int), .slice ba bl bc, .slice pa pl pc, .pointer (some ⟨w.heap.size, 0, none⟩), undef, undef, undef, .pointer (some ⟨w.heap.size + 1, 0, none⟩), .pointer (some ⟨w.heap.size + 2, 0, none⟩), .int .i64 0, .int .i64 (place : Int), .bool false, .bool false, .int .i64 (n : Int), .int .i64 (i : Int), .bool true, .bool false, undef, .bool false, .slice pa pl pc, .int .i64 (pl : Int), .int .i64 (n : Int), .int .i64 (i : Int), .int .i64 (pl : Int), .bool false, undef, .func (.func 21) #[] #[], .slice ba bl bc, u30, u31, u32, .int .i64 (n : Int), .int .i64 (i : Int), .func (.func 42) #[] #[.pointer (some ⟨w8.heap.size, 0, none⟩), .pointer (some ⟨w8.heap.size + 1, 0, none⟩)], .int .i64 (place : Int), .bool false, .bool false, .func (.func 21) #[] #[], .int .i64 (place : Int), dg dc, .slice (some ⟨pb, po, none⟩) rl cap, .pointer (some ⟨pb, po, none⟩), dg x0, v4, dg (sha jx), undef, undef, undef], []⟩ w4 := by
        intro v4 w4 hb4
        have cpp := (HCP.out.keep hb4).cell (i := 0) rfl; have chh := (HCH.out.keep hb4).cell (i := 0) rfl; unfold fH at chh
        rw [hG]
        refine wpAnyIn_ready (rs := [8, 10]) (by kernel_rfl) (by simp) ?_
        refine AllReadyIn.cons rfl (fun K hK => ?_) ?_
        · go_simp
          refine hK _ _ ?_
          exact toG hG (S012345678 v4 w4 hb4) (by kernel_rfl)
        refine AllReadyIn.cons rfl (fun K hK => ?_) ?_
        · rw [if_pos (by rfl)]
          refine wpIn_store_dig _ _ rfl _ (sha jx) dc (sha_len _) HDC.out rfl rfl (HCD.out.keep hb4) ?_
          refine hK _ _ ?_
          exact toG hG (S01234567a v4 _ (cmst_new HWV.out hb4 HBW.out HCD.out HCP.out HCH.out HBB.out)) (by kernel_rfl)
        exact AllReadyIn.nil
      have S01234568 : ∀ (v4 : Value) (w4 : World) (hb4 : Below V.heap.size V w4) (hr4 : Rest w4.heap.size w4 jx v4), G 4 #[true, true, true, true, true, true, true, false, true, false, false, false] ⟨#[.func (.func 21) #[] #[], .int .i64 (n : Int), .int .i64 (i : Int), .slice ba bl bc, .slice pa pl pc, .pointer (some ⟨w.heap.size, 0, none⟩), undef, undef, undef, .pointer (some ⟨w.heap.size + 1, 0, none⟩), .pointer (some ⟨w.heap.size + 2, 0, none⟩), .int .i64 0, .int .i64 (place : Int), .bool false, .bool false, .int .i64 (n : Int), .int .i64 (i : Int), .bool true, .bool false, undef, .bool false, .slice pa pl pc, .int .i64 (pl : Int), .int .i64 (n : Int), .int .i64 (i : Int), .int .i64 (pl : Int), .bool false, undef, .func (.func 21) #[] #[], .slice ba bl bc, u30, u31, u32, .int .i64 (n : Int), .int .i64 (i : Int), .func (.func 42) #[] #[.pointer (some ⟨w8.heap.size, 0, none⟩), .pointer (some ⟨w8.heap.size + 1, 0, none⟩)], .int .i64 (place : Int), .bool false, .bool false, .func (.func 21) #[] #[], .int .i64 (place : Int), dg dc, .slice (some ⟨pb, po, none⟩) rl cap, .pointer (some ⟨pb, po, none⟩), dg x0, v4, undef, .slice (some ⟨pb, po, none⟩) rl cap, undef, undef], []⟩ w4 := by
        intro v4 w4 hb4 hr4
        have cpp := (HCP.out.keep hb4).cell (i := 0) rfl; have chh := (HCH.out.keep hb4).cell (i := 0) rfl; unfold fH at chh
        rw [hG]
        refine wpAnyIn_ready (rs := [7, 9]) (by kernel_rfl) (by simp) ?_
        refine AllReadyIn.cons rfl (fun K hK => ?_) ?_
        · go_simp
          gi_wp2_with (refine ⟨trivial, ?_⟩; gi_at_call 21; refine (CallsIn.inRound l (callsIn_wide.2 (sum_call jx v4 w4 hr4 (HTV.out.keep hb4) HJL.out))).mono ?_; rintro e w5 ⟨rfl, hb5⟩)
          exact toG hG (S012345678 v4 w5 (below_next hb4 hb5)) (by kernel_rfl)
        refine AllReadyIn.cons rfl (fun K hK => ?_) ?_
        · rw [if_pos (by rfl)]
          refine HSL.out _ _ _ _ _ _ _ _ _ rfl rfl ?_
          refine hK _ _ ?_
          exact toG hG (S012345689 v4 w4 hb4 hr4) (by kernel_rfl)
        exact AllReadyIn.nil
      have S01234589 : G 4 #[true, true, true, true, true, true, false, false, true, true, false, false] ⟨#[.func (.func 21) #[] #[], .int .i64 (n : Int), .int .i64 (i : Int), .slice ba bl bc, .slice pa pl pc, .pointer (some ⟨w.heap.size, 0, none⟩), undef, undef, undef, .pointer (some ⟨w.heap.size + 1, 0, none⟩), .pointer (some ⟨w.heap.size + 2, 0, none⟩), .int .i64 0, .int .i64 (place : Int), .bool false, .bool false, .int .i64 (n : Int), .int .i64 (i : Int), .bool true, .bool false, undef, .bool false, .slice pa pl pc, .int .i64 (pl : Int), .int .i64 (n : Int), .int .i64 (i : Int), .int .i64 (pl : Int), .bool false, undef, .func (.func 21) #[] #[], .slice ba bl bc, u30, u31, u32, .int .i64 (n : Int), .int .i64 (i : Int), .func (.func 42) #[] #[.pointer (some ⟨w8.heap.size, 0, none⟩), .pointer (some ⟨w8.heap.size + 1, 0, none⟩)], .int .i64 (place : Int), .bool false, .bool false, .func (.func 21) #[] #[], .int .i64 (place : Int), dg dc, .slice (some ⟨pb, po, none⟩) rl cap, .pointer (some ⟨pb, po, none⟩), dg x0, undef, undef, .slice (some ⟨pb, po, none⟩) rl cap, .slice na rm nc, undef], []⟩ V := by
        rw [hG]
        refine wpAnyIn_ready (rs := [6]) (by kernel_rfl) (by simp) ?_
        refine AllReadyIn.cons rfl (fun K hK => ?_) ?_
        · go_simp
          gi_wp2_with (refine ⟨trivial, ?_⟩; gi_at_call 47; refine (CallsIn.inRound l (callsIn_wide.2 (HJN.out))).mono ?_; rintro e w4 ⟨v4, rfl, hr4, hb4⟩)
          exact toG hG (S012345689 v4 w4 hb4 hr4) (by kernel_rfl)
        exact AllReadyIn.nil
      have S12345689 : ∀ (v4 : Value) (w4 : World) (hb4 : Below V.heap.size V w4) (hr4 : Rest w4.heap.size w4 jx v4), G 4 #[false, true, true, true, true, true, true, false, true, true, false, false] ⟨#[.func (.func 21) #[] #[], .int .i64 (n : Int), .int .i64 (i : Int), .slice ba bl bc, .slice pa pl pc, .pointer (some ⟨w.heap.size, 0, none⟩), undef, undef, undef, .pointer (some ⟨w.heap.size + 1, 0, none⟩), .pointer (some ⟨w.heap.size + 2, 0, none⟩), .int .i64 0, .int .i64 (place : Int), .bool false, .bool false, .int .i64 (n : Int), .int .i64 (i : Int), .bool true, .bool false, undef, .bool false, .slice pa pl pc, .int .i64 (pl : Int), .int .i64 (n : Int), .int .i64 (i : Int), .int .i64 (pl : Int), .bool false, undef, .func (.func 21) #[] #[], .slice ba bl bc, u30, u31, u32, .int .i64 (n : Int), .int .i64 (i : Int), .func (.func 42) #[] #[.pointer (some ⟨w8.heap.size, 0, none⟩), .pointer (some ⟨w8.heap.size + 1, 0, none⟩)], .int .i64 (place : Int), .bool false, .bool false, undef, .int .i64 (place : Int), dg dc, .slice (some ⟨pb, po, none⟩) rl cap, .pointer (some ⟨pb, po, none⟩), dg x0, v4, undef, .slice (some ⟨pb, po, none⟩) rl cap, .slice na rm nc, undef], []⟩ w4 := by
        intro v4 w4 hb4 hr4
        have cpp := (HCP.out.keep hb4).cell (i := 0) rfl; have chh := (HCH.out.keep hb4).cell (i := 0) rfl; unfold fH at chh
        rw [hG]
        refine wpAnyIn_ready (rs := [0]) (by kernel_rfl) (by simp) ?_
        refine AllReadyIn.cons rfl (fun K hK => ?_) ?_
        · go_simp
          refine hK _ _ ?_
          exact toG hG (S012345689 v4 w4 hb4 hr4) (by kernel_rfl)
        exact AllReadyIn.nil
      have S0123456 : ∀ (v4 : Value) (w4 : World) (hb4 : Below V.heap.size V w4) (hr4 : Rest w4.heap.size w4 jx v4), G 5 #[true, true, true, true, true, true, true, false, false, false, false, false] ⟨#[.func (.func 21) #[] #[], .int .i64 (n : Int), .int .i64 (i : Int), .slice ba bl bc, .slice pa pl pc, .pointer (some ⟨w.heap.size, 0, none⟩), undef, undef, undef, .pointer (some ⟨w.heap.size + 1, 0, none⟩), .pointer (some ⟨w.heap.size + 2, 0, none⟩), .int .i64 0, .int .i64 (place : Int), .bool false, .bool false, .int .i64 (n : Int), .int .i64 (i : Int), .bool true, .bool false, undef, .bool false, .slice pa pl pc, .int .i64 (pl : Int), .int .i64 (n : Int), .int .i64 (i : Int), .int .i64 (pl : Int), .bool false, undef, .func (.func 21) #[] #[], .slice ba bl bc, u30, u31, u32, .int .i64 (n : Int), .int .i64 (i : Int), .func (.func 42) #[] #[.pointer (some ⟨w8.heap.size, 0, none⟩), .pointer (some ⟨w8.heap.size + 1, 0, none⟩)], .int .i64 (place : Int), .bool false, .bool false, .func (.func 21) #[] #[], .int .i64 (place : Int), dg dc, .slice (some ⟨pb, po, none⟩) rl cap, .pointer (some ⟨pb, po, none⟩), dg x0, v4, undef, undef, undef, undef], []⟩ w4 := by
        intro v4 w4 hb4 hr4
        have cpp := (HCP.out.keep hb4).cell (i := 0) rfl; have chh := (HCH.out.keep hb4).cell (i := 0) rfl; unfold fH at chh
        rw [hG]
        refine wpAnyIn_ready (rs := [7, 8]) (by kernel_rfl) (by simp) ?_
        refine AllReadyIn.cons rfl (fun K hK => ?_) ?_
        · go_simp
          gi_wp2_with (refine ⟨trivial, ?_⟩; gi_at_call 21; refine (CallsIn.inRound l (callsIn_wide.2 (sum_call jx v4 w4 hr4 (HTV.out.keep hb4) HJL.out))).mono ?_; rintro e w5 ⟨rfl, hb5⟩)
          exact toG hG (S01234567 v4 w5 (below_next hb4 hb5)) (by kernel_rfl)
        refine AllReadyIn.cons rfl (fun K hK => ?_) ?_
        · go_simp
          refine hK _ _ ?_
          exact toG hG (S01234568 v4 w4 hb4 hr4) (by kernel_rfl)
        exact AllReadyIn.nil
      have S0123458 : G 5 #[true, true, true, true, true, true, false, false, true, false, false, false] ⟨#[.func (.func 21) #[] #[], .int .i64 (n : Int), .int .i64 (i : Int), .slice ba bl bc, .slice pa pl pc, .pointer (some ⟨w.heap.size, 0, none⟩), undef, undef, undef, .pointer (some ⟨w.heap.size + 1, 0, none⟩), .pointer (some ⟨w.heap.size + 2, 0, none⟩), .int .i64 0, .int .i64 (place : Int), .bool false, .bool false, .int .i64 (n : Int), .int .i64 (i : Int), .bool true, .bool false, undef, .bool false, .slice pa pl pc, .int .i64 (pl : Int), .int .i64 (n : Int), .int .i64 (i : Int), .int .i64 (pl : Int), .bool false, undef, .func (.func 21) #[] #[], .slice ba bl bc, u30, u31, u32, .int .i64 (n : Int), .int .i64 (i : Int), .func (.func 42) #[] #[.pointer (some ⟨w8.heap.size, 0, none⟩), .pointer (some ⟨w8.heap.size + 1, 0, none⟩)], .int .i64 (place : Int), .bool false, .bool false, .func (.func 21) #[] #[], .int .i64 (place : Int), dg dc, .slice (some ⟨pb, po, none⟩) rl cap, .pointer (some ⟨pb, po, none⟩), dg x0, undef, undef, .slice (some ⟨pb, po, none⟩) rl cap, undef, undef], []⟩ V := by
        rw [hG]
        refine wpAnyIn_ready (rs := [6, 9]) (by kernel_rfl) (by simp) ?_
        refine AllReadyIn.cons rfl (fun K hK => ?_) ?_
        · go_simp
          gi_wp2_with (refine ⟨trivial, ?_⟩; gi_at_call 47; refine (CallsIn.inRound l (callsIn_wide.2 (HJN.out))).mono ?_; rintro e w4 ⟨v4, rfl, hr4, hb4⟩)
          exact toG hG (S01234568 v4 w4 hb4 hr4) (by kernel_rfl)
        refine AllReadyIn.cons rfl (fun K hK => ?_) ?_
        · rw [if_pos (by rfl)]
          refine HSL.out _ _ _ _ _ _ _ _ _ rfl rfl ?_
          refine hK _ _ ?_
          exact toG hG (S01234589) (by kernel_rfl)
        exact AllReadyIn.nil
      have S0123489 : G 5 #[true, true, true, true, true, false, false, false, true, true, false, false] ⟨#[.func (.func 21) #[] #[], .int .i64 (n : Int), .int .i64 (i : Int), .slice ba bl bc, .slice pa pl pc, .pointer (some ⟨w.heap.size, 0, none⟩), undef, undef, undef, .pointer (some ⟨w.heap.size + 1, 0, none⟩), .pointer (some ⟨w.heap.size + 2, 0, none⟩), .int .i64 0, .int .i64 (place : Int), .bool false, .bool false, .int .i64 (n : Int), .int .i64 (i : Int), .bool true, .bool false, undef, .bool false, .slice pa pl pc, .int .i64 (pl : Int), .int .i64 (n : Int), .int .i64 (i : Int), .int .i64 (pl : Int), .bool false, undef, .func (.func 21) #[] #[], .slice ba bl bc, u30, u31, u32, .int .i64 (n : Int), .int .i64 (i : Int), .func (.func 42) #[] #[.pointer (some ⟨w8.heap.size, 0, none⟩), .pointer (some ⟨w8.heap.size + 1, 0, none⟩)], .int .i64 (place : Int), .bool false, .bool false, .func (.func 21) #[] #[], .int .i64 (place : Int), dg dc, .slice (some ⟨pb, po, none⟩) rl cap, .pointer (some ⟨pb, po, none⟩), undef, undef, undef, .slice (some ⟨pb, po, none⟩) rl cap, .slice na rm nc, undef], []⟩ V := by
        rw [hG]
        refine wpAnyIn_ready (rs := [5]) (by kernel_rfl) (by simp) ?_
        refine AllReadyIn.cons rfl (fun K hK => ?_) ?_
        · rw [if_pos (by rfl)]
          refine wpIn_load_dig _ rfl _ _ rfl x0 HX0.out (rest_cell32 HX0R.out HX0.out) ?_
          refine hK _ _ ?_
          exact toG hG (S01234589) (by kernel_rfl)
        exact AllReadyIn.nil
      have S0134589 : G 5 #[true, true, false, true, true, true, false, false, true, true, false, false] ⟨#[.func (.func 21) #[] #[], .int .i64 (n : Int), .int .i64 (i : Int), .slice ba bl bc, .slice pa pl pc, .pointer (some ⟨w.heap.size, 0, none⟩), undef, undef, undef, .pointer (some ⟨w.heap.size + 1, 0, none⟩), .pointer (some ⟨w.heap.size + 2, 0, none⟩), .int .i64 0, .int .i64 (place : Int), .bool false, .bool false, .int .i64 (n : Int), .int .i64 (i : Int), .bool true, .bool false, undef, .bool false, .slice pa pl pc, .int .i64 (pl : Int), .int .i64 (n : Int), .int .i64 (i : Int), .int .i64 (pl : Int), .bool false, undef, .func (.func 21) #[] #[], .slice ba bl bc, u30, u31, u32, .int .i64 (n : Int), .int .i64 (i : Int), .func (.func 42) #[] #[.pointer (some ⟨w8.heap.size, 0, none⟩), .pointer (some ⟨w8.heap.size + 1, 0, none⟩)], .int .i64 (place : Int), .bool false, .bool false, .func (.func 21) #[] #[], .int .i64 (place : Int), undef, .slice (some ⟨pb, po, none⟩) rl cap, .pointer (some ⟨pb, po, none⟩), dg x0, undef, undef, .slice (some ⟨pb, po, none⟩) rl cap, .slice na rm nc, undef], []⟩ V := by
        rw [hG]
        refine wpAnyIn_ready (rs := [2]) (by kernel_rfl) (by simp) ?_
        refine AllReadyIn.cons rfl (fun K hK => ?_) ?_
        · rw [if_pos (by rfl)]
          refine wpIn_load_dig _ rfl _ _ rfl dc HDC.out (row_cells32 HCD.out HDC.out) ?_
          refine hK _ _ ?_
          exact toG hG (S01234589) (by kernel_rfl)
        exact AllReadyIn.nil
      have S0234589 : G 5 #[true, false, true, true, true, true, false, false, true, true, false, false] ⟨#[.func (.func 21) #[] #[], .int .i64 (n : Int), .int .i64 (i : Int), .slice ba bl bc, .slice pa pl pc, .pointer (some ⟨w.heap.size, 0, none⟩), undef, undef, undef, .pointer (some ⟨w.heap.size + 1, 0, none⟩), .pointer (some ⟨w.heap.size + 2, 0, none⟩), .int .i64 0, .int .i64 (place : Int), .bool false, .bool false, .int .i64 (n : Int), .int .i64 (i : Int), .bool true, .bool false, undef, .bool false, .slice pa pl pc, .int .i64 (pl : Int), .int .i64 (n : Int), .int .i64 (i : Int), .int .i64 (pl : Int), .bool false, undef, .func (.func 21) #[] #[], .slice ba bl bc, u30, u31, u32, .int .i64 (n : Int), .int .i64 (i : Int), .func (.func 42) #[] #[.pointer (some ⟨w8.heap.size, 0, none⟩), .pointer (some ⟨w8.heap.size + 1, 0, none⟩)], .int .i64 (place : Int), .bool false, .bool false, .func (.func 21) #[] #[], undef, dg dc, .slice (some ⟨pb, po, none⟩) rl cap, .pointer (some ⟨pb, po, none⟩), dg x0, undef, undef, .slice (some ⟨pb, po, none⟩) rl cap, .slice na rm nc, undef], []⟩ V := by
        rw [hG]
        refine wpAnyIn_ready (rs := [1]) (by kernel_rfl) (by simp) ?_
        refine AllReadyIn.cons rfl (fun K hK => ?_) ?_
        · go_simp
          refine hK _ _ ?_
          exact toG hG (S01234589) (by kernel_rfl)
        exact AllReadyIn.nil
      have S1234568 : ∀ (v4 : Value) (w4 : World) (hb4 : Below V.heap.size V w4) (hr4 : Rest w4.heap.size w4 jx v4), G 5 #[false, true, true, true, true, true, true, false, true, false, false, false] ⟨#[.func (.func 21) #[] #[], .int .i64 (n : Int), .int .i64 (i : Int), .slice ba bl bc, .slice pa pl pc, .pointer (some ⟨w.heap.size, 0, none⟩), undef, undef, undef, .pointer (some ⟨w.heap.size + 1, 0, none⟩), .pointer (some ⟨w.heap.size + 2, 0, none⟩), .int .i64 0, .int .i64 (place : Int), .bool false, .bool false, .int .i64 (n : Int), .int .i64 (i : Int), .bool true, .bool false, undef, .bool false, .slice pa pl pc, .int .i64 (pl : Int), .int .i64 (n : Int), .int .i64 (i : Int), .int .i64 (pl : Int), .bool false, undef, .func (.func 21) #[] #[], .slice ba bl bc, u30, u31, u32, .int .i64 (n : Int), .int .i64 (i : Int), .func (.func 42) #[] #[.pointer (some ⟨w8.heap.size, 0, none⟩), .pointer (some ⟨w8.heap.size + 1, 0, none⟩)], .int .i64 (place : Int), .bool false, .bool false, undef, .int .i64 (place : Int), dg dc, .slice (some ⟨pb, po, none⟩) rl cap, .pointer (some ⟨pb, po, none⟩), dg x0, v4, undef, .slice (some ⟨pb, po, none⟩) rl cap, undef, undef], []⟩ w4 := by
        intro v4 w4 hb4 hr4
        have cpp := (HCP.out.keep hb4).cell (i := 0) rfl; have chh := (HCH.out.keep hb4).cell (i := 0) rfl; unfold fH at chh
        rw [hG]
        refine wpAnyIn_ready (rs := [0, 9]) (by kernel_rfl) (by simp) ?_
        refine AllReadyIn.cons rfl (fun K hK => ?_) ?_
        · go_simp
          refine hK _ _ ?_
          exact toG hG (S01234568 v4 w4 hb4 hr4) (by kernel_rfl)
        refine AllReadyIn.cons rfl (fun K hK => ?_) ?_
        · rw [if_pos (by rfl)]
          refine HSL.out _ _ _ _ _ _ _ _ _ rfl rfl ?_
          refine hK _ _ ?_
          exact toG hG (S12345689 v4 w4 hb4 hr4) (by kernel_rfl)
        exact AllReadyIn.nil
      have S1234589 : G 5 #[false, true, true, true, true, true, false, false, true, true, false, false] ⟨#[.func (.func 21) #[] #[], .int .i64 (n : Int), .int .i64 (i : Int), .slice ba bl bc, .slice pa pl pc, .pointer (some ⟨w.heap.size, 0, none⟩), undef, undef, undef, .pointer (some ⟨w.heap.size + 1, 0, none⟩), .pointer (some ⟨w.heap.size + 2, 0, none⟩), .int .i64 0, .int .i64 (place : Int), .bool false, .bool false, .int .i64 (n : Int), .int .i64 (i : Int), .bool true, .bool false, undef, .bool false, .slice pa pl pc, .int .i64 (pl : Int), .int .i64 (n : Int), .int .i64 (i : Int), .int .i64 (pl : Int), .bool false, undef, .func (.func 21) #[] #[], .slice ba bl bc, u30, u31, u32, .int .i64 (n : Int), .int .i64 (i : Int), .func (.func 42) #[] #[.pointer (some ⟨w8.heap.size, 0, none⟩), .pointer (some ⟨w8.heap.size + 1, 0, none⟩)], .int .i64 (place : Int), .bool false, .bool false, undef, .int .i64 (place : Int), dg dc, .slice (some ⟨pb, po, none⟩) rl cap, .pointer (some ⟨pb, po, none⟩), dg x0, undef, undef, .slice (some ⟨pb, po, none⟩) rl cap, .slice na rm nc, undef], []⟩ V := by
        rw [hG]
        refine wpAnyIn_ready (rs := [0, 6]) (by kernel_rfl) (by simp) ?_
        refine AllReadyIn.cons rfl (fun K hK => ?_) ?_
        · go_simp
          refine hK _ _ ?_
          exact toG hG (S01234589) (by kernel_rfl)
        refine AllReadyIn.cons rfl (fun K hK => ?_) ?_
        · go_simp
          gi_wp2_with (refine ⟨trivial, ?_⟩; gi_at_call 47; refine (CallsIn.inRound l (callsIn_wide.2 (HJN.out))).mono ?_; rintro e w4 ⟨v4, rfl, hr4, hb4⟩)
          exact toG hG (S12345689 v4 w4 hb4 hr4) (by kernel_rfl)
        exact AllReadyIn.nil
      have S012345 : G 6 #[true, true, true, true, true, true, false, false, false, false, false, false] ⟨#[.func (.func 21) #[] #[], .int .i64 (n : Int), .int .i64 (i : Int), .slice ba bl bc, .slice pa pl pc, .pointer (some ⟨w.heap.size, 0, none⟩), undef, undef, undef, .pointer (some ⟨w.heap.size + 1, 0, none⟩), .pointer (some ⟨w.heap.size + 2, 0, none⟩), .int .i64 0, .int .i64 (place : Int), .bool false, .bool false, .int .i64 (n : Int), .int .i64 (i : Int), .bool true, .bool false, undef, .bool false, .slice pa pl pc, .int .i64 (pl : Int), .int .i64 (n : Int), .int .i64 (i : Int), .int .i64 (pl : Int), .bool false, undef, .func (.func 21) #[] #[], .slice ba bl bc, u30, u31, u32, .int .i64 (n : Int), .int .i64 (i : Int), .func (.func 42) #[] #[.pointer (some ⟨w8.heap.size, 0, none⟩), .pointer (some ⟨w8.heap.size + 1, 0, none⟩)], .int .i64 (place : Int), .bool false, .bool false, .func (.func 21) #[] #[], .int .i64 (place : Int), dg dc, .slice (some ⟨pb, po, none⟩) rl cap, .pointer (some ⟨pb, po, none⟩), dg x0, undef, undef, undef, undef, undef], []⟩ V := by
        rw [hG]
        refine wpAnyIn_ready (rs := [6, 8]) (by kernel_rfl) (by simp) ?_
        refine AllReadyIn.cons rfl (fun K hK => ?_) ?_
        · go_simp
          gi_wp2_with (refine ⟨trivial, ?_⟩; gi_at_call 47; refine (CallsIn.inRound l (callsIn_wide.2 (HJN.out))).mono ?_; rintro e w4 ⟨v4, rfl, hr4, hb4⟩)
          exact toG hG (S0123456 v4 w4 hb4 hr4) (by kernel_rfl)
        refine AllReadyIn.cons rfl (fun K hK => ?_) ?_
        · go_simp
          refine hK _ _ ?_
          exact toG hG (S0123458) (by kernel_rfl)
        exact AllReadyIn.nil
      have S012348 : G 6 #[true, true, true, true, true, false, false, false, true, false, false, false] ⟨#[.func (.func 21) #[] #[], .int .i64 (n : Int), .int .i64 (i : Int), .slice ba bl bc, .slice pa pl pc, .pointer (some ⟨w.heap.size, 0, none⟩), undef, undef, undef, .pointer (some ⟨w.heap.size + 1, 0, none⟩), .pointer (some ⟨w.heap.size + 2, 0, none⟩), .int .i64 0, .int .i64 (place : Int), .bool false, .bool false, .int .i64 (n : Int), .int .i64 (i : Int), .bool true, .bool false, undef, .bool false, .slice pa pl pc, .int .i64 (pl : Int), .int .i64 (n : Int), .int .i64 (i : Int), .int .i64 (pl : Int), .bool false, undef, .func (.func 21) #[] #[], .slice ba bl bc, u30, u31, u32, .int .i64 (n : Int), .int .i64 (i : Int), .func (.func 42) #[] #[.pointer (some ⟨w8.heap.size, 0, none⟩), .pointer (some ⟨w8.heap.size + 1, 0, none⟩)], .int .i64 (place : Int), .bool false, .bool false, .func (.func 21) #[] #[], .int .i64 (place : Int), dg dc, .slice (some ⟨pb, po, none⟩) rl cap, .pointer (some ⟨pb, po, none⟩), undef, undef, undef, .slice (some ⟨pb, po, none⟩) rl cap, undef, undef], []⟩ V := by
        rw [hG]
        refine wpAnyIn_ready (rs := [5, 9]) (by kernel_rfl) (by simp) ?_
        refine AllReadyIn.cons rfl (fun K hK => ?_) ?_
        · rw [if_pos (by rfl)]
          refine wpIn_load_dig _ rfl _ _ rfl x0 HX0.out (rest_cell32 HX0R.out HX0.out) ?_
          refine hK _ _ ?_
          exact toG hG (S0123458) (by kernel_rfl)
        refine AllReadyIn.cons rfl (fun K hK => ?_) ?_
        · rw [if_pos (by rfl)]
          refine HSL.out _ _ _ _ _ _ _ _ _ rfl rfl ?_
          refine hK _ _ ?_
          exact toG hG (S0123489) (by kernel_rfl)
        exact AllReadyIn.nil
      have S012389 : G 6 #[true, true, true, true, false, false, false, false, true, true, false, false] ⟨#[.func (.func 21) #[] #[], .int .i64 (n : Int), .int .i64 (i : Int), .slice ba bl bc, .slice pa pl pc, .pointer (some ⟨w.heap.size, 0, none⟩), undef, undef, undef, .pointer (some ⟨w.heap.size + 1, 0, none⟩), .pointer (some ⟨w.heap.size + 2, 0, none⟩), .int .i64 0, .int .i64 (place : Int), .bool false, .bool false, .int .i64 (n : Int), .int .i64 (i : Int), .bool true, .bool false, undef, .bool false, .slice pa pl pc, .int .i64 (pl : Int), .int .i64 (n : Int), .int .i64 (i : Int), .int .i64 (pl : Int), .bool false, undef, .func (.func 21) #[] #[], .slice ba bl bc, u30, u31, u32, .int .i64 (n : Int), .int .i64 (i : Int), .func (.func 42) #[] #[.pointer (some ⟨w8.heap.size, 0, none⟩), .pointer (some ⟨w8.heap.size + 1, 0, none⟩)], .int .i64 (place : Int), .bool false, .bool false, .func (.func 21) #[] #[], .int .i64 (place : Int), dg dc, .slice (some ⟨pb, po, none⟩) rl cap, undef, undef, undef, undef, .slice (some ⟨pb, po, none⟩) rl cap, .slice na rm nc, undef], []⟩ V := by
        rw [hG]
        refine wpAnyIn_ready (rs := [4]) (by kernel_rfl) (by simp) ?_
        refine AllReadyIn.cons rfl (fun K hK => ?_) ?_
        · go_simp
          refine hK _ _ ?_
          exact toG hG (S0123489) (by kernel_rfl)
        exact AllReadyIn.nil
      have S013458 : G 6 #[true, true, false, true, true, true, false, false, true, false, false, false] ⟨#[.func (.func 21) #[] #[], .int .i64 (n : Int), .int .i64 (i : Int), .slice ba bl bc, .slice pa pl pc, .pointer (some ⟨w.heap.size, 0, none⟩), undef, undef, undef, .pointer (some ⟨w.heap.size + 1, 0, none⟩), .pointer (some ⟨w.heap.size + 2, 0, none⟩), .int .i64 0, .int .i64 (place : Int), .bool false, .bool false, .int .i64 (n : Int), .int .i64 (i : Int), .bool true, .bool false, undef, .bool false, .slice pa pl pc, .int .i64 (pl : Int), .int .i64 (n : Int), .int .i64 (i : Int), .int .i64 (pl : Int), .bool false, undef, .func (.func 21) #[] #[], .slice ba bl bc, u30, u31, u32, .int .i64 (n : Int), .int .i64 (i : Int), .func (.func 42) #[] #[.pointer (some ⟨w8.heap.size, 0, none⟩), .pointer (some ⟨w8.heap.size + 1, 0, none⟩)], .int .i64 (place : Int), .bool false, .bool false, .func (.func 21) #[] #[], .int .i64 (place : Int), undef, .slice (some ⟨pb, po, none⟩) rl cap, .pointer (some ⟨pb, po, none⟩), dg x0, undef, undef, .slice (some ⟨pb, po, none⟩) rl cap, undef, undef], []⟩ V := by
        rw [hG]
        refine wpAnyIn_ready (rs := [2, 9]) (by kernel_rfl) (by simp) ?_
        refine AllReadyIn.cons rfl (fun K hK => ?_) ?_
        · rw [if_pos (by rfl)]
          refine wpIn_load_dig _ rfl _ _ rfl dc HDC.out (row_cells32 HCD.out HDC.out) ?_
          refine hK _ _ ?_
          exact toG hG (S0123458) (by kernel_rfl)
        refine AllReadyIn.cons rfl (fun K hK => ?_) ?_
        · rw [if_pos (by rfl)]
          refine HSL.out _ _ _ _ _ _ _ _ _ rfl rfl ?_
          refine hK _ _ ?_
          exact toG hG (S0134589) (by kernel_rfl)
        exact AllReadyIn.nil
      have S013489 : G 6 #[true, true, false, true, true, false, false, false, true, true, false, false] ⟨#[.func (.func 21) #[] #[], .int .i64 (n : Int), .int .i64 (i : Int), .slice ba bl bc, .slice pa pl pc, .pointer (some ⟨w.heap.size, 0, none⟩), undef, undef, undef, .pointer (some ⟨w.heap.size + 1, 0, none⟩), .pointer (some ⟨w.heap.size + 2, 0, none⟩), .int .i64 0, .int .i64 (place : Int), .bool false, .bool false, .int .i64 (n : Int), .int .i64 (i : Int), .bool true, .bool false, undef, .bool false, .slice pa pl pc, .int .i64 (pl : Int), .int .i64 (n : Int), .int .i64 (i : Int), .int .i64 (pl : Int), .bool false, undef, .func (.func 21) #[] #[], .slice ba bl bc, u30, u31, u32, .int .i64 (n : Int), .int .i64 (i : Int), .func (.func 42) #[] #[.pointer (some ⟨w8.heap.size, 0, none⟩), .pointer (some ⟨w8.heap.size + 1, 0, none⟩)], .int .i64 (place : Int), .bool false, .bool false, .func (.func 21) #[] #[], .int .i64 (place : Int), undef, .slice (some ⟨pb, po, none⟩) rl cap, .pointer (some ⟨pb, po, none⟩), undef, undef, undef, .slice (some ⟨pb, po, none⟩) rl cap, .slice na rm nc, undef], []⟩ V := by
        rw [hG]
        refine wpAnyIn_ready (rs := [2, 5]) (by kernel_rfl) (by simp) ?_
        refine AllReadyIn.cons rfl (fun K hK => ?_) ?_
        · rw [if_pos (by rfl)]
          refine wpIn_load_dig _ rfl _ _ rfl dc HDC.out (row_cells32 HCD.out HDC.out) ?_
          refine hK _ _ ?_
          exact toG hG (S0123489) (by kernel_rfl)
        refine AllReadyIn.cons rfl (fun K hK => ?_) ?_
        · rw [if_pos (by rfl)]
          refine wpIn_load_dig _ rfl _ _ rfl x0 HX0.out (rest_cell32 HX0R.out HX0.out) ?_
          refine hK _ _ ?_
          exact toG hG (S0134589) (by kernel_rfl)
        exact AllReadyIn.nil
      have S023458 : G 6 #[true, false, true, true, true, true, false, false, true, false, false, false] ⟨#[.func (.func 21) #[] #[], .int .i64 (n : Int), .int .i64 (i : Int), .slice ba bl bc, .slice pa pl pc, .pointer (some ⟨w.heap.size, 0, none⟩), undef, undef, undef, .pointer (some ⟨w.heap.size + 1, 0, none⟩), .pointer (some ⟨w.heap.size + 2, 0, none⟩), .int .i64 0, .int .i64 (place : Int), .bool false, .bool false, .int .i64 (n : Int), .int .i64 (i : Int), .bool true, .bool false, undef, .bool false, .slice pa pl pc, .int .i64 (pl : Int), .int .i64 (n : Int), .int .i64 (i : Int), .int .i64 (pl : Int), .bool false, undef, .func (.func 21) #[] #[], .slice ba bl bc, u30, u31, u32, .int .i64 (n : Int), .int .i64 (i : Int), .func (.func 42) #[] #[.pointer (some ⟨w8.heap.size, 0, none⟩), .pointer (some ⟨w8.heap.size + 1, 0, none⟩)], .int .i64 (place : Int), .bool false, .bool false, .func (.func 21) #[] #[], undef, dg dc, .slice (some ⟨pb, po, none⟩) rl cap, .pointer (some ⟨pb, po, none⟩), dg x0, undef, undef, .slice (some ⟨pb, po, none⟩) rl cap, undef, undef], []⟩ V := by
        rw [hG]
        refine wpAnyIn_ready (rs := [1, 9]) (by kernel_rfl) (by simp) ?_
        refine AllReadyIn.cons rfl (fun K hK => ?_) ?_
        · go_simp
          refine hK _ _ ?_
          exact toG hG (S0123458) (by kernel_rfl)
        refine AllReadyIn.cons rfl (fun K hK => ?_) ?_
        · rw [if_pos (by rfl)]
          refine HSL.out _ _ _ _ _ _ _ _ _ rfl rfl ?_
          refine hK _ _ ?_
          exact toG hG (S0234589) (by kernel_rfl)
        exact AllReadyIn.nil
      have S023489 : G 6 #[true, false, true, true, true, false, false, false, true, true, false, false] ⟨#[.func (.func 21) #[] #[], .int .i64 (n : Int), .int .i64 (i : Int), .slice ba bl bc, .slice pa pl pc, .pointer (some ⟨w.heap.size, 0, none⟩), undef, undef, undef, .pointer (some ⟨w.heap.size + 1, 0, none⟩), .pointer (some ⟨w.heap.size + 2, 0, none⟩), .int .i64 0, .int .i64 (place : Int), .bool false, .bool false, .int .i64 (n : Int), .int .i64 (i : Int), .bool true, .bool false, undef, .bool false, .slice pa pl pc, .int .i64 (pl : Int), .int .i64 (n : Int), .int .i64 (i : Int), .int .i64 (pl : Int), .bool false, undef, .func (.func 21) #[] #[], .slice ba bl bc, u30, u31, u32, .int .i64 (n : Int), .int .i64 (i : Int), .func (.func 42) #[] #[.pointer (some ⟨w8.heap.size, 0, none⟩), .pointer (some ⟨w8.heap.size + 1, 0, none⟩)], .int .i64 (place : Int), .bool false, .bool false, .func (.func 21) #[] #[], undef, dg dc, .slice (some ⟨pb, po, none⟩) rl cap, .pointer (some ⟨pb, po, none⟩), undef, undef, undef, .slice (some ⟨pb, po, none⟩) rl cap, .slice na rm nc, undef], []⟩ V := by
        rw [hG]
        refine wpAnyIn_ready (rs := [1, 5]) (by kernel_rfl) (by simp) ?_
        refine AllReadyIn.cons rfl (fun K hK => ?_) ?_
        · go_simp
          refine hK _ _ ?_
          exact toG hG (S0123489) (by kernel_rfl)
        refine AllReadyIn.cons rfl (fun K hK => ?_) ?_
        · rw [if_pos (by rfl)]
          refine wpIn_load_dig _ rfl _ _ rfl x0 HX0.out (rest_cell32 HX0R.out HX0.out) ?_
          refine hK _ _ ?_
          exact toG hG (S0234589) (by kernel_rfl)
        exact AllReadyIn.nil
      have S034589 : G 6 #[true, false, false, true, true, true, false, false, true, true, false, false] ⟨#[.func (.func 21) #[] #[], .int .i64 (n : Int), .int .i64 (i : Int), .slice ba bl bc, .slice pa pl pc, .pointer (some ⟨w.heap.size, 0, none⟩), undef, undef, undef, .pointer (some ⟨w.heap.size + 1, 0, none⟩), .pointer (some ⟨w.heap.size + 2, 0, none⟩), .int .i64 0, .int .i64 (place : Int), .bool false, .bool false, .int .i64 (n : Int), .int .i64 (i : Int), .bool true, .bool false, undef, .bool false, .slice pa pl pc, .int .i64 (pl : Int), .int .i64 (n : Int), .int .i64 (i : Int), .int .i64 (pl : Int), .bool false, undef, .func (.func 21) #[] #[], .slice ba bl bc, u30, u31, u32, .int .i64 (n : Int), .int .i64 (i : Int), .func (.func 42) #[] #[.pointer (some ⟨w8.heap.size, 0, none⟩), .pointer (some ⟨w8.heap.size + 1, 0, none⟩)], .int .i64 (place : Int), .bool false, .bool false, .func (.func 21) #[] #[], undef, undef, .slice (some ⟨pb, po, none⟩) rl cap, .pointer (some ⟨pb, po, none⟩), dg x0, undef, undef, .slice (some ⟨pb, po, none⟩) rl cap, .slice na rm nc, undef], []⟩ V := by
        rw [hG]
        refine wpAnyIn_ready (rs := [1, 2]) (by kernel_rfl) (by simp) ?_
        refine AllReadyIn.cons rfl (fun K hK => ?_) ?_
        · go_simp
          refine hK _ _ ?_
          exact toG hG (S0134589) (by kernel_rfl)
        refine AllReadyIn.cons rfl (fun K hK => ?_) ?_
        · rw [if_pos (by rfl)]
          refine wpIn_load_dig _ rfl _ _ rfl dc HDC.out (row_cells32 HCD.out HDC.out) ?_
          refine hK _ _ ?_
          exact toG hG (S0234589) (by kernel_rfl)
        exact AllReadyIn.nil
      have S123456 : ∀ (v4 : Value) (w4 : World) (hb4 : Below V.heap.size V w4) (hr4 : Rest w4.heap.size w4 jx v4), G 6 #[false, true, true, true, true, true, true, false, false, false, false, false] ⟨#[.func (.func 21) #[] #[], .int .i64 (n : Int), .int .i64 (i : Int), .slice ba bl bc, .slice pa pl pc, .pointer (some ⟨w.heap.size, 0, none⟩), undef, undef, undef, .pointer (some ⟨w.heap.size + 1, 0, none⟩), .pointer (some ⟨w.heap.size + 2, 0, none⟩), .int .i64 0, .int .i64 (place : Int), .bool false, .bool false, .int .i64 (n : Int), .int .i64 (i : Int), .bool true, .bool false, undef, .bool false, .slice pa pl pc, .int .i64 (pl : Int), .int .i64 (n : Int), .int .i64 (i : Int), .int .i64 (pl : Int), .bool false, undef, .func (.func 21) #[] #[], .slice ba bl bc, u30, u31, u32, .int .i64 (n : Int), .int .i64 (i : Int), .func (.func 42) #[] #[.pointer (some ⟨w8.heap.size, 0, none⟩), .pointer (some ⟨w8.heap.size + 1, 0, none⟩)], .int .i64 (place : Int), .bool false, .bool false, undef, .int .i64 (place : Int), dg dc, .slice (some ⟨pb, po, none⟩) rl cap, .pointer (some ⟨pb, po, none⟩), dg x0, v4, undef, undef, undef, undef], []⟩ w4 := by
        intro v4 w4 hb4 hr4
        have cpp := (HCP.out.keep hb4).cell (i := 0) rfl; have chh := (HCH.out.keep hb4).cell (i := 0) rfl; unfold fH at chh
        rw [hG]
        refine wpAnyIn_ready (rs := [0, 8]) (by kernel_rfl) (by simp) ?_
        refine AllReadyIn.cons rfl (fun K hK => ?_) ?_
        · go_simp
          refine hK _ _ ?_
          exact toG hG (S0123456 v4 w4 hb4 hr4) (by kernel_rfl)
        refine AllReadyIn.cons rfl (fun K hK => ?_) ?_
        · go_simp
          refine hK _ _ ?_
          exact toG hG (S1234568 v4 w4 hb4 hr4) (by kernel_rfl)
        exact AllReadyIn.nil
      have S123458 : G 6 #[false, true, true, true, true, true, false, false, true, false, false, false] ⟨#[.func (.func 21) #[] #[], .int .i64 (n : Int), .int .i64 (i : Int), .slice ba bl bc, .slice pa pl pc, .pointer (some ⟨w.heap.size, 0, none⟩), undef, undef, undef, .pointer (some ⟨w.heap.size + 1, 0, none⟩), .pointer (some ⟨w.heap.size + 2, 0, none⟩), .int .i64 0, .int .i64 (place : Int), .bool false, .bool false, .int .i64 (n : Int), .int .i64 (i : Int), .bool true, .bool false, undef, .bool false, .slice pa pl pc, .int .i64 (pl : Int), .int .i64 (n : Int), .int .i64 (i : Int), .int .i64 (pl : Int), .bool false, undef, .func (.func 21) #[] #[], .slice ba bl bc, u30, u31, u32, .int .i64 (n : Int), .int .i64 (i : Int), .func (.func 42) #[] #[.pointer (some ⟨w8.heap.size, 0, none⟩), .pointer (some ⟨w8.heap.size + 1, 0, none⟩)], .int .i64 (place : Int), .bool false, .bool false, undef, .int .i64 (place : Int), dg dc, .slice (some ⟨pb, po, none⟩) rl cap, .pointer (some ⟨pb, po, none⟩), dg x0, undef, undef, .slice (some ⟨pb, po, none⟩) rl cap, undef, undef], []⟩ V := by
        rw [hG]
        refine wpAnyIn_ready (rs := [0, 6, 9]) (by kernel_rfl) (by simp) ?_
        refine AllReadyIn.cons rfl (fun K hK => ?_) ?_
        · go_simp
          refine hK _ _ ?_
          exact toG hG (S0123458) (by kernel_rfl)
        refine AllReadyIn.cons rfl (fun K hK => ?_) ?_
        · go_simp
          gi_wp2_with (refine ⟨trivial, ?_⟩; gi_at_call 47; refine (CallsIn.inRound l (callsIn_wide.2 (HJN.out))).mono ?_; rintro e w4 ⟨v4, rfl, hr4, hb4⟩)
          exact toG hG (S1234568 v4 w4 hb4 hr4) (by kernel_rfl)
        refine AllReadyIn.cons rfl (fun K hK => ?_) ?_
        · rw [if_pos (by rfl)]
          refine HSL.out _ _ _ _ _ _ _ _ _ rfl rfl ?_
          refine hK _ _ ?_
          exact toG hG (S1234589) (by kernel_rfl)
        exact AllReadyIn.nil
      have S123489 : G 6 #[false, true, true, true, true, false, false, false, true, true, false, false] ⟨#[.func (.func 21) #[] #[], .int .i64 (n : Int), .int .i64 (i : Int), .slice ba bl bc, .slice pa pl pc, .pointer (some ⟨w.heap.size, 0, none⟩), undef, undef, undef, .pointer (some ⟨w.heap.size + 1, 0, none⟩), .pointer (some ⟨w.heap.size + 2, 0, none⟩), .int .i64 0, .int .i64 (place : Int), .bool false, .bool false, .int .i64 (n : Int), .int .i64 (i : Int), .bool true, .bool false, undef, .bool false, .slice pa pl pc, .int .i64 (pl : Int), .int .i64 (n : Int), .int .i64 (i : Int), .int .i64 (pl : Int), .bool false, undef, .func (.func 21) #[] #[], .slice ba bl bc, u30, u31, u32, .int .i64 (n : Int), .int .i64 (i : Int), .func (.func 42) #[] #[.pointer (some ⟨w8.heap.size, 0, none⟩), .pointer (some ⟨w8.heap.size + 1, 0, none⟩)], .int .i64 (place : Int), .bool false, .bool false, undef, .int .i64 (place : Int), dg dc, .slice (some ⟨pb, po, none⟩) rl cap, .pointer (some ⟨pb, po, none⟩), undef, undef, undef, .slice (some ⟨pb, po, none⟩) rl cap, .slice na rm nc, undef], []⟩ V := by
        rw [hG]
        refine wpAnyIn_ready (rs := [0, 5]) (by kernel_rfl) (by simp) ?_
        refine AllReadyIn.cons rfl (fun K hK => ?_) ?_
        · go_simp
          refine hK _ _ ?_
          exact toG hG (S0123489) (by kernel_rfl)
        refine AllReadyIn.cons rfl (fun K hK => ?_) ?_
        · rw [if_pos (by rfl)]
          refine wpIn_load_dig _ rfl _ _ rfl x0 HX0.out (rest_cell32 HX0R.out HX0.out) ?_
          refine hK _ _ ?_
          exact toG hG (S1234589) (by kernel_rfl)
        exact AllReadyIn.nil
      have S134589 : G 6 #[false, true, false, true, true, true, false, false, true, true, false, false] ⟨#[.func (.func 21) #[] #[], .int .i64 (n : Int), .int .i64 (i : Int), .slice ba bl bc, .slice pa pl pc, .pointer (some ⟨w.heap.size, 0, none⟩), undef, undef, undef, .pointer (some ⟨w.heap.size + 1, 0, none⟩), .pointer (some ⟨w.heap.size + 2, 0, none⟩), .int .i64 0, .int .i64 (place : Int), .bool false, .bool false, .int .i64 (n : Int), .int .i64 (i : Int), .bool true, .bool false, undef, .bool false, .slice pa pl pc, .int .i64 (pl : Int), .int .i64 (n : Int), .int .i64 (i : Int), .int .i64 (pl : Int), .bool false, undef, .func (.func 21) #[] #[], .slice ba bl bc, u30, u31, u32, .int .i64 (n : Int), .int .i64 (i : Int), .func (.func 42) #[] #[.pointer (some ⟨w8.heap.size, 0, none⟩), .pointer (some ⟨w8.heap.size + 1, 0, none⟩)], .int .i64 (place : Int), .bool false, .bool false, undef, .int .i64 (place : Int), undef, .slice (some ⟨pb, po, none⟩) rl cap, .pointer (some ⟨pb, po, none⟩), dg x0, undef, undef, .slice (some ⟨pb, po, none⟩) rl cap, .slice na rm nc, undef], []⟩ V := by
        rw [hG]
        refine wpAnyIn_ready (rs := [0, 2]) (by kernel_rfl) (by simp) ?_
        refine AllReadyIn.cons rfl (fun K hK => ?_) ?_
        · go_simp
          refine hK _ _ ?_
          exact toG hG (S0134589) (by kernel_rfl)
        refine AllReadyIn.cons rfl (fun K hK => ?_) ?_
        · rw [if_pos (by rfl)]
          refine wpIn_load_dig _ rfl _ _ rfl dc HDC.out (row_cells32 HCD.out HDC.out) ?_
          refine hK _ _ ?_
          exact toG hG (S1234589) (by kernel_rfl)
        exact AllReadyIn.nil
      have S234589 : G 6 #[false, false, true, true, true, true, false, false, true, true, false, false] ⟨#[.func (.func 21) #[] #[], .int .i64 (n : Int), .int .i64 (i : Int), .slice ba bl bc, .slice pa pl pc, .pointer (some ⟨w.heap.size, 0, none⟩), undef, undef, undef, .pointer (some ⟨w.heap.size + 1, 0, none⟩), .pointer (some ⟨w.heap.size + 2, 0, none⟩), .int .i64 0, .int .i64 (place : Int), .bool false, .bool false, .int .i64 (n : Int), .int .i64 (i : Int), .bool true, .bool false, undef, .bool false, .slice pa pl pc, .int .i64 (pl : Int), .int .i64 (n : Int), .int .i64 (i : Int), .int .i64 (pl : Int), .bool false, undef, .func (.func 21) #[] #[], .slice ba bl bc, u30, u31, u32, .int .i64 (n : Int), .int .i64 (i : Int), .func (.func 42) #[] #[.pointer (some ⟨w8.heap.size, 0, none⟩), .pointer (some ⟨w8.heap.size + 1, 0, none⟩)], .int .i64 (place : Int), .bool false, .bool false, undef, undef, dg dc, .slice (some ⟨pb, po, none⟩) rl cap, .pointer (some ⟨pb, po, none⟩), dg x0, undef, undef, .slice (some ⟨pb, po, none⟩) rl cap, .slice na rm nc, undef], []⟩ V := by
        rw [hG]
        refine wpAnyIn_ready (rs := [0, 1]) (by kernel_rfl) (by simp) ?_
        refine AllReadyIn.cons rfl (fun K hK => ?_) ?_
        · go_simp
          refine hK _ _ ?_
          exact toG hG (S0234589) (by kernel_rfl)
        refine AllReadyIn.cons rfl (fun K hK => ?_) ?_
        · go_simp
          refine hK _ _ ?_
          exact toG hG (S1234589) (by kernel_rfl)
        exact AllReadyIn.nil
      have S01234 : G 7 #[true, true, true, true, true, false, false, false, false, false, false, false] ⟨#[.func (.func 21) #[] #[], .int .i64 (n : Int), .int .i64 (i : Int), .slice ba bl bc, .slice pa pl pc, .pointer (some ⟨w.heap.size, 0, none⟩), undef, undef, undef, .pointer (some ⟨w.heap.size + 1, 0, none⟩), .pointer (some ⟨w.heap.size + 2, 0, none⟩), .int .i64 0, .int .i64 (place : Int), .bool false, .bool false, .int .i64 (n : Int), .int .i64 (i : Int), .bool true, .bool false, undef, .bool false, .slice pa pl pc, .int .i64 (pl : Int), .int .i64 (n : Int), .int .i64 (i : Int), .int .i64 (pl : Int), .bool false, undef, .func (.func 21) #[] #[], .slice ba bl bc, u30, u31, u32, .int .i64 (n : Int), .int .i64 (i : Int), .func (.func 42) #[] #[.pointer (some ⟨w8.heap.size, 0, none⟩), .pointer (some ⟨w8.heap.size + 1, 0, none⟩)], .int .i64 (place : Int), .bool false, .bool false, .func (.func 21) #[] #[], .int .i64 (place : Int), dg dc, .slice (some ⟨pb, po, none⟩) rl cap, .pointer (some ⟨pb, po, none⟩), undef, undef, undef, undef, undef, undef], []⟩ V := by
        rw [hG]
        refine wpAnyIn_ready (rs := [5, 8]) (by kernel_rfl) (by simp) ?_
        refine AllReadyIn.cons rfl (fun K hK => ?_) ?_
        · rw [if_pos (by rfl)]
          refine wpIn_load_dig _ rfl _ _ rfl x0 HX0.out (rest_cell32 HX0R.out HX0.out) ?_
          refine hK _ _ ?_
          exact toG hG (S012345) (by kernel_rfl)
        refine AllReadyIn.cons rfl (fun K hK => ?_) ?_
        · go_simp
          refine hK _ _ ?_
          exact toG hG (S012348) (by kernel_rfl)
        exact AllReadyIn.nil
      have S01238 : G 7 #[true, true, true, true, false, false, false, false, true, false, false, false] ⟨#[.func (.func 21) #[] #[], .int .i64 (n : Int), .int .i64 (i : Int), .slice ba bl bc, .slice pa pl pc, .pointer (some ⟨w.heap.size, 0, none⟩), undef, undef, undef, .pointer (some ⟨w.heap.size + 1, 0, none⟩), .pointer (some ⟨w.heap.size + 2, 0, none⟩), .int .i64 0, .int .i64 (place : Int), .bool false, .bool false, .int .i64 (n : Int), .int .i64 (i : Int), .bool true, .bool false, undef, .bool false, .slice pa pl pc, .int .i64 (pl : Int), .int .i64 (n : Int), .int .i64 (i : Int), .int .i64 (pl : Int), .bool false, undef, .func (.func 21) #[] #[], .slice ba bl bc, u30, u31, u32, .int .i64 (n : Int), .int .i64 (i : Int), .func (.func 42) #[] #[.pointer (some ⟨w8.heap.size, 0, none⟩), .pointer (some ⟨w8.heap.size + 1, 0, none⟩)], .int .i64 (place : Int), .bool false, .bool false, .func (.func 21) #[] #[], .int .i64 (place : Int), dg dc, .slice (some ⟨pb, po, none⟩) rl cap, undef, undef, undef, undef, .slice (some ⟨pb, po, none⟩) rl cap, undef, undef], []⟩ V := by
        rw [hG]
        refine wpAnyIn_ready (rs := [4, 9]) (by kernel_rfl) (by simp) ?_
        refine AllReadyIn.cons rfl (fun K hK => ?_) ?_
        · go_simp
          refine hK _ _ ?_
          exact toG hG (S012348) (by kernel_rfl)
        refine AllReadyIn.cons rfl (fun K hK => ?_) ?_
        · rw [if_pos (by rfl)]
          refine HSL.out _ _ _ _ _ _ _ _ _ rfl rfl ?_
          refine hK _ _ ?_
          exact toG hG (S012389) (by kernel_rfl)
        exact AllReadyIn.nil
      have S01289 : G 7 #[true, true, true, false, false, false, false, false, true, true, false, false] ⟨#[.func (.func 21) #[] #[], .int .i64 (n : Int), .int .i64 (i : Int), .slice ba bl bc, .slice pa pl pc, .pointer (some ⟨w.heap.size, 0, none⟩), undef, undef, undef, .pointer (some ⟨w.heap.size + 1, 0, none⟩), .pointer (some ⟨w.heap.size + 2, 0, none⟩), .int .i64 0, .int .i64 (place : Int), .bool false, .bool false, .int .i64 (n : Int), .int .i64 (i : Int), .bool true, .bool false, undef, .bool false, .slice pa pl pc, .int .i64 (pl : Int), .int .i64 (n : Int), .int .i64 (i : Int), .int .i64 (pl : Int), .bool false, undef, .func (.func 21) #[] #[], .slice ba bl bc, u30, u31, u32, .int .i64 (n : Int), .int .i64 (i : Int), .func (.func 42) #[] #[.pointer (some ⟨w8.heap.size, 0, none⟩), .pointer (some ⟨w8.heap.size + 1, 0, none⟩)], .int .i64 (place : Int), .bool false, .bool false, .func (.func 21) #[] #[], .int .i64 (place : Int), dg dc, undef, undef, undef, undef, undef, .slice (some ⟨pb, po, none⟩) rl cap, .slice na rm nc, undef], []⟩ V := by
        rw [hG]
        refine wpAnyIn_ready (rs := [3]) (by kernel_rfl) (by simp) ?_
        refine AllReadyIn.cons rfl (fun K hK => ?_) ?_
        · go_simp
          refine hK _ _ ?_
          exact toG hG (S012389) (by kernel_rfl)
        exact AllReadyIn.nil
      have S01345 : G 7 #[true, true, false, true, true, true, false, false, false, false, false, false] ⟨#[.func (.func 21) #[] #[], .int .i64 (n : Int), .int .i64 (i : Int), .slice ba bl bc, .slice pa pl pc, .pointer (some ⟨w.heap.size, 0, none⟩), undef, undef, undef, .pointer (some ⟨w.heap.size + 1, 0, none⟩), .pointer (some ⟨w.heap.size + 2, 0, none⟩), .int .i64 0, .int .i64 (place : Int), .bool false, .bool false, .int .i64 (n : Int), .int .i64 (i : Int), .bool true, .bool false, undef, .bool false, .slice pa pl pc, .int .i64 (pl : Int), .int .i64 (n : Int), .int .i64 (i : Int), .int .i64 (pl : Int), .bool false, undef, .func (.func 21) #[] #[], .slice ba bl bc, u30, u31, u32, .int .i64 (n : Int), .int .i64 (i : Int), .func (.func 42) #[] #[.pointer (some ⟨w8.heap.size, 0, none⟩), .pointer (some ⟨w8.heap.size + 1, 0, none⟩)], .int .i64 (place : Int), .bool false, .bool false, .func (.func 21) #[] #[], .int .i64 (place : Int), undef, .slice (some ⟨pb, po, none⟩) rl cap, .pointer (some ⟨pb, po, none⟩), dg x0, undef, undef, undef, undef, undef], []⟩ V := by
        rw [hG]
        refine wpAnyIn_ready (rs := [2, 8]) (by kernel_rfl) (by simp) ?_
        refine AllReadyIn.cons rfl (fun K hK => ?_) ?_
        · rw [if_pos (by rfl)]
          refine wpIn_load_dig _ rfl _ _ rfl dc HDC.out (row_cells32 HCD.out HDC.out) ?_
          refine hK _ _ ?_
          exact toG hG (S012345) (by kernel_rfl)
        refine AllReadyIn.cons rfl (fun K hK => ?_) ?_
        · go_simp
          refine hK _ _ ?_
          exact toG hG (S013458) (by kernel_rfl)
        exact AllReadyIn.nil
      have S01348 : G 7 #[true, true, false, true, true, false, false, false, true, false, false, false] ⟨#[.func (.func 21) #[] #[], .int .i64 (n : Int), .int .i64 (i : Int), .slice ba bl bc, .slice pa pl pc, .pointer (some ⟨w.heap.size, 0, none⟩), undef, undef, undef, .pointer (some ⟨w.heap.size + 1, 0, none⟩), .pointer (some ⟨w.heap.size + 2, 0, none⟩), .int .i64 0, .int .i64 (place : Int), .bool false, .bool false, .int .i64 (n : Int), .int .i64 (i : Int), .bool true, .bool false, undef, .bool false, .slice pa pl pc, .int .i64 (pl : Int), .int .i64 (n : Int), .int .i64 (i : Int), .int .i64 (pl : Int), .bool false, undef, .func (.func 21) #[] #[], .slice ba bl bc, u30, u31, u32, .int .i64 (n : Int), .int .i64 (i : Int), .func (.func 42) #[] #[.pointer (some ⟨w8.heap.size, 0, none⟩), .pointer (some ⟨w8.heap.size + 1, 0, none⟩)], .int .i64 (place : Int), .bool false, .bool false, .func (.func 21) #[] #[], .int .i64 (place : Int), undef, .slice (some ⟨pb, po, none⟩) rl cap, .pointer (some ⟨pb, po, none⟩), undef, undef, undef, .slice (some ⟨pb, po, none⟩) rl cap, undef, undef], []⟩ V := by
        rw [hG]
        refine wpAnyIn_ready (rs := [2, 5, 9]) (by kernel_rfl) (by simp) ?_
        refine AllReadyIn.cons rfl (fun K hK => ?_) ?_
        · rw [if_pos (by rfl)]
          refine wpIn_load_dig _ rfl _ _ rfl dc HDC.out (row_cells32 HCD.out HDC.out) ?_
          refine hK _ _ ?_
          exact toG hG (S012348) (by kernel_rfl)
        refine AllReadyIn.cons rfl (fun K hK => ?_) ?_
        · rw [if_pos (by rfl)]
          refine wpIn_load_dig _ rfl _ _ rfl x0 HX0.out (rest_cell32 HX0R.out HX0.out) ?_
          refine hK _ _ ?_
          exact toG hG (S013458) (by kernel_rfl)
        refine AllReadyIn.cons rfl (fun K hK => ?_) ?_
        · rw [if_pos (by rfl)]
          refine HSL.out _ _ _ _ _ _ _ _ _ rfl rfl ?_
          refine hK _ _ ?_
          exact toG hG (S013489) (by kernel_rfl)
        exact AllReadyIn.nil
      have S01389 : G 7 #[true, true, false, true, false, false, false, false, true, true, false, false] ⟨#[.func (.func 21) #[] #[], .int .i64 (n : Int), .int .i64 (i : Int), .slice ba bl bc, .slice pa pl pc, .pointer (some ⟨w.heap.size, 0, none⟩), undef, undef, undef, .pointer (some ⟨w.heap.size + 1, 0, none⟩), .pointer (some ⟨w.heap.size + 2, 0, none⟩), .int .i64 0, .int .i64 (place : Int), .bool false, .bool false, .int .i64 (n : Int), .int .i64 (i : Int), .bool true, .bool false, undef, .bool false, .slice pa pl pc, .int .i64 (pl : Int), .int .i64 (n : Int), .int .i64 (i : Int), .int .i64 (pl : Int), .bool false, undef, .func (.func 21) #[] #[], .slice ba bl bc, u30, u31, u32, .int .i64 (n : Int), .int .i64 (i : Int), .func (.func 42) #[] #[.pointer (some ⟨w8.heap.size, 0, none⟩), .pointer (some ⟨w8.heap.size + 1, 0, none⟩)], .int .i64 (place : Int), .bool false, .bool false, .func (.func 21) #[] #[], .int .i64 (place : Int), undef, .slice (some ⟨pb, po, none⟩) rl cap, undef, undef, undef, undef, .slice (some ⟨pb, po, none⟩) rl cap, .slice na rm nc, undef], []⟩ V := by
        rw [hG]
        refine wpAnyIn_ready (rs := [2, 4]) (by kernel_rfl) (by simp) ?_
        refine AllReadyIn.cons rfl (fun K hK => ?_) ?_
        · rw [if_pos (by rfl)]
          refine wpIn_load_dig _ rfl _ _ rfl dc HDC.out (row_cells32 HCD.out HDC.out) ?_
          refine hK _ _ ?_
          exact toG hG (S012389) (by kernel_rfl)
        refine AllReadyIn.cons rfl (fun K hK => ?_) ?_
        · go_simp
          refine hK _ _ ?_
          exact toG hG (S013489) (by kernel_rfl)
        exact AllReadyIn.nil
      have S02345 : G 7 #[true, false, true, true, true, true, false, false, false, false, false, false] ⟨#[.func (.func 21) #[] #[], .int .i64 (n : Int), .int .i64 (i : Int), .slice ba bl bc, .slice pa pl pc, .pointer (some ⟨w.heap.size, 0, none⟩), undef, undef, undef, .pointer (some ⟨w.heap.size + 1, 0, none⟩), .pointer (some ⟨w.heap.size + 2, 0, none⟩), .int .i64 0, .int .i64 (place : Int), .bool false, .bool false, .int .i64 (n : Int), .int .i64 (i : Int), .bool true, .bool false, undef, .bool false, .slice pa pl pc, .int .i64 (pl : Int), .int .i64 (n : Int), .int .i64 (i : Int), .int .i64 (pl : Int), .bool false, undef, .func (.func 21) #[] #[], .slice ba bl bc, u30, u31, u32, .int .i64 (n : Int), .int .i64 (i : Int), .func (.func 42) #[] #[.pointer (some ⟨w8.heap.size, 0, none⟩), .pointer (some ⟨w8.heap.size + 1, 0, none⟩)], .int .i64 (place : Int), .bool false, .bool false, .func (.func 21) #[] #[], undef, dg dc, .slice (some ⟨pb, po, none⟩) rl cap, .pointer (some ⟨pb, po, none⟩), dg x0, undef, undef, undef, undef, undef], []⟩ V := by
        rw [hG]
        refine wpAnyIn_ready (rs := [1, 8]) (by kernel_rfl) (by simp) ?_
        refine AllReadyIn.cons rfl (fun K hK => ?_) ?_
        · go_simp
          refine hK _ _ ?_
          exact toG hG (S012345) (by kernel_rfl)
        refine AllReadyIn.cons rfl (fun K hK => ?_) ?_
        · go_simp
          refine hK _ _ ?_
          exact toG hG (S023458) (by kernel_rfl)
        exact AllReadyIn.nil
      have S02348 : G 7 #[true, false, true, true, true, false, false, false, true, false, false, false] ⟨#[.func (.func 21) #[] #[], .int .i64 (n : Int), .int .i64 (i : Int), .slice ba bl bc, .slice pa pl pc, .pointer (some ⟨w.heap.size, 0, none⟩), undef, undef, undef, .pointer (some ⟨w.heap.size + 1, 0, none⟩), .pointer (some ⟨w.heap.size + 2, 0, none⟩), .int .i64 0, .int .i64 (place : Int), .bool false, .bool false, .int .i64 (n : Int), .int .i64 (i : Int), .bool true, .bool false, undef, .bool false, .slice pa pl pc, .int .i64 (pl : Int), .int .i64 (n : Int), .int .i64 (i : Int), .int .i64 (pl : Int), .bool false, undef, .func (.func 21) #[] #[], .slice ba bl bc, u30, u31, u32, .int .i64 (n : Int), .int .i64 (i : Int), .func (.func 42) #[] #[.pointer (some ⟨w8.heap.size, 0, none⟩), .pointer (some ⟨w8.heap.size + 1, 0, none⟩)], .int .i64 (place : Int), .bool false, .bool false, .func (.func 21) #[] #[], undef, dg dc, .slice (some ⟨pb, po, none⟩) rl cap, .pointer (some ⟨pb, po, none⟩), undef, undef, undef, .slice (some ⟨pb, po, none⟩) rl cap, undef, undef], []⟩ V := by
        rw [hG]
        refine wpAnyIn_ready (rs := [1, 5, 9]) (by kernel_rfl) (by simp) ?_
        refine AllReadyIn.cons rfl (fun K hK => ?_) ?_
        · go_simp
          refine hK _ _ ?_
          exact toG hG (S012348) (by kernel_rfl)
        refine AllReadyIn.cons rfl (fun K hK => ?_) ?_
        · rw [if_pos (by rfl)]
          refine wpIn_load_dig _ rfl _ _ rfl x0 HX0.out (rest_cell32 HX0R.out HX0.out) ?_
          refine hK _ _ ?_
          exact toG hG (S023458) (by kernel_rfl)
        refine AllReadyIn.cons rfl (fun K hK => ?_) ?_
        · rw [if_pos (by rfl)]
          refine HSL.out _ _ _ _ _ _ _ _ _ rfl rfl ?_
          refine hK _ _ ?_
          exact toG hG (S023489) (by kernel_rfl)
        exact AllReadyIn.nil
      have S02389 : G 7 #[true, false, true, true, false, false, false, false, true, true, false, false] ⟨#[.func (.func 21) #[] #[], .int .i64 (n : Int), .int .i64 (i : Int), .slice ba bl bc, .slice pa pl pc, .pointer (some ⟨w.heap.size, 0, none⟩), undef, undef, undef, .pointer (some ⟨w.heap.size + 1, 0, none⟩), .pointer (some ⟨w.heap.size + 2, 0, none⟩), .int .i64 0, .int .i64 (place : Int), .bool false, .bool false, .int .i64 (n : Int), .int .i64 (i : Int), .bool true, .bool false, undef, .bool false, .slice pa pl pc, .int .i64 (pl : Int), .int .i64 (n : Int), .int .i64 (i : Int), .int .i64 (pl : Int), .bool false, undef, .func (.func 21) #[] #[], .slice ba bl bc, u30, u31, u32, .int .i64 (n : Int), .int .i64 (i : Int), .func (.func 42) #[] #[.pointer (some ⟨w8.heap.size, 0, none⟩), .pointer (some ⟨w8.heap.size + 1, 0, none⟩)], .int .i64 (place : Int), .bool false, .bool false, .func (.func 21) #[] #[], undef, dg dc, .slice (some ⟨pb, po, none⟩) rl cap, undef, undef, undef, undef, .slice (some ⟨pb, po, none⟩) rl cap, .slice na rm nc, undef], []⟩ V := by
        rw [hG]
        refine wpAnyIn_ready (rs := [1, 4]) (by kernel_rfl) (by simp) ?_
        refine AllReadyIn.cons rfl (fun K hK => ?_) ?_
        · go_simp
          refine hK _ _ ?_
          exact toG hG (S012389) (by kernel_rfl)
        refine AllReadyIn.cons rfl (fun K hK => ?_) ?_
        · go_simp
          refine hK _ _ ?_
          exact toG hG (S023489) (by kernel_rfl)
        exact AllReadyIn.nil
      have S03458 : G 7 #[true, false, false, true, true, true, false, false, true, false, false, false] ⟨#[.func (.func 21) #[] #[], .int .i64 (n : Int), .int .i64 (i : Int), .slice ba bl bc, .slice pa pl pc, .pointer (some ⟨w.heap.size, 0, none⟩), undef, undef, undef, .pointer (some ⟨w.heap.size + 1, 0, none⟩), .pointer (some ⟨w.heap.size + 2, 0, none⟩), .int .i64 0, .int .i64 (place : Int), .bool false, .bool false, .int .i64 (n : Int), .int .i64 (i : Int), .bool true, .bool false, undef, .bool false, .slice pa pl pc, .int .i64 (pl : Int), .int .i64 (n : Int), .int .i64 (i : Int), .int .i64 (pl : Int), .bool false, undef, .func (.func 21) #[] #[], .slice ba bl bc, u30, u31, u32, .int .i64 (n : Int), .int .i64 (i : Int), .func (.func 42) #[] #[.pointer (some ⟨w8.heap.size, 0, none⟩), .pointer (some ⟨w8.heap.size + 1, 0, none⟩)], .int .i64 (place : Int), .bool false, .bool false, .func (.func 21) #[] #[], undef, undef, .slice (some ⟨pb, po, none⟩) rl cap, .pointer (some ⟨pb, po, none⟩), dg x0, undef, undef, .slice (some ⟨pb, po, none⟩) rl cap, undef, undef], []⟩ V := by
        rw [hG]
        refine wpAnyIn_ready (rs := [1, 2, 9]) (by kernel_rfl) (by simp) ?_
        refine AllReadyIn.cons rfl (fun K hK => ?_) ?_
        · go_simp
          refine hK _ _ ?_
          exact toG hG (S013458) (by kernel_rfl)
        refine AllReadyIn.cons rfl (fun K hK => ?_) ?_
        · rw [if_pos (by rfl)]
          refine wpIn_load_dig _ rfl _ _ rfl dc HDC.out (row_cells32 HCD.out HDC.out) ?_
          refine hK _ _ ?_
          exact toG hG (S023458) (by kernel_rfl)
        refine AllReadyIn.cons rfl (fun K hK => ?_) ?_
        · rw [if_pos (by rfl)]
          refine HSL.out _ _ _ _ _ _ _ _ _ rfl rfl ?_
          refine hK _ _ ?_
          exact toG hG (S034589) (by kernel_rfl)
        exact AllReadyIn.nil
      have S03489 : G 7 #[true, false, false, true, true, false, false, false, true, true, false, false] ⟨#[.func (.func 21) #[] #[], .int .i64 (n : Int), .int .i64 (i : Int), .slice ba bl bc, .slice pa pl pc, .pointer (some ⟨w.heap.size, 0, none⟩), undef, undef, undef, .pointer (some ⟨w.heap.size + 1, 0, none⟩), .pointer (some ⟨w.heap.size + 2, 0, none⟩), .int .i64 0, .int .i64 (place : Int), .bool false, .bool false, .int .i64 (n : Int), .int .i64 (i : Int), .bool true, .bool false, undef, .bool false, .slice pa pl pc, .int .i64 (pl : Int), .int .i64 (n : Int), .int .i64 (i : Int), .int .i64 (pl : Int), .bool false, undef, .func (.func 21) #[] #[], .slice ba bl bc, u30, u31, u32, .int .i64 (n : Int), .int .i64 (i : Int), .func (.func 42) #[] #[.pointer (some ⟨w8.heap.size, 0, none⟩), .pointer (some ⟨w8.heap.size + 1, 0, none⟩)], .int .i64 (place : Int), .bool false, .bool false, .func (.func 21) #[] #[], undef, undef, .slice (some ⟨pb, po, none⟩) rl cap, .pointer (some ⟨pb, po, none⟩), undef, undef, undef, .slice (some ⟨pb, po, none⟩) rl cap, .slice na rm nc, undef], []⟩ V := by
        rw [hG]
        refine wpAnyIn_ready (rs := [1, 2, 5]) (by kernel_rfl) (by simp) ?_
        refine AllReadyIn.cons rfl (fun K hK => ?_) ?_
        · go_simp
          refine hK _ _ ?_
          exact toG hG (S013489) (by kernel_rfl)
        refine AllReadyIn.cons rfl (fun K hK => ?_) ?_
        · rw [if_pos (by rfl)]
          refine wpIn_load_dig _ rfl _ _ rfl dc HDC.out (row_cells32 HCD.out HDC.out) ?_
          refine hK _ _ ?_
          exact toG hG (S023489) (by kernel_rfl)
        refine AllReadyIn.cons rfl (fun K hK => ?_) ?_
        · rw [if_pos (by rfl)]
          refine wpIn_load_dig _ rfl _ _ rfl x0 HX0.out (rest_cell32 HX0R.out HX0.out) ?_
          refine hK _ _ ?_
          exact toG hG (S034589) (by kernel_rfl)
        exact AllReadyIn.nil
      have S12345 : G 7 #[false, true, true, true, true, true, false, false, false, false, false, false] ⟨#[.func (.func 21) #[] #[], .int .i64 (n : Int), .int .i64 (i : Int), .slice ba bl bc, .slice pa pl pc, .pointer (some ⟨w.heap.size, 0, none⟩), undef, undef, undef, .pointer (some ⟨w.heap.size + 1, 0, none⟩), .pointer (some ⟨w.heap.size + 2, 0, none⟩), .int .i64 0, .int .i64 (place : Int), .bool false, .bool false, .int .i64 (n : Int), .int .i64 (i : Int), .bool true, .bool false, undef, .bool false, .slice pa pl pc, .int .i64 (pl : Int), .int .i64 (n : Int), .int .i64 (i : Int), .int .i64 (pl : Int), .bool false, undef, .func (.func 21) #[] #[], .slice ba bl bc, u30, u31, u32, .int .i64 (n : Int), .int .i64 (i : Int), .func (.func 42) #[] #[.pointer (some ⟨w8.heap.size, 0, none⟩), .pointer (some ⟨w8.heap.size + 1, 0, none⟩)], .int .i64 (place : Int), .bool false, .bool false, undef, .int .i64 (place : Int), dg dc, .slice (some ⟨pb, po, none⟩) rl cap, .pointer (some ⟨pb, po, none⟩), dg x0, undef, undef, undef, undef, undef], []⟩ V := by
        rw [hG]
        refine wpAnyIn_ready (rs := [0, 6, 8]) (by kernel_rfl) (by simp) ?_
        refine AllReadyIn.cons rfl (fun K hK => ?_) ?_
        · go_simp
          refine hK _ _ ?_
          exact toG hG (S012345) (by kernel_rfl)
        refine AllReadyIn.cons rfl (fun K hK => ?_) ?_
        · go_simp
          gi_wp2_with (refine ⟨trivial, ?_⟩; gi_at_call 47; refine (CallsIn.inRound l (callsIn_wide.2 (HJN.out))).mono ?_; rintro e w4 ⟨v4, rfl, hr4, hb4⟩)
          exact toG hG (S123456 v4 w4 hb4 hr4) (by kernel_rfl)
        refine AllReadyIn.cons rfl (fun K hK => ?_) ?_
        · go_simp
          refine hK _ _ ?_
          exact toG hG (S123458) (by kernel_rfl)
        exact AllReadyIn.nil
      have S12348 : G 7 #[false, true, true, true, true, false, false, false, true, false, false, false] ⟨#[.func (.func 21) #[] #[], .int .i64 (n : Int), .int .i64 (i : Int), .slice ba bl bc, .slice pa pl pc, .pointer (some ⟨w.heap.size, 0, none⟩), undef, undef, undef, .pointer (some ⟨w.heap.size + 1, 0, none⟩), .pointer (some ⟨w.heap.size + 2, 0, none⟩), .int .i64 0, .int .i64 (place : Int), .bool false, .bool false, .int .i64 (n : Int), .int .i64 (i : Int), .bool true, .bool false, undef, .bool false, .slice pa pl pc, .int .i64 (pl : Int), .int .i64 (n : Int), .int .i64 (i : Int), .int .i64 (pl : Int), .bool false, undef, .func (.func 21) #[] #[], .slice ba bl bc, u30, u31, u32, .int .i64 (n : Int), .int .i64 (i : Int), .func (.func 42) #[] #[.pointer (some ⟨w8.heap.size, 0, none⟩), .pointer (some ⟨w8.heap.size + 1, 0, none⟩)], .int .i64 (place : Int), .bool false, .bool false, undef, .int .i64 (place : Int), dg dc, .slice (some ⟨pb, po, none⟩) rl cap, .pointer (some ⟨pb, po, none⟩), undef, undef, undef, .slice (some ⟨pb, po, none⟩) rl cap, undef, undef], []⟩ V := by
        rw [hG]
        refine wpAnyIn_ready (rs := [0, 5, 9]) (by kernel_rfl) (by simp) ?_
        refine AllReadyIn.cons rfl (fun K hK => ?_) ?_
        · go_simp
          refine hK _ _ ?_
          exact toG hG (S012348) (by kernel_rfl)
        refine AllReadyIn.cons rfl (fun K hK => ?_) ?_
        · rw [if_pos (by rfl)]
          refine wpIn_load_dig _ rfl _ _ rfl x0 HX0.out (rest_cell32 HX0R.out HX0.out) ?_
          refine hK _ _ ?_
          exact toG hG (S123458) (by kernel_rfl)
        refine AllReadyIn.cons rfl (fun K hK => ?_) ?_
        · rw [if_pos (by rfl)]
          refine HSL.out _ _ _ _ _ _ _ _ _ rfl rfl ?_
          refine hK _ _ ?_
          exact toG hG (S123489) (by kernel_rfl)
        exact AllReadyIn.nil
      have S12389 : G 7 #[false, true, true, true, false, false, false, false, true, true, false, false] ⟨#[.func (.func 21) #[] #[], .int .i64 (n : Int), .int .i64 (i : Int), .slice ba bl bc, .slice pa pl pc, .pointer (some ⟨w.heap.size, 0, none⟩), undef, undef, undef, .pointer (some ⟨w.heap.size + 1, 0, none⟩), .pointer (some ⟨w.heap.size + 2, 0, none⟩), .int .i64 0, .int .i64 (place : Int), .bool false, .bool false, .int .i64 (n : Int), .int .i64 (i : Int), .bool true, .bool false, undef, .bool false, .slice pa pl pc, .int .i64 (pl : Int), .int .i64 (n : Int), .int .i64 (i : Int), .int .i64 (pl : Int), .bool false, undef, .func (.func 21) #[] #[], .slice ba bl bc, u30, u31, u32, .int .i64 (n : Int), .int .i64 (i : Int), .func (.func 42) #[] #[.pointer (some ⟨w8.heap.size, 0, none⟩), .pointer (some ⟨w8.heap.size + 1, 0, none⟩)], .int .i64 (place : Int), .bool false, .bool false, undef, .int .i64 (place : Int), dg dc, .slice (some ⟨pb, po, none⟩) rl cap, undef, undef, undef, undef, .slice (some ⟨pb, po, none⟩) rl cap, .slice na rm nc, undef], []⟩ V := by
        rw [hG]
        refine wpAnyIn_ready (rs := [0, 4]) (by kernel_rfl) (by simp) ?_
        refine AllReadyIn.cons rfl (fun K hK => ?_) ?_
        · go_simp
          refine hK _ _ ?_
          exact toG hG (S012389) (by kernel_rfl)
        refine AllReadyIn.cons rfl (fun K hK => ?_) ?_
        · go_simp
          refine hK _ _ ?_
          exact toG hG (S123489) (by kernel_rfl)
        exact AllReadyIn.nil
      have S13458 : G 7 #[false, true, false, true, true, true, false, false, true, false, false, false] ⟨#[.func (.func 21) #[] #[], .int .i64 (n : Int), .int .i64 (i : Int), .slice ba bl bc, .slice pa pl pc, .pointer (some ⟨w.heap.size, 0, none⟩), undef, undef, undef, .pointer (some ⟨w.heap.size + 1, 0, none⟩), .pointer (some ⟨w.heap.size + 2, 0, none⟩), .int .i64 0, .int .i64 (place : Int), .bool false, .bool false, .int .i64 (n : Int), .int .i64 (i : Int), .bool true, .bool false, undef, .bool false, .slice pa pl pc, .int .i64 (pl : Int), .int .i64 (n : Int), .int .i64 (i : Int), .int .i64 (pl : Int), .bool false, undef, .func (.func 21) #[] #[], .slice ba bl bc, u30, u31, u32, .int .i64 (n : Int), .int .i64 (i : Int), .func (.func 42) #[] #[.pointer (some ⟨w8.heap.size, 0, none⟩), .pointer (some ⟨w8.heap.size + 1, 0, none⟩)], .int .i64 (place : Int), .bool false, .bool false, undef, .int .i64 (place : Int), undef, .slice (some ⟨pb, po, none⟩) rl cap, .pointer (some ⟨pb, po, none⟩), dg x0, undef, undef, .slice (some ⟨pb, po, none⟩) rl cap, undef, undef], []⟩ V := by
        rw [hG]
        refine wpAnyIn_ready (rs := [0, 2, 9]) (by kernel_rfl) (by simp) ?_
        refine AllReadyIn.cons rfl (fun K hK => ?_) ?_
        · go_simp
          refine hK _ _ ?_
          exact toG hG (S013458) (by kernel_rfl)
        refine AllReadyIn.cons rfl (fun K hK => ?_) ?_
        · rw [if_pos (by rfl)]
          refine wpIn_load_dig _ rfl _ _ rfl dc HDC.out (row_cells32 HCD.out HDC.out) ?_
          refine hK _ _ ?_
          exact toG hG (S123458) (by kernel_rfl)
        refine AllReadyIn.cons rfl (fun K hK => ?_) ?_
        · rw [if_pos (by rfl)]
          refine HSL.out _ _ _ _ _ _ _ _ _ rfl rfl ?_
          refine hK _ _ ?_
          exact toG hG (S134589) (by kernel_rfl)
        exact AllReadyIn.nil
      have S13489 : G 7 #[false, true, false, true, true, false, false, false, true, true, false, false] ⟨#[.func (.func 21) #[] #[], .int .i64 (n : Int), .int .i64 (i : Int), .slice ba bl bc, .slice pa pl pc, .pointer (some ⟨w.heap.size, 0, none⟩), undef, undef, undef, .pointer (some ⟨w.heap.size + 1, 0, none⟩), .pointer (some ⟨w.heap.size + 2, 0, none⟩), .int .i64 0, .int .i64 (place : Int), .bool false, .bool false, .int .i64 (n : Int), .int .i64 (i : Int), .bool true, .bool false, undef, .bool false, .slice pa pl pc, .int .i64 (pl : Int), .int .i64 (n : Int), .int .i64 (i : Int), .int .i64 (pl : Int), .bool false, undef, .func (.func 21) #[] #[], .slice ba bl bc, u30, u31, u32, .int .i64 (n : Int), .int .i64 (i : Int), .func (.func 42) #[] #[.pointer (some ⟨w8.heap.size, 0, none⟩), .pointer (some ⟨w8.heap.size + 1, 0, none⟩)], .int .i64 (place : Int), .bool false, .bool false, undef, .int .i64 (place : Int), undef, .slice (some ⟨pb, po, none⟩) rl cap, .pointer (some ⟨pb, po, none⟩), undef, undef, undef, .slice (some ⟨pb, po, none⟩) rl cap, .slice na rm nc, undef], []⟩ V := by
        rw [hG]
        refine wpAnyIn_ready (rs := [0, 2, 5]) (by kernel_rfl) (by simp) ?_
        refine AllReadyIn.cons rfl (fun K hK => ?_) ?_
        · go_simp
          refine hK _ _ ?_
          exact toG hG (S013489) (by kernel_rfl)
        refine AllReadyIn.cons rfl (fun K hK => ?_) ?_
        · rw [if_pos (by rfl)]
          refine wpIn_load_dig _ rfl _ _ rfl dc HDC.out (row_cells32 HCD.out HDC.out) ?_
          refine hK _ _ ?_
          exact toG hG (S123489) (by kernel_rfl)
        refine AllReadyIn.cons rfl (fun K hK => ?_) ?_
        · rw [if_pos (by rfl)]
          refine wpIn_load_dig _ rfl _ _ rfl x0 HX0.out (rest_cell32 HX0R.out HX0.out) ?_
          refine hK _ _ ?_
          exact toG hG (S134589) (by kernel_rfl)
        exact AllReadyIn.nil
      have S23458 : G 7 #[false, false, true, true, true, true, false, false, true, false, false, false] ⟨#[.func (.func 21) #[] #[], .int .i64 (n : Int), .int .i64 (i : Int), .slice ba bl bc, .slice pa pl pc, .pointer (some ⟨w.heap.size, 0, none⟩), undef, undef, undef, .pointer (some ⟨w.heap.size + 1, 0, none⟩), .pointer (some ⟨w.heap.size + 2, 0, none⟩), .int .i64 0, .int .i64 (place : Int), .bool false, .bool false, .int .i64 (n : Int), .int .i64 (i : Int), .bool true, .bool false, undef, .bool false, .slice pa pl pc, .int .i64 (pl : Int), .int .i64 (n : Int), .int .i64 (i : Int), .int .i64 (pl : Int), .bool false, undef, .func (.func 21) #[] #[], .slice ba bl bc, u30, u31, u32, .int .i64 (n : Int), .int .i64 (i : Int), .func (.func 42) #[] #[.pointer (some ⟨w8.heap.size, 0, none⟩), .pointer (some ⟨w8.heap.size + 1, 0, none⟩)], .int .i64 (place : Int), .bool false, .bool false, undef, undef, dg dc, .slice (some ⟨pb, po, none⟩) rl cap, .pointer (some ⟨pb, po, none⟩), dg x0, undef, undef, .slice (some ⟨pb, po, none⟩) rl cap, undef, undef], []⟩ V := by
        rw [hG]
        refine wpAnyIn_ready (rs := [0, 1, 9]) (by kernel_rfl) (by simp) ?_
        refine AllReadyIn.cons rfl (fun K hK => ?_) ?_
        · go_simp
          refine hK _ _ ?_
          exact toG hG (S023458) (by kernel_rfl)
        refine AllReadyIn.cons rfl (fun K hK => ?_) ?_
        · go_simp
          refine hK _ _ ?_
          exact toG hG (S123458) (by kernel_rfl)
        refine AllReadyIn.cons rfl (fun K hK => ?_) ?_
        · rw [if_pos (by rfl)]
          refine HSL.out _ _ _ _ _ _ _ _ _ rfl rfl ?_
          refine hK _ _ ?_
          exact toG hG (S234589) (by kernel_rfl)
        exact AllReadyIn.nil
      have S23489 : G 7 #[false, false, true, true, true, false, false, false, true, true, false, false] ⟨#[.func (.func 21) #[] #[], .int .i64 (n : Int), .int .i64 (i : Int), .slice ba bl bc, .slice pa pl pc, .pointer (some ⟨w.heap.size, 0, none⟩), undef, undef, undef, .pointer (some ⟨w.heap.size + 1, 0, none⟩), .pointer (some ⟨w.heap.size + 2, 0, none⟩), .int .i64 0, .int .i64 (place : Int), .bool false, .bool false, .int .i64 (n : Int), .int .i64 (i : Int), .bool true, .bool false, undef, .bool false, .slice pa pl pc, .int .i64 (pl : Int), .int .i64 (n : Int), .int .i64 (i : Int), .int .i64 (pl : Int), .bool false, undef, .func (.func 21) #[] #[], .slice ba bl bc, u30, u31, u32, .int .i64 (n : Int), .int .i64 (i : Int), .func (.func 42) #[] #[.pointer (some ⟨w8.heap.size, 0, none⟩), .pointer (some ⟨w8.heap.size + 1, 0, none⟩)], .int .i64 (place : Int), .bool false, .bool false, undef, undef, dg dc, .slice (some ⟨pb, po, none⟩) rl cap, .pointer (some ⟨pb, po, none⟩), undef, undef, undef, .slice (some ⟨pb, po, none⟩) rl cap, .slice na rm nc, undef], []⟩ V := by
        rw [hG]
        refine wpAnyIn_ready (rs := [0, 1, 5]) (by kernel_rfl) (by simp) ?_
        refine AllReadyIn.cons rfl (fun K hK => ?_) ?_
        · go_simp
          refine hK _ _ ?_
          exact toG hG (S023489) (by kernel_rfl)
        refine AllReadyIn.cons rfl (fun K hK => ?_) ?_
        · go_simp
          refine hK _ _ ?_
          exact toG hG (S123489) (by kernel_rfl)
        refine AllReadyIn.cons rfl (fun K hK => ?_) ?_
        · rw [if_pos (by rfl)]
          refine wpIn_load_dig _ rfl _ _ rfl x0 HX0.out (rest_cell32 HX0R.out HX0.out) ?_
          refine hK _ _ ?_
          exact toG hG (S234589) (by kernel_rfl)
        exact AllReadyIn.nil
      have S34589 : G 7 #[false, false, false, true, true, true, false, false, true, true, false, false] ⟨#[.func (.func 21) #[] #[], .int .i64 (n : Int), .int .i64 (i : Int), .slice ba bl bc, .slice pa pl pc, .pointer (some ⟨w.heap.size, 0, none⟩), undef, undef, undef, .pointer (some ⟨w.heap.size + 1, 0, none⟩), .pointer (some ⟨w.heap.size + 2, 0, none⟩), .int .i64 0, .int .i64 (place : Int), .bool false, .bool false, .int .i64 (n : Int), .int .i64 (i : Int), .bool true, .bool false, undef, .bool false, .slice pa pl pc, .int .i64 (pl : Int), .int .i64 (n : Int), .int .i64 (i : Int), .int .i64 (pl : Int), .bool false, undef, .func (.func 21) #[] #[], .slice ba bl bc, u30, u31, u32, .int .i64 (n : Int), .int .i64 (i : Int), .func (.func 42) #[] #[.pointer (some ⟨w8.heap.size, 0, none⟩), .pointer (some ⟨w8.heap.size + 1, 0, none⟩)], .int .i64 (place : Int), .bool false, .bool false, undef, undef, undef, .slice (some ⟨pb, po, none⟩) rl cap, .pointer (some ⟨pb, po, none⟩), dg x0, undef, undef, .slice (some ⟨pb, po, none⟩) rl cap, .slice na rm nc, undef], []⟩ V := by
        rw [hG]
        refine wpAnyIn_ready (rs := [0, 1, 2]) (by kernel_rfl) (by simp) ?_
        refine AllReadyIn.cons rfl (fun K hK => ?_) ?_
        · go_simp
          refine hK _ _ ?_
          exact toG hG (S034589) (by kernel_rfl)
        refine AllReadyIn.cons rfl (fun K hK => ?_) ?_
        · go_simp
          refine hK _ _ ?_
          exact toG hG (S134589) (by kernel_rfl)
        refine AllReadyIn.cons rfl (fun K hK => ?_) ?_
        · rw [if_pos (by rfl)]
          refine wpIn_load_dig _ rfl _ _ rfl dc HDC.out (row_cells32 HCD.out HDC.out) ?_
          refine hK _ _ ?_
          exact toG hG (S234589) (by kernel_rfl)
        exact AllReadyIn.nil
      have S0123 : G 8 #[true, true, true, true, false, false, false, false, false, false, false, false] ⟨#[.func (.func 21) #[] #[], .int .i64 (n : Int), .int .i64 (i : Int), .slice ba bl bc, .slice pa pl pc, .pointer (some ⟨w.heap.size, 0, none⟩), undef, undef, undef, .pointer (some ⟨w.heap.size + 1, 0, none⟩), .pointer (some ⟨w.heap.size + 2, 0, none⟩), .int .i64 0, .int .i64 (place : Int), .bool false, .bool false, .int .i64 (n : Int), .int .i64 (i : Int), .bool true, .bool false, undef, .bool false, .slice pa pl pc, .int .i64 (pl : Int), .int .i64 (n : Int), .int .i64 (i : Int), .int .i64 (pl : Int), .bool false, undef, .func (.func 21) #[] #[], .slice ba bl bc, u30, u31, u32, .int .i64 (n : Int), .int .i64 (i : Int), .func (.func 42) #[] #[.pointer (some ⟨w8.heap.size, 0, none⟩), .pointer (some ⟨w8.heap.size + 1, 0, none⟩)], .int .i64 (place : Int), .bool false, .bool false, .func (.func 21) #[] #[], .int .i64 (place : Int), dg dc, .slice (some ⟨pb, po, none⟩) rl cap, undef, undef, undef, undef, undef, undef, undef], []⟩ V := by
        rw [hG]
        refine wpAnyIn_ready (rs := [4, 8]) (by kernel_rfl) (by simp) ?_
        refine AllReadyIn.cons rfl (fun K hK => ?_) ?_
        · go_simp
          refine hK _ _ ?_
          exact toG hG (S01234) (by kernel_rfl)
        refine AllReadyIn.cons rfl (fun K hK => ?_) ?_
        · go_simp
          refine hK _ _ ?_
          exact toG hG (S01238) (by kernel_rfl)
        exact AllReadyIn.nil
      have S0128 : G 8 #[true, true, true, false, false, false, false, false, true, false, false, false] ⟨#[.func (.func 21) #[] #[], .int .i64 (n : Int), .int .i64 (i : Int), .slice ba bl bc, .slice pa pl pc, .pointer (some ⟨w.heap.size, 0, none⟩), undef, undef, undef, .pointer (some ⟨w.heap.size + 1, 0, none⟩), .pointer (some ⟨w.heap.size + 2, 0, none⟩), .int .i64 0, .int .i64 (place : Int), .bool false, .bool false, .int .i64 (n : Int), .int .i64 (i : Int), .bool true, .bool false, undef, .bool false, .slice pa pl pc, .int .i64 (pl : Int), .int .i64 (n : Int), .int .i64 (i : Int), .int .i64 (pl : Int), .bool false, undef, .func (.func 21) #[] #[], .slice ba bl bc, u30, u31, u32, .int .i64 (n : Int), .int .i64 (i : Int), .func (.func 42) #[] #[.pointer (some ⟨w8.heap.size, 0, none⟩), .pointer (some ⟨w8.heap.size + 1, 0, none⟩)], .int .i64 (place : Int), .bool false, .bool false, .func (.func 21) #[] #[], .int .i64 (place : Int), dg dc, undef, undef, undef, undef, undef, .slice (some ⟨pb, po, none⟩) rl cap, undef, undef], []⟩ V := by
        rw [hG]
        refine wpAnyIn_ready (rs := [3, 9]) (by kernel_rfl) (by simp) ?_
        refine AllReadyIn.cons rfl (fun K hK => ?_) ?_
        · go_simp
          refine hK _ _ ?_
          exact toG hG (S01238) (by kernel_rfl)
        refine AllReadyIn.cons rfl (fun K hK => ?_) ?_
        · rw [if_pos (by rfl)]
          refine HSL.out _ _ _ _ _ _ _ _ _ rfl rfl ?_
          refine hK _ _ ?_
          exact toG hG (S01289) (by kernel_rfl)
        exact AllReadyIn.nil
      have S0134 : G 8 #[true, true, false, true, true, false, false, false, false, false, false, false] ⟨#[.func (.func 21) #[] #[], .int .i64 (n : Int), .int .i64 (i : Int), .slice ba bl bc, .slice pa pl pc, .pointer (some ⟨w.heap.size, 0, none⟩), undef, undef, undef, .pointer (some ⟨w.heap.size + 1, 0, none⟩), .pointer (some ⟨w.heap.size + 2, 0, none⟩), .int .i64 0, .int .i64 (place : Int), .bool false, .bool false, .int .i64 (n : Int), .int .i64 (i : Int), .bool true, .bool false, undef, .bool false, .slice pa pl pc, .int .i64 (pl : Int), .int .i64 (n : Int), .int .i64 (i : Int), .int .i64 (pl : Int), .bool false, undef, .func (.func 21) #[] #[], .slice ba bl bc, u30, u31, u32, .int .i64 (n : Int), .int .i64 (i : Int), .func (.func 42) #[] #[.pointer (some ⟨w8.heap.size, 0, none⟩), .pointer (some ⟨w8.heap.size + 1, 0, none⟩)], .int .i64 (place : Int), .bool false, .bool false, .func (.func 21) #[] #[], .int .i64 (place : Int), undef, .slice (some ⟨pb, po, none⟩) rl cap, .pointer (some ⟨pb, po, none⟩), undef, undef, undef, undef, undef, undef], []⟩ V := by
        rw [hG]
        refine wpAnyIn_ready (rs := [2, 5, 8]) (by kernel_rfl) (by simp) ?_
        refine AllReadyIn.cons rfl (fun K hK => ?_) ?_
        · rw [if_pos (by rfl)]
          refine wpIn_load_dig _ rfl _ _ rfl dc HDC.out (row_cells32 HCD.out HDC.out) ?_
          refine hK _ _ ?_
          exact toG hG (S01234) (by kernel_rfl)
        refine AllReadyIn.cons rfl (fun K hK => ?_) ?_
        · rw [if_pos (by rfl)]
          refine wpIn_load_dig _ rfl _ _ rfl x0 HX0.out (rest_cell32 HX0R.out HX0.out) ?_
          refine hK _ _ ?_
          exact toG hG (S01345) (by kernel_rfl)
        refine AllReadyIn.cons rfl (fun K hK => ?_) ?_
        · go_simp
          refine hK _ _ ?_
          exact toG hG (S01348) (by kernel_rfl)
        exact AllReadyIn.nil
      have S0138 : G 8 #[true, true, false, true, false, false, false, false, true, false, false, false] ⟨#[.func (.func 21) #[] #[], .int .i64 (n : Int), .int .i64 (i : Int), .slice ba bl bc, .slice pa pl pc, .pointer (some ⟨w.heap.size, 0, none⟩), undef, undef, undef, .pointer (some ⟨w.heap.size + 1, 0, none⟩), .pointer (some ⟨w.heap.size + 2, 0, none⟩), .int .i64 0, .int .i64 (place : Int), .bool false, .bool false, .int .i64 (n : Int), .int .i64 (i : Int), .bool true, .bool false, undef, .bool false, .slice pa pl pc, .int .i64 (pl : Int), .int .i64 (n : Int), .int .i64 (i : Int), .int .i64 (pl : Int), .bool false, undef, .func (.func 21) #[] #[], .slice ba bl bc, u30, u31, u32, .int .i64 (n : Int), .int .i64 (i : Int), .func (.func 42) #[] #[.pointer (some ⟨w8.heap.size, 0, none⟩), .pointer (some ⟨w8.heap.size + 1, 0, none⟩)], .int .i64 (place : Int), .bool false, .bool false, .func (.func 21) #[] #[], .int .i64 (place : Int), undef, .slice (some ⟨pb, po, none⟩) rl cap, undef, undef, undef, undef, .slice (some ⟨pb, po, none⟩) rl cap, undef, undef], []⟩ V := by
        rw [hG]
        refine wpAnyIn_ready (rs := [2, 4, 9]) (by kernel_rfl) (by simp) ?_
        refine AllReadyIn.cons rfl (fun K hK => ?_) ?_
        · rw [if_pos (by rfl)]
          refine wpIn_load_dig _ rfl _ _ rfl dc HDC.out (row_cells32 HCD.out HDC.out) ?_
          refine hK _ _ ?_
          exact toG hG (S01238) (by kernel_rfl)
        refine AllReadyIn.cons rfl (fun K hK => ?_) ?_
        · go_simp
          refine hK _ _ ?_
          exact toG hG (S01348) (by kernel_rfl)
        refine AllReadyIn.cons rfl (fun K hK => ?_) ?_
        · rw [if_pos (by rfl)]
          refine HSL.out _ _ _ _ _ _ _ _ _ rfl rfl ?_
          refine hK _ _ ?_
          exact toG hG (S01389) (by kernel_rfl)
        exact AllReadyIn.nil
      have S0189 : G 8 #[true, true, false, false, false, false, false, false, true, true, false, false] ⟨#[.func (.func 21) #[] #[], .int .i64 (n : Int), .int .i64 (i : Int), .slice ba bl bc, .slice pa pl pc, .pointer (some ⟨w.heap.size, 0, none⟩), undef, undef, undef, .pointer (some ⟨w.heap.size + 1, 0, none⟩), .pointer (some ⟨w.heap.size + 2, 0, none⟩), .int .i64 0, .int .i64 (place : Int), .bool false, .bool false, .int .i64 (n : Int), .int .i64 (i : Int), .bool true, .bool false, undef, .bool false, .slice pa pl pc, .int .i64 (pl : Int), .int .i64 (n : Int), .int .i64 (i : Int), .int .i64 (pl : Int), .bool false, undef, .func (.func 21) #[] #[], .slice ba bl bc, u30, u31, u32, .int .i64 (n : Int), .int .i64 (i : Int), .func (.func 42) #[] #[.pointer (some ⟨w8.heap.size, 0, none⟩), .pointer (some ⟨w8.heap.size + 1, 0, none⟩)], .int .i64 (place : Int), .bool false, .bool false, .func (.func 21) #[] #[], .int .i64 (place : Int), undef, undef, undef, undef, undef, undef, .slice (some ⟨pb, po, none⟩) rl cap, .slice na rm nc, undef], []⟩ V := by
        rw [hG]
        refine wpAnyIn_ready (rs := [2, 3]) (by kernel_rfl) (by simp) ?_
        refine AllReadyIn.cons rfl (fun K hK => ?_) ?_
        · rw [if_pos (by rfl)]
          refine wpIn_load_dig _ rfl _ _ rfl dc HDC.out (row_cells32 HCD.out HDC.out) ?_
          refine hK _ _ ?_
          exact toG hG (S01289) (by kernel_rfl)
        refine AllReadyIn.cons rfl (fun K hK => ?_) ?_
        · go_simp
          refine hK _ _ ?_
          exact toG hG (S01389) (by kernel_rfl)
        exact AllReadyIn.nil
      have S0234 : G 8 #[true, false, true, true, true, false, false, false, false, false, false, false] ⟨#[.func (.func 21) #[] #[], .int .i64 (n : Int), .int .i64 (i : Int), .slice ba bl bc, .slice pa pl pc, .pointer (some ⟨w.heap.size, 0, none⟩), undef, undef, undef, .pointer (some ⟨w.heap.size + 1, 0, none⟩), .pointer (some ⟨w.heap.size + 2, 0, none⟩), .int .i64 0, .int .i64 (place : Int), .bool false, .bool false, .int .i64 (n : Int), .int .i64 (i : Int), .bool true, .bool false, undef, .bool false, .slice pa pl pc, .int .i64 (pl : Int), .int .i64 (n : Int), .int .i64 (i : Int), .int .i64 (pl : Int), .bool false, undef, .func (.func 21) #[] #[], .slice ba bl bc, u30, u31, u32, .int .i64 (n : Int), .int .i64 (i : Int), .func (.func 42) #[] #[.pointer (some ⟨w8.heap.size, 0, none⟩), .pointer (some ⟨w8.heap.size + 1, 0, none⟩)], .int .i64 (place : Int), .bool false, .bool false, .func (.func 21) #[] #[], undef, dg dc, .slice (some ⟨pb, po, none⟩) rl cap, .pointer (some ⟨pb, po, none⟩), undef, undef, undef, undef, undef, undef], []⟩ V := by
        rw [hG]
        refine wpAnyIn_ready (rs := [1, 5, 8]) (by kernel_rfl) (by simp) ?_
        refine AllReadyIn.cons rfl (fun K hK => ?_) ?_
        · go_simp
          refine hK _ _ ?_
          exact toG hG (S01234) (by kernel_rfl)
        refine AllReadyIn.cons rfl (fun K hK => ?_) ?_
        · rw [if_pos (by rfl)]
          refine wpIn_load_dig _ rfl _ _ rfl x0 HX0.out (rest_cell32 HX0R.out HX0.out) ?_
          refine hK _ _ ?_
          exact toG hG (S02345) (by kernel_rfl)
        refine AllReadyIn.cons rfl (fun K hK => ?_) ?_
        · go_simp
          refine hK _ _ ?_
          exact toG hG (S02348) (by kernel_rfl)
        exact AllReadyIn.nil
      have S0238 : G 8 #[true, false, true, true, false, false, false, false, true, false, false, false] ⟨#[.func (.func 21) #[] #[], .int .i64 (n : Int), .int .i64 (i : Int), .slice ba bl bc, .slice pa pl pc, .pointer (some ⟨w.heap.size, 0, none⟩), undef, undef, undef, .pointer (some ⟨w.heap.size + 1, 0, none⟩), .pointer (some ⟨w.heap.size + 2, 0, none⟩), .int .i64 0, .int .i64 (place : Int), .bool false, .bool false, .int .i64 (n : Int), .int .i64 (i : Int), .bool true, .bool false, undef, .bool false, .slice pa pl pc, .int .i64 (pl : Int), .int .i64 (n : Int), .int .i64 (i : Int), .int .i64 (pl : Int), .bool false, undef, .func (.func 21) #[] #[], .slice ba bl bc, u30, u31, u32, .int .i64 (n : Int), .int .i64 (i : Int), .func (.func 42) #[] #[.pointer (some ⟨w8.heap.size, 0, none⟩), .pointer (some ⟨w8.heap.size + 1, 0, none⟩)], .int .i64 (place : Int), .bool false, .bool false, .func (.func 21) #[] #[], undef, dg dc, .slice (some ⟨pb, po, none⟩) rl cap, undef, undef, undef, undef, .slice (some ⟨pb, po, none⟩) rl cap, undef, undef], []⟩ V := by
        rw [hG]
        refine wpAnyIn_ready (rs := [1, 4, 9]) (by kernel_rfl) (by simp) ?_
        refine AllReadyIn.cons rfl (fun K hK => ?_) ?_
        · go_simp
          refine hK _ _ ?_
          exact toG hG (S01238) (by kernel_rfl)
        refine AllReadyIn.cons rfl (fun K hK => ?_) ?_
        · go_simp
          refine hK _ _ ?_
          exact toG hG (S02348) (by kernel_rfl)
        refine AllReadyIn.cons rfl (fun K hK => ?_) ?_
        · rw [if_pos (by rfl)]
          refine HSL.out _ _ _ _ _ _ _ _ _ rfl rfl ?_
          refine hK _ _ ?_
          exact toG hG (S02389) (by kernel_rfl)
        exact AllReadyIn.nil
      have S0289 : G 8 #[true, false, true, false, false, false, false, false, true, true, false, false] ⟨#[.func (.func 21) #[] #[], .int .i64 (n : Int), .int .i64 (i : Int), .slice ba bl bc, .slice pa pl pc, .pointer (some ⟨w.heap.size, 0, none⟩), undef, undef, undef, .pointer (some ⟨w.heap.size + 1, 0, none⟩), .pointer (some ⟨w.heap.size + 2, 0, none⟩), .int .i64 0, .int .i64 (place : Int), .bool false, .bool false, .int .i64 (n : Int), .int .i64 (i : Int), .bool true, .bool false, undef, .bool false, .slice pa pl pc, .int .i64 (pl : Int), .int .i64 (n : Int), .int .i64 (i : Int), .int .i64 (pl : Int), .bool false, undef, .func (.func 21) #[] #[], .slice ba bl bc, u30, u31, u32, .int .i64 (n : Int), .int .i64 (i : Int), .func (.func 42) #[] #[.pointer (some ⟨w8.heap.size, 0, none⟩), .pointer (some ⟨w8.heap.size + 1, 0, none⟩)], .int .i64 (place : Int), .bool false, .bool false, .func (.func 21) #[] #[], undef, dg dc, undef, undef, undef, undef, undef, .slice (some ⟨pb, po, none⟩) rl cap, .slice na rm nc, undef], []⟩ V := by
        rw [hG]
        refine wpAnyIn_ready (rs := [1, 3]) (by kernel_rfl) (by simp) ?_
        refine AllReadyIn.cons rfl (fun K hK => ?_) ?_
        · go_simp
          refine hK _ _ ?_
          exact toG hG (S01289) (by kernel_rfl)
        refine AllReadyIn.cons rfl (fun K hK => ?_) ?_
        · go_simp
          refine hK _ _ ?_
          exact toG hG (S02389) (by kernel_rfl)
        exact AllReadyIn.nil
      have S0345 : G 8 #[true, false, false, true, true, true, false, false, false, false, false, false] ⟨#[.func (.func 21) #[] #[], .int .i64 (n : Int), .int .i64 (i : Int), .slice ba bl bc, .slice pa pl pc, .pointer (some ⟨w.heap.size, 0, none⟩), undef, undef, undef, .pointer (some ⟨w.heap.size + 1, 0, none⟩), .pointer (some ⟨w.heap.size + 2, 0, none⟩), .int .i64 0, .int .i64 (place : Int), .bool false, .bool false, .int .i64 (n : Int), .int .i64 (i : Int), .bool true, .bool false, undef, .bool false, .slice pa pl pc, .int .i64 (pl : Int), .int .i64 (n : Int), .int .i64 (i : Int), .int .i64 (pl : Int), .bool false, undef, .func (.func 21) #[] #[], .slice ba bl bc, u30, u31, u32, .int .i64 (n : Int), .int .i64 (i : Int), .func (.func 42) #[] #[.pointer (some ⟨w8.heap.size, 0, none⟩), .pointer (some ⟨w8.heap.size + 1, 0, none⟩)], .int .i64 (place : Int), .bool false, .bool false, .func (.func 21) #[] #[], undef, undef, .slice (some ⟨pb, po, none⟩) rl cap, .pointer (some ⟨pb, po, none⟩), dg x0, undef, undef, undef, undef, undef], []⟩ V := by
        rw [hG]
        refine wpAnyIn_ready (rs := [1, 2, 8]) (by kernel_rfl) (by simp) ?_
        refine AllReadyIn.cons rfl (fun K hK => ?_) ?_
        · go_simp
          refine hK _ _ ?_
          exact toG hG (S01345) (by kernel_rfl)
        refine AllReadyIn.cons rfl (fun K hK => ?_) ?_
        · rw [if_pos (by rfl)]
          refine wpIn_load_dig _ rfl _ _ rfl dc HDC.out (row_cells32 HCD.out HDC.out) ?_
          refine hK _ _ ?_
          exact toG hG (S02345) (by kernel_rfl)
        refine AllReadyIn.cons rfl (fun K hK => ?_) ?_
        · go_simp
          refine hK _ _ ?_
          exact toG hG (S03458) (by kernel_rfl)
        exact AllReadyIn.nil
      have S0348 : G 8 #[true, false, false, true, true, false, false, false, true, false, false, false] ⟨#[.func (.func 21) #[] #[], .int .i64 (n : Int), .int .i64 (i : Int), .slice ba bl bc, .slice pa pl pc, .pointer (some ⟨w.heap.size, 0, none⟩), undef, undef, undef, .pointer (some ⟨w.heap.size + 1, 0, none⟩), .pointer (some ⟨w.heap.size + 2, 0, none⟩), .int .i64 0, .int .i64 (place : Int), .bool false, .bool false, .int .i64 (n : Int), .int .i64 (i : Int), .bool true, .bool false, undef, .bool false, .slice pa pl pc, .int .i64 (pl : Int), .int .i64 (n : Int), .int .i64 (i : Int), .int .i64 (pl : Int), .bool false, undef, .func (.func 21) #[] #[], .slice ba bl bc, u30, u31, u32, .int .i64 (n : Int), .int .i64 (i : Int), .func (.func 42) #[] #[.pointer (some ⟨w8.heap.size, 0, none⟩), .pointer (some ⟨w8.heap.size + 1, 0, none⟩)], .int .i64 (place : Int), .bool false, .bool false, .func (.func 21) #[] #[], undef, undef, .slice (some ⟨pb, po, none⟩) rl cap, .pointer (some ⟨pb, po, none⟩), undef, undef, undef, .slice (some ⟨pb, po, none⟩) rl cap, undef, undef], []⟩ V := by
        rw [hG]
        refine wpAnyIn_ready (rs := [1, 2, 5, 9]) (by kernel_rfl) (by simp) ?_
        refine AllReadyIn.cons rfl (fun K hK => ?_) ?_
        · go_simp
          refine hK _ _ ?_
          exact toG hG (S01348) (by kernel_rfl)
        refine AllReadyIn.cons rfl (fun K hK => ?_) ?_
        · rw [if_pos (by rfl)]
          refine wpIn_load_dig _ rfl _ _ rfl dc HDC.out (row_cells32 HCD.out HDC.out) ?_
          refine hK _ _ ?_
          exact toG hG (S02348) (by kernel_rfl)
        refine AllReadyIn.cons rfl (fun K hK => ?_) ?_
        · rw [if_pos (by rfl)]
          refine wpIn_load_dig _ rfl _ _ rfl x0 HX0.out (rest_cell32 HX0R.out HX0.out) ?_
          refine hK _ _ ?_
          exact toG hG (S03458) (by kernel_rfl)
        refine AllReadyIn.cons rfl (fun K hK => ?_) ?_
        · rw [if_pos (by rfl)]
          refine HSL.out _ _ _ _ _ _ _ _ _ rfl rfl ?_
          refine hK _ _ ?_
          exact toG hG (S03489) (by kernel_rfl)
        exact AllReadyIn.nil
      have S0389 : G 8 #[true, false, false, true, false, false, false, false, true, true, false, false] ⟨#[.func (.func 21) #[] #[], .int .i64 (n : Int), .int .i64 (i : Int), .slice ba bl bc, .slice pa pl pc, .pointer (some ⟨w.heap.size, 0, none⟩), undef, undef, undef, .pointer (some ⟨w.heap.size + 1, 0, none⟩), .pointer (some ⟨w.heap.size + 2, 0, none⟩), .int .i64 0, .int .i64 (place : Int), .bool false, .bool false, .int .i64 (n : Int), .int .i64 (i : Int), .bool true, .bool false, undef, .bool false, .slice pa pl pc, .int .i64 (pl : Int), .int .i64 (n : Int), .int .i64 (i : Int), .int .i64 (pl : Int), .bool false, undef, .func (.func 21) #[] #[], .slice ba bl bc, u30, u31, u32, .int .i64 (n : Int), .int .i64 (i : Int), .func (.func 42) #[] #[.pointer (some ⟨w8.heap.size, 0, none⟩), .pointer (some ⟨w8.heap.size + 1, 0, none⟩)], .int .i64 (place : Int), .bool false, .bool false, .func (.func 21) #[] #[], undef, undef, .slice (some ⟨pb, po, none⟩) rl cap, undef, undef, undef, undef, .slice (some ⟨pb, po, none⟩) rl cap, .slice na rm nc, undef], []⟩ V := by
        rw [hG]
        refine wpAnyIn_ready (rs := [1, 2, 4]) (by kernel_rfl) (by simp) ?_
        refine AllReadyIn.cons rfl (fun K hK => ?_) ?_
        · go_simp
          refine hK _ _ ?_
          exact toG hG (S01389) (by kernel_rfl)
        refine AllReadyIn.cons rfl (fun K hK => ?_) ?_
        · rw [if_pos (by rfl)]
          refine wpIn_load_dig _ rfl _ _ rfl dc HDC.out (row_cells32 HCD.out HDC.out) ?_
          refine hK _ _ ?_
          exact toG hG (S02389) (by kernel_rfl)
        refine AllReadyIn.cons rfl (fun K hK => ?_) ?_
        · go_simp
          refine hK _ _ ?_
          exact toG hG (S03489) (by kernel_rfl)
        exact AllReadyIn.nil
      have S1234 : G 8 #[false, true, true, true, true, false, false, false, false, false, false, false] ⟨#[.func (.func 21) #[] #[], .int .i64 (n : Int), .int .i64 (i : Int), .slice ba bl bc, .slice pa pl pc, .pointer (some ⟨w.heap.size, 0, none⟩), undef, undef, undef, .pointer (some ⟨w.heap.size + 1, 0, none⟩), .pointer (some ⟨w.heap.size + 2, 0, none⟩), .int .i64 0, .int .i64 (place : Int), .bool false, .bool false, .int .i64 (n : Int), .int .i64 (i : Int), .bool true, .bool false, undef, .bool false, .slice pa pl pc, .int .i64 (pl : Int), .int .i64 (n : Int), .int .i64 (i : Int), .int .i64 (pl : Int), .bool false, undef, .func (.func 21) #[] #[], .slice ba bl bc, u30, u31, u32, .int .i64 (n : Int), .int .i64 (i : Int), .func (.func 42) #[] #[.pointer (some ⟨w8.heap.size, 0, none⟩), .pointer (some ⟨w8.heap.size + 1, 0, none⟩)], .int .i64 (place : Int), .bool false, .bool false, undef, .int .i64 (place : Int), dg dc, .slice (some ⟨pb, po, none⟩) rl cap, .pointer (some ⟨pb, po, none⟩), undef, undef, undef, undef, undef, undef], []⟩ V := by
        rw [hG]
        refine wpAnyIn_ready (rs := [0, 5, 8]) (by kernel_rfl) (by simp) ?_
        refine AllReadyIn.cons rfl (fun K hK => ?_) ?_
        · go_simp
          refine hK _ _ ?_
          exact toG hG (S01234) (by kernel_rfl)
        refine AllReadyIn.cons rfl (fun K hK => ?_) ?_
        · rw [if_pos (by rfl)]
          refine wpIn_load_dig _ rfl _ _ rfl x0 HX0.out (rest_cell32 HX0R.out HX0.out) ?_
          refine hK _ _ ?_
          exact toG hG (S12345) (by kernel_rfl)
        refine AllReadyIn.cons rfl (fun K hK => ?_) ?_
        · go_simp
          refine hK _ _ ?_
          exact toG hG (S12348) (by kernel_rfl)
        exact AllReadyIn.nil
      have S1238 : G 8 #[false, true, true, true, false, false, false, false, true, false, false, false] ⟨#[.func (.func 21) #[] #[], .int .i64 (n : Int), .int .i64 (i : Int), .slice ba bl bc, .slice pa pl pc, .pointer (some ⟨w.heap.size, 0, none⟩), undef, undef, undef, .pointer (some ⟨w.heap.size + 1, 0, none⟩), .pointer (some ⟨w.heap.size + 2, 0, none⟩), .int .i64 0, .int .i64 (place : Int), .bool false, .bool false, .int .i64 (n : Int), .int .i64 (i : Int), .bool true, .bool false, undef, .bool false, .slice pa pl pc, .int .i64 (pl : Int), .int .i64 (n : Int), .int .i64 (i : Int), .int .i64 (pl : Int), .bool false, undef, .func (.func 21) #[] #[], .slice ba bl bc, u30, u31, u32, .int .i64 (n : Int), .int .i64 (i : Int), .func (.func 42) #[] #[.pointer (some ⟨w8.heap.size, 0, none⟩), .pointer (some ⟨w8.heap.size + 1, 0, none⟩)], .int .i64 (place : Int), .bool false, .bool false, undef, .int .i64 (place : Int), dg dc, .slice (some ⟨pb, po, none⟩) rl cap, undef, undef, undef, undef, .slice (some ⟨pb, po, none⟩) rl cap, undef, undef], []⟩ V := by
        rw [hG]
        refine wpAnyIn_ready (rs := [0, 4, 9]) (by kernel_rfl) (by simp) ?_
        refine AllReadyIn.cons rfl (fun K hK => ?_) ?_
        · go_simp
          refine hK _ _ ?_
          exact toG hG (S01238) (by kernel_rfl)
        refine AllReadyIn.cons rfl (fun K hK => ?_) ?_
        · go_simp
          refine hK _ _ ?_
          exact toG hG (S12348) (by kernel_rfl)
        refine AllReadyIn.cons rfl (fun K hK => ?_) ?_
        · rw [if_pos (by rfl)]
          refine HSL.out _ _ _ _ _ _ _ _ _ rfl rfl ?_
          refine hK _ _ ?_
          exact toG hG (S12389) (by kernel_rfl)
        exact AllReadyIn.nil
      have S1289 : G 8 #[false, true, true, false, false, false, false, false, true, true, false, false] ⟨#[.func (.func 21) #[] #[], .int .i64 (n : Int), .int .i64 (i : Int), .slice ba bl bc, .slice pa pl pc, .pointer (some ⟨w.heap.size, 0, none⟩), undef, undef, undef, .pointer (some ⟨w.heap.size + 1, 0, none⟩), .pointer (some ⟨w.heap.size + 2, 0, none⟩), .int .i64 0, .int .i64 (place : Int), .bool false, .bool false, .int .i64 (n : Int), .int .i64 (i : Int), .bool true, .bool false, undef, .bool false, .slice pa pl pc, .int .i64 (pl : Int), .int .i64 (n : Int), .int .i64 (i : Int), .int .i64 (pl : Int), .bool false, undef, .func (.func 21) #[] #[], .slice ba bl bc, u30, u31, u32, .int .i64 (n : Int), .int .i64 (i : Int), .func (.func 42) #[] #[.pointer (some ⟨w8.heap.size, 0, none⟩), .pointer (some ⟨w8.heap.size + 1, 0, none⟩)], .int .i64 (place : Int), .bool false, .bool false, undef, .int .i64 (place : Int), dg dc, undef, undef, undef, undef, undef, .slice (some ⟨pb, po, none⟩) rl cap, .slice na rm nc, undef], []⟩ V := by
        rw [hG]
        refine wpAnyIn_ready (rs := [0, 3]) (by kernel_rfl) (by simp) ?_
        refine AllReadyIn.cons rfl (fun K hK => ?_) ?_
        · go_simp
          refine hK _ _ ?_
          exact toG hG (S01289) (by kernel_rfl)
        refine AllReadyIn.cons rfl (fun K hK => ?_) ?_
        · go_simp
          refine hK _ _ ?_
          exact toG hG (S12389) (by kernel_rfl)
        exact AllReadyIn.nil
      have S1345 : G 8 #[false, true, false, true, true, true, false, false, false, false, false, false] ⟨#[.func (.func 21) #[] #[], .int .i64 (n : Int), .int .i64 (i : Int), .slice ba bl bc, .slice pa pl pc, .pointer (some ⟨w.heap.size, 0, none⟩), undef, undef, undef, .pointer (some ⟨w.heap.size + 1, 0, none⟩), .pointer (some ⟨w.heap.size + 2, 0, none⟩), .int .i64 0, .int .i64 (place : Int), .bool false, .bool false, .int .i64 (n : Int), .int .i64 (i : Int), .bool true, .bool false, undef, .bool false, .slice pa pl pc, .int .i64 (pl : Int), .int .i64 (n : Int), .int .i64 (i : Int), .int .i64 (pl : Int), .bool false, undef, .func (.func 21) #[] #[], .slice ba bl bc, u30, u31, u32, .int .i64 (n : Int), .int .i64 (i : Int), .func (.func 42) #[] #[.pointer (some ⟨w8.heap.size, 0, none⟩), .pointer (some ⟨w8.heap.size + 1, 0, none⟩)], .int .i64 (place : Int), .bool false, .bool false, undef, .int .i64 (place : Int), undef, .slice (some ⟨pb, po, none⟩) rl cap, .pointer (some ⟨pb, po, none⟩), dg x0, undef, undef, undef, undef, undef], []⟩ V := by
        rw [hG]
        refine wpAnyIn_ready (rs := [0, 2, 8]) (by kernel_rfl) (by simp) ?_
        refine AllReadyIn.cons rfl (fun K hK => ?_) ?_
        · go_simp
          refine hK _ _ ?_
          exact toG hG (S01345) (by kernel_rfl)
        refine AllReadyIn.cons rfl (fun K hK => ?_) ?_
        · rw [if_pos (by rfl)]
          refine wpIn_load_dig _ rfl _ _ rfl dc HDC.out (row_cells32 HCD.out HDC.out) ?_
          refine hK _ _ ?_
          exact toG hG (S12345) (by kernel_rfl)
        refine AllReadyIn.cons rfl (fun K hK => ?_) ?_
        · go_simp
          refine hK _ _ ?_
          exact toG hG (S13458) (by kernel_rfl)
        exact AllReadyIn.nil
      have S1348 : G 8 #[false, true, false, true, true, false, false, false, true, false, false, false] ⟨#[.func (.func 21) #[] #[], .int .i64 (n : Int), .int .i64 (i : Int), .slice ba bl bc, .slice pa pl pc, .pointer (some ⟨w.heap.size, 0, none⟩), undef, undef, undef, .pointer (some ⟨w.heap.size + 1, 0, none⟩), .pointer (some ⟨w.heap.size + 2, 0, none⟩), .int .i64 0, .int .i64 (place : Int), .bool false, .bool false, .int .i64 (n : Int), .int .i64 (i : Int), .bool true, .bool false, undef, .bool false, .slice pa pl pc, .int .i64 (pl : Int), .int .i64 (n : Int), .int .i64 (i : Int), .int .i64 (pl : Int), .bool false, undef, .func (.func 21) #[] #[], .slice ba bl bc, u30, u31, u32, .int .i64 (n : Int), .int .i64 (i : Int), .func (.func 42) #[] #[.pointer (some ⟨w8.heap.size, 0, none⟩), .pointer (some ⟨w8.heap.size + 1, 0, none⟩)], .int .i64 (place : Int), .bool false, .bool false, undef, .int .i64 (place : Int), undef, .slice (some ⟨pb, po, none⟩) rl cap, .pointer (some ⟨pb, po, none⟩), undef, undef, undef, .slice (some ⟨pb, po, none⟩) rl cap, undef, undef], []⟩ V := by
        rw [hG]
        refine wpAnyIn_ready (rs := [0, 2, 5, 9]) (by kernel_rfl) (by simp) ?_
        refine AllReadyIn.cons rfl (fun K hK => ?_) ?_
        · go_simp
          refine hK _ _ ?_
          exact toG hG (S01348) (by kernel_rfl)
        refine AllReadyIn.cons rfl (fun K hK => ?_) ?_
        · rw [if_pos (by rfl)]
          refine wpIn_load_dig _ rfl _ _ rfl dc HDC.out (row_cells32 HCD.out HDC.out) ?_
          refine hK _ _ ?_
          exact toG hG (S12348) (by kernel_rfl)
        refine AllReadyIn.cons rfl (fun K hK => ?_) ?_
        · rw [if_pos (by rfl)]
          refine wpIn_load_dig _ rfl _ _ rfl x0 HX0.out (rest_cell32 HX0R.out HX0.out) ?_
          refine hK _ _ ?_
          exact toG hG (S13458) (by kernel_rfl)
        refine AllReadyIn.cons rfl (fun K hK => ?_) ?_
        · rw [if_pos (by rfl)]
          refine HSL.out _ _ _ _ _ _ _ _ _ rfl rfl ?_
          refine hK _ _ ?_
          exact toG hG (S13489) (by kernel_rfl)
        exact AllReadyIn.nil
      have S1389 : G 8 #[false, true, false, true, false, false, false, false, true, true, false, false] ⟨#[.func (.func 21) #[] #[], .int .i64 (n : Int), .int .i64 (i : Int), .slice ba bl bc, .slice pa pl pc, .pointer (some ⟨w.heap.size, 0, none⟩), undef, undef, undef, .pointer (some ⟨w.heap.size + 1, 0, none⟩), .pointer (some ⟨w.heap.size + 2, 0, none⟩), .int .i64 0, .int .i64 (place : Int), .bool false, .bool false, .int .i64 (n : Int), .int .i64 (i : Int), .bool true, .bool false, undef, .bool false, .slice pa pl pc, .int .i64 (pl : Int), .int .i64 (n : Int), .int .i64 (i : Int), .int .i64 (pl : Int), .bool false, undef, .func (.func 21) #[] #[], .slice ba bl bc, u30, u31, u32, .int .i64 (n : Int), .int .i64 (i : Int), .func (.func 42) #[] #[.pointer (some ⟨w8.heap.size, 0, none⟩), .pointer (some ⟨w8.heap.size + 1, 0, none⟩)], .int .i64 (place : Int), .bool false, .bool false, undef, .int .i64 (place : Int), undef, .slice (some ⟨pb, po, none⟩) rl cap, undef, undef, undef, undef, .slice (some ⟨pb, po, none⟩) rl cap, .slice na rm nc, undef], []⟩ V := by
        rw [hG]
        refine wpAnyIn_ready (rs := [0, 2, 4]) (by kernel_rfl) (by simp) ?_
        refine AllReadyIn.cons rfl (fun K hK => ?_) ?_
        · go_simp
          refine hK _ _ ?_
          exact toG hG (S01389) (by kernel_rfl)
        refine AllReadyIn.cons rfl (fun K hK => ?_) ?_
        · rw [if_pos (by rfl)]
          refine wpIn_load_dig _ rfl _ _ rfl dc HDC.out (row_cells32 HCD.out HDC.out) ?_
          refine hK _ _ ?_
          exact toG hG (S12389) (by kernel_rfl)
        refine AllReadyIn.cons rfl (fun K hK => ?_) ?_
        · go_simp
          refine hK _ _ ?_
          exact toG hG (S13489) (by kernel_rfl)
        exact AllReadyIn.nil
      have S2345 : G 8 #[false, false, true, true, true, true, false, false, false, false, false, false] ⟨#[.func (.func 21) #[] #[], .int .i64 (n : Int), .int .i64 (i : Int), .slice ba bl bc, .slice pa pl pc, .pointer (some ⟨w.heap.size, 0, none⟩), undef, undef, undef, .pointer (some ⟨w.heap.size + 1, 0, none⟩), .pointer (some ⟨w.heap.size + 2, 0, none⟩), .int .i64 0, .int .i64 (place : Int), .bool false, .bool false, .int .i64 (n : Int), .int .i64 (i : Int), .bool true, .bool false, undef, .bool false, .slice pa pl pc, .int .i64 (pl : Int), .int .i64 (n : Int), .int .i64 (i : Int), .int .i64 (pl : Int), .bool false, undef, .func (.func 21) #[] #[], .slice ba bl bc, u30, u31, u32, .int .i64 (n : Int), .int .i64 (i : Int), .func (.func 42) #[] #[.pointer (some ⟨w8.heap.size, 0, none⟩), .pointer (some ⟨w8.heap.size + 1, 0, none⟩)], .int .i64 (place : Int), .bool false, .bool false, undef, undef, dg dc, .slice (some ⟨pb, po, none⟩) rl cap, .pointer (some ⟨pb, po, none⟩), dg x0, undef, undef, undef, undef, undef], []⟩ V := by
        rw [hG]
        refine wpAnyIn_ready (rs := [0, 1, 8]) (by kernel_rfl) (by simp) ?_
        refine AllReadyIn.cons rfl (fun K hK => ?_) ?_
        · go_simp
          refine hK _ _ ?_
          exact toG hG (S02345) (by kernel_rfl)
        refine AllReadyIn.cons rfl (fun K hK => ?_) ?_
        · go_simp
          refine hK _ _ ?_
          exact toG hG (S12345) (by kernel_rfl)
        refine AllReadyIn.cons rfl (fun K hK => ?_) ?_
        · go_simp
          refine hK _ _ ?_
          exact toG hG (S23458) (by kernel_rfl)
        exact AllReadyIn.nil
      have S2348 : G 8 #[false, false, true, true, true, false, false, false, true, false, false, false] ⟨#[.func (.func 21) #[] #[], .int .i64 (n : Int), .int .i64 (i : Int), .slice ba bl bc, .slice pa pl pc, .pointer (some ⟨w.heap.size, 0, none⟩), undef, undef, undef, .pointer (some ⟨w.heap.size + 1, 0, none⟩), .pointer (some ⟨w.heap.size + 2, 0, none⟩), .int .i64 0, .int .i64 (place : Int), .bool false, .bool false, .int .i64 (n : Int), .int .i64 (i : Int), .bool true, .bool false, undef, .bool false, .slice pa pl pc, .int .i64 (pl : Int), .int .i64 (n : Int), .int .i64 (i : Int), .int .i64 (pl : Int), .bool false, undef, .func (.func 21) #[] #[], .slice ba bl bc, u30, u31, u32, .int .i64 (n : Int), .int .i64 (i : Int), .func (.func 42) #[] #[.pointer (some ⟨w8.heap.size, 0, none⟩), .pointer (some ⟨w8.heap.size + 1, 0, none⟩)], .int .i64 (place : Int), .bool false, .bool false, undef, undef, dg dc, .slice (some ⟨pb, po, none⟩) rl cap, .pointer (some ⟨pb, po, none⟩), undef, undef, undef, .slice (some ⟨pb, po, none⟩) rl cap, undef, undef], []⟩ V := by
        rw [hG]
        refine wpAnyIn_ready (rs := [0, 1, 5, 9]) (by kernel_rfl) (by simp) ?_
        refine AllReadyIn.cons rfl (fun K hK => ?_) ?_
        · go_simp
          refine hK _ _ ?_
          exact toG hG (S02348) (by kernel_rfl)
        refine AllReadyIn.cons rfl (fun K hK => ?_) ?_
        · go_simp
          refine hK _ _ ?_
          exact toG hG (S12348) (by kernel_rfl)
        refine AllReadyIn.cons rfl (fun K hK => ?_) ?_
        · rw [if_pos (by rfl)]
          refine wpIn_load_dig _ rfl _ _ rfl x0 HX0.out (rest_cell32 HX0R.out HX0.out) ?_
          refine hK _ _ ?_
          exact toG hG (S23458) (by kernel_rfl)
        refine AllReadyIn.cons rfl (fun K hK => ?_) ?_
        · rw [if_pos (by rfl)]
          refine HSL.out _ _ _ _ _ _ _ _ _ rfl rfl ?_
          refine hK _ _ ?_
          exact toG hG (S23489) (by kernel_rfl)
        exact AllReadyIn.nil
      have S2389 : G 8 #[false, false, true, true, false, false, false, false, true, true, false, false] ⟨#[.func (.func 21) #[] #[], .int .i64 (n : Int), .int .i64 (i : Int), .slice ba bl bc, .slice pa pl pc, .pointer (some ⟨w.heap.size, 0, none⟩), undef, undef, undef, .pointer (some ⟨w.heap.size + 1, 0, none⟩), .pointer (some ⟨w.heap.size + 2, 0, none⟩), .int .i64 0, .int .i64 (place : Int), .bool false, .bool false, .int .i64 (n : Int), .int .i64 (i : Int), .bool true, .bool false, undef, .bool false, .slice pa pl pc, .int .i64 (pl : Int), .int .i64 (n : Int), .int .i64 (i : Int), .int .i64 (pl : Int), .bool false, undef, .func (.func 21) #[] #[], .slice ba bl bc, u30, u31, u32, .int .i64 (n : Int), .int .i64 (i : Int), .func (.func 42) #[] #[.pointer (some ⟨w8.heap.size, 0, none⟩), .pointer (some ⟨w8.heap.size + 1, 0, none⟩)], .int .i64 (place : Int), .bool false, .bool false, undef, undef, dg dc, .slice (some ⟨pb, po, none⟩) rl cap, undef, undef, undef, undef, .slice (some ⟨pb, po, none⟩) rl cap, .slice na rm nc, undef], []⟩ V := by
        rw [hG]
        refine wpAnyIn_ready (rs := [0, 1, 4]) (by kernel_rfl) (by simp) ?_
        refine AllReadyIn.cons rfl (fun K hK => ?_) ?_
        · go_simp
          refine hK _ _ ?_
          exact toG hG (S02389) (by kernel_rfl)
        refine AllReadyIn.cons rfl (fun K hK => ?_) ?_
        · go_simp
          refine hK _ _ ?_
          exact toG hG (S12389) (by kernel_rfl)
        refine AllReadyIn.cons rfl (fun K hK => ?_) ?_
        · go_simp
          refine hK _ _ ?_
          exact toG hG (S23489) (by kernel_rfl)
        exact AllReadyIn.nil
      have S3458 : G 8 #[false, false, false, true, true, true, false, false, true, false, false, false] ⟨#[.func (.func 21) #[] #[], .int .i64 (n : Int), .int .i64 (i : Int), .slice ba bl bc, .slice pa pl pc, .pointer (some ⟨w.heap.size, 0, none⟩), undef, undef, undef, .pointer (some ⟨w.heap.size + 1, 0, none⟩), .pointer (some ⟨w.heap.size + 2, 0, none⟩), .int .i64 0, .int .i64 (place : Int), .bool false, .bool false, .int .i64 (n : Int), .int .i64 (i : Int), .bool true, .bool false, undef, .bool false, .slice pa pl pc, .int .i64 (pl : Int), .int .i64 (n : Int), .int .i64 (i : Int), .int .i64 (pl : Int), .bool false, undef, .func (.func 21) #[] #[], .slice ba bl bc, u30, u31, u32, .int .i64 (n : Int), .int .i64 (i : Int), .func (.func 42) #[] #[.pointer (some ⟨w8.heap.size, 0, none⟩), .pointer (some ⟨w8.heap.size + 1, 0, none⟩)], .int .i64 (place : Int), .bool false, .bool false, undef, undef, undef, .slice (some ⟨pb, po, none⟩) rl cap, .pointer (some ⟨pb, po, none⟩), dg x0, undef, undef, .slice (some ⟨pb, po, none⟩) rl cap, undef, undef], []⟩ V := by
        rw [hG]
        refine wpAnyIn_ready (rs := [0, 1, 2, 9]) (by kernel_rfl) (by simp) ?_
        refine AllReadyIn.cons rfl (fun K hK => ?_) ?_
        · go_simp
          refine hK _ _ ?_
          exact toG hG (S03458) (by kernel_rfl)
        refine AllReadyIn.cons rfl (fun K hK => ?_) ?_
        · go_simp
          refine hK _ _ ?_
          exact toG hG (S13458) (by kernel_rfl)
        refine AllReadyIn.cons rfl (fun K hK => ?_) ?_
        · rw [if_pos (by rfl)]
          refine wpIn_load_dig _ rfl _ _ rfl dc HDC.out (row_cells32 HCD.out HDC.out) ?_
          refine hK _ _ ?_
          exact toG hG (S23458) (by kernel_rfl)
        refine AllReadyIn.cons rfl (fun K hK => ?_) ?_
        · rw [if_pos (by rfl)]
          refine HSL.out _ _ _ _ _ _ _ _ _ rfl rfl ?_
          refine hK _ _ ?_
          exact toG hG (S34589) (by kernel_rfl)
        exact AllReadyIn.nil
      have S3489 : G 8 #[false, false, false, true, true, false, false, false, true, true, false, false] ⟨#[.func (.func 21) #[] #[], .int .i64 (n : Int), .int .i64 (i : Int), .slice ba bl bc, .slice pa pl pc, .pointer (some ⟨w.heap.size, 0, none⟩), undef, undef, undef, .pointer (some ⟨w.heap.size + 1, 0, none⟩), .pointer (some ⟨w.heap.size + 2, 0, none⟩), .int .i64 0, .int .i64 (place : Int), .bool false, .bool false, .int .i64 (n : Int), .int .i64 (i : Int), .bool true, .bool false, undef, .bool false, .slice pa pl pc, .int .i64 (pl : Int), .int .i64 (n : Int), .int .i64 (i : Int), .int .i64 (pl : Int), .bool false, undef, .func (.func 21) #[] #[], .slice ba bl bc, u30, u31, u32, .int .i64 (n : Int), .int .i64 (i : Int), .func (.func 42) #[] #[.pointer (some ⟨w8.heap.size, 0, none⟩), .pointer (some ⟨w8.heap.size + 1, 0, none⟩)], .int .i64 (place : Int), .bool false, .bool false, undef, undef, undef, .slice (some ⟨pb, po, none⟩) rl cap, .pointer (some ⟨pb, po, none⟩), undef, undef, undef, .slice (some ⟨pb, po, none⟩) rl cap, .slice na rm nc, undef], []⟩ V := by
        rw [hG]
        refine wpAnyIn_ready (rs := [0, 1, 2, 5]) (by kernel_rfl) (by simp) ?_
        refine AllReadyIn.cons rfl (fun K hK => ?_) ?_
        · go_simp
          refine hK _ _ ?_
          exact toG hG (S03489) (by kernel_rfl)
        refine AllReadyIn.cons rfl (fun K hK => ?_) ?_
        · go_simp
          refine hK _ _ ?_
          exact toG hG (S13489) (by kernel_rfl)
        refine AllReadyIn.cons rfl (fun K hK => ?_) ?_
        · rw [if_pos (by rfl)]
          refine wpIn_load_dig _ rfl _ _ rfl dc HDC.out (row_cells32 HCD.out HDC.out) ?_
          refine hK _ _ ?_
          exact toG hG (S23489) (by kernel_rfl)
        refine AllReadyIn.cons rfl (fun K hK => ?_) ?_
        · rw [if_pos (by rfl)]
          refine wpIn_load_dig _ rfl _ _ rfl x0 HX0.out (rest_cell32 HX0R.out HX0.out) ?_
          refine hK _ _ ?_
          exact toG hG (S34589) (by kernel_rfl)
        exact AllReadyIn.nil
      have S012 : G 9 #[true, true, true, false, false, false, false, false, false, false, false, false] ⟨#[.func (.func 21) #[] #[], .int .i64 (n : Int), .int .i64 (i : Int), .slice ba bl bc, .slice pa pl pc, .pointer (some ⟨w.heap.size, 0, none⟩), undef, undef, undef, .pointer (some ⟨w.heap.size + 1, 0, none⟩), .pointer (some ⟨w.heap.size + 2, 0, none⟩), .int .i64 0, .int .i64 (place : Int), .bool false, .bool false, .int .i64 (n : Int), .int .i64 (i : Int), .bool true, .bool false, undef, .bool false, .slice pa pl pc, .int .i64 (pl : Int), .int .i64 (n : Int), .int .i64 (i : Int), .int .i64 (pl : Int), .bool false, undef, .func (.func 21) #[] #[], .slice ba bl bc, u30, u31, u32, .int .i64 (n : Int), .int .i64 (i : Int), .func (.func 42) #[] #[.pointer (some ⟨w8.heap.size, 0, none⟩), .pointer (some ⟨w8.heap.size + 1, 0, none⟩)], .int .i64 (place : Int), .bool false, .bool false, .func (.func 21) #[] #[], .int .i64 (place : Int), dg dc, undef, undef, undef, undef, undef, undef, undef, undef], []⟩ V := by
        rw [hG]
        refine wpAnyIn_ready (rs := [3, 8]) (by kernel_rfl) (by simp) ?_
        refine AllReadyIn.cons rfl (fun K hK => ?_) ?_
        · go_simp
          refine hK _ _ ?_
          exact toG hG (S0123) (by kernel_rfl)
        refine AllReadyIn.cons rfl (fun K hK => ?_) ?_
        · go_simp
          refine hK _ _ ?_
          exact toG hG (S0128) (by kernel_rfl)
        exact AllReadyIn.nil
      have S013 : G 9 #[true, true, false, true, false, false, false, false, false, false, false, false] ⟨#[.func (.func 21) #[] #[], .int .i64 (n : Int), .int .i64 (i : Int), .slice ba bl bc, .slice pa pl pc, .pointer (some ⟨w.heap.size, 0, none⟩), undef, undef, undef, .pointer (some ⟨w.heap.size + 1, 0, none⟩), .pointer (some ⟨w.heap.size + 2, 0, none⟩), .int .i64 0, .int .i64 (place : Int), .bool false, .bool false, .int .i64 (n : Int), .int .i64 (i : Int), .bool true, .bool false, undef, .bool false, .slice pa pl pc, .int .i64 (pl : Int), .int .i64 (n : Int), .int .i64 (i : Int), .int .i64 (pl : Int), .bool false, undef, .func (.func 21) #[] #[], .slice ba bl bc, u30, u31, u32, .int .i64 (n : Int), .int .i64 (i : Int), .func (.func 42) #[] #[.pointer (some ⟨w8.heap.size, 0, none⟩), .pointer (some ⟨w8.heap.size + 1, 0, none⟩)], .int .i64 (place : Int), .bool false, .bool false, .func (.func 21) #[] #[], .int .i64 (place : Int), undef, .slice (some ⟨pb, po, none⟩) rl cap, undef, undef, undef, undef, undef, undef, undef], []⟩ V := by
        rw [hG]
        refine wpAnyIn_ready (rs := [2, 4, 8]) (by kernel_rfl) (by simp) ?_
        refine AllReadyIn.cons rfl (fun K hK => ?_) ?_
        · rw [if_pos (by rfl)]
          refine wpIn_load_dig _ rfl _ _ rfl dc HDC.out (row_cells32 HCD.out HDC.out) ?_
          refine hK _ _ ?_
          exact toG hG (S0123) (by kernel_rfl)
        refine AllReadyIn.cons rfl (fun K hK => ?_) ?_
        · go_simp
          refine hK _ _ ?_
          exact toG hG (S0134) (by kernel_rfl)
        refine AllReadyIn.cons rfl (fun K hK => ?_) ?_
        · go_simp
          refine hK _ _ ?_
          exact toG hG (S0138) (by kernel_rfl)
        exact AllReadyIn.nil
      have S018 : G 9 #[true, true, false, false, false, false, false, false, true, false, false, false] ⟨#[.func (.func 21) #[] #[], .int .i64 (n : Int), .int .i64 (i : Int), .slice ba bl bc, .slice pa pl pc, .pointer (some ⟨w.heap.size, 0, none⟩), undef, undef, undef, .pointer (some ⟨w.heap.size + 1, 0, none⟩), .pointer (some ⟨w.heap.size + 2, 0, none⟩), .int .i64 0, .int .i64 (place : Int), .bool false, .bool false, .int .i64 (n : Int), .int .i64 (i : Int), .bool true, .bool false, undef, .bool false, .slice pa pl pc, .int .i64 (pl : Int), .int .i64 (n : Int), .int .i64 (i : Int), .int .i64 (pl : Int), .bool false, undef, .func (.func 21) #[] #[], .slice ba bl bc, u30, u31, u32, .int .i64 (n : Int), .int .i64 (i : Int), .func (.func 42) #[] #[.pointer (some ⟨w8.heap.size, 0, none⟩), .pointer (some ⟨w8.heap.size + 1, 0, none⟩)], .int .i64 (place : Int), .bool false, .bool false, .func (.func 21) #[] #[], .int .i64 (place : Int), undef, undef, undef, undef, undef, undef, .slice (some ⟨pb, po, none⟩) rl cap, undef, undef], []⟩ V := by
        rw [hG]
        refine wpAnyIn_ready (rs := [2, 3, 9]) (by kernel_rfl) (by simp) ?_
        refine AllReadyIn.cons rfl (fun K hK => ?_) ?_
        · rw [if_pos (by rfl)]
          refine wpIn_load_dig _ rfl _ _ rfl dc HDC.out (row_cells32 HCD.out HDC.out) ?_
          refine hK _ _ ?_
          exact toG hG (S0128) (by kernel_rfl)
        refine AllReadyIn.cons rfl (fun K hK => ?_) ?_
        · go_simp
          refine hK _ _ ?_
          exact toG hG (S0138) (by kernel_rfl)
        refine AllReadyIn.cons rfl (fun K hK => ?_) ?_
        · rw [if_pos (by rfl)]
          refine HSL.out _ _ _ _ _ _ _ _ _ rfl rfl ?_
          refine hK _ _ ?_
          exact toG hG (S0189) (by kernel_rfl)
        exact AllReadyIn.nil
      have S023 : G 9 #[true, false, true, true, false, false, false, false, false, false, false, false] ⟨#[.func (.func 21) #[] #[], .int .i64 (n : Int), .int .i64 (i : Int), .slice ba bl bc, .slice pa pl pc, .pointer (some ⟨w.heap.size, 0, none⟩), undef, undef, undef, .pointer (some ⟨w.heap.size + 1, 0, none⟩), .pointer (some ⟨w.heap.size + 2, 0, none⟩), .int .i64 0, .int .i64 (place : Int), .bool false, .bool false, .int .i64 (n : Int), .int .i64 (i : Int), .bool true, .bool false, undef, .bool false, .slice pa pl pc, .int .i64 (pl : Int), .int .i64 (n : Int), .int .i64 (i : Int), .int .i64 (pl : Int), .bool false, undef, .func (.func 21) #[] #[], .slice ba bl bc, u30, u31, u32, .int .i64 (n : Int), .int .i64 (i : Int), .func (.func 42) #[] #[.pointer (some ⟨w8.heap.size, 0, none⟩), .pointer (some ⟨w8.heap.size + 1, 0, none⟩)], .int .i64 (place : Int), .bool false, .bool false, .func (.func 21) #[] #[], undef, dg dc, .slice (some ⟨pb, po, none⟩) rl cap, undef, undef, undef, undef, undef, undef, undef], []⟩ V := by
        rw [hG]
        refine wpAnyIn_ready (rs := [1, 4, 8]) (by kernel_rfl) (by simp) ?_
        refine AllReadyIn.cons rfl (fun K hK => ?_) ?_
        · go_simp
          refine hK _ _ ?_
          exact toG hG (S0123) (by kernel_rfl)
        refine AllReadyIn.cons rfl (fun K hK => ?_) ?_
        · go_simp
          refine hK _ _ ?_
          exact toG hG (S0234) (by kernel_rfl)
        refine AllReadyIn.cons rfl (fun K hK => ?_) ?_
        · go_simp
          refine hK _ _ ?_
          exact toG hG (S0238) (by kernel_rfl)
        exact AllReadyIn.nil
      have S028 : G 9 #[true, false, true, false, false, false, false, false, true, false, false, false] ⟨#[.func (.func 21) #[] #[], .int .i64 (n : Int), .int .i64 (i : Int), .slice ba bl bc, .slice pa pl pc, .pointer (some ⟨w.heap.size, 0, none⟩), undef, undef, undef, .pointer (some ⟨w.heap.size + 1, 0, none⟩), .pointer (some ⟨w.heap.size + 2, 0, none⟩), .int .i64 0, .int .i64 (place : Int), .bool false, .bool false, .int .i64 (n : Int), .int .i64 (i : Int), .bool true, .bool false, undef, .bool false, .slice pa pl pc, .int .i64 (pl : Int), .int .i64 (n : Int), .int .i64 (i : Int), .int .i64 (pl : Int), .bool false, undef, .func (.func 21) #[] #[], .slice ba bl bc, u30, u31, u32, .int .i64 (n : Int), .int .i64 (i : Int), .func (.func 42) #[] #[.pointer (some ⟨w8.heap.size, 0, none⟩), .pointer (some ⟨w8.heap.size + 1, 0, none⟩)], .int .i64 (place : Int), .bool false, .bool false, .func (.func 21) #[] #[], undef, dg dc, undef, undef, undef, undef, undef, .slice (some ⟨pb, po, none⟩) rl cap, undef, undef], []⟩ V := by
        rw [hG]
        refine wpAnyIn_ready (rs := [1, 3, 9]) (by kernel_rfl) (by simp) ?_
        refine AllReadyIn.cons rfl (fun K hK => ?_) ?_
        · go_simp
          refine hK _ _ ?_
          exact toG hG (S0128) (by kernel_rfl)
        refine AllReadyIn.cons rfl (fun K hK => ?_) ?_
        · go_simp
          refine hK _ _ ?_
          exact toG hG (S0238) (by kernel_rfl)
        refine AllReadyIn.cons rfl (fun K hK => ?_) ?_
        · rw [if_pos (by rfl)]
          refine HSL.out _ _ _ _ _ _ _ _ _ rfl rfl ?_
          refine hK _ _ ?_
          exact toG hG (S0289) (by kernel_rfl)
        exact AllReadyIn.nil
      have S034 : G 9 #[true, false, false, true, true, false, false, false, false, false, false, false] ⟨#[.func (.func 21) #[] #[], .int .i64 (n : Int), .int .i64 (i : Int), .slice ba bl bc, .slice pa pl pc, .pointer (some ⟨w.heap.size, 0, none⟩), undef, undef, undef, .pointer (some ⟨w.heap.size + 1, 0, none⟩), .pointer (some ⟨w.heap.size + 2, 0, none⟩), .int .i64 0, .int .i64 (place : Int), .bool false, .bool false, .int .i64 (n : Int), .int .i64 (i : Int), .bool true, .bool false, undef, .bool false, .slice pa pl pc, .int .i64 (pl : Int), .int .i64 (n : Int), .int .i64 (i : Int), .int .i64 (pl : Int), .bool false, undef, .func (.func 21) #[] #[], .slice ba bl bc, u30, u31, u32, .int .i64 (n : Int), .int .i64 (i : Int), .func (.func 42) #[] #[.pointer (some ⟨w8.heap.size, 0, none⟩), .pointer (some ⟨w8.heap.size + 1, 0, none⟩)], .int .i64 (place : Int), .bool false, .bool false, .func (.func 21) #[] #[], undef, undef, .slice (some ⟨pb, po, none⟩) rl cap, .pointer (some ⟨pb, po, none⟩), undef, undef, undef, undef, undef, undef], []⟩ V := by
        rw [hG]
        refine wpAnyIn_ready (rs := [1, 2, 5, 8]) (by kernel_rfl) (by simp) ?_
        refine AllReadyIn.cons rfl (fun K hK => ?_) ?_
        · go_simp
          refine hK _ _ ?_
          exact toG hG (S0134) (by kernel_rfl)
        refine AllReadyIn.cons rfl (fun K hK => ?_) ?_
        · rw [if_pos (by rfl)]
          refine wpIn_load_dig _ rfl _ _ rfl dc HDC.out (row_cells32 HCD.out HDC.out) ?_
          refine hK _ _ ?_
          exact toG hG (S0234) (by kernel_rfl)
        refine AllReadyIn.cons rfl (fun K hK => ?_) ?_
        · rw [if_pos (by rfl)]
          refine wpIn_load_dig _ rfl _ _ rfl x0 HX0.out (rest_cell32 HX0R.out HX0.out) ?_
          refine hK _ _ ?_
          exact toG hG (S0345) (by kernel_rfl)
        refine AllReadyIn.cons rfl (fun K hK => ?_) ?_
        · go_simp
          refine hK _ _ ?_
          exact toG hG (S0348) (by kernel_rfl)
        exact AllReadyIn.nil
      have S038 : G 9 #[true, false, false, true, false, false, false, false, true, false, false, false] ⟨#[.func (.func 21) #[] #[], .int .i64 (n : Int), .int .i64 (i : Int), .slice ba bl bc, .slice pa pl pc, .pointer (some ⟨w.heap.size, 0, none⟩), undef, undef, undef, .pointer (some ⟨w.heap.size + 1, 0, none⟩), .pointer (some ⟨w.heap.size + 2, 0, none⟩), .int .i64 0, .int .i64 (place : Int), .bool false, .bool false, .int .i64 (n : Int), .int .i64 (i : Int), .bool true, .bool false, undef, .bool false, .slice pa pl pc, .int .i64 (pl : Int), .int .i64 (n : Int), .int .i64 (i : Int), .int .i64 (pl : Int), .bool false, undef, .func (.func 21) #[] #[], .slice ba bl bc, u30, u31, u32, .int .i64 (n : Int), .int .i64 (i : Int), .func (.func 42) #[] #[.pointer (some ⟨w8.heap.size, 0, none⟩), .pointer (some ⟨w8.heap.size + 1, 0, none⟩)], .int .i64 (place : Int), .bool false, .bool false, .func (.func 21) #[] #[], undef, undef, .slice (some ⟨pb, po, none⟩) rl cap, undef, undef, undef, undef, .slice (some ⟨pb, po, none⟩) rl cap, undef, undef], []⟩ V := by
        rw [hG]
        refine wpAnyIn_ready (rs := [1, 2, 4, 9]) (by kernel_rfl) (by simp) ?_
        refine AllReadyIn.cons rfl (fun K hK => ?_) ?_
        · go_simp
          refine hK _ _ ?_
          exact toG hG (S0138) (by kernel_rfl)
        refine AllReadyIn.cons rfl (fun K hK => ?_) ?_
        · rw [if_pos (by rfl)]
          refine wpIn_load_dig _ rfl _ _ rfl dc HDC.out (row_cells32 HCD.out HDC.out) ?_
          refine hK _ _ ?_
          exact toG hG (S0238) (by kernel_rfl)
        refine AllReadyIn.cons rfl (fun K hK => ?_) ?_
        · go_simp
          refine hK _ _ ?_
          exact toG hG (S0348) (by kernel_rfl)
        refine AllReadyIn.cons rfl (fun K hK => ?_) ?_
        · rw [if_pos (by rfl)]
          refine HSL.out _ _ _ _ _ _ _ _ _ rfl rfl ?_
          refine hK _ _ ?_
          exact toG hG (S0389) (by kernel_rfl)
        exact AllReadyIn.nil
      have S089 : G 9 #[true, false, false, false, false, false, false, false, true, true, false, false] ⟨#[.func (.func 21) #[] #[], .int .i64 (n : Int), .int .i64 (i : Int), .slice ba bl bc, .slice pa pl pc, .pointer (some ⟨w.heap.size, 0, none⟩), undef, undef, undef, .pointer (some ⟨w.heap.size + 1, 0, none⟩), .pointer (some ⟨w.heap.size + 2, 0, none⟩), .int .i64 0, .int .i64 (place : Int), .bool false, .bool false, .int .i64 (n : Int), .int .i64 (i : Int), .bool true, .bool false, undef, .bool false, .slice pa pl pc, .int .i64 (pl : Int), .int .i64 (n : Int), .int .i64 (i : Int), .int .i64 (pl : Int), .bool false, undef, .func (.func 21) #[] #[], .slice ba bl bc, u30, u31, u32, .int .i64 (n : Int), .int .i64 (i : Int), .func (.func 42) #[] #[.pointer (some ⟨w8.heap.size, 0, none⟩), .pointer (some ⟨w8.heap.size + 1, 0, none⟩)], .int .i64 (place : Int), .bool false, .bool false, .func (.func 21) #[] #[], undef, undef, undef, undef, undef, undef, undef, .slice (some ⟨pb, po, none⟩) rl cap, .slice na rm nc, undef], []⟩ V := by
        rw [hG]
        refine wpAnyIn_ready (rs := [1, 2, 3]) (by kernel_rfl) (by simp) ?_
        refine AllReadyIn.cons rfl (fun K hK => ?_) ?_
        · go_simp
          refine hK _ _ ?_
          exact toG hG (S0189) (by kernel_rfl)
        refine AllReadyIn.cons rfl (fun K hK => ?_) ?_
        · rw [if_pos (by rfl)]
          refine wpIn_load_dig _ rfl _ _ rfl dc HDC.out (row_cells32 HCD.out HDC.out) ?_
          refine hK _ _ ?_
          exact toG hG (S0289) (by kernel_rfl)
        refine AllReadyIn.cons rfl (fun K hK => ?_) ?_
        · go_simp
          refine hK _ _ ?_
          exact toG hG (S0389) (by kernel_rfl)
        exact AllReadyIn.nil
      have S123 : G 9 #[false, true, true, true, false, false, false, false, false, false, false, false] ⟨#[.func (.func 21) #[] #[], .int .i64 (n : Int), .int .i64 (i : Int), .slice ba bl bc, .slice pa pl pc, .pointer (some ⟨w.heap.size, 0, none⟩), undef, undef, undef, .pointer (some ⟨w.heap.size + 1, 0, none⟩), .pointer (some ⟨w.heap.size + 2, 0, none⟩), .int .i64 0, .int .i64 (place : Int), .bool false, .bool false, .int .i64 (n : Int), .int .i64 (i : Int), .bool true, .bool false, undef, .bool false, .slice pa pl pc, .int .i64 (pl : Int), .int .i64 (n : Int), .int .i64 (i : Int), .int .i64 (pl : Int), .bool false, undef, .func (.func 21) #[] #[], .slice ba bl bc, u30, u31, u32, .int .i64 (n : Int), .int .i64 (i : Int), .func (.func 42) #[] #[.pointer (some ⟨w8.heap.size, 0, none⟩), .pointer (some ⟨w8.heap.size + 1, 0, none⟩)], .int .i64 (place : Int), .bool false, .bool false, undef, .int .i64 (place : Int), dg dc, .slice (some ⟨pb, po, none⟩) rl cap, undef, undef, undef, undef, undef, undef, undef], []⟩ V := by
        rw [hG]
        refine wpAnyIn_ready (rs := [0, 4, 8]) (by kernel_rfl) (by simp) ?_
        refine AllReadyIn.cons rfl (fun K hK => ?_) ?_
        · go_simp
          refine hK _ _ ?_
          exact toG hG (S0123) (by kernel_rfl)
        refine AllReadyIn.cons rfl (fun K hK => ?_) ?_
        · go_simp
          refine hK _ _ ?_
          exact toG hG (S1234) (by kernel_rfl)
        refine AllReadyIn.cons rfl (fun K hK => ?_) ?_
        · go_simp
          refine hK _ _ ?_
          exact toG hG (S1238) (by kernel_rfl)
        exact AllReadyIn.nil
      have S128 : G 9 #[false, true, true, false, false, false, false, false, true, false, false, false] ⟨#[.func (.func 21) #[] #[], .int .i64 (n : Int), .int .i64 (i : Int), .slice ba bl bc, .slice pa pl pc, .pointer (some ⟨w.heap.size, 0, none⟩), undef, undef, undef, .pointer (some ⟨w.heap.size + 1, 0, none⟩), .pointer (some ⟨w.heap.size + 2, 0, none⟩), .int .i64 0, .int .i64 (place : Int), .bool false, .bool false, .int .i64 (n : Int), .int .i64 (i : Int), .bool true, .bool false, undef, .bool false, .slice pa pl pc, .int .i64 (pl : Int), .int .i64 (n : Int), .int .i64 (i : Int), .int .i64 (pl : Int), .bool false, undef, .func (.func 21) #[] #[], .slice ba bl bc, u30, u31, u32, .int .i64 (n : Int), .int .i64 (i : Int), .func (.func 42) #[] #[.pointer (some ⟨w8.heap.size, 0, none⟩), .pointer (some ⟨w8.heap.size + 1, 0, none⟩)], .int .i64 (place : Int), .bool false, .bool false, undef, .int .i64 (place : Int), dg dc, undef, undef, undef, undef, undef, .slice (some ⟨pb, po, none⟩) rl cap, undef, undef], []⟩ V := by
        rw [hG]
        refine wpAnyIn_ready (rs := [0, 3, 9]) (by kernel_rfl) (by simp) ?_
        refine AllReadyIn.cons rfl (fun K hK => ?_) ?_
        · go_simp
          refine hK _ _ ?_
          exact toG hG (S0128) (by kernel_rfl)
        refine AllReadyIn.cons rfl (fun K hK => ?_) ?_
        · go_simp
          refine hK _ _ ?_
          exact toG hG (S1238) (by kernel_rfl)
        refine AllReadyIn.cons rfl (fun K hK => ?_) ?_
        · rw [if_pos (by rfl)]
          refine HSL.out _ _ _ _ _ _ _ _ _ rfl rfl ?_
          refine hK _ _ ?_
          exact toG hG (S1289) (by kernel_rfl)
        exact AllReadyIn.nil
      have S134 : G 9 #[false, true, false, true, true, false, false, false, false, false, false, false] ⟨#[.func (.func 21) #[] #[], .int .i64 (n : Int), .int .i64 (i : Int), .slice ba bl bc, .slice pa pl pc, .pointer (some ⟨w.heap.size, 0, none⟩), undef, undef, undef, .pointer (some ⟨w.heap.size + 1, 0, none⟩), .pointer (some ⟨w.heap.size + 2, 0, none⟩), .int .i64 0, .int .i64 (place : Int), .bool false, .bool false, .int .i64 (n : Int), .int .i64 (i : Int), .bool true, .bool false, undef, .bool false, .slice pa pl pc, .int .i64 (pl : Int), .int .i64 (n : Int), .int .i64 (i : Int), .int .i64 (pl : Int), .bool false, undef, .func (.func 21) #[] #[], .slice ba bl bc, u30, u31, u32, .int .i64 (n : Int), .int .i64 (i : Int), .func (.func 42) #[] #[.pointer (some ⟨w8.heap.size, 0, none⟩), .pointer (some ⟨w8.heap.size + 1, 0, none⟩)], .int .i64 (place : Int), .bool false, .bool false, undef, .int .i64 (place : Int), undef, .slice (some ⟨pb, po, none⟩) rl cap, .pointer (some ⟨pb, po, none⟩), undef, undef, undef, undef, undef, undef], []⟩ V := by
        rw [hG]
        refine wpAnyIn_ready (rs := [0, 2, 5, 8]) (by kernel_rfl) (by simp) ?_
        refine AllReadyIn.cons rfl (fun K hK => ?_) ?_
        · go_simp
          refine hK _ _ ?_
          exact toG hG (S0134) (by kernel_rfl)
        refine AllReadyIn.cons rfl (fun K hK => ?_) ?_
        · rw [if_pos (by rfl)]
          refine wpIn_load_dig _ rfl _ _ rfl dc HDC.out (row_cells32 HCD.out HDC.out) ?_
          refine hK _ _ ?_
          exact toG hG (S1234) (by kernel_rfl)
        refine AllReadyIn.cons rfl (fun K hK => ?_) ?_
        · rw [if_pos (by rfl)]
          refine wpIn_load_dig _ rfl _ _ rfl x0 HX0.out (rest_cell32 HX0R.out HX0.out) ?_
          refine hK _ _ ?_
          exact toG hG (S1345) (by kernel_rfl)
        refine AllReadyIn.cons rfl (fun K hK => ?_) ?_
        · go_simp
          refine hK _ _ ?_
          exact toG hG (S1348) (by kernel_rfl)
        exact AllReadyIn.nil
      have S138 : G 9 #[false, true, false, true, false, false, false, false, true, false, false, false] ⟨#[.func (.func 21) #[] #[], .int .i64 (n : Int), .int .i64 (i : Int), .slice ba bl bc, .slice pa pl pc, .pointer (some ⟨w.heap.size, 0, none⟩), undef, undef, undef, .pointer (some ⟨w.heap.size + 1, 0, none⟩), .pointer (some ⟨w.heap.size + 2, 0, none⟩), .int .i64 0, .int .i64 (place : Int), .bool false, .bool false, .int .i64 (n : Int), .int .i64 (i : Int), .bool true, .bool false, undef, .bool false, .slice pa pl pc, .int .i64 (pl : Int), .int .i64 (n : Int), .int .i64 (i : Int), .int .i64 (pl : Int), .bool false, undef, .func (.func 21) #[] #[], .slice ba bl bc, u30, u31, u32, .int .i64 (n : Int), .int .i64 (i : Int), .func (.func 42) #[] #[.pointer (some ⟨w8.heap.size, 0, none⟩), .pointer (some ⟨w8.heap.size + 1, 0, none⟩)], .int .i64 (place : Int), .bool false, .bool false, undef, .int .i64 (place : Int), undef, .slice (some ⟨pb, po, none⟩) rl cap, undef, undef, undef, undef, .slice (some ⟨pb, po, none⟩) rl cap, undef, undef], []⟩ V := by
        rw [hG]
        refine wpAnyIn_ready (rs := [0, 2, 4, 9]) (by kernel_rfl) (by simp) ?_
        refine AllReadyIn.cons rfl (fun K hK => ?_) ?_
        · go_simp
          refine hK _ _ ?_
          exact toG hG (S0138) (by kernel_rfl)
        refine AllReadyIn.cons rfl (fun K hK => ?_) ?_
        · rw [if_pos (by rfl)]
          refine wpIn_load_dig _ rfl _ _ rfl dc HDC.out (row_cells32 HCD.out HDC.out) ?_
          refine hK _ _ ?_
          exact toG hG (S1238) (by kernel_rfl)
        refine AllReadyIn.cons rfl (fun K hK => ?_) ?_
        · go_simp
          refine hK _ _ ?_
          exact toG hG (S1348) (by kernel_rfl)
        refine AllReadyIn.cons rfl (fun K hK => ?_) ?_
        · rw [if_pos (by rfl)]
          refine HSL.out _ _ _ _ _ _ _ _ _ rfl rfl ?_
          refine hK _ _ ?_
          exact toG hG (S1389) (by kernel_rfl)
        exact AllReadyIn.nil
      have S189 : G 9 #[false, true, false, false, false, false, false, false, true, true, false, false] ⟨#[.func (.func 21) #[] #[], .int .i64 (n : Int), .int .i64 (i : Int), .slice ba bl bc, .slice pa pl pc, .pointer (some ⟨w.heap.size, 0, none⟩), undef, undef, undef, .pointer (some ⟨w.heap.size + 1, 0, none⟩), .pointer (some ⟨w.heap.size + 2, 0, none⟩), .int .i64 0, .int .i64 (place : Int), .bool false, .bool false, .int .i64 (n : Int), .int .i64 (i : Int), .bool true, .bool false, undef, .bool false, .slice pa pl pc, .int .i64 (pl : Int), .int .i64 (n : Int), .int .i64 (i : Int), .int .i64 (pl : Int), .bool false, undef, .func (.func 21) #[] #[], .slice ba bl bc, u30, u31, u32, .int .i64 (n : Int), .int .i64 (i : Int), .func (.func 42) #[] #[.pointer (some ⟨w8.heap.size, 0, none⟩), .pointer (some ⟨w8.heap.size + 1, 0, none⟩)], .int .i64 (place : Int), .bool false, .bool false, undef, .int .i64 (place : Int), undef, undef, undef, undef, undef, undef, .slice (some ⟨pb, po, none⟩) rl cap, .slice na rm nc, undef], []⟩ V := by
        rw [hG]
        refine wpAnyIn_ready (rs := [0, 2, 3]) (by kernel_rfl) (by simp) ?_
        refine AllReadyIn.cons rfl (fun K hK => ?_) ?_
        · go_simp
          refine hK _ _ ?_
          exact toG hG (S0189) (by kernel_rfl)
        refine AllReadyIn.cons rfl (fun K hK => ?_) ?_
        · rw [if_pos (by rfl)]
          refine wpIn_load_dig _ rfl _ _ rfl dc HDC.out (row_cells32 HCD.out HDC.out) ?_
          refine hK _ _ ?_
          exact toG hG (S1289) (by kernel_rfl)
        refine AllReadyIn.cons rfl (fun K hK => ?_) ?_
        · go_simp
          refine hK _ _ ?_
          exact toG hG (S1389) (by kernel_rfl)
        exact AllReadyIn.nil
      have S234 : G 9 #[false, false, true, true, true, false, false, false, false, false, false, false] ⟨#[.func (.func 21) #[] #[], .int .i64 (n : Int), .int .i64 (i : Int), .slice ba bl bc, .slice pa pl pc, .pointer (some ⟨w.heap.size, 0, none⟩), undef, undef, undef, .pointer (some ⟨w.heap.size + 1, 0, none⟩), .pointer (some ⟨w.heap.size + 2, 0, none⟩), .int .i64 0, .int .i64 (place : Int), .bool false, .bool false, .int .i64 (n : Int), .int .i64 (i : Int), .bool true, .bool false, undef, .bool false, .slice pa pl pc, .int .i64 (pl : Int), .int .i64 (n : Int), .int .i64 (i : Int), .int .i64 (pl : Int), .bool false, undef, .func (.func 21) #[] #[], .slice ba bl bc, u30, u31, u32, .int .i64 (n : Int), .int .i64 (i : Int), .func (.func 42) #[] #[.pointer (some ⟨w8.heap.size, 0, none⟩), .pointer (some ⟨w8.heap.size + 1, 0, none⟩)], .int .i64 (place : Int), .bool false, .bool false, undef, undef, dg dc, .slice (some ⟨pb, po, none⟩) rl cap, .pointer (some ⟨pb, po, none⟩), undef, undef, undef, undef, undef, undef], []⟩ V := by
        rw [hG]
        refine wpAnyIn_ready (rs := [0, 1, 5, 8]) (by kernel_rfl) (by simp) ?_
        refine AllReadyIn.cons rfl (fun K hK => ?_) ?_
        · go_simp
          refine hK _ _ ?_
          exact toG hG (S0234) (by kernel_rfl)
        refine AllReadyIn.cons rfl (fun K hK => ?_) ?_
        · go_simp
          refine hK _ _ ?_
          exact toG hG (S1234) (by kernel_rfl)
        refine AllReadyIn.cons rfl (fun K hK => ?_) ?_
        · rw [if_pos (by rfl)]
          refine wpIn_load_dig _ rfl _ _ rfl x0 HX0.out (rest_cell32 HX0R.out HX0.out) ?_
          refine hK _ _ ?_
          exact toG hG (S2345) (by kernel_rfl)
        refine AllReadyIn.cons rfl (fun K hK => ?_) ?_
        · go_simp
          refine hK _ _ ?_
          exact toG hG (S2348) (by kernel_rfl)
        exact AllReadyIn.nil
      have S238 : G 9 #[false, false, true, true, false, false, false, false, true, false, false, false] ⟨#[.func (.func 21) #[] #[], .int .i64 (n : Int), .int .i64 (i : Int), .slice ba bl bc, .slice pa pl pc, .pointer (some ⟨w.heap.size, 0, none⟩), undef, undef, undef, .pointer (some ⟨w.heap.size + 1, 0, none⟩), .pointer (some ⟨w.heap.size + 2, 0, none⟩), .int .i64 0, .int .i64 (place : Int), .bool false, .bool false, .int .i64 (n : Int), .int .i64 (i : Int), .bool true, .bool false, undef, .bool false, .slice pa pl pc, .int .i64 (pl : Int), .int .i64 (n : Int), .int .i64 (i : Int), .int .i64 (pl : Int), .bool false, undef, .func (.func 21) #[] #[], .slice ba bl bc, u30, u31, u32, .int .i64 (n : Int), .int .i64 (i : Int), .func (.func 42) #[] #[.pointer (some ⟨w8.heap.size, 0, none⟩), .pointer (some ⟨w8.heap.size + 1, 0, none⟩)], .int .i64 (place : Int), .bool false, .bool false, undef, undef, dg dc, .slice (some ⟨pb, po, none⟩) rl cap, undef, undef, undef, undef, .slice (some ⟨pb, po, none⟩) rl cap, undef, undef], []⟩ V := by
        rw [hG]
        refine wpAnyIn_ready (rs := [0, 1, 4, 9]) (by kernel_rfl) (by simp) ?_
        refine AllReadyIn.cons rfl (fun K hK => ?_) ?_
        · go_simp
          refine hK _ _ ?_
          exact toG hG (S0238) (by kernel_rfl)
        refine AllReadyIn.cons rfl (fun K hK => ?_) ?_
        · go_simp
          refine hK _ _ ?_
          exact toG hG (S1238) (by kernel_rfl)
        refine AllReadyIn.cons rfl (fun K hK => ?_) ?_
        · go_simp
          refine hK _ _ ?_
          exact toG hG (S2348) (by kernel_rfl)
        refine AllReadyIn.cons rfl (fun K hK => ?_) ?_
        · rw [if_pos (by rfl)]
          refine HSL.out _ _ _ _ _ _ _ _ _ rfl rfl ?_
          refine hK _ _ ?_
          exact toG hG (S2389) (by kernel_rfl)
        exact AllReadyIn.nil
      have S289 : G 9 #[false, false, true, false, false, false, false, false, true, true, false, false] ⟨#[.func (.func 21) #[] #[], .int .i64 (n : Int), .int .i64 (i : Int), .slice ba bl bc, .slice pa pl pc, .pointer (some ⟨w.heap.size, 0, none⟩), undef, undef, undef, .pointer (some ⟨w.heap.size + 1, 0, none⟩), .pointer (some ⟨w.heap.size + 2, 0, none⟩), .int .i64 0, .int .i64 (place : Int), .bool false, .bool false, .int .i64 (n : Int), .int .i64 (i : Int), .bool true, .bool false, undef, .bool false, .slice pa pl pc, .int .i64 (pl : Int), .int .i64 (n : Int), .int .i64 (i : Int), .int .i64 (pl : Int), .bool false, undef, .func (.func 21) #[] #[], .slice ba bl bc, u30, u31, u32, .int .i64 (n : Int), .int .i64 (i : Int), .func (.func 42) #[] #[.pointer (some ⟨w8.heap.size, 0, none⟩), .pointer (some ⟨w8.heap.size + 1, 0, none⟩)], .int .i64 (place : Int), .bool false, .bool false, undef, undef, dg dc, undef, undef, undef, undef, undef, .slice (some ⟨pb, po, none⟩) rl cap, .slice na rm nc, undef], []⟩ V := by
        rw [hG]
        refine wpAnyIn_ready (rs := [0, 1, 3]) (by kernel_rfl) (by simp) ?_
        refine AllReadyIn.cons rfl (fun K hK => ?_) ?_
        · go_simp
          refine hK _ _ ?_
          exact toG hG (S0289) (by kernel_rfl)
        refine AllReadyIn.cons rfl (fun K hK => ?_) ?_
        · go_simp
          refine hK _ _ ?_
          exact toG hG (S1289) (by kernel_rfl)
        refine AllReadyIn.cons rfl (fun K hK => ?_) ?_
        · go_simp
          refine hK _ _ ?_
          exact toG hG (S2389) (by kernel_rfl)
        exact AllReadyIn.nil
      have S345 : G 9 #[false, false, false, true, true, true, false, false, false, false, false, false] ⟨#[.func (.func 21) #[] #[], .int .i64 (n : Int), .int .i64 (i : Int), .slice ba bl bc, .slice pa pl pc, .pointer (some ⟨w.heap.size, 0, none⟩), undef, undef, undef, .pointer (some ⟨w.heap.size + 1, 0, none⟩), .pointer (some ⟨w.heap.size + 2, 0, none⟩), .int .i64 0, .int .i64 (place : Int), .bool false, .bool false, .int .i64 (n : Int), .int .i64 (i : Int), .bool true, .bool false, undef, .bool false, .slice pa pl pc, .int .i64 (pl : Int), .int .i64 (n : Int), .int .i64 (i : Int), .int .i64 (pl : Int), .bool false, undef, .func (.func 21) #[] #[], .slice ba bl bc, u30, u31, u32, .int .i64 (n : Int), .int .i64 (i : Int), .func (.func 42) #[] #[.pointer (some ⟨w8.heap.size, 0, none⟩), .pointer (some ⟨w8.heap.size + 1, 0, none⟩)], .int .i64 (place : Int), .bool false, .bool false, undef, undef, undef, .slice (some ⟨pb, po, none⟩) rl cap, .pointer (some ⟨pb, po, none⟩), dg x0, undef, undef, undef, undef, undef], []⟩ V := by
        rw [hG]
        refine wpAnyIn_ready (rs := [0, 1, 2, 8]) (by kernel_rfl) (by simp) ?_
        refine AllReadyIn.cons rfl (fun K hK => ?_) ?_
        · go_simp
          refine hK _ _ ?_
          exact toG hG (S0345) (by kernel_rfl)
        refine AllReadyIn.cons rfl (fun K hK => ?_) ?_
        · go_simp
          refine hK _ _ ?_
          exact toG hG (S1345) (by kernel_rfl)
        refine AllReadyIn.cons rfl (fun K hK => ?_) ?_
        · rw [if_pos (by rfl)]
          refine wpIn_load_dig _ rfl _ _ rfl dc HDC.out (row_cells32 HCD.out HDC.out) ?_
          refine hK _ _ ?_
          exact toG hG (S2345) (by kernel_rfl)
        refine AllReadyIn.cons rfl (fun K hK => ?_) ?_
        · go_simp
          refine hK _ _ ?_
          exact toG hG (S3458) (by kernel_rfl)
        exact AllReadyIn.nil
      have S348 : G 9 #[false, false, false, true, true, false, false, false, true, false, false, false] ⟨#[.func (.func 21) #[] #[], .int .i64 (n : Int), .int .i64 (i : Int), .slice ba bl bc, .slice pa pl pc, .pointer (some ⟨w.heap.size, 0, none⟩), undef, undef, undef, .pointer (some ⟨w.heap.size + 1, 0, none⟩), .pointer (some ⟨w.heap.size + 2, 0, none⟩), .int .i64 0, .int .i64 (place : Int), .bool false, .bool false, .int .i64 (n : Int), .int .i64 (i : Int), .bool true, .bool false, undef, .bool false, .slice pa pl pc, .int .i64 (pl : Int), .int .i64 (n : Int), .int .i64 (i : Int), .int .i64 (pl : Int), .bool false, undef, .func (.func 21) #[] #[], .slice ba bl bc, u30, u31, u32, .int .i64 (n : Int), .int .i64 (i : Int), .func (.func 42) #[] #[.pointer (some ⟨w8.heap.size, 0, none⟩), .pointer (some ⟨w8.heap.size + 1, 0, none⟩)], .int .i64 (place : Int), .bool false, .bool false, undef, undef, undef, .slice (some ⟨pb, po, none⟩) rl cap, .pointer (some ⟨pb, po, none⟩), undef, undef, undef, .slice (some ⟨pb, po, none⟩) rl cap, undef, undef], []⟩ V := by
        rw [hG]
        refine wpAnyIn_ready (rs := [0, 1, 2, 5, 9]) (by kernel_rfl) (by simp) ?_
        refine AllReadyIn.cons rfl (fun K hK => ?_) ?_
        · go_simp
          refine hK _ _ ?_
          exact toG hG (S0348) (by kernel_rfl)
        refine AllReadyIn.cons rfl (fun K hK => ?_) ?_
        · go_simp
          refine hK _ _ ?_
          exact toG hG (S1348) (by kernel_rfl)
        refine AllReadyIn.cons rfl (fun K hK => ?_) ?_
        · rw [if_pos (by rfl)]
          refine wpIn_load_dig _ rfl _ _ rfl dc HDC.out (row_cells32 HCD.out HDC.out) ?_
          refine hK _ _ ?_
          exact toG hG (S2348) (by kernel_rfl)
        refine AllReadyIn.cons rfl (fun K hK => ?_) ?_
        · rw [if_pos (by rfl)]
          refine wpIn_load_dig _ rfl _ _ rfl x0 HX0.out (rest_cell32 HX0R.out HX0.out) ?_
          refine hK _ _ ?_
          exact toG hG (S3458) (by kernel_rfl)
        refine AllReadyIn.cons rfl (fun K hK => ?_) ?_
        · rw [if_pos (by rfl)]
          refine HSL.out _ _ _ _ _ _ _ _ _ rfl rfl ?_
          refine hK _ _ ?_
          exact toG hG (S3489) (by kernel_rfl)
        exact AllReadyIn.nil
      have S389 : G 9 #[false, false, false, true, false, false, false, false, true, true, false, false] ⟨#[.func (.func 21) #[] #[], .int .i64 (n : Int), .int .i64 (i : Int), .slice ba bl bc, .slice pa pl pc, .pointer (some ⟨w.heap.size, 0, none⟩), undef, undef, undef, .pointer (some ⟨w.heap.size + 1, 0, none⟩), .pointer (some ⟨w.heap.size + 2, 0, none⟩), .int .i64 0, .int .i64 (place : Int), .bool false, .bool false, .int .i64 (n : Int), .int .i64 (i : Int), .bool true, .bool false, undef, .bool false, .slice pa pl pc, .int .i64 (pl : Int), .int .i64 (n : Int), .int .i64 (i : Int), .int .i64 (pl : Int), .bool false, undef, .func (.func 21) #[] #[], .slice ba bl bc, u30, u31, u32, .int .i64 (n : Int), .int .i64 (i : Int), .func (.func 42) #[] #[.pointer (some ⟨w8.heap.size, 0, none⟩), .pointer (some ⟨w8.heap.size + 1, 0, none⟩)], .int .i64 (place : Int), .bool false, .bool false, undef, undef, undef, .slice (some ⟨pb, po, none⟩) rl cap, undef, undef, undef, undef, .slice (some ⟨pb, po, none⟩) rl cap, .slice na rm nc, undef], []⟩ V := by
        rw [hG]
        refine wpAnyIn_ready (rs := [0, 1, 2, 4]) (by kernel_rfl) (by simp) ?_
        refine AllReadyIn.cons rfl (fun K hK => ?_) ?_
        · go_simp
          refine hK _ _ ?_
          exact toG hG (S0389) (by kernel_rfl)
        refine AllReadyIn.cons rfl (fun K hK => ?_) ?_
        · go_simp
          refine hK _ _ ?_
          exact toG hG (S1389) (by kernel_rfl)
        refine AllReadyIn.cons rfl (fun K hK => ?_) ?_
        · rw [if_pos (by rfl)]
          refine wpIn_load_dig _ rfl _ _ rfl dc HDC.out (row_cells32 HCD.out HDC.out) ?_
          refine hK _ _ ?_
          exact toG hG (S2389) (by kernel_rfl)
        refine AllReadyIn.cons rfl (fun K hK => ?_) ?_
        · go_simp
          refine hK _ _ ?_
          exact toG hG (S3489) (by kernel_rfl)
        exact AllReadyIn.nil
      have S01 : G 10 #[true, true, false, false, false, false, false, false, false, false, false, false] ⟨#[.func (.func 21) #[] #[], .int .i64 (n : Int), .int .i64 (i : Int), .slice ba bl bc, .slice pa pl pc, .pointer (some ⟨w.heap.size, 0, none⟩), undef, undef, undef, .pointer (some ⟨w.heap.size + 1, 0, none⟩), .pointer (some ⟨w.heap.size + 2, 0, none⟩), .int .i64 0, .int .i64 (place : Int), .bool false, .bool false, .int .i64 (n : Int), .int .i64 (i : Int), .bool true, .bool false, undef, .bool false, .slice pa pl pc, .int .i64 (pl : Int), .int .i64 (n : Int), .int .i64 (i : Int), .int .i64 (pl : Int), .bool false, undef, .func (.func 21) #[] #[], .slice ba bl bc, u30, u31, u32, .int .i64 (n : Int), .int .i64 (i : Int), .func (.func 42) #[] #[.pointer (some ⟨w8.heap.size, 0, none⟩), .pointer (some ⟨w8.heap.size + 1, 0, none⟩)], .int .i64 (place : Int), .bool false, .bool false, .func (.func 21) #[] #[], .int .i64 (place : Int), undef, undef, undef, undef, undef, undef, undef, undef, undef], []⟩ V := by
        rw [hG]
        refine wpAnyIn_ready (rs := [2, 3, 8]) (by kernel_rfl) (by simp) ?_
        refine AllReadyIn.cons rfl (fun K hK => ?_) ?_
        · rw [if_pos (by rfl)]
          refine wpIn_load_dig _ rfl _ _ rfl dc HDC.out (row_cells32 HCD.out HDC.out) ?_
          refine hK _ _ ?_
          exact toG hG (S012) (by kernel_rfl)
        refine AllReadyIn.cons rfl (fun K hK => ?_) ?_
        · go_simp
          refine hK _ _ ?_
          exact toG hG (S013) (by kernel_rfl)
        refine AllReadyIn.cons rfl (fun K hK => ?_) ?_
        · go_simp
          refine hK _ _ ?_
          exact toG hG (S018) (by kernel_rfl)
        exact AllReadyIn.nil
      have S02 : G 10 #[true, false, true, false, false, false, false, false, false, false, false, false] ⟨#[.func (.func 21) #[] #[], .int .i64 (n : Int), .int .i64 (i : Int), .slice ba bl bc, .slice pa pl pc, .pointer (some ⟨w.heap.size, 0, none⟩), undef, undef, undef, .pointer (some ⟨w.heap.size + 1, 0, none⟩), .pointer (some ⟨w.heap.size + 2, 0, none⟩), .int .i64 0, .int .i64 (place : Int), .bool false, .bool false, .int .i64 (n : Int), .int .i64 (i : Int), .bool true, .bool false, undef, .bool false, .slice pa pl pc, .int .i64 (pl : Int), .int .i64 (n : Int), .int .i64 (i : Int), .int .i64 (pl : Int), .bool false, undef, .func (.func 21) #[] #[], .slice ba bl bc, u30, u31, u32, .int .i64 (n : Int), .int .i64 (i : Int), .func (.func 42) #[] #[.pointer (some ⟨w8.heap.size, 0, none⟩), .pointer (some ⟨w8.heap.size + 1, 0, none⟩)], .int .i64 (place : Int), .bool false, .bool false, .func (.func 21) #[] #[], undef, dg dc, undef, undef, undef, undef, undef, undef, undef, undef], []⟩ V := by
        rw [hG]
        refine wpAnyIn_ready (rs := [1, 3, 8]) (by kernel_rfl) (by simp) ?_
        refine AllReadyIn.cons rfl (fun K hK => ?_) ?_
        · go_simp
          refine hK _ _ ?_
          exact toG hG (S012) (by kernel_rfl)
        refine AllReadyIn.cons rfl (fun K hK => ?_) ?_
        · go_simp
          refine hK _ _ ?_
          exact toG hG (S023) (by kernel_rfl)
        refine AllReadyIn.cons rfl (fun K hK => ?_) ?_
        · go_simp
          refine hK _ _ ?_
          exact toG hG (S028) (by kernel_rfl)
        exact AllReadyIn.nil
      have S03 : G 10 #[true, false, false, true, false, false, false, false, false, false, false, false] ⟨#[.func (.func 21) #[] #[], .int .i64 (n : Int), .int .i64 (i : Int), .slice ba bl bc, .slice pa pl pc, .pointer (some ⟨w.heap.size, 0, none⟩), undef, undef, undef, .pointer (some ⟨w.heap.size + 1, 0, none⟩), .pointer (some ⟨w.heap.size + 2, 0, none⟩), .int .i64 0, .int .i64 (place : Int), .bool false, .bool false, .int .i64 (n : Int), .int .i64 (i : Int), .bool true, .bool false, undef, .bool false, .slice pa pl pc, .int .i64 (pl : Int), .int .i64 (n : Int), .int .i64 (i : Int), .int .i64 (pl : Int), .bool false, undef, .func (.func 21) #[] #[], .slice ba bl bc, u30, u31, u32, .int .i64 (n : Int), .int .i64 (i : Int), .func (.func 42) #[] #[.pointer (some ⟨w8.heap.size, 0, none⟩), .pointer (some ⟨w8.heap.size + 1, 0, none⟩)], .int .i64 (place : Int), .bool false, .bool false, .func (.func 21) #[] #[], undef, undef, .slice (some ⟨pb, po, none⟩) rl cap, undef, undef, undef, undef, undef, undef, undef], []⟩ V := by
        rw [hG]
        refine wpAnyIn_ready (rs := [1, 2, 4, 8]) (by kernel_rfl) (by simp) ?_
        refine AllReadyIn.cons rfl (fun K hK => ?_) ?_
        · go_simp
          refine hK _ _ ?_
          exact toG hG (S013) (by kernel_rfl)
        refine AllReadyIn.cons rfl (fun K hK => ?_) ?_
        · rw [if_pos (by rfl)]
          refine wpIn_load_dig _ rfl _ _ rfl dc HDC.out (row_cells32 HCD.out HDC.out) ?_
          refine hK _ _ ?_
          exact toG hG (S023) (by kernel_rfl)
        refine AllReadyIn.cons rfl (fun K hK => ?_) ?_
        · go_simp
          refine hK _ _ ?_
          exact toG hG (S034) (by kernel_rfl)
        refine AllReadyIn.cons rfl (fun K hK => ?_) ?_
        · go_simp
          refine hK _ _ ?_
          exact toG hG (S038) (by kernel_rfl)
        exact AllReadyIn.nil
      have S08 : G 10 #[true, false, false, false, false, false, false, false, true, false, false, false] ⟨#[.func (.func 21) #[] #[], .int .i64 (n : Int), .int .i64 (i : Int), .slice ba bl bc, .slice pa pl pc, .pointer (some ⟨w.heap.size, 0, none⟩), undef, undef, undef, .pointer (some ⟨w.heap.size + 1, 0, none⟩), .pointer (some ⟨w.heap.size + 2, 0, none⟩), .int .i64 0, .int .i64 (place : Int), .bool false, .bool false, .int .i64 (n : Int), .int .i64 (i : Int), .bool true, .bool false, undef, .bool false, .slice pa pl pc, .int .i64 (pl : Int), .int .i64 (n : Int), .int .i64 (i : Int), .int .i64 (pl : Int), .bool false, undef, .func (.func 21) #[] #[], .slice ba bl bc, u30, u31, u32, .int .i64 (n : Int), .int .i64 (i : Int), .func (.func 42) #[] #[.pointer (some ⟨w8.heap.size, 0, none⟩), .pointer (some ⟨w8.heap.size + 1, 0, none⟩)], .int .i64 (place : Int), .bool false, .bool false, .func (.func 21) #[] #[], undef, undef, undef, undef, undef, undef, undef, .slice (some ⟨pb, po, none⟩) rl cap, undef, undef], []⟩ V := by
        rw [hG]
        refine wpAnyIn_ready (rs := [1, 2, 3, 9]) (by kernel_rfl) (by simp) ?_
        refine AllReadyIn.cons rfl (fun K hK => ?_) ?_
        · go_simp
          refine hK _ _ ?_
          exact toG hG (S018) (by kernel_rfl)
        refine AllReadyIn.cons rfl (fun K hK => ?_) ?_
        · rw [if_pos (by rfl)]
          refine wpIn_load_dig _ rfl _ _ rfl dc HDC.out (row_cells32 HCD.out HDC.out) ?_
          refine hK _ _ ?_
          exact toG hG (S028) (by kernel_rfl)
        refine AllReadyIn.cons rfl (fun K hK => ?_) ?_
        · go_simp
          refine hK _ _ ?_
          exact toG hG (S038) (by kernel_rfl)
        refine AllReadyIn.cons rfl (fun K hK => ?_) ?_
        · rw [if_pos (by rfl)]
          refine HSL.out _ _ _ _ _ _ _ _ _ rfl rfl ?_
          refine hK _ _ ?_
          exact toG hG (S089) (by kernel_rfl)
        exact AllReadyIn.nil
      have S12 : G 10 #[false, true, true, false, false, false, false, false, false, false, false, false] ⟨#[.func (.func 21) #[] #[], .int .i64 (n : Int), .int .i64 (i : Int), .slice ba bl bc, .slice pa pl pc, .pointer (some ⟨w.heap.size, 0, none⟩), undef, undef, undef, .pointer (some ⟨w.heap.size + 1, 0, none⟩), .pointer (some ⟨w.heap.size + 2, 0, none⟩), .int .i64 0, .int .i64 (place : Int), .bool false, .bool false, .int .i64 (n : Int), .int .i64 (i : Int), .bool true, .bool false, undef, .bool false, .slice pa pl pc, .int .i64 (pl : Int), .int .i64 (n : Int), .int .i64 (i : Int), .int .i64 (pl : Int), .bool false, undef, .func (.func 21) #[] #[], .slice ba bl bc, u30, u31, u32, .int .i64 (n : Int), .int .i64 (i : Int), .func (.func 42) #[] #[.pointer (some ⟨w8.heap.size, 0, none⟩), .pointer (some ⟨w8.heap.size + 1, 0, none⟩)], .int .i64 (place : Int), .bool false, .bool false, undef, .int .i64 (place : Int), dg dc, undef, undef, undef, undef, undef, undef, undef, undef], []⟩ V := by
        rw [hG]
        refine wpAnyIn_ready (rs := [0, 3, 8]) (by kernel_rfl) (by simp) ?_
        refine AllReadyIn.cons rfl (fun K hK => ?_) ?_
        · go_simp
          refine hK _ _ ?_
          exact toG hG (S012) (by kernel_rfl)
        refine AllReadyIn.cons rfl (fun K hK => ?_) ?_
        · go_simp
          refine hK _ _ ?_
          exact toG hG (S123) (by kernel_rfl)
        refine AllReadyIn.cons rfl (fun K hK => ?_) ?_
        · go_simp
          refine hK _ _ ?_
          exact toG hG (S128) (by kernel_rfl)
        exact AllReadyIn.nil
      have S13 : G 10 #[false, true, false, true, false, false, false, false, false, false, false, false] ⟨#[.func (.func 21) #[] #[], .int .i64 (n : Int), .int .i64 (i : Int), .slice ba bl bc, .slice pa pl pc, .pointer (some ⟨w.heap.size, 0, none⟩), undef, undef, undef, .pointer (some ⟨w.heap.size + 1, 0, none⟩), .pointer (some ⟨w.heap.size + 2, 0, none⟩), .int .i64 0, .int .i64 (place : Int), .bool false, .bool false, .int .i64 (n : Int), .int .i64 (i : Int), .bool true, .bool false, undef, .bool false, .slice pa pl pc, .int .i64 (pl : Int), .int .i64 (n : Int), .int .i64 (i : Int), .int .i64 (pl : Int), .bool false, undef, .func (.func 21) #[] #[], .slice ba bl bc, u30, u31, u32, .int .i64 (n : Int), .int .i64 (i : Int), .func (.func 42) #[] #[.pointer (some ⟨w8.heap.size, 0, none⟩), .pointer (some ⟨w8.heap.size + 1, 0, none⟩)], .int .i64 (place : Int), .bool false, .bool false, undef, .int .i64 (place : Int), undef, .slice (some ⟨pb, po, none⟩) rl cap, undef, undef, undef, undef, undef, undef, undef], []⟩ V := by
        rw [hG]
        refine wpAnyIn_ready (rs := [0, 2, 4, 8]) (by kernel_rfl) (by simp) ?_
        refine AllReadyIn.cons rfl (fun K hK => ?_) ?_
        · go_simp
          refine hK _ _ ?_
          exact toG hG (S013) (by kernel_rfl)
        refine AllReadyIn.cons rfl (fun K hK => ?_) ?_
        · rw [if_pos (by rfl)]
          refine wpIn_load_dig _ rfl _ _ rfl dc HDC.out (row_cells32 HCD.out HDC.out) ?_
          refine hK _ _ ?_
          exact toG hG (S123) (by kernel_rfl)
        refine AllReadyIn.cons rfl (fun K hK => ?_) ?_
        · go_simp
          refine hK _ _ ?_
          exact toG hG (S134) (by kernel_rfl)
        refine AllReadyIn.cons rfl (fun K hK => ?_) ?_
        · go_simp
          refine hK _ _ ?_
          exact toG hG (S138) (by kernel_rfl)
        exact AllReadyIn.nil
      have S18 : G 10 #[false, true, false, false, false, false, false, false, true, false, false, false] ⟨#[.func (.func 21) #[] #[], .int .i64 (n : Int), .int .i64 (i : Int), .slice ba bl bc, .slice pa pl pc, .pointer (some ⟨w.heap.size, 0, none⟩), undef, undef, undef, .pointer (some ⟨w.heap.size + 1, 0, none⟩), .pointer (some ⟨w.heap.size + 2, 0, none⟩), .int .i64 0, .int .i64 (place : Int), .bool false, .bool false, .int .i64 (n : Int), .int .i64 (i : Int), .bool true, .bool false, undef, .bool false, .slice pa pl pc, .int .i64 (pl : Int), .int .i64 (n : Int), .int .i64 (i : Int), .int .i64 (pl : Int), .bool false, undef, .func (.func 21) #[] #[], .slice ba bl bc, u30, u31, u32, .int .i64 (n : Int), .int .i64 (i : Int), .func (.func 42) #[] #[.pointer (some ⟨w8.heap.size, 0, none⟩), .pointer (some ⟨w8.heap.size + 1, 0, none⟩)], .int .i64 (place : Int), .bool false, .bool false, undef, .int .i64 (place : Int), undef, undef, undef, undef, undef, undef, .slice (some ⟨pb, po, none⟩) rl cap, undef, undef], []⟩ V := by
        rw [hG]
        refine wpAnyIn_ready (rs := [0, 2, 3, 9]) (by kernel_rfl) (by simp) ?_
        refine AllReadyIn.cons rfl (fun K hK => ?_) ?_
        · go_simp
          refine hK _ _ ?_
          exact toG hG (S018) (by kernel_rfl)
        refine AllReadyIn.cons rfl (fun K hK => ?_) ?_
        · rw [if_pos (by rfl)]
          refine wpIn_load_dig _ rfl _ _ rfl dc HDC.out (row_cells32 HCD.out HDC.out) ?_
          refine hK _ _ ?_
          exact toG hG (S128) (by kernel_rfl)
        refine AllReadyIn.cons rfl (fun K hK => ?_) ?_
        · go_simp
          refine hK _ _ ?_
          exact toG hG (S138) (by kernel_rfl)
        refine AllReadyIn.cons rfl (fun K hK => ?_) ?_
        · rw [if_pos (by rfl)]
          refine HSL.out _ _ _ _ _ _ _ _ _ rfl rfl ?_
          refine hK _ _ ?_
          exact toG hG (S189) (by kernel_rfl)
        exact AllReadyIn.nil
      have S23 : G 10 #[false, false, true, true, false, false, false, false, false, false, false, false] ⟨#[.func (.func 21) #[] #[], .int .i64 (n : Int), .int .i64 (i : Int), .slice ba bl bc, .slice pa pl pc, .pointer (some ⟨w.heap.size, 0, none⟩), undef, undef, undef, .pointer (some ⟨w.heap.size + 1, 0, none⟩), .pointer (some ⟨w.heap.size + 2, 0, none⟩), .int .i64 0, .int .i64 (place : Int), .bool false, .bool false, .int .i64 (n : Int), .int .i64 (i : Int), .bool true, .bool false, undef, .bool false, .slice pa pl pc, .int .i64 (pl : Int), .int .i64 (n : Int), .int .i64 (i : Int), .int .i64 (pl : Int), .bool false, undef, .func (.func 21) #[] #[], .slice ba bl bc, u30, u31, u32, .int .i64 (n : Int), .int .i64 (i : Int), .func (.func 42) #[] #[.pointer (some ⟨w8.heap.size, 0, none⟩), .pointer (some ⟨w8.heap.size + 1, 0, none⟩)], .int .i64 (place : Int), .bool false, .bool false, undef, undef, dg dc, .slice (some ⟨pb, po, none⟩) rl cap, undef, undef, undef, undef, undef, undef, undef], []⟩ V := by
        rw [hG]
        refine wpAnyIn_ready (rs := [0, 1, 4, 8]) (by kernel_rfl) (by simp) ?_
        refine AllReadyIn.cons rfl (fun K hK => ?_) ?_
        · go_simp
          refine hK _ _ ?_
          exact toG hG (S023) (by kernel_rfl)
        refine AllReadyIn.cons rfl (fun K hK => ?_) ?_
        · go_simp
          refine hK _ _ ?_
          exact toG hG (S123) (by kernel_rfl)
        refine AllReadyIn.cons rfl (fun K hK => ?_) ?_
        · go_simp
          refine hK _ _ ?_
          exact toG hG (S234) (by kernel_rfl)
        refine AllReadyIn.cons rfl (fun K hK => ?_) ?_
        · go_simp
          refine hK _ _ ?_
          exact toG hG (S238) (by kernel_rfl)
        exact AllReadyIn.nil
      have S28 : G 10 #[false, false, true, false, false, false, false, false, true, false, false, false] ⟨#[.func (.func 21) #[] #[], .int .i64 (n : Int), .int .i64 (i : Int), .slice ba bl bc, .slice pa pl pc, .pointer (some ⟨w.heap.size, 0, none⟩), undef, undef, undef, .pointer (some ⟨w.heap.size + 1, 0, none⟩), .pointer (some ⟨w.heap.size + 2, 0, none⟩), .int .i64 0, .int .i64 (place : Int), .bool false, .bool false, .int .i64 (n : Int), .int .i64 (i : Int), .bool true, .bool false, undef, .bool false, .slice pa pl pc, .int .i64 (pl : Int), .int .i64 (n : Int), .int .i64 (i : Int), .int .i64 (pl : Int), .bool false, undef, .func (.func 21) #[] #[], .slice ba bl bc, u30, u31, u32, .int .i64 (n : Int), .int .i64 (i : Int), .func (.func 42) #[] #[.pointer (some ⟨w8.heap.size, 0, none⟩), .pointer (some ⟨w8.heap.size + 1, 0, none⟩)], .int .i64 (place : Int), .bool false, .bool false, undef, undef, dg dc, undef, undef, undef, undef, undef, .slice (some ⟨pb, po, none⟩) rl cap, undef, undef], []⟩ V := by
        rw [hG]
        refine wpAnyIn_ready (rs := [0, 1, 3, 9]) (by kernel_rfl) (by simp) ?_
        refine AllReadyIn.cons rfl (fun K hK => ?_) ?_
        · go_simp
          refine hK _ _ ?_
          exact toG hG (S028) (by kernel_rfl)
        refine AllReadyIn.cons rfl (fun K hK => ?_) ?_
        · go_simp
          refine hK _ _ ?_
          exact toG hG (S128) (by kernel_rfl)
        refine AllReadyIn.cons rfl (fun K hK => ?_) ?_
        · go_simp
          refine hK _ _ ?_
          exact toG hG (S238) (by kernel_rfl)
        refine AllReadyIn.cons rfl (fun K hK => ?_) ?_
        · rw [if_pos (by rfl)]
          refine HSL.out _ _ _ _ _ _ _ _ _ rfl rfl ?_
          refine hK _ _ ?_
          exact toG hG (S289) (by kernel_rfl)
        exact AllReadyIn.nil
      have S34 : G 10 #[false, false, false, true, true, false, false, false, false, false, false, false] ⟨#[.func (.func 21) #[] #[], .int .i64 (n : Int), .int .i64 (i : Int), .slice ba bl bc, .slice pa pl pc, .pointer (some ⟨w.heap.size, 0, none⟩), undef, undef, undef, .pointer (some ⟨w.heap.size + 1, 0, none⟩), .pointer (some ⟨w.heap.size + 2, 0, none⟩), .int .i64 0, .int .i64 (place : Int), .bool false, .bool false, .int .i64 (n : Int), .int .i64 (i : Int), .bool true, .bool false, undef, .bool false, .slice pa pl pc, .int .i64 (pl : Int), .int .i64 (n : Int), .int .i64 (i : Int), .int .i64 (pl : Int), .bool false, undef, .func (.func 21) #[] #[], .slice ba bl bc, u30, u31, u32, .int .i64 (n : Int), .int .i64 (i : Int), .func (.func 42) #[] #[.pointer (some ⟨w8.heap.size, 0, none⟩), .pointer (some ⟨w8.heap.size + 1, 0, none⟩)], .int .i64 (place : Int), .bool false, .bool false, undef, undef, undef, .slice (some ⟨pb, po, none⟩) rl cap, .pointer (some ⟨pb, po, none⟩), undef, undef, undef, undef, undef, undef], []⟩ V := by
        rw [hG]
        refine wpAnyIn_ready (rs := [0, 1, 2, 5, 8]) (by kernel_rfl) (by simp) ?_
        refine AllReadyIn.cons rfl (fun K hK => ?_) ?_
        · go_simp
          refine hK _ _ ?_
          exact toG hG (S034) (by kernel_rfl)
        refine AllReadyIn.cons rfl (fun K hK => ?_) ?_
        · go_simp
          refine hK _ _ ?_
          exact toG hG (S134) (by kernel_rfl)
        refine AllReadyIn.cons rfl (fun K hK => ?_) ?_
        · rw [if_pos (by rfl)]
          refine wpIn_load_dig _ rfl _ _ rfl dc HDC.out (row_cells32 HCD.out HDC.out) ?_
          refine hK _ _ ?_
          exact toG hG (S234) (by kernel_rfl)
        refine AllReadyIn.cons rfl (fun K hK => ?_) ?_
        · rw [if_pos (by rfl)]
          refine wpIn_load_dig _ rfl _ _ rfl x0 HX0.out (rest_cell32 HX0R.out HX0.out) ?_
          refine hK _ _ ?_
          exact toG hG (S345) (by kernel_rfl)
        refine AllReadyIn.cons rfl (fun K hK => ?_) ?_
        · go_simp
          refine hK _ _ ?_
          exact toG hG (S348) (by kernel_rfl)
        exact AllReadyIn.nil
      have S38 : G 10 #[false, false, false, true, false, false, false, false, true, false, false, false] ⟨#[.func (.func 21) #[] #[], .int .i64 (n : Int), .int .i64 (i : Int), .slice ba bl bc, .slice pa pl pc, .pointer (some ⟨w.heap.size, 0, none⟩), undef, undef, undef, .pointer (some ⟨w.heap.size + 1, 0, none⟩), .pointer (some ⟨w.heap.size + 2, 0, none⟩), .int .i64 0, .int .i64 (place : Int), .bool false, .bool false, .int .i64 (n : Int), .int .i64 (i : Int), .bool true, .bool false, undef, .bool false, .slice pa pl pc, .int .i64 (pl : Int), .int .i64 (n : Int), .int .i64 (i : Int), .int .i64 (pl : Int), .bool false, undef, .func (.func 21) #[] #[], .slice ba bl bc, u30, u31, u32, .int .i64 (n : Int), .int .i64 (i : Int), .func (.func 42) #[] #[.pointer (some ⟨w8.heap.size, 0, none⟩), .pointer (some ⟨w8.heap.size + 1, 0, none⟩)], .int .i64 (place : Int), .bool false, .bool false, undef, undef, undef, .slice (some ⟨pb, po, none⟩) rl cap, undef, undef, undef, undef, .slice (some ⟨pb, po, none⟩) rl cap, undef, undef], []⟩ V := by
        rw [hG]
        refine wpAnyIn_ready (rs := [0, 1, 2, 4, 9]) (by kernel_rfl) (by simp) ?_
        refine AllReadyIn.cons rfl (fun K hK => ?_) ?_
        · go_simp
          refine hK _ _ ?_
          exact toG hG (S038) (by kernel_rfl)
        refine AllReadyIn.cons rfl (fun K hK => ?_) ?_
        · go_simp
          refine hK _ _ ?_
          exact toG hG (S138) (by kernel_rfl)
        refine AllReadyIn.cons rfl (fun K hK => ?_) ?_
        · rw [if_pos (by rfl)]
          refine wpIn_load_dig _ rfl _ _ rfl dc HDC.out (row_cells32 HCD.out HDC.out) ?_
          refine hK _ _ ?_
          exact toG hG (S238) (by kernel_rfl)
        refine AllReadyIn.cons rfl (fun K hK => ?_) ?_
        · go_simp
          refine hK _ _ ?_
          exact toG hG (S348) (by kernel_rfl)
        refine AllReadyIn.cons rfl (fun K hK => ?_) ?_
        · rw [if_pos (by rfl)]
          refine HSL.out _ _ _ _ _ _ _ _ _ rfl rfl ?_
          refine hK _ _ ?_
          exact toG hG (S389) (by kernel_rfl)
        exact AllReadyIn.nil
      have S89 : G 10 #[false, false, false, false, false, false, false, false, true, true, false, false] ⟨#[.func (.func 21) #[] #[], .int .i64 (n : Int), .int .i64 (i : Int), .slice ba bl bc, .slice pa pl pc, .pointer (some ⟨w.heap.size, 0, none⟩), undef, undef, undef, .pointer (some ⟨w.heap.size + 1, 0, none⟩), .pointer (some ⟨w.heap.size + 2, 0, none⟩), .int .i64 0, .int .i64 (place : Int), .bool false, .bool false, .int .i64 (n : Int), .int .i64 (i : Int), .bool true, .bool false, undef, .bool false, .slice pa pl pc, .int .i64 (pl : Int), .int .i64 (n : Int), .int .i64 (i : Int), .int .i64 (pl : Int), .bool false, undef, .func (.func 21) #[] #[], .slice ba bl bc, u30, u31, u32, .int .i64 (n : Int), .int .i64 (i : Int), .func (.func 42) #[] #[.pointer (some ⟨w8.heap.size, 0, none⟩), .pointer (some ⟨w8.heap.size + 1, 0, none⟩)], .int .i64 (place : Int), .bool false, .bool false, undef, undef, undef, undef, undef, undef, undef, undef, .slice (some ⟨pb, po, none⟩) rl cap, .slice na rm nc, undef], []⟩ V := by
        rw [hG]
        refine wpAnyIn_ready (rs := [0, 1, 2, 3]) (by kernel_rfl) (by simp) ?_
        refine AllReadyIn.cons rfl (fun K hK => ?_) ?_
        · go_simp
          refine hK _ _ ?_
          exact toG hG (S089) (by kernel_rfl)
        refine AllReadyIn.cons rfl (fun K hK => ?_) ?_
        · go_simp
          refine hK _ _ ?_
          exact toG hG (S189) (by kernel_rfl)
        refine AllReadyIn.cons rfl (fun K hK => ?_) ?_
        · rw [if_pos (by rfl)]
          refine wpIn_load_dig _ rfl _ _ rfl dc HDC.out (row_cells32 HCD.out HDC.out) ?_
          refine hK _ _ ?_
          exact toG hG (S289) (by kernel_rfl)
        refine AllReadyIn.cons rfl (fun K hK => ?_) ?_
        · go_simp
          refine hK _ _ ?_
          exact toG hG (S389) (by kernel_rfl)
        exact AllReadyIn.nil
      have S0 : G 11 #[true, false, false, false, false, false, false, false, false, false, false, false] ⟨#[.func (.func 21) #[] #[], .int .i64 (n : Int), .int .i64 (i : Int), .slice ba bl bc, .slice pa pl pc, .pointer (some ⟨w.heap.size, 0, none⟩), undef, undef, undef, .pointer (some ⟨w.heap.size + 1, 0, none⟩), .pointer (some ⟨w.heap.size + 2, 0, none⟩), .int .i64 0, .int .i64 (place : Int), .bool false, .bool false, .int .i64 (n : Int), .int .i64 (i : Int), .bool true, .bool false, undef, .bool false, .slice pa pl pc, .int .i64 (pl : Int), .int .i64 (n : Int), .int .i64 (i : Int), .int .i64 (pl : Int), .bool false, undef, .func (.func 21) #[] #[], .slice ba bl bc, u30, u31, u32, .int .i64 (n : Int), .int .i64 (i : Int), .func (.func 42) #[] #[.pointer (some ⟨w8.heap.size, 0, none⟩), .pointer (some ⟨w8.heap.size + 1, 0, none⟩)], .int .i64 (place : Int), .bool false, .bool false, .func (.func 21) #[] #[], undef, undef, undef, undef, undef, undef, undef, undef, undef, undef], []⟩ V := by
        rw [hG]
        refine wpAnyIn_ready (rs := [1, 2, 3, 8]) (by kernel_rfl) (by simp) ?_
        refine AllReadyIn.cons rfl (fun K hK => ?_) ?_
        · go_simp
          refine hK _ _ ?_
          exact toG hG (S01) (by kernel_rfl)
        refine AllReadyIn.cons rfl (fun K hK => ?_) ?_
        · rw [if_pos (by rfl)]
          refine wpIn_load_dig _ rfl _ _ rfl dc HDC.out (row_cells32 HCD.out HDC.out) ?_
          refine hK _ _ ?_
          exact toG hG (S02) (by kernel_rfl)
        refine AllReadyIn.cons rfl (fun K hK => ?_) ?_
        · go_simp
          refine hK _ _ ?_
          exact toG hG (S03) (by kernel_rfl)
        refine AllReadyIn.cons rfl (fun K hK => ?_) ?_
        · go_simp
          refine hK _ _ ?_
          exact toG hG (S08) (by kernel_rfl)
        exact AllReadyIn.nil
      have S1 : G 11 #[false, true, false, false, false, false, false, false, false, false, false, false] ⟨#[.func (.func 21) #[] #[], .int .i64 (n : Int), .int .i64 (i : Int), .slice ba bl bc, .slice pa pl pc, .pointer (some ⟨w.heap.size, 0, none⟩), undef, undef, undef, .pointer (some ⟨w.heap.size + 1, 0, none⟩), .pointer (some ⟨w.heap.size + 2, 0, none⟩), .int .i64 0, .int .i64 (place : Int), .bool false, .bool false, .int .i64 (n : Int), .int .i64 (i : Int), .bool true, .bool false, undef, .bool false, .slice pa pl pc, .int .i64 (pl : Int), .int .i64 (n : Int), .int .i64 (i : Int), .int .i64 (pl : Int), .bool false, undef, .func (.func 21) #[] #[], .slice ba bl bc, u30, u31, u32, .int .i64 (n : Int), .int .i64 (i : Int), .func (.func 42) #[] #[.pointer (some ⟨w8.heap.size, 0, none⟩), .pointer (some ⟨w8.heap.size + 1, 0, none⟩)], .int .i64 (place : Int), .bool false, .bool false, undef, .int .i64 (place : Int), undef, undef, undef, undef, undef, undef, undef, undef, undef], []⟩ V := by
        rw [hG]
        refine wpAnyIn_ready (rs := [0, 2, 3, 8]) (by kernel_rfl) (by simp) ?_
        refine AllReadyIn.cons rfl (fun K hK => ?_) ?_
        · go_simp
          refine hK _ _ ?_
          exact toG hG (S01) (by kernel_rfl)
        refine AllReadyIn.cons rfl (fun K hK => ?_) ?_
        · rw [if_pos (by rfl)]
          refine wpIn_load_dig _ rfl _ _ rfl dc HDC.out (row_cells32 HCD.out HDC.out) ?_
          refine hK _ _ ?_
          exact toG hG (S12) (by kernel_rfl)
        refine AllReadyIn.cons rfl (fun K hK => ?_) ?_
        · go_simp
          refine hK _ _ ?_
          exact toG hG (S13) (by kernel_rfl)
        refine AllReadyIn.cons rfl (fun K hK => ?_) ?_
        · go_simp
          refine hK _ _ ?_
          exact toG hG (S18) (by kernel_rfl)
        exact AllReadyIn.nil
      have S2 : G 11 #[false, false, true, false, false, false, false, false, false, false, false, false] ⟨#[.func (.func 21) #[] #[], .int .i64 (n : Int), .int .i64 (i : Int), .slice ba bl bc, .slice pa pl pc, .pointer (some ⟨w.heap.size, 0, none⟩), undef, undef, undef, .pointer (some ⟨w.heap.size + 1, 0, none⟩), .pointer (some ⟨w.heap.size + 2, 0, none⟩), .int .i64 0, .int .i64 (place : Int), .bool false, .bool false, .int .i64 (n : Int), .int .i64 (i : Int), .bool true, .bool false, undef, .bool false, .slice pa pl pc, .int .i64 (pl : Int), .int .i64 (n : Int), .int .i64 (i : Int), .int .i64 (pl : Int), .bool false, undef, .func (.func 21) #[] #[], .slice ba bl bc, u30, u31, u32, .int .i64 (n : Int), .int .i64 (i : Int), .func (.func 42) #[] #[.pointer (some ⟨w8.heap.size, 0, none⟩), .pointer (some ⟨w8.heap.size + 1, 0, none⟩)], .int .i64 (place : Int), .bool false, .bool false, undef, undef, dg dc, undef, undef, undef, undef, undef, undef, undef, undef], []⟩ V := by
        rw [hG]
        refine wpAnyIn_ready (rs := [0, 1, 3, 8]) (by kernel_rfl) (by simp) ?_
        refine AllReadyIn.cons rfl (fun K hK => ?_) ?_
        · go_simp
          refine hK _ _ ?_
          exact toG hG (S02) (by kernel_rfl)
        refine AllReadyIn.cons rfl (fun K hK => ?_) ?_
        · go_simp
          refine hK _ _ ?_
          exact toG hG (S12) (by kernel_rfl)
        refine AllReadyIn.cons rfl (fun K hK => ?_) ?_
        · go_simp
          refine hK _ _ ?_
          exact toG hG (S23) (by kernel_rfl)
        refine AllReadyIn.cons rfl (fun K hK => ?_) ?_
        · go_simp
          refine hK _ _ ?_
          exact toG hG (S28) (by kernel_rfl)
        exact AllReadyIn.nil
      have S3 : G 11 #[false, false, false, true, false, false, false, false, false, false, false, false] ⟨#[.func (.func 21) #[] #[], .int .i64 (n : Int), .int .i64 (i : Int), .slice ba bl bc, .slice pa pl pc, .pointer (some ⟨w.heap.size, 0, none⟩), undef, undef, undef, .pointer (some ⟨w.heap.size + 1, 0, none⟩), .pointer (some ⟨w.heap.size + 2, 0, none⟩), .int .i64 0, .int .i64 (place : Int), .bool false, .bool false, .int .i64 (n : Int), .int .i64 (i : Int), .bool true, .bool false, undef, .bool false, .slice pa pl pc, .int .i64 (pl : Int), .int .i64 (n : Int), .int .i64 (i : Int), .int .i64 (pl : Int), .bool false, undef, .func (.func 21) #[] #[], .slice ba bl bc, u30, u31, u32, .int .i64 (n : Int), .int .i64 (i : Int), .func (.func 42) #[] #[.pointer (some ⟨w8.heap.size, 0, none⟩), .pointer (some ⟨w8.heap.size + 1, 0, none⟩)], .int .i64 (place : Int), .bool false, .bool false, undef, undef, undef, .slice (some ⟨pb, po, none⟩) rl cap, undef, undef, undef, undef, undef, undef, undef], []⟩ V := by
        rw [hG]
        refine wpAnyIn_ready (rs := [0, 1, 2, 4, 8]) (by kernel_rfl) (by simp) ?_
        refine AllReadyIn.cons rfl (fun K hK => ?_) ?_
        · go_simp
          refine hK _ _ ?_
          exact toG hG (S03) (by kernel_rfl)
        refine AllReadyIn.cons rfl (fun K hK => ?_) ?_
        · go_simp
          refine hK _ _ ?_
          exact toG hG (S13) (by kernel_rfl)
        refine AllReadyIn.cons rfl (fun K hK => ?_) ?_
        · rw [if_pos (by rfl)]
          refine wpIn_load_dig _ rfl _ _ rfl dc HDC.out (row_cells32 HCD.out HDC.out) ?_
          refine hK _ _ ?_
          exact toG hG (S23) (by kernel_rfl)
        refine AllReadyIn.cons rfl (fun K hK => ?_) ?_
        · go_simp
          refine hK _ _ ?_
          exact toG hG (S34) (by kernel_rfl)
        refine AllReadyIn.cons rfl (fun K hK => ?_) ?_
        · go_simp
          refine hK _ _ ?_
          exact toG hG (S38) (by kernel_rfl)
        exact AllReadyIn.nil
      have S8 : G 11 #[false, false, false, false, false, false, false, false, true, false, false, false] ⟨#[.func (.func 21) #[] #[], .int .i64 (n : Int), .int .i64 (i : Int), .slice ba bl bc, .slice pa pl pc, .pointer (some ⟨w.heap.size, 0, none⟩), undef, undef, undef, .pointer (some ⟨w.heap.size + 1, 0, none⟩), .pointer (some ⟨w.heap.size + 2, 0, none⟩), .int .i64 0, .int .i64 (place : Int), .bool false, .bool false, .int .i64 (n : Int), .int .i64 (i : Int), .bool true, .bool false, undef, .bool false, .slice pa pl pc, .int .i64 (pl : Int), .int .i64 (n : Int), .int .i64 (i : Int), .int .i64 (pl : Int), .bool false, undef, .func (.func 21) #[] #[], .slice ba bl bc, u30, u31, u32, .int .i64 (n : Int), .int .i64 (i : Int), .func (.func 42) #[] #[.pointer (some ⟨w8.heap.size, 0, none⟩), .pointer (some ⟨w8.heap.size + 1, 0, none⟩)], .int .i64 (place : Int), .bool false, .bool false, undef, undef, undef, undef, undef, undef, undef, undef, .slice (some ⟨pb, po, none⟩) rl cap, undef, undef], []⟩ V := by
        rw [hG]
        refine wpAnyIn_ready (rs := [0, 1, 2, 3, 9]) (by kernel_rfl) (by simp) ?_
        refine AllReadyIn.cons rfl (fun K hK => ?_) ?_
        · go_simp
          refine hK _ _ ?_
          exact toG hG (S08) (by kernel_rfl)
        refine AllReadyIn.cons rfl (fun K hK => ?_) ?_
        · go_simp
          refine hK _ _ ?_
          exact toG hG (S18) (by kernel_rfl)
        refine AllReadyIn.cons rfl (fun K hK => ?_) ?_
        · rw [if_pos (by rfl)]
          refine wpIn_load_dig _ rfl _ _ rfl dc HDC.out (row_cells32 HCD.out HDC.out) ?_
          refine hK _ _ ?_
          exact toG hG (S28) (by kernel_rfl)
        refine AllReadyIn.cons rfl (fun K hK => ?_) ?_
        · go_simp
          refine hK _ _ ?_
          exact toG hG (S38) (by kernel_rfl)
        refine AllReadyIn.cons rfl (fun K hK => ?_) ?_
        · rw [if_pos (by rfl)]
          refine HSL.out _ _ _ _ _ _ _ _ _ rfl rfl ?_
          refine hK _ _ ?_
          exact toG hG (S89) (by kernel_rfl)
        exact AllReadyIn.nil
      have S_ : G 12 #[false, false, false, false, false, false, false, false, false, false, false, false] ⟨#[.func (.func 21) #[] #[], .int .i64 (n : Int), .int .i64 (i : Int), .slice ba bl bc, .slice pa pl pc, .pointer (some ⟨w.heap.size, 0, none⟩), undef, undef, undef, .pointer (some ⟨w.heap.size + 1, 0, none⟩), .pointer (some ⟨w.heap.size + 2, 0, none⟩), .int .i64 0, .int .i64 (place : Int), .bool false, .bool false, .int .i64 (n : Int), .int .i64 (i : Int), .bool true, .bool false, undef, .bool false, .slice pa pl pc, .int .i64 (pl : Int), .int .i64 (n : Int), .int .i64 (i : Int), .int .i64 (pl : Int), .bool false, undef, .func (.func 21) #[] #[], .slice ba bl bc, u30, u31, u32, .int .i64 (n : Int), .int .i64 (i : Int), .func (.func 42) #[] #[.pointer (some ⟨w8.heap.size, 0, none⟩), .pointer (some ⟨w8.heap.size + 1, 0, none⟩)], .int .i64 (place : Int), .bool false, .bool false, undef, undef, undef, undef, undef, undef, undef, undef, undef, undef, undef], []⟩ V := by
        rw [hG]
        refine wpAnyIn_ready (rs := [0, 1, 2, 3, 8]) (by kernel_rfl) (by simp) ?_
        refine AllReadyIn.cons rfl (fun K hK => ?_) ?_
        · go_simp
          refine hK _ _ ?_
          exact toG hG (S0) (by kernel_rfl)
        refine AllReadyIn.cons rfl (fun K hK => ?_) ?_
        · go_simp
          refine hK _ _ ?_
          exact toG hG (S1) (by kernel_rfl)
        refine AllReadyIn.cons rfl (fun K hK => ?_) ?_
        · rw [if_pos (by rfl)]
          refine wpIn_load_dig _ rfl _ _ rfl dc HDC.out (row_cells32 HCD.out HDC.out) ?_
          refine hK _ _ ?_
          exact toG hG (S2) (by kernel_rfl)
        refine AllReadyIn.cons rfl (fun K hK => ?_) ?_
        · go_simp
          refine hK _ _ ?_
          exact toG hG (S3) (by kernel_rfl)
        refine AllReadyIn.cons rfl (fun K hK => ?_) ?_
        · go_simp
          refine hK _ _ ?_
          exact toG hG (S8) (by kernel_rfl)
        exact AllReadyIn.nil
      exact S_
    · have hd : decide (x.1 ≤ bs x.2) = true := decide_eq_true (by omega)
      have HSN : Hid (cmF d0 p (pre ++ [x]) = (dc, rs)) := Lib.hid (by rw [hsn]; unfold cmS; rw [if_neg h2])
      rw [hd]
      clear hsn hcs i1 i2 i3 hst hrest hd h2 hple
      gi_wp2
      exact ⟨KeepsFrom.refl _ _, .refl _ _, by unfold CmI; rw [HSN.out]; exact ⟨hcd, ⟨a, cap, hcp, hdr⟩, hch, hB⟩⟩
  case done =>
    rintro D ys W hD rfl ⟨hcd, -, hch, hB⟩ hK
    rw [HCM.out] at hcd
    have HCL : Hid ((clm sha Ndd f n i d0 p).length = 32) := Lib.hid (by
      rw [← HCM.out]; exact (HINV.out _ (Nat.le_of_eq HCN.out)).1)
    obtain ⟨y, hyy⟩ : ∃ y, y = clm sha Ndd f n i d0 p := ⟨_, rfl⟩
    rw [← hyy] at hcd HCL
    have HYY := Lib.hid hyy
    clear hyy
    have hcd2 := hcd.setRow (cellsOf y)
    have hB2 := below_setRow hB (w.heap.size + 2) (cellsOf y).toArray (by omega)
    have hK2 : (W.setRow (w.heap.size + 2) (cellsOf y).toArray).heap[D]? = some (.deferred (some [])) := (setRow_other W (w.heap.size + 2) D _ (by omega)).trans hK
    go_wp2_with (first
      | (refine wpList_row_dig rfl (.tmp 10) rfl (w.heap.size + 2) y HCL.out rfl hcd ?_)
      | (refine wpList_store_row rfl 30 (.tmp 10) (.tmp 49) rfl (w.heap.size + 2) (cellsOf y).toArray rfl rfl 30 (cellsOf y).toArray hcd (size32' HCL.out) rfl (cellsOf_one _) ?_)
      | fail)
    generalize W.setRow (w.heap.size + 2) (cellsOf y).toArray = W5 at *
    have hcd3 : Row (W5.putObj D (.deferred none)) (w.heap.size + 2) 30 (cellsOf y) := (World.putObj_heap_other (by omega)).trans hcd2
    refine ⟨by simp, .inl ⟨_, _, rfl, run_takeDeferred hK2, ?_⟩⟩
    exact ⟨_, results_two rfl _ _ (w.heap.size + 2) (cellsOf y) rfl _ rfl hcd3 (size32' HCL.out), by rw [← HD0.out, ← HYY.out]; rfl, hB2.trans (belowK_b (w := w) (Nat.le_refl _) W5 D _ _ (by omega) hK2 rfl rfl)⟩
end Go.Proofs.YtbceimbcjijfgaaDoor.Dig
