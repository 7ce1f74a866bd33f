/- Flow is pushed from a vertex to the sink: the walk. -/
import Derived.Test.YtbmbddapbgnioaaQ
namespace Go.Proofs.Ytbmbddapbgnioaa
open Go.RowKit Go.Shelf
attribute [local go_sem] Oper.semAt_some

/-- what a push promises -/
def Pushes (c : Ctx) (v : Nat) (most : Int) (X L F : List Int) (w : World) : Prop :=
  Calls Try.prog 41 #[.int .i64 (v : Int), .int .i64 most, .pointer (some ⟨c.Br, 0, none⟩), .pointer (some ⟨c.Bf, 0, none⟩), .pointer (some ⟨c.Bl, 0, none⟩), .pointer (some ⟨c.Bp, 0, none⟩)] w
      fun e w' => ∃ p X' L' F', e = .returned (.int .i64 p) ∧ PM c w' X' L' F' ∧ PP c.N c.t c.A X L F v most p X' L' F' ∧ KG c w w'
theorem open_call (g : Nat) (v first : Int) (w : World) :
    Calls Try.prog 40 #[.pointer (some ⟨g, 0, none⟩), .int .i64 v, .int .i64 first] w fun e w' => e = .returned (.func (.func 42) #[] #[.pointer (some ⟨w.heap.size + 1 + 1, 0, none⟩), .pointer (some ⟨w.heap.size, 0, none⟩), .pointer (some ⟨w.heap.size + 1, 0, none⟩)]) ∧ w' = ((w.alloc (.cells #[.pointer (some ⟨g, 0, none⟩)] 56)).alloc (.cells #[.int .i64 v] 3)).alloc (.cells #[.int .i64 first] 3) :=
  (callsIn_wide (n := 6)).1 (open_in 6 g v first w)
/-- the boxes of an iterator -/
theorem open_boxes (g : Nat) (v first : Int) (W : World) : ∃ W3 : World, W3 = ((W.alloc (.cells #[.pointer (some ⟨g, 0, none⟩)] 56)).alloc (.cells #[.int .i64 v] 3)).alloc (.cells #[.int .i64 first] 3) ∧ Below W.heap.size W W3 ∧ W3.heap.size = W.heap.size + 3 ∧
    W3.cell? ⟨W.heap.size, 0, none⟩ = some (.pointer (some ⟨g, 0, none⟩)) ∧ W3.cell? ⟨W.heap.size + 1, 0, none⟩ = some (.int .i64 v) ∧ W3.cell? ⟨W.heap.size + 1 + 1, 0, none⟩ = some (.int .i64 first) := by
  refine ⟨_, rfl, below_next (below_next (Joins.below_alloc1 W _) (Joins.below_alloc1 _ _)) (Joins.below_alloc1 _ _), by simp, ?_, ?_, ?_⟩
  · exact (((row_new W 56 [.pointer (some ⟨g, 0, none⟩)]).keep (Joins.below_alloc1 _ _)).keep (Joins.below_alloc1 _ _)).cell (i := 0) rfl
  · have := ((row_new (W.alloc (.cells #[.pointer (some ⟨g, 0, none⟩)] 56)) 3 [.int .i64 v]).keep (Joins.below_alloc1 _ (.cells #[.int .i64 first] 3))).cell (i := 0) rfl
    rwa [World.size_alloc] at this
  · have := (row_new ((W.alloc (.cells #[.pointer (some ⟨g, 0, none⟩)] 56)).alloc (.cells #[.int .i64 v] 3)) 3 [.int .i64 first]).cell (i := 0) rfl
    rwa [World.size_alloc, World.size_alloc] at this
theorem lft_rng {c : Ctx} (hc : c.Ok) {X : List Int} (h : okF c.A X) {k : Nat} (hk : k < c.A.length) (b : Nat) : 0 ≤ lft c.A X k b ∧ lft c.A X k b ≤ 1073741824 := by
  have h1 := ((okF_iff c.A X).1 h).2 k hk
  have e : c.A.getD k (0, 0, 0) = c.A[k] := by simp [hk]
  have h2 := hc.caps (c.A.getD k (0, 0, 0)) (by rw [e]; exact List.getElem_mem hk)
  unfold lft
  split <;> omega
theorem Kp2.weakS {c : Ctx} {o : Nat} {W W' : World} (h : KG c W W') : Kp2 (fun b => b ≠ c.g ∧ b ≠ c.f ∧ b ≠ c.l ∧ b ≠ o) W W' := ⟨h.1, h.2.weak fun b hb => ⟨hb.1, hb.2.1, hb.2.2.1⟩, h.os, h.tape, h.output⟩
theorem from_kb {c : Ctx} {w W W' : World} {C : Nat} (hc : c.Ok) (ho : c.g < w.heap.size ∧ c.Br < w.heap.size ∧ c.Bf < w.heap.size ∧ c.f < w.heap.size) (hC : C = w.heap.size + 6) (h : Kp2 (fun b => b ≠ c.g ∧ b ≠ c.f ∧ b ≠ c.l ∧ b ≠ w.heap.size + 1 + 1) W W') : KeepsFrom C W W' :=
  ⟨h.1, fun k o hk ho' _ => (h.2 k (by have := hc.lBr; exact ⟨by omega, by omega, by omega, by omega⟩) (Array.getElem?_eq_some_iff.1 ho').1).trans ho'⟩
set_option maxRecDepth 100000 in
set_option maxHeartbeats 40000000 in
theorem push_walk (c : Ctx) (hc : c.Ok) (D : Nat)
    (ih : ∀ (v : Nat) (most : Int) (X L F : List Int) (w : World), v < c.N → 1 ≤ most → most ≤ 549755813888 → 1 ≤ L.getD v 0 → 65 ≤ L.getD v 0 + D → PI c.N c.A X L F → PM c w X L F → Pushes c v most X L F w)
    (v : Nat) (most : Int) (X L F : List Int) (w : World) (hv : v < c.N) (hm : 1 ≤ most) (hm2 : most ≤ 549755813888) (hl1 : 1 ≤ L.getD v 0) (hl2 : 65 ≤ L.getD v 0 + (D + 1 : Nat)) (hp : PI c.N c.A X L F) (h : PM c w X L F) (hvt : v ≠ c.t) :
    Pushes c v most X L F w := by
  unfold Pushes at ih ⊢
  have HIH := Lib.hid ih
  have HP := Lib.hid hp
  have HC := Lib.hid hc
  have HM := Lib.hid h
  have HN := Lib.hid (show v < c.N ∧ 1 ≤ most ∧ most ≤ 549755813888 ∧ 1 ≤ L.getD v 0 ∧ 65 ≤ L.getD v 0 + (D + 1 : Nat) ∧ v ≠ c.t from ⟨hv, hm, hm2, hl1, hl2, hvt⟩)
  have HCN : Hid (c.N ≤ 64) := Lib.hid hc.N64
  have HFV := Lib.hid (hp.fv v hv)
  have HLF : Hid (F.length = c.N ∧ L.length = c.N) := Lib.hid ⟨hp.lf, hp.ll⟩
  have c1 := h.br.cell (i := 0) rfl
  have c2 := h.gm.t
  have c3 := h.bf.cell (i := 0) rfl
  have c4 := nrow_cell h.rf (u := v) (by rw [hp.lf]; exact hv)
  have l1 := h.br.lt
  have l2 := h.gm.lt
  have l3 := h.bf.lt
  have l4 := h.rf.lt
  have HBP : Hid (c.Bp < w.heap.size) := Lib.hid h.bp.lt
  obtain ⟨W1, hW1⟩ : ∃ W1, W1 = ((w.alloc (.cells #[.int .i64 (v : Int)] 3)).alloc (.cells #[.int .i64 most] 3)).alloc (.cells #[.int .i64 0] 3) := ⟨_, rfl⟩
  have hB : Below w.heap.size w W1 := by rw [hW1]; exact below_next (below_next (Joins.below_alloc1 w _) (Joins.below_alloc1 _ _)) (Joins.below_alloc1 _ _)
  have hS1 : W1.heap.size = w.heap.size + 3 := by rw [hW1]; simp
  have r0 : Row W1 w.heap.size 3 [.int .i64 (v : Int)] := by rw [hW1]; exact ((row_new w 3 _).keep (Joins.below_alloc1 _ _)).keep (Joins.below_alloc1 _ _)
  have r1 : Row W1 (w.heap.size + 1) 3 [.int .i64 most] := by
    have := (row_new (w.alloc (.cells #[.int .i64 (v : Int)] 3)) 3 [.int .i64 most]).keep (Joins.below_alloc1 _ (.cells #[.int .i64 0] 3))
    rw [hW1]; rwa [World.size_alloc] at this
  have r2 : Row W1 (w.heap.size + 1 + 1) 3 [.int .i64 0] := by
    have := row_new ((w.alloc (.cells #[.int .i64 (v : Int)] 3)).alloc (.cells #[.int .i64 most] 3)) 3 [.int .i64 0]
    rw [hW1]; rwa [World.size_alloc, World.size_alloc] at this
  have c1' := (hB.cell (p := ⟨c.Br, 0, none⟩) l1).trans c1
  have c2' := (hB.cell (p := ⟨c.g, 2, none⟩) l2).trans c2
  have d0 := r0.cell (i := 0) rfl
  have e1 : (((v : Int)) == (c.t : Int)) = false := by simp; omega
  have HB := Lib.hid hB
  have HW := Lib.hid hW1
  have HR := Lib.hid (And.intro r0 (And.intro r1 r2))
  have HS1 := Lib.hid hS1
  have HO : Hid (c.g < w.heap.size ∧ c.Br < w.heap.size ∧ c.Bf < w.heap.size ∧ c.f < w.heap.size) := Lib.hid ⟨l2, l1, l3, l4⟩
  have HC34 := Lib.hid (And.intro c3 c4)
  obtain ⟨t, ht⟩ : ∃ t, t = c.t := ⟨_, rfl⟩
  rw [← ht] at e1 c2'
  have HT := Lib.hid ht
  clear h hm hp hc c1 c2 c3 c4 l1 l2 l3 l4 r0 r1 r2 hB hW1 ih hv hm2 hl1 hl2 hvt hS1 ht
  refine (callsIn_wide (n := 6)).1 ?_
  refine callsIn_of_wp_marks Try.func41 rfl trivial ?_ rfl
  simp only [Try.ntmps41, List.size_toArray, List.length_cons, List.length_nil, Nat.reduceAdd, Nat.reduceSub, Array.replicate_succ, Array.replicate_zero, List.push_toArray, List.append_toArray, List.nil_append, List.cons_append]
  refine wpIn_wide.2 ?_
  go_wp2_with fail
  rw [← HW.out]
  refine wp_region_quiet_lit (by kernel_rfl) (by kernel_rfl) ?_
  repeat (go_big_quiet_step (fail))
  refine wpQuiet_nil ?_
  rintro _ ⟨nq, rfl⟩
  have hq := drewN_below W1 nq
  have HB2 := Lib.hid (below_next HB.out hq)
  have HR2 : Hid (Row (W1.drewN nq) w.heap.size 3 [.int .i64 (v : Int)] ∧ Row (W1.drewN nq) (w.heap.size + 1) 3 [.int .i64 most] ∧ Row (W1.drewN nq) (w.heap.size + 1 + 1) 3 [.int .i64 0]) := Lib.hid ⟨HR.out.1.keep hq, HR.out.2.1.keep hq, HR.out.2.2.keep hq⟩
  have HS2 : Hid ((W1.drewN nq).heap.size = w.heap.size + 3) := Lib.hid HS1.out
  have c1 := (hq.cell (p := ⟨c.Br, 0, none⟩) (lt_of_cell c1')).trans c1'
  have c3 := (HB2.out.cell (p := ⟨c.Bf, 0, none⟩) HO.out.2.2.1).trans HC34.out.1
  have c4 := (HB2.out.cell (p := ⟨c.f, v, none⟩) HO.out.2.2.2).trans HC34.out.2
  have d0 := HR2.out.1.cell (i := 0) rfl
  clear hq HR HS1 HW c1' c2' HC34 HB
  generalize W1.drewN nq = W2 at *
  have hvN : (v : Int) < (c.N : Int) := by have := HN.out; omega
  obtain ⟨N, hNn⟩ : ∃ N, N = c.N := ⟨_, rfl⟩
  rw [← hNn] at c3 hvN
  have HNN := Lib.hid hNn
  obtain ⟨fv, hfv⟩ : ∃ fv : Nat, F.getD v 0 = (fv : Int) := ⟨(F.getD v 0).toNat, by have := HFV.out; omega⟩
  rw [hfv] at c4
  have HFE := Lib.hid hfv
  clear hNn hfv
  go_wp2_with fail
  go_still_tail 6, (by kernel_rfl)
  obtain ⟨W3, hW3, hb3, hs3, b0, b1, b2⟩ := open_boxes c.g (v : Int) (fv : Int) W2.drew
  have HW3 := Lib.hid hW3
  clear hW3
  go_wp2_with (go_at_call 40; refine (open_call c.g (v : Int) (fv : Int) _).mono ?_; rintro e w3 ⟨rfl, rfl⟩; rw [← HW3.out])
  have hs3' : W3.heap.size = w.heap.size + 6 := by have h1 := HS2.out; have h2 : W2.drew.heap.size = W2.heap.size := rfl; omega
  have hb3' : Below W2.heap.size W2 W3 := Below.trans (b := W2.drew) (Below.refl _ _).drew hb3
  have HB3 := Lib.hid (below_next HB2.out hb3')
  have h0 : RI c w w.heap.size v most X L F fv W3 := by
    refine ⟨0, X, L, F, HM.out.keep HC.out HB3.out, ?_, ⟨HR2.out.1.keep hb3', HR2.out.2.1.keep hb3', HR2.out.2.2.keep hb3'⟩, KG.below HB3.out, by omega⟩
    have := PL.start (t := c.t) (v := v) HP.out HN.out.2.1
    rwa [HFE.out, Int.toNat_natCast] at this
  have HE := Lib.hid (show c.Bp < w.heap.size ∧ w.heap.size = w.heap.size from ⟨HBP.out, rfl⟩)
  have hN2 := HS2.out
  have hvl := HN.out.1
  refine (wpIn_wide (n := 6)).1 ?_
  refine range_ix (F := Fence.wide) (n := 6) rfl (by omega) (gf := 42) (lb := #[.pointer (some ⟨W2.heap.size + 1 + 1, 0, none⟩), .pointer (some ⟨W2.heap.size, 0, none⟩), .pointer (some ⟨W2.heap.size + 1, 0, none⟩)]) rfl trivial (enters_of Try.func42 (by kernel_rfl) rfl)
    (enc := encS (stA c.A v)) (B := fun b => w.heap.size + 3 ≤ b ∧ b < w.heap.size + 6) (fun b hb => by omega) (first := fv) (len := (stA c.A v).length) (op := OpS c.g (stA c.A v)) (rd := fun _ W => ∃ lf, GM W c.g c.N c.s c.t c.A c.va c.sb c.sc lf ∧ SM W c.K c.g c.A c.sb c.sc)
    (fun W hW => open_tells 5 (by omega) (W2.heap.size + 1 + 1) W2.heap.size (W2.heap.size + 1) _ c.K c.g c.N c.s c.t v fv c.A c.va c.sb c.sc W ⟨by omega, by omega⟩ ⟨by omega, by omega⟩ ⟨by omega, by omega⟩ (fun b hb => by have := hW.size; omega)
      ((hW.cell (p := ⟨W2.heap.size + 1 + 1, 0, none⟩) (show W2.heap.size + 1 + 1 < W3.heap.size by omega)).trans b2) ((hW.cell (p := ⟨W2.heap.size, 0, none⟩) (show W2.heap.size < W3.heap.size by omega)).trans b0) ((hW.cell (p := ⟨W2.heap.size + 1, 0, none⟩) (show W2.heap.size + 1 < W3.heap.size by omega)).trans b1)
      hvl HCN.out HC.out.inn HC.out.few (by have := HFV.out; have := HFE.out; omega)) (fun _ => rfl)
    (I := RI c w w.heap.size v most X L F) (Ix := fun e W => e = .ret ∧ RX c w w.heap.size v most X L F W) ?own ?ownx h0 ?rd ?skip
    (A := fun i a' W => ∃ bx, RO c w w.heap.size v most X L F bx i W ∧ a' = { tmps := (.int .i64 (v : Int) :: .int .i64 most :: .pointer (some ⟨c.Br, 0, none⟩) :: .pointer (some ⟨c.Bf, 0, none⟩) :: .pointer (some ⟨c.Bl, 0, none⟩) :: .pointer (some ⟨c.Bp, 0, none⟩) :: .pointer (some ⟨w.heap.size, 0, none⟩) :: .pointer (some ⟨w.heap.size + 1, 0, none⟩) :: .pointer (some ⟨w.heap.size + 1 + 1, 0, none⟩) :: .int .i64 (i : Int) :: .pointer (some ⟨bx, 0, none⟩) :: undef :: .int .i64 (v : Int) :: .pointer (some ⟨c.g, 0, none⟩) :: .pointer (some ⟨c.g, 0, none⟩) :: .pointer (some ⟨c.g, 0, none⟩) :: .pointer (some ⟨c.g, 2, none⟩) :: .int .i64 (t : Int) :: .bool false :: undef :: .pointer (some ⟨c.g, 0, none⟩) :: .int .i64 (v : Int) :: .slice (some ⟨c.f, 0, none⟩) N N :: .int .i64 (v : Int) :: .pointer (some ⟨c.f, v, none⟩) :: .int .i64 (fv : Int) :: .func (.func 42) #[] #[.pointer (some ⟨W2.heap.size + 1 + 1, 0, none⟩), .pointer (some ⟨W2.heap.size, 0, none⟩), .pointer (some ⟨W2.heap.size + 1, 0, none⟩)] :: .int .i64 (i : Int) :: .agg #[.int .i64 (((stA c.A v).getD i (0, 0, 0)).1 : Int), .int .i64 (((stA c.A v).getD i (0, 0, 0)).2.1 : Int), .int .i64 (((stA c.A v).getD i (0, 0, 0)).2.2 : Int)] :: undef :: undef :: undef :: undef :: undef :: undef :: undef :: undef :: undef :: undef :: undef :: undef :: undef :: undef :: undef :: undef :: undef :: undef :: undef :: undef :: undef :: undef :: undef :: undef :: undef :: undef :: undef :: undef :: undef :: undef :: undef :: undef :: undef :: undef :: undef :: undef :: undef :: undef :: undef :: undef :: undef :: undef :: undef :: undef :: undef :: undef :: undef :: undef :: undef :: undef :: undef :: undef :: undef :: undef :: undef :: undef :: undef :: undef :: undef :: undef :: undef :: undef :: undef :: undef :: undef :: undef :: undef :: undef :: undef :: undef :: undef :: undef :: undef :: undef :: undef :: undef :: undef :: []).toArray, defers := [] }) ?owna ?assign ?body ?done ?stop
  case own => exact fun i A B row hs hgr hr => hs.grown HC.out HE.out hgr (fun r e => ⟨by have := (hr r e).1; omega, (hr r e).2⟩)
  case ownx => exact fun i A B row hs hgr hr => ⟨hs.1, hs.2.grown HC.out HE.out hgr (fun r e => ⟨by have := (hr r e).1; omega, (hr r e).2⟩)⟩
  case rd =>
    intro i W hI
    obtain ⟨q, X1, L1, F1, h1, _⟩ := hI
    exact ⟨_, h1.gm, h1.sm⟩
  case skip => exact fun i W hI hl ho => hI.skip HC.out hl ho
  case owna =>
    intro a' i A B row hs hgr hr
    obtain ⟨bx, hs, rfl⟩ := hs
    exact ⟨bx, hs.grown HC.out hgr (fun r e => ⟨by have := (hr r e).1; omega, (hr r e).2⟩), rfl⟩
  case assign =>
    intro y i W K hI hlt hop hK
    have hent := hI.enter HC.out hvl HE.out hlt hop
    unfold encS
    generalize (stA c.A v).getD i (0, 0, 0) = ei at *
    obtain ⟨ka, kw, kt⟩ := ei
    simp only at hent ⊢
    clear hN2 hs3' hs3 hb3 hb3' h0
    gi_wp2
    have hb := Joins.below_alloc1 W (.cells #[.int .i64 (ka : Int), .int .i64 (kw : Int), .int .i64 (kt : Int)] 72)
    exact hK _ _ ((others_below hb).from _) (Kp2.below hb) ⟨W.heap.size, hent, rfl⟩
  case body =>
    rintro y i a' W ⟨bx, hO, rfl⟩ hlt
    obtain ⟨q, X1, L1, F1, hR, hL, hpos⟩ := hO
    have he : (stA c.A v)[i]? = some ((stA c.A v).getD i (0, 0, 0)) := by rw [List.getD_eq_getElem?_getD, List.getElem?_eq_getElem hlt]; rfl
    have hso := st_ok HC.out.inn (List.mem_of_getElem? he)
    have hi24 : i ≤ 1024 := by have := stK_len c.A v c.A.length; have := HC.out.few; unfold stA at hlt; omega
    have hL2 := hL.first (j := i) hi24
    have hR2 := hR.store HC.out c.f v (.int .i64 (i : Int)) (.inr (.inl rfl)) (hR.pm.first HC.out v (i : Int))
    generalize (stA c.A v).getD i (0, 0, 0) = ei at *
    obtain ⟨ka, kw, kt⟩ := ei
    simp only at hR hR2 hpos ⊢
    have HSO := Lib.hid hso
    have HEI := Lib.hid he
    have HI24 := Lib.hid hi24
    have hto := hso.to
    simp only at hto
    have d1 := hR.pm.bf.cell (i := 0) rfl
    rw [← HNN.out] at d1
    have d2 := hR.r0.cell (i := 0) rfl
    have d3 := nrow_cell hR.pm.rf (u := v) (by rw [hL.pi.lf]; exact hvl)
    have d4 := hR.pm.rf.free v
    have HBX := Lib.hid hR.bo
    have HW6 : Hid (Kp2 (fun b => b ≠ c.g ∧ b ≠ c.f ∧ b ≠ c.l ∧ b ≠ w.heap.size + 1 + 1) W (W.setCell ⟨c.f, v, none⟩ (.int .i64 (i : Int)))) := Lib.hid ⟨by simp, KeepS.setCell W c.f v _ (fun h => h.2.1 rfl), rfl, rfl, rfl⟩
    have HSZ := Lib.hid (show W3.heap.size = w.heap.size + 6 from hs3')
    clear hN2 hs3' hs3 hb3 hb3' h0 hR hL hso he hi24 hlt
    have HR2 := Lib.hid hR2
    have HL2 := Lib.hid hL2
    clear hR2 hL2
    gi_wp2
    clear d1 d2 d3 d4
    generalize W.setCell ⟨c.f, v, none⟩ (.int .i64 (i : Int)) = w6 at *
    have g1 := HR2.out.pm.bl.cell (i := 0) rfl
    rw [← HNN.out] at g1
    have g2 := HR2.out.rx.cell (i := 2) rfl
    have g3 := HR2.out.r0.cell (i := 0) rfl
    have g4 := nrow_cell HR2.out.pm.rl (u := kt) (by rw [HL2.out.pi.ll]; exact hto)
    have g5 := nrow_cell HR2.out.pm.rl (u := v) (by rw [HL2.out.pi.ll]; exact hvl)
    have HLV : Hid (0 ≤ L1.getD v 0 ∧ L1.getD v 0 ≤ 64) := Lib.hid (HL2.out.pi.lv v hvl)
    have hktN : (kt : Int) < (N : Int) := by have := HNN.out; omega
    obtain ⟨lt, hlt⟩ : ∃ x, x = L1.getD kt 0 := ⟨_, rfl⟩
    obtain ⟨lv, hlv⟩ : ∃ x, x = L1.getD v 0 := ⟨_, rfl⟩
    rw [← hlt] at g4
    rw [← hlv] at g5 HLV
    have HLT := Lib.hid hlt
    have HLVE := Lib.hid hlv
    clear hlt hlv
    have hwl : IntKind.i64.wrap (lv + 1) = lv + 1 := by have := HLV.out; rw [IntKind.wrap_i64]; omega
    by_cases hnx : lt = lv + 1
    · have hnb : (lt == lv + 1) = true := by simpa using hnx
      have HNX := Lib.hid hnx
      clear hnx
      refine wpIn_region_quiet (by kernel_rfl) (by kernel_rfl) (fun ⟨_, _, h⟩ => h) (by kernel_rfl) ?_
      repeat (go_big_quiet_step (fail))
      refine wpQuiet_nil ?_
      rintro _ ⟨nq, rfl⟩
      have HDB := Lib.hid (drewN_below w6 nq)
      have HR7 := Lib.hid (HR2.out.keep HC.out HDB.out)
      have HW7 := Lib.hid (HW6.out.trans (Kp2.below HDB.out))
      clear g1 g2 g3 g4 g5 HR2 HW6 HDB
      generalize w6.drewN nq = w7 at *
      have b1 := HR7.out.pm.bp.cell (i := 0) rfl
      unfold pushV at b1
      have b2 := HR7.out.rx.cell (i := 2) rfl
      have b3 := HR7.out.r1.cell (i := 0) rfl
      have b4 := HR7.out.r2.cell (i := 0) rfl
      have b5 := HR7.out.pm.br.cell (i := 0) rfl
      have b6 := HR7.out.rx.cell (i := 0) rfl
      have b7 := HR7.out.rx.cell (i := 1) rfl
      have hka : ka < 512 := by have h1 := HSO.out.arc; have h2 := HC.out.few; simp only at h1; omega
      have hkw : kw < 2 := by have h1 := HSO.out.way; simp only at h1; omega
      have b8 := HR7.out.pm.gm.lf ka kw hka hkw
      have hxr := lft_rng HC.out HL2.out.pi.ok (show ka < c.A.length from HSO.out.arc) kw
      have hpos' : 0 < lft c.A X1 ka kw := hpos
      have hwm : IntKind.i64.wrap (most - q) = most - q := by have := HN.out; have := HL2.out.rng; rw [IntKind.wrap_i64]; omega
      have hkai : (ka : Int) < 512 := by omega
      have hkwi : (kw : Int) < 2 := by omega
      obtain ⟨x, hx⟩ : ∃ x, x = lft c.A X1 ka kw := ⟨_, rfl⟩
      rw [← hx] at b8 hxr hpos'
      obtain ⟨mm, hmm⟩ : ∃ mm, min (most - q) x = mm := ⟨_, rfl⟩
      have HMM : Hid (1 ≤ mm ∧ mm ≤ most ∧ mm ≤ 1073741824 ∧ mm = min (most - q) (lft c.A X1 ka kw)) := Lib.hid (by have := HL2.out.rng; have := HN.out; refine ⟨by omega, by omega, by omega, by rw [← hx]; exact hmm.symm⟩)
      have HCALL : Hid (Pushes c kt mm X1 L1 (F1.set v (i : Int)) w7.drew) := Lib.hid (HIH.out kt mm X1 L1 (F1.set v (i : Int)) w7.drew hto HMM.out.1 (by have := HMM.out; have := HN.out; omega) (by have := HLT.out; have := HNX.out; have := HLV.out; omega) (by have := HLT.out; have := HNX.out; have := HLVE.out; have := HL2.out.own; have := HN.out; omega) HL2.out.pi (HR7.out.pm.keep HC.out (Below.refl _ _).drew))
      unfold Pushes at HCALL
      have HHX := Lib.hid hx
      clear hxr hpos' hx
      gi_wp2
      refine wpIn_still_tail 17 (by kernel_rfl) (by kernel_rfl) (fun ⟨_, _, h⟩ => h) (by kernel_rfl) ?_
      simp only [List.take_succ_cons, List.take_zero, List.drop_succ_cons, List.drop_zero]
      repeat still_step
      refine wpStill_nil ?_
      go_wp2_with (go_at_call 41; refine HCALL.out.mono ?_; rintro e w8 ⟨m, X3, L3, F3, rfl, hpm, hpp, hkg⟩; have HR8 := Lib.hid (RB.called HC.out (HR7.out.keep HC.out (Below.refl _ _).drew) hpm hkg); have HPP := Lib.hid hpp; have HW8 := Lib.hid ((HW7.out.trans (Kp2.below (Below.refl _ _).drew)).trans (Kp2.weakS hkg)); clear hpm hpp hkg HCALL HR7 HW7 b1 b2 b3 b4 b5 b6 b7 b8)
      have hsent := HL2.out.sent HC.out.inn hvl HEI.out (e := (ka, kw, kt)) (m := m) (by show L1.getD kt 0 = L.getD v 0 + 1; rw [← HLT.out, HNX.out, HLVE.out, HL2.out.own]) HN.out.2.2.2.1 (by have h9 := HPP.out; rw [HMM.out.2.2.2] at h9; exact h9) HN.out.2.2.2.2.2
      simp only at hsent
      have HS := Lib.hid hsent
      have HMR : Hid (0 ≤ m ∧ m ≤ 1073741824) := Lib.hid (by have := HPP.out.rng; have := HMM.out; omega)
      have hlen3 := ((okF_iff c.A X3).1 HPP.out.pi.ok).1
      obtain ⟨kw2, hkw2⟩ : ∃ kw2, kw + kw2 = 1 := ⟨1 - kw, by omega⟩
      have hw1 : IntKind.i64.wrap (1 - (kw : Int)) = (kw2 : Int) := by rw [IntKind.wrap_i64]; omega
      have hx3 := lft_rng HC.out HPP.out.pi.ok (show ka < c.A.length from HSO.out.arc) kw
      have hy3 := lft_rng HC.out HPP.out.pi.ok (show ka < c.A.length from HSO.out.arc) kw2
      have hkw2' : kw2 < 2 := by omega
      have b5 := HR8.out.pm.br.cell (i := 0) rfl
      have b6 := HR8.out.rx.cell (i := 0) rfl
      have b7 := HR8.out.rx.cell (i := 1) rfl
      have b8 := HR8.out.pm.gm.lf ka kw hka hkw
      have b9 := HR8.out.pm.gm.fr (4 + ka * 2 + kw)
      have hup := fun (Z L9 F9 : List Int) (W9 : World) (h : PMl c W9 (upd (upd (lft c.A X3) ka kw (lft c.A X3 ka kw - m)) ka kw2 (lft c.A X3 ka kw2 + m)) L9 F9) => (h.congr (lf' := lft c.A (X3.set ka (X3.getD ka 0 + chg kw m))) fun k' b' _ hb' => lft_sent hkw2 (show ka < X3.length by rw [hlen3]; exact HSO.out.arc) m k' b' hb')
      have HUP := Lib.hid hup
      clear hup hsent hlen3
      obtain ⟨x3, hx3e⟩ : ∃ x3, x3 = lft c.A X3 ka kw := ⟨_, rfl⟩
      obtain ⟨y3, hy3e⟩ : ∃ y3, y3 = lft c.A X3 ka kw2 := ⟨_, rfl⟩
      rw [← hx3e] at b8 hx3
      rw [← hy3e] at hy3
      have hwx : IntKind.i64.wrap (x3 - m) = x3 - m := by have := HMR.out; rw [IntKind.wrap_i64]; omega
      have hwy : IntKind.i64.wrap (y3 + m) = y3 + m := by have := HMR.out; rw [IntKind.wrap_i64]; omega
      have HXE := Lib.hid (And.intro hx3e hy3e)
      clear hx3 hy3 hx3e hy3e
      obtain ⟨w8q, hw8q⟩ : ∃ w8q, w8q = w8.drew := ⟨_, rfl⟩
      have HR8q : Hid (RB c w w.heap.size bx v most q (ka, kw, kt) (lft c.A X3) L3 F3 w8q) := Lib.hid (by rw [hw8q]; exact HR8.out.keep HC.out (Below.refl _ _).drew)
      have hst9 := (HR8q.out.pm.left HC.out hka hkw (x3 - m))
      have HR9 := Lib.hid (HR8q.out.store HC.out c.g (4 + ka * 2 + kw) (.int .i64 (x3 - m)) (.inl rfl) hst9)
      have HW9 : Hid (Kp2 (fun b => b ≠ c.g ∧ b ≠ c.f ∧ b ≠ c.l ∧ b ≠ w.heap.size + 1 + 1) W (w8q.setCell ⟨c.g, 4 + ka * 2 + kw, none⟩ (.int .i64 (x3 - m)))) := Lib.hid ((HW8.out.trans (Kp2.below (by rw [hw8q]; exact (Below.refl _ _).drew))).trans ⟨by simp, KeepS.setCell w8q c.g _ _ (fun h => h.1 rfl), rfl, rfl, rfl⟩)
      rw [hw8q] at HR9 HW9
      clear hw8q HR8q hst9 HW8 HR8
      gi_wp2
      refine wpIn_still_tail 16 (by kernel_rfl) (by kernel_rfl) (fun ⟨_, _, h⟩ => h) (by kernel_rfl) ?_
      simp only [List.take_succ_cons, List.take_zero, List.drop_succ_cons, List.drop_zero]
      repeat still_step
      refine wpStill_nil ?_
      go_wp2_with fail
      replace HR9 : Hid (RB c w w.heap.size bx v most q (ka, kw, kt) (upd (lft c.A X3) ka kw (x3 - m)) L3 F3 (w8.setCell ⟨c.g, 4 + ka * 2 + kw, none⟩ (.int .i64 (x3 - m))).drew) := Lib.hid HR9.out
      replace HW9 : Hid (Kp2 (fun b => b ≠ c.g ∧ b ≠ c.f ∧ b ≠ c.l ∧ b ≠ w.heap.size + 1 + 1) W (w8.setCell ⟨c.g, 4 + ka * 2 + kw, none⟩ (.int .i64 (x3 - m))).drew) := Lib.hid HW9.out
      clear b5 b6 b7 b8 b9
      generalize (w8.setCell ⟨c.g, 4 + ka * 2 + kw, none⟩ (.int .i64 (x3 - m))).drew = w9 at *
      have b5 := HR9.out.pm.br.cell (i := 0) rfl
      have b6 := HR9.out.rx.cell (i := 0) rfl
      have b7 := HR9.out.rx.cell (i := 1) rfl
      have b8 := HR9.out.pm.gm.lf ka kw2 hka hkw2'
      have hue : upd (lft c.A X3) ka kw (x3 - m) ka kw2 = y3 := by unfold upd; rw [if_neg (by omega)]; exact HXE.out.2.symm
      rw [hue] at b8
      have b9 := HR9.out.pm.gm.fr (4 + ka * 2 + kw2)
      obtain ⟨w9q, hw9q⟩ : ∃ w9q, w9q = w9.drew := ⟨_, rfl⟩
      have HR9q : Hid (RB c w w.heap.size bx v most q (ka, kw, kt) (upd (lft c.A X3) ka kw (x3 - m)) L3 F3 w9q) := Lib.hid (by rw [hw9q]; exact HR9.out.keep HC.out (Below.refl _ _).drew)
      have hst10 := HUP.out X3 L3 F3 _ (by have h9 := HR9q.out.pm.left HC.out hka hkw2' (y3 + m); rw [HXE.out.1, HXE.out.2] at h9; exact h9)
      rw [← HXE.out.2] at hst10
      have HR10 := Lib.hid (HR9q.out.store HC.out c.g (4 + ka * 2 + kw2) (.int .i64 (y3 + m)) (.inl rfl) hst10)
      have HW10 : Hid (Kp2 (fun b => b ≠ c.g ∧ b ≠ c.f ∧ b ≠ c.l ∧ b ≠ w.heap.size + 1 + 1) W (w9q.setCell ⟨c.g, 4 + ka * 2 + kw2, none⟩ (.int .i64 (y3 + m)))) := Lib.hid ((HW9.out.trans (Kp2.below (by rw [hw9q]; exact (Below.refl _ _).drew))).trans ⟨by simp, KeepS.setCell w9q c.g _ _ (fun h => h.1 rfl), rfl, rfl, rfl⟩)
      rw [hw9q] at HR10 HW10
      clear hw9q HR9q hst10 HW9 HR9 hue
      have hk20 : (0 : Int) ≤ (kw2 : Int) := by omega
      have hk2i : (kw2 : Int) < 2 := by omega
      gi_wp2
      refine wpIn_still_tail 17 (by kernel_rfl) (by kernel_rfl) (fun ⟨_, _, h⟩ => h) (by kernel_rfl) ?_
      simp only [List.take_succ_cons, List.take_zero, List.drop_succ_cons, List.drop_zero]
      repeat still_step
      refine wpStill_nil ?_
      go_wp2_with fail
      obtain ⟨X4, hX4⟩ : ∃ X4, X4 = X3.set ka (X3.getD ka 0 + chg kw m) := ⟨_, rfl⟩
      rw [← hX4] at HR10 HS
      replace HR10 : Hid (RB c w w.heap.size bx v most q (ka, kw, kt) (lft c.A X4) L3 F3 (w9.setCell ⟨c.g, 4 + ka * 2 + kw2, none⟩ (.int .i64 (y3 + m))).drew) := Lib.hid HR10.out
      replace HW10 : Hid (Kp2 (fun b => b ≠ c.g ∧ b ≠ c.f ∧ b ≠ c.l ∧ b ≠ w.heap.size + 1 + 1) W (w9.setCell ⟨c.g, 4 + ka * 2 + kw2, none⟩ (.int .i64 (y3 + m))).drew) := Lib.hid HW10.out
      clear b5 b6 b7 b8 b9 HUP hX4
      generalize (w9.setCell ⟨c.g, 4 + ka * 2 + kw2, none⟩ (.int .i64 (y3 + m))).drew = w10 at *
      have d1 := HR10.out.r1.cell (i := 0) rfl
      have d2 := HR10.out.r2.cell (i := 0) rfl
      have d3 := HR10.out.r2.free 0
      have hwq : IntKind.i64.wrap (q + m) = q + m := by have := HS.out.2.2; have := HMR.out; have := HL2.out.rng; have := HN.out; rw [IntKind.wrap_i64]; omega
      have HR11 := Lib.hid (HR10.out.put HC.out (q + m))
      have HW11 : Hid (Kp2 (fun b => b ≠ c.g ∧ b ≠ c.f ∧ b ≠ c.l ∧ b ≠ w.heap.size + 1 + 1) W (w10.setCell ⟨w.heap.size + 1 + 1, 0, none⟩ (.int .i64 (q + m)))) := Lib.hid (HW10.out.trans ⟨by simp, KeepS.setCell w10 _ _ _ (fun h => h.2.2.2 rfl), rfl, rfl, rfl⟩)
      have hne12 : ¬ (w.heap.size + 1 = w.heap.size + 1 + 1) := by omega
      clear HR10 HW10
      by_cases heq : q + m = most
      · have heb : (q + m == most) = true := by simpa using heq
        have HEQ := Lib.hid heq
        clear heq
        gi_wp2
        have HR12 := Lib.hid (HR11.out.put HC.out (q + m))
        have HW12 : Hid (Kp2 (fun b => b ≠ c.g ∧ b ≠ c.f ∧ b ≠ c.l ∧ b ≠ w.heap.size + 1 + 1) W ((w10.setCell ⟨w.heap.size + 1 + 1, 0, none⟩ (.int .i64 (q + m))).setCell ⟨w.heap.size + 1 + 1, 0, none⟩ (.int .i64 (q + m)))) := Lib.hid (HW11.out.trans ⟨by simp, KeepS.setCell _ _ _ _ (fun h => h.2.2.2 rfl), rfl, rfl, rfl⟩)
        clear HR11 HW11 d1 d2 d3
        generalize (w10.setCell ⟨w.heap.size + 1 + 1, 0, none⟩ (.int .i64 (q + m))).setCell ⟨w.heap.size + 1 + 1, 0, none⟩ (.int .i64 (q + m)) = w12 at *
        have hpp := HS.out.2.1 HEQ.out
        have hr2 := HR12.out.r2
        rw [HEQ.out] at hpp hr2
        exact ⟨from_kb HC.out HO.out HSZ.out HW12.out, rfl, X4, L3, F3, HR12.out.pm, hpp, hr2, HR12.out.kg⟩
      · have heb : (q + m == most) = false := by simpa using heq
        have HEQ := Lib.hid heq
        clear heq
        gi_wp2
        refine ⟨from_kb HC.out HO.out HSZ.out HW11.out, ⟨HW11.out.1, HW11.out.2.weak fun b hb => by have := HO.out; have := HC.out.lBr; exact ⟨by omega, by omega, by omega, by omega⟩, HW11.out.os, HW11.out.tape, HW11.out.output⟩, q + m, X4, L3, F3, HR11.out.pm, HS.out.1 (by have := HS.out.2.2; have := HEQ.out; omega), ⟨HR11.out.r0, HR11.out.r1, HR11.out.r2⟩, HR11.out.kg, ?_⟩
        have h1 := HR11.out.rx.lt
        have h2 := HR11.out.bo
        omega
    · have hnb : (lt == lv + 1) = false := by simpa using hnx
      have HNX := Lib.hid hnx
      clear hnx
      refine wpIn_region_quiet (by kernel_rfl) (by kernel_rfl) (fun ⟨_, _, h⟩ => h) (by kernel_rfl) ?_
      repeat (go_big_quiet_step (fail))
      refine wpQuiet_nil ?_
      rintro _ ⟨nq, rfl⟩
      have HDB := Lib.hid (drewN_below w6 nq)
      have HR7 := Lib.hid (HR2.out.keep HC.out HDB.out)
      have HW7 := Lib.hid (HW6.out.trans (Kp2.below HDB.out))
      clear g1 g2 g3 g4 g5 HR2 HW6 HDB
      generalize w6.drewN nq = w7 at *
      gi_wp2
      refine ⟨from_kb HC.out HO.out HSZ.out HW7.out, ⟨HW7.out.1, HW7.out.2.weak fun b hb => by have := HO.out; have := HC.out.lBr; exact ⟨by omega, by omega, by omega, by omega⟩, HW7.out.os, HW7.out.tape, HW7.out.output⟩, q, X1, L1, F1.set v (i : Int), HR7.out.pm, HL2.out.pass HEI.out hto (by show L1.getD kt 0 ≠ L.getD v 0 + 1; rw [← HLT.out, ← HL2.out.own, ← HLVE.out]; exact HNX.out), ⟨HR7.out.r0, HR7.out.r1, HR7.out.r2⟩, HR7.out.kg, ?_⟩
      have h1 := HR7.out.rx.lt
      have h2 := HR7.out.bo
      omega
  case done =>
    intro Dm i W hD hle hI hK
    obtain ⟨q, X1, L1, F1, h1, h2, ⟨h3, h4, h5⟩, h6, h7⟩ := hI
    have hpp := h2.done HC.out.inn hvl hle HN.out.2.2.2.1 HN.out.2.2.2.2.2
    have d1 := h1.bl.cell (i := 0) rfl
    have d2 := h3.cell (i := 0) rfl
    have d3 := nrow_cell h1.rl (u := v) (by rw [h2.pi.ll]; exact hvl)
    have d4 := h1.rl.free v
    have d5 := h5.cell (i := 0) rfl
    have d6 := h5.free 0
    rw [← HNN.out] at d1
    have hDl : W3.heap.size ≤ Dm := hD
    have hne : ¬ (w.heap.size + 1 + 1 = c.l) := by have := HBP.out; have := HC.out.lBr; have := HC.out.BrBl; have := HC.out.Blf; have := HC.out.fBf; have := HC.out.BfBp; omega
    have hs := (h1.level HC.out v 0).same HC.out (w' := (W.setCell ⟨c.l, v, none⟩ (.int .i64 0)).setCell ⟨w.heap.size + 1 + 1, 0, none⟩ (.int .i64 q)) (fun b hb => heap_setCell_other _ ⟨w.heap.size + 1 + 1, 0, none⟩ b _ (by have := HBP.out; simp; omega))
    have hkg : KG c w ((W.setCell ⟨c.l, v, none⟩ (.int .i64 0)).setCell ⟨w.heap.size + 1 + 1, 0, none⟩ (.int .i64 q)) := KG.own (h6.trans (KG.set _ _ _ _ (.inr (.inr rfl)))) _ _ _ (by omega)
    have hK2 : ((W.setCell ⟨c.l, v, none⟩ (.int .i64 0)).setCell ⟨w.heap.size + 1 + 1, 0, none⟩ (.int .i64 q)).heap[Dm]? = some (.deferred (some [])) :=
      ((heap_setCell_other _ ⟨w.heap.size + 1 + 1, 0, none⟩ Dm _ (by simp; omega)).trans (heap_setCell_other _ ⟨c.l, v, none⟩ Dm _ (by have := HC.out.lBr; have := HC.out.BrBl; have := HC.out.Blf; have := HC.out.fBf; have := HC.out.BfBp; have := HBP.out; simp; omega))).trans hK
    have hce : ((W.setCell ⟨c.l, v, none⟩ (.int .i64 0)).setCell ⟨w.heap.size + 1 + 1, 0, none⟩ (.int .i64 q)).cell? ⟨w.heap.size + 1 + 1, 0, none⟩ = some (.int .i64 q) := ((h5.setFar v (.int .i64 0) (g' := c.l) hne).set 0 _ rfl).cell (i := 0) rfl
    have HW0 : Hid (w.heap.size + 6 ≤ Dm) := Lib.hid (by omega)
    have HF := Lib.hid (And.intro hpp (And.intro hs (And.intro hkg (And.intro hK2 hce))))
    have hBl2 : ¬ (c.Bl = c.l) := by have := HC.out.lBr; have := HC.out.BrBl; omega
    clear hN2 hs3' hs3 hb3 hb3' h0 hpp hs hkg hK2 hce h1 h2 h3 h4 h5 h6 hK
    go_wp2_with fail
    refine ⟨by simp, .inl ⟨_, _, rfl, run_takeDeferred HF.out.2.2.2.1, ?_⟩⟩
    have hW0 : w.heap.size + 6 ≤ Dm := HW0.out
    have ho : ∀ b, b < w.heap.size + 6 → (((W.setCell ⟨c.l, v, none⟩ (.int .i64 0)).setCell ⟨w.heap.size + 1 + 1, 0, none⟩ (.int .i64 q)).putObj Dm (.deferred none)).heap[b]? = ((W.setCell ⟨c.l, v, none⟩ (.int .i64 0)).setCell ⟨w.heap.size + 1 + 1, 0, none⟩ (.int .i64 q)).heap[b]? := fun b hb => World.putObj_heap_other (by omega)
    exact ⟨.int .i64 q, results_int rfl _ _ (w.heap.size + 1 + 1) q rfl ((cell_same (ho _ (by omega))).trans HF.out.2.2.2.2), q, rfl, X1, L1.set v 0, F1, HF.out.2.1.same HC.out (fun b hb => ho b (by have := HBP.out; omega)), HF.out.1, ⟨by have := HF.out.2.2.1.1; simpa using this, fun b hb hl => (ho b (by omega)).trans (HF.out.2.2.1.2 b hb hl), HF.out.2.2.1.os, HF.out.2.2.1.tape, HF.out.2.2.1.output⟩⟩
  case stop =>
    rintro Dm e W hD he ⟨rfl, hX⟩ hK
    obtain ⟨X1, L1, F1, h1, h2, h5, h6⟩ := hX
    have hW0 : w.heap.size + 6 ≤ Dm := by omega
    have ho : ∀ b, b < w.heap.size + 6 → (W.putObj Dm (.deferred none)).heap[b]? = W.heap[b]? := fun b hb => World.putObj_heap_other (by omega)
    refine ⟨by simp, .inl ⟨_, _, rfl, run_takeDeferred hK, ?_⟩⟩
    exact ⟨.int .i64 most, results_int rfl _ _ (w.heap.size + 1 + 1) most rfl ((cell_same (ho _ (by omega))).trans (h5.cell (i := 0) rfl)), most, X1, L1, F1, rfl, h1.same HC.out (fun b hb => ho b (by have := HBP.out; omega)), h2, ⟨by have := h6.1; simpa using this, fun b hb hl => (ho b (by omega)).trans (h6.2 b hb hl), h6.os, h6.tape, h6.output⟩⟩
/-- a push, from any vertex that has a level -/
theorem push_call (c : Ctx) (hc : c.Ok) : ∀ (D v : Nat) (most : Int) (X L F : List Int) (w : World), v < c.N → 1 ≤ most → most ≤ 549755813888 → 1 ≤ L.getD v 0 → 65 ≤ L.getD v 0 + D → PI c.N c.A X L F → PM c w X L F → Pushes c v most X L F w := by
  intro D
  induction D with
  | zero =>
    intro v most X L F w hv hm hm2 h1 h2 hp h
    have := hp.lv v hv
    omega
  | succ D ih =>
    intro v most X L F w hv hm hm2 h1 h2 hp h
    by_cases hvt : v = c.t
    · subst hvt
      exact push_sink c hc most X L F w hm hp h
    · exact push_walk c hc D ih v most X L F w hv hm hm2 h1 h2 hp h hvt
end Go.Proofs.Ytbmbddapbgnioaa
