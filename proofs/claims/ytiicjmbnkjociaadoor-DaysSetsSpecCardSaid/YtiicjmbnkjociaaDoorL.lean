/- Two sets combined: the program's function. -/
import Derived.Test.YtiicjmbnkjociaaDoorK
import Derived.Deep.DeepCutAuto
import Derived.Laws.EntriesVeiled
namespace Go.Proofs.YtiicjmbnkjociaaDoor
open Go.RowKit Go.Shelf
attribute [local go_sem] Oper.semAt_some

set_option maxRecDepth 100000 in
theorem boundaries_call (a1 : Option Addr) (n1 c1 : Nat) (a2 : Option Addr) (n2 c2 : Nat) (w : World) :
    Calls Tryd.prog 49 #[.slice a1 n1 c1, .slice a2 n2 c2] w fun e w' => e = .returned (.func (.func 53) #[] #[.pointer (some ⟨w.heap.size, 0, none⟩), .pointer (some ⟨w.heap.size + 1, 0, none⟩)]) ∧ w' = (w.alloc (.cells #[.slice a1 n1 c1] 32)).alloc (.cells #[.slice a2 n2 c2] 32) := by
  go_enter Tryd.func49, Tryd.ntmps49
  go_wp2_with fail
  go_ret
  exact ⟨rfl, rfl⟩
/-- what is combined -/
def combR (Wf : Bool → Bool → Bool) (a b : List Sp) : List Sp := (foldF Wf (bns a b (2 * a.length + 2 * b.length) 0 0)).1
def combE (Wf : Bool → Bool → Bool) (a b : List Sp) : Int := if chk a ≠ 0 then chk a else if chk b ≠ 0 then chk b else if 256 < (combR Wf a b).length then 2 else 0
def combL (Wf : Bool → Bool → Bool) (a b : List Sp) : List Sp := if combE Wf a b = 0 then combR Wf a b else []
theorem results_sp {fn : Func} {p q : Tmp} (h : fn.results = #[.cell p 32, .tmp q]) (tmps : Array Value) (w : World) (g : Nat) (v u : Value)
    (hp : tmps.getD p undef = .pointer (some ⟨g, 0, none⟩)) (hu : tmps.getD q undef = u) (hg : w.cell? ⟨g, 0, none⟩ = some v) :
    (results fn tmps).run Tryd.prog w = .ok (.tuple #[v, u]) w := by
  have hp' : tmps[p]?.getD undef = .pointer (some ⟨g, 0, none⟩) := by simpa using hp
  have hu' : tmps[q]?.getD undef = u := by simpa using hu
  simp [results, h, hp', hu', go_sem, hg]
theorem PRest.kp2 {n : Nat} {B : Nat → Prop} {w w' : World} {l : List Sp} {v : Value} (h : PRest n w l v) (hn : n ≤ w.heap.size) (hB : ∀ b, b < n → B b) (hk : Kp2 B w w') : PRest n w' l v := by
  obtain ⟨a, cap, h1, h2, h3, h4, h5⟩ := h
  refine ⟨a, cap, h1, h2, h3, h4, ?_⟩
  rcases h5 with h0 | ⟨b, off, ha, hl, hc⟩
  · exact .inl h0
  · exact .inr ⟨b, off, ha, hl, fun i hi => ⟨hk.2.cell (hB b hl) (hc i hi).1, hk.2.cell (hB b hl) (hc i hi).2⟩⟩
theorem grownBy_putObj' (W : World) (D : Nat) (o : Obj) : W.grownBy (W.putObj D o) (some D) :=
  ⟨rfl, rfl, rfl, by simp [World.putObj], fun k _ hk => World.putObj_heap_other (fun e => hk (by rw [e]))⟩
theorem pbuf_kept {W W' : World} {row : Option Nat} {v : Value} {l : List Sp} (h : PBuf 0 W v l) (hg : W.grownBy W' row) (hrow : ∀ r, row = some r → ∃ o : Obj, W.heap[r]? = some o ∧ o.isCells = false) : PBuf 0 W' v l :=
  h.same fun k hk => hg.block k (h.lt k hk).2 fun e => by
    obtain ⟨o, ho, hc⟩ := hrow k e.symm
    rcases h.2 with ⟨rfl, _⟩ | ⟨g, cap, cur, rfl, _, h3, _⟩
    · cases hk
    · obtain rfl : g = k := by simpa [Value.ownBlock] using hk
      rw [h3] at ho; cases ho; cases hc
/-- the state between two rounds -/
structure CoI (Wf : Bool → Bool → Bool) (w : World) (g o N : Nat) (vf vt : Value) (pre : List Bn) (v : Value) (W : World) : Prop where
  ro : Row W o 4 [.bool (foldF Wf pre).2]
  rl : Row W (g + 1) 32 [v]
  rb : PBuf 0 W v (foldF Wf pre).1
  own : ∀ k, v.ownBlock = some k → N ≤ k
  rf : Row W g 56 [vf]
  rt : Row W (o + 1) 59 [vt]
  bel : Below w.heap.size w W
  big : N ≤ W.heap.size
theorem CoI.kept {Wf w g o N vf vt pre v} {W W' : World} {row : Option Nat} (h : CoI Wf w g o N vf vt pre v W) (hg : W.grownBy W' row) (hrow : ∀ r, row = some r → w.heap.size ≤ r ∧ ∃ o : Obj, W.heap[r]? = some o ∧ o.isCells = false) : CoI Wf w g o N vf vt pre v W' :=
  ⟨row_kept h.ro hg fun r e => (hrow r e).2, row_kept h.rl hg fun r e => (hrow r e).2, pbuf_kept h.rb hg fun r e => (hrow r e).2, h.own, row_kept h.rf hg fun r e => (hrow r e).2, row_kept h.rt hg fun r e => (hrow r e).2,
    ownFrom_below (β := Unit) (Nat.le_refl _) (Nat.le_refl _) () W W' row h.bel hg (fun r e => hrow r e), Nat.le_trans h.big hg.size⟩
theorem CoI.keep {Wf w g o N vf vt pre v} {W W' : World} (h : CoI Wf w g o N vf vt pre v W) (hb : Below W.heap.size W W') : CoI Wf w g o N vf vt pre v W' :=
  ⟨h.ro.keep hb, h.rl.keep hb, h.rb.keep hb, h.own, h.rf.keep hb, h.rt.keep hb, below_next h.bel hb, Nat.le_trans h.big hb.size⟩
theorem CoI.stay {Wf w g o N vf vt pre v} {W : World} {x : Bn} (h : CoI Wf w g o N vf vt pre v W) (hv : Wf x.2.1 x.2.2 = (foldF Wf pre).2) : CoI Wf w g o N vf vt (pre ++ [x]) v W := by
  have e : foldF Wf (pre ++ [x]) = foldF Wf pre := by rw [foldF_snoc]; unfold stepF; rw [if_pos hv]
  exact ⟨by rw [e]; exact h.ro, h.rl, by rw [e]; exact h.rb, h.own, h.rf, h.rt, h.bel, h.big⟩
theorem CoI.turn {Wf w g o N vf vt pre v v'} {W W' : World} {x : Bn} (h : CoI Wf w g o N vf vt pre v W) (hv : ¬ Wf x.2.1 x.2.2 = (foldF Wf pre).2) (hgo : g + 1 < o) (hwg : w.heap.size = g) (hN : o + 1 < N)
    (ho : Row W' o 4 [.bool (!(foldF Wf pre).2)]) (hl : Row W' (g + 1) 32 [v']) (hb : PBuf 0 W' v' (turnF (foldF Wf pre) x.1).1) (ht : Turned o (g + 1) W W' v v') : CoI Wf w g o N vf vt (pre ++ [x]) v' W' := by
  have e : foldF Wf (pre ++ [x]) = turnF (foldF Wf pre) x.1 := by rw [foldF_snoc]; unfold stepF; rw [if_neg hv]
  have hbk : ∀ b, b < N → b ≠ o → b ≠ g + 1 → W'.heap[b]? = W.heap[b]? := fun b hb1 h1 h2 => ht.block b (by have := h.big; omega) h1 h2 (fun e => by have := h.own b e; omega)
  refine ⟨by rw [e, (turnF_len _ _).2.2]; exact ho, hl, by rw [e]; exact hb, fun k hk => ?_, (hbk g (by omega) (by omega) (by omega)).trans h.rf, (hbk (o + 1) (by omega) (by omega) (by omega)).trans h.rt, ?_, Nat.le_trans h.big ht.others.size⟩
  · rcases ht.own with e2 | e2
    · exact h.own k (e2 ▸ hk)
    · have := e2 k hk; have := h.big; omega
  · exact ht.below h.bel (by have := h.big; omega) (by omega) (by omega) (fun k hk => by have := h.own k hk; omega)
set_option maxRecDepth 100000 in
theorem want_or (p q : Bool) (w : World) : Calls Tryd.prog 42 #[.bool p, .bool q] w fun e w' => e = .returned (.bool (p || q)) ∧ w' = w := by
  cases p <;> cases q
  all_goals
    go_enter Tryd.func42, Tryd.ntmps42
    go_wp2_with fail
    go_ret
    exact ⟨rfl, rfl⟩
set_option maxRecDepth 100000 in
theorem want_and (p q : Bool) (w : World) : Calls Tryd.prog 44 #[.bool p, .bool q] w fun e w' => e = .returned (.bool (p && q)) ∧ w' = w := by
  cases p <;> cases q
  all_goals
    go_enter Tryd.func44, Tryd.ntmps44
    go_wp2_with fail
    go_ret
    exact ⟨rfl, rfl⟩
set_option maxRecDepth 100000 in
theorem want_not (p q : Bool) (w : World) : Calls Tryd.prog 45 #[.bool p, .bool q] w fun e w' => e = .returned (.bool (p && !q)) ∧ w' = w := by
  cases p <;> cases q
  all_goals
    go_enter Tryd.func45, Tryd.ntmps45
    go_wp2_with fail
    go_ret
    exact ⟨rfl, rfl⟩

set_option maxRecDepth 100000 in
set_option maxHeartbeats 8000000 in
theorem combine_or (la lb : List Sp) (va vb : Value) (B : Nat) (w : World) (ha : PRest B w la va) (hb : PRest B w lb vb) (hB : B ≤ w.heap.size) :
    Calls Tryd.prog 41 #[va, vb, .func (.func 42) #[] #[]] w fun e w' => ∃ v, e = .returned (.tuple #[v, .int .i64 (combE (fun p q => p || q) la lb)]) ∧ PRest w'.heap.size w' (combL (fun p q => p || q) la lb) v ∧ Below w.heap.size w w' := by
  obtain ⟨a1, c1, rfl, -⟩ := id ha
  obtain ⟨a2, c2, rfl, -⟩ := id hb
  have HA := Lib.hid ha
  have HB := Lib.hid hb
  have HBS := Lib.hid hB
  have HCA : Hid (∀ W, Below w.heap.size w W → Calls Tryd.prog 21 #[.slice a1 la.length c1] W fun e w' => e = .returned (.int .i64 (chk la)) ∧ Below W.heap.size W w') := Lib.hid (fun W hW => Check_call la _ B W (ha.stays (hW.mono hB)) (by have := hW.size; omega))
  have HCB : Hid (∀ W, Below w.heap.size w W → Calls Tryd.prog 21 #[.slice a2 lb.length c2] W fun e w' => e = .returned (.int .i64 (chk lb)) ∧ Below W.heap.size W w') := Lib.hid (fun W hW => Check_call lb _ B W (hb.stays (hW.mono hB)) (by have := hW.size; omega))
  have hka := fun h0 => chk_ok (l := la) h0
  have hkb := fun h0 => chk_ok (l := lb) h0
  obtain ⟨ea, hea⟩ : ∃ e, e = chk la := ⟨_, rfl⟩
  obtain ⟨eb, heb⟩ : ∃ e, e = chk lb := ⟨_, rfl⟩
  have HE : Hid (combE (fun p q => p || q) la lb = if ea ≠ 0 then ea else if eb ≠ 0 then eb else if 256 < (combR (fun p q => p || q) la lb).length then 2 else 0) := Lib.hid (by unfold combE; rw [hea, heb])
  have HL : Hid (combL (fun p q => p || q) la lb = if combE (fun p q => p || q) la lb = 0 then combR (fun p q => p || q) la lb else []) := Lib.hid rfl
  obtain ⟨E0, hE0⟩ : ∃ E, E = combE (fun p q => p || q) la lb := ⟨_, rfl⟩
  obtain ⟨L0, hL0⟩ : ∃ L, L = combL (fun p q => p || q) la lb := ⟨_, rfl⟩
  rw [← hE0, ← hL0]
  rw [← hE0] at HE HL
  rw [← hL0] at HL
  clear hE0 hL0
  rw [← hea] at HCA hka
  rw [← heb] at HCB hkb
  clear hea heb ha hb
  have HW0 := Lib.hid (below_next (Joins.below_alloc1 w (.cells #[.func (.func 42) #[] #[]] 56)) (Joins.below_alloc1 _ (.cells #[.slice none 0 0] 32)))
  have HR5 : Hid (Row ((w.alloc (.cells #[.func (.func 42) #[] #[]] 56)).alloc (.cells #[.slice none 0 0] 32)) w.heap.size 56 [.func (.func 42) #[] #[]]) := Lib.hid ((row_new w _ _).keep (Joins.below_alloc1 _ _))
  have HR6 : Hid (Row ((w.alloc (.cells #[.func (.func 42) #[] #[]] 56)).alloc (.cells #[.slice none 0 0] 32)) (w.heap.size + 1) 32 [.slice none 0 0]) := Lib.hid (by
    have h := row_new (w.alloc (.cells #[.func (.func 42) #[] #[]] 56)) 32 [.slice none 0 0]
    rw [World.size_alloc] at h; exact h)
  by_cases hza : ea = 0
  · subst hza
    by_cases hzb : eb = 0
    · subst hzb
      obtain ⟨hla, hca⟩ := hka rfl
      obtain ⟨hlb, hcb⟩ := hkb rfl
      clear hka hkb
      refine (callsIn_wide (n := 6)).1 ?_
      refine callsIn_of_wp_marks Tryd.func41 rfl trivial ?_ rfl
      simp only [Tryd.ntmps41, List.size_toArray, List.length_cons, List.length_nil, Nat.reduceAdd, Nat.reduceSub, Array.replicate_succ, Array.replicate_zero, List.push_toArray, List.append_toArray, List.nil_append, List.cons_append]
      refine wpIn_wide.2 ?_
      go_upto_region 2 with (first | (go_at_call 21; refine (HCA.out _ HW0.out).mono ?_; rintro e w1 ⟨rfl, hb1⟩; have HB1 := Lib.hid (below_next HW0.out hb1); have HR51 := Lib.hid (HR5.out.keep hb1); have HR61 := Lib.hid (HR6.out.keep hb1); clear hb1) | fail)
      go_upto_region 5 with (first | (go_at_call 21; refine (HCB.out _ HB1.out).mono ?_; rintro e w2 ⟨rfl, hb2⟩; have HB2 := Lib.hid (below_next HB1.out hb2); have HR52 := Lib.hid (HR51.out.keep hb2); have HR62 := Lib.hid (HR61.out.keep hb2); clear hb2) | fail)
      clear HCA HCB HR5 HR6 HR51 HR61 HW0
      have hlt2 := HR62.out.lt
      have HW3 := Lib.hid (below_next (Joins.below_alloc1 w2 (.cells #[.bool false] 4)) (Joins.below_alloc1 _ (.cells #[.func (.func 48) #[] #[.pointer (some ⟨w2.heap.size, 0, none⟩), .pointer (some ⟨w.heap.size + 1, 0, none⟩)]] 59)))
      go_wp2_with (go_at_call 49; refine (boundaries_call a1 la.length c1 a2 lb.length c2 _).mono ?_; rintro e w9 ⟨rfl, rfl⟩)
      clear HW3
      obtain ⟨vt, hvt⟩ : ∃ v, v = Value.func (.func 48) #[] #[.pointer (some ⟨w2.heap.size, 0, none⟩), .pointer (some ⟨w.heap.size + 1, 0, none⟩)] := ⟨_, rfl⟩
      rw [← hvt]
      have hb3 : Below w2.heap.size w2 ((((w2.alloc (.cells #[.bool false] 4)).alloc (.cells #[vt] 59)).alloc (.cells #[.slice a1 la.length c1] 32)).alloc (.cells #[.slice a2 lb.length c2] 32)) :=
        below_next (below_next (below_next (Joins.below_alloc1 w2 _) (Joins.below_alloc1 _ _)) (Joins.below_alloc1 _ _)) (Joins.below_alloc1 _ _)
      have q0 : Row ((((w2.alloc (.cells #[.bool false] 4)).alloc (.cells #[vt] 59)).alloc (.cells #[.slice a1 la.length c1] 32)).alloc (.cells #[.slice a2 lb.length c2] 32)) w2.heap.size 4 [.bool false] :=
        (((row_new w2 _ _).keep (Joins.below_alloc1 _ _)).keep (Joins.below_alloc1 _ _)).keep (Joins.below_alloc1 _ _)
      have q1 : Row ((((w2.alloc (.cells #[.bool false] 4)).alloc (.cells #[vt] 59)).alloc (.cells #[.slice a1 la.length c1] 32)).alloc (.cells #[.slice a2 lb.length c2] 32)) (w2.heap.size + 1) 59 [vt] := by
        have := ((row_new (w2.alloc (.cells #[.bool false] 4)) 59 [vt]).keep (Joins.below_alloc1 _ (.cells #[.slice a1 la.length c1] 32))).keep (Joins.below_alloc1 _ (.cells #[.slice a2 lb.length c2] 32))
        rwa [World.size_alloc] at this
      have q2 : Row ((((w2.alloc (.cells #[.bool false] 4)).alloc (.cells #[vt] 59)).alloc (.cells #[.slice a1 la.length c1] 32)).alloc (.cells #[.slice a2 lb.length c2] 32)) (w2.heap.size + 1 + 1) 32 [.slice a1 la.length c1] := by
        have := (row_new ((w2.alloc (.cells #[.bool false] 4)).alloc (.cells #[vt] 59)) 32 [.slice a1 la.length c1]).keep (Joins.below_alloc1 _ (.cells #[.slice a2 lb.length c2] 32))
        rwa [World.size_alloc, World.size_alloc] at this
      have q3 : Row ((((w2.alloc (.cells #[.bool false] 4)).alloc (.cells #[vt] 59)).alloc (.cells #[.slice a1 la.length c1] 32)).alloc (.cells #[.slice a2 lb.length c2] 32)) (w2.heap.size + 1 + 1 + 1) 32 [.slice a2 lb.length c2] := by
        have := row_new (((w2.alloc (.cells #[.bool false] 4)).alloc (.cells #[vt] 59)).alloc (.cells #[.slice a1 la.length c1] 32)) 32 [.slice a2 lb.length c2]
        rwa [World.size_alloc, World.size_alloc, World.size_alloc] at this
      have hs3 : ((((w2.alloc (.cells #[.bool false] 4)).alloc (.cells #[vt] 59)).alloc (.cells #[.slice a1 la.length c1] 32)).alloc (.cells #[.slice a2 lb.length c2] 32)).heap.size = w2.heap.size + 4 := by simp
      have HI0 := below_next HB2.out hb3
      have q5 := HR52.out.keep hb3
      have q6 := HR62.out.keep hb3
      generalize (((w2.alloc (.cells #[.bool false] 4)).alloc (.cells #[vt] 59)).alloc (.cells #[.slice a1 la.length c1] 32)).alloc (.cells #[.slice a2 lb.length c2] 32) = W3 at *
      generalize ho : w2.heap.size = o at *
      generalize hg : w.heap.size = g at *
      have HS3 := Lib.hid hs3
      have hini : CoI (fun p q => p || q) w g o (o + 4) (.func (.func 42) #[] #[]) vt [] (.slice none 0 0) W3 := ⟨q0, q6, pbuf_nil _ _, fun k hk => (by cases hk), q5, q1, by rw [hg]; exact HI0, by omega⟩
      have HVT := Lib.hid hvt
      clear hb3 HB2 HR52 HR62 HB1 q0 q1 q5 q6 hvt
      refine (wpIn_wide (n := 6)).1 ?_
      refine range_toldA (F := Fence.wide) (n := 6) rfl (by omega) (gf := 53) (lb := #[.pointer (some ⟨o + 1 + 1, 0, none⟩), .pointer (some ⟨o + 1 + 1 + 1, 0, none⟩)]) rfl trivial (enters_of Tryd.func53 (by kernel_rfl) rfl)
        (encs := encB) (T := fun x _ => 0 ≤ x.1 ∧ x.1 ≤ 73049) (fun x => ownFrom_pure _ _) (B := fun b => b < o + 4 ∧ b ≠ o ∧ b ≠ g + 1) (fun b hb => by omega) (S := fun ys => ys = bns la lb (2 * la.length + 2 * lb.length) 0 0) (N := 2 * la.length + 2 * lb.length)
        (fun W hW => bns_tells 5 (by omega) (o + 1 + 1) (o + 1 + 1 + 1) _ la lb _ _ B W ⟨by omega, by omega, by omega⟩ ⟨by omega, by omega, by omega⟩ (fun b hb => by have := hW.size; omega)
          ((hW.cell (p := ⟨o + 1 + 1, 0, none⟩) (show o + 1 + 1 < W3.heap.size by omega)).trans (q2.cell (i := 0) rfl)) ((hW.cell (p := ⟨o + 1 + 1 + 1, 0, none⟩) (show o + 1 + 1 + 1 < W3.heap.size by omega)).trans (q3.cell (i := 0) rfl))
          (fun W' hk => ⟨PRest.kp2 ((HA.out.stays (HI0.mono (by omega))).stays (hW.mono (by omega))) (by have := hW.size; omega) (fun b hb => ⟨by omega, by omega, by omega⟩) hk, PRest.kp2 ((HB.out.stays (HI0.mono (by omega))).stays (hW.mono (by omega))) (by have := hW.size; omega) (fun b hb => ⟨by omega, by omega, by omega⟩) hk⟩) hca hcb hla hlb) (fun _ => rfl)
        (fun pre W => ∃ v, CoI (fun p q => p || q) w g o (o + 4) (.func (.func 42) #[] #[]) vt pre v W)
        ?own ⟨_, hini⟩
        (fun x a' W => (0 ≤ x.1 ∧ x.1 ≤ 73049) ∧ ∃ Bx, o + 4 ≤ Bx ∧ Row W Bx 64 [.bool x.2.1, .bool x.2.2] ∧ a' = { tmps := #[.slice a1 la.length c1, .slice a2 lb.length c2, .func (.func 42) #[] #[], undef, undef, .pointer (some ⟨g, 0, none⟩), .pointer (some ⟨g + 1, 0, none⟩), .int .i64 0, .pointer (some ⟨o, 0, none⟩), .pointer (some ⟨o + 1, 0, none⟩), .int .i64 x.1, .pointer (some ⟨Bx, 0, none⟩), .slice a1 la.length c1, .int .i64 0, .int .i64 0, .bool false, undef, .slice a2 lb.length c2, .int .i64 0, .int .i64 0, .bool false, undef, vt, .slice a1 la.length c1, .slice a2 lb.length c2, .func (.func 53) #[] #[.pointer (some ⟨o + 1 + 1, 0, none⟩), .pointer (some ⟨o + 1 + 1 + 1, 0, none⟩)], .int .i64 x.1, .agg #[.bool x.2.1, .bool x.2.2], undef, undef, undef, undef, undef, undef, undef, undef, undef, undef, undef, undef, undef, undef, undef], defers := [] })
        ?owna ?assign ?body ?done
      case own =>
        rintro pre A B row ⟨v, hs⟩ hgr hr
        exact ⟨v, hs.kept hgr fun r e => ⟨by have := (hr r e).1; omega, (hr r e).2⟩⟩
      case owna =>
        rintro x a' _ A B row ⟨h0, Bx, h1, h2, h3⟩ hgr hr
        exact ⟨h0, Bx, h1, row_kept h2 hgr fun r e => (hr r e).2, h3⟩
      case assign =>
        rintro y pre x W K ⟨v, hI⟩ hx hlen hK
        obtain ⟨day, pa, pb⟩ := x
        unfold encB
        gi_wp2
        have hb := Joins.below_alloc1 W (.cells #[.bool pa, .bool pb] 64)
        exact hK _ _ ((others_below hb).from _) (Kp2.below hb) ⟨v, hI.keep hb⟩ ⟨hx, W.heap.size, hI.big, row_new W _ _, rfl⟩
      case body =>
        rintro y pre x a' W ⟨v, hI⟩ ⟨hx0, Bx, hBx, hxr, rfl⟩ hlen
        obtain ⟨day, pa, pb⟩ := x
        simp only at hx0 hxr ⊢
        have HI := Lib.hid hI
        have HX := Lib.hid hxr
        have HFL : Hid ((foldF (fun p q => p || q) pre).1.length ≤ 2000) := Lib.hid (by have h := foldF_len (fun p q => p || q) pre ([], false); simp only [List.length_nil] at h; unfold foldF; omega)
        have HFN : Hid ((foldF (fun p q => p || q) pre).2 = true → (foldF (fun p q => p || q) pre).1 ≠ []) := Lib.hid (foldF_ne (fun p q => p || q) pre ([], false) (by simp))
        have HSTAY : Hid ((fun p q => p || q) pa pb = (foldF (fun p q => p || q) pre).2 → ∀ W', CoI (fun p q => p || q) w g o (o + 4) (.func (.func 42) #[] #[]) vt pre v W' → CoI (fun p q => p || q) w g o (o + 4) (.func (.func 42) #[] #[]) vt (pre ++ [(day, pa, pb)]) v W') := Lib.hid (fun h W' hi => hi.stay (x := (day, pa, pb)) h)
        have HTURN : Hid (¬ (fun p q => p || q) pa pb = (foldF (fun p q => p || q) pre).2 → ∀ (W1 W' : World) v', CoI (fun p q => p || q) w g o (o + 4) (.func (.func 42) #[] #[]) vt pre v W1 → Row W' o 4 [.bool (!(foldF (fun p q => p || q) pre).2)] → Row W' (g + 1) 32 [v'] → PBuf 0 W' v' (turnF (foldF (fun p q => p || q) pre) day).1 → Turned o (g + 1) W1 W' v v' → CoI (fun p q => p || q) w g o (o + 4) (.func (.func 42) #[] #[]) vt (pre ++ [(day, pa, pb)]) v' W') :=
          Lib.hid (fun h W1 W' v' hi h1 h2 h3 h4 => hi.turn (x := (day, pa, pb)) h hlt2 hg (by omega) h1 h2 h3 h4)
        have HRO := Lib.hid hI.ro
        have hc5 := hI.rf.cell (i := 0) rfl
        have hc8 := hI.ro.cell (i := 0) rfl
        have hcx0 := hxr.cell (i := 0) rfl
        have hcx1 := hxr.cell (i := 1) rfl
        obtain ⟨⟨c, op⟩, hst⟩ : ∃ st, st = foldF (fun p q => p || q) pre := ⟨_, rfl⟩
        rw [← hst] at HFL HFN HSTAY HTURN hc8
        simp only at HFL HFN HSTAY HTURN hc8
        have HB : Hid (PBuf 0 W v c ∧ ∀ k, v.ownBlock = some k → o + 4 ≤ k) := Lib.hid ⟨by have := hI.rb; rw [← hst] at this; exact this, hI.own⟩
        have HRO2 : Hid (Row W o 4 [.bool op]) := Lib.hid (by have := hI.ro; rw [← hst] at this; exact this)
        have HDAY := Lib.hid hx0
        have hg5 := hI.rf.lt
        clear hI hxr hst hini q2 q3 hlen hx0 HRO
        gi_wp2
        refine wpIn_region_quiet (by kernel_rfl) (by kernel_rfl) (fun ⟨_, _, h⟩ => h) (by kernel_rfl) ?_
        repeat (go_big_quiet_step ((go_at_call 42; exact Calls.quiet_of_same (want_or pa pb _))))
        refine wpQuiet_nil ?_
        intro _ hw'
        obtain ⟨nq, hw''⟩ := hw'
        subst hw''
        have HDB := Lib.hid (drewN_below W nq)
        have HI2 := Lib.hid (HI.out.keep HDB.out)
        have HRO3 := Lib.hid (HRO2.out.keep HDB.out)
        have HPB := Lib.hid (HB.out.1.keep HDB.out)
        have HCT := Lib.hid (HI2.out.rt.cell (i := 0) rfl)
        rw [HVT.out] at HCT
        by_cases he : (fun p q => p || q) pa pb = op
        · have HEND := Lib.hid (HSTAY.out he _ HI2.out)
          generalize W.drewN nq = V at *
          cases pa <;> cases pb <;> cases op <;> (first | (exact absurd he (by decide)) | skip)
          all_goals clear he
          all_goals gi_wp2
          all_goals exact ⟨(others_below HDB.out).from _, Kp2.below HDB.out, _, HEND.out⟩
        · have hgl := HI2.out.rl.lt
          have hol := HI2.out.ro.lt
          have ct := HCT.out
          have HTC := Lib.hid (turn_call o (g + 1) c op v day _ (by omega) HRO3.out HI2.out.rl HPB.out (fun k hk => by have := HB.out.2 k hk; omega) HFN.out HFL.out HDAY.out)
          have HEND := Lib.hid (fun W9 v' => HTURN.out he _ W9 v' HI2.out)
          have HKP : Hid (∀ W9 v', Turned o (g + 1) (W.drewN nq) W9 v v' → KeepsOthers W W9 ∧ Kp2 (fun b => b < o + 4 ∧ b ≠ o ∧ b ≠ g + 1) W W9) := Lib.hid (fun W9 v' ht9 => ⟨(others_below HDB.out).trans ht9.others, (Kp2.below HDB.out).trans ⟨ht9.others.size, fun b hb hlt => ht9.block b hlt hb.2.1 hb.2.2 (fun e => by have := HB.out.2 b e; omega)⟩⟩)
          generalize W.drewN nq = V at *
          cases pa <;> cases pb <;> cases op <;> (first | (exact absurd rfl he) | skip)
          all_goals clear he
          all_goals gi_wp2
          all_goals refine ⟨trivial, ?_⟩
          all_goals refine (CallsIn.inRound y (callsIn_wide.2 HTC.out)).mono ?_
          all_goals rintro e W9 ⟨⟨u, rfl⟩, v', ho9, hl9, hb9, hs9, ht9⟩
          all_goals have HEND2 := Lib.hid (HEND.out W9 v' ho9 hl9 hb9 ht9)
          all_goals have HKP2 := Lib.hid (HKP.out W9 v' ht9)
          all_goals clear ho9 hl9 hb9 hs9 ht9
          all_goals gi_wp2
          all_goals exact ⟨HKP2.out.1.from _, HKP2.out.2, _, HEND2.out⟩
      case done =>
        rintro D ys W hD rfl ⟨v, hI⟩ hK
        obtain ⟨hop, hset⟩ := fold_all (Wf := (fun p q => p || q)) hca hcb rfl
        have hro := hI.ro
        have hrb := hI.rb
        rw [show (foldF (fun p q => p || q) (bns la lb (2 * la.length + 2 * lb.length) 0 0)).1 = combR (fun p q => p || q) la lb from rfl] at hrb hset
        have HI64 : Hid (∀ p, p ∈ combR (fun p q => p || q) la lb → I64 p.1 ∧ I64 p.2) := Lib.hid (fun p hp => by
          obtain ⟨j, hj, rfl⟩ := List.mem_iff_getElem.1 hp
          have h := span_rng hset.can j hj
          simp [hj] at h
          exact ⟨⟨by omega, by omega⟩, ⟨by omega, by omega⟩⟩)
        obtain ⟨R, hR⟩ : ∃ R, R = combR (fun p q => p || q) la lb := ⟨_, rfl⟩
        rw [← hR] at hrb hset HI64 HE HL
        obtain ⟨a', c', rfl⟩ := hrb.shape
        have HII := Lib.hid hI
        have HRB := Lib.hid hrb
        have HRW := Lib.hid hI.rl
        have hcl := hI.rl.cell (i := 0) rfl
        have hfl := hI.rl.free 0
        have HK := Lib.hid hK
        have hDg : D ≠ g + 1 := by have := hI.rl.lt; omega
        obtain ⟨n, hn⟩ : ∃ n, n = R.length := ⟨_, rfl⟩
        have HN := Lib.hid hn
        have hn64 : n ≤ maxLen := by rw [hn]; obtain ⟨_, _, he, h1, h2, _⟩ := hrb.rest HI64.out; injection he with _ e2 e3; omega
        rw [← hn] at hcl HRW HII HRB HE
        clear hI hro hrb hK hini hop hset hn hR q2 q3
        by_cases hbig : 256 < n
        · have HE2 : Hid (E0 = 2) := Lib.hid (by rw [HE.out]; simp [hbig])
          have HL2 : Hid (L0 = []) := Lib.hid (by rw [HL.out, HE2.out]; simp)
          have e1 : decide ((256 : Int) < (n : Int)) = true := by simp; omega
          clear hbig
          unfold maxLen at hn64
          have hp2 := HRW.out.set (cs' := [.slice none 0 0]) 0 (.slice none 0 0) rfl
          have hB2 := below_setCell HII.out.bel (g + 1) 0 (.slice none 0 0) (by omega)
          have hK' := (heap_setCell_other W ⟨g + 1, 0, none⟩ D (.slice none 0 0) (by exact hDg)).trans HK.out
          have HW5 := Lib.hid (And.intro hp2 (And.intro hB2 hK'))
          clear hp2 hB2 hK'
          go_wp2_with fail
          generalize W.setCell ⟨g + 1, 0, none⟩ (.slice none 0 0) = W5 at *
          obtain ⟨hp2, hB2, hK'⟩ := HW5.out
          have c2 : (W5.putObj D (.deferred none)).cell? ⟨g + 1, 0, none⟩ = some (.slice none 0 0) := Row.cell (i := 0) (cs := [.slice none 0 0]) ((World.putObj_heap_other (fun e => hDg e.symm)).trans hp2) rfl
          refine ⟨by simp, .inl ⟨_, _, rfl, run_takeDeferred hK', ?_⟩⟩
          exact ⟨_, results_sp Tryd.results41 _ _ (g + 1) _ _ rfl rfl c2, _, by rw [HE2.out]; rfl, by rw [HL2.out]; exact prest_nil _ _, hB2.trans (belowK_b (w := w) (Nat.le_refl _) W5 D _ _ (by omega) hK' rfl rfl)⟩
        · have HE2 : Hid (E0 = 0) := Lib.hid (by rw [HE.out]; simp [hbig])
          have HL2 : Hid (L0 = R) := Lib.hid (by rw [HL.out, HE2.out]; simp)
          have e1 : decide ((256 : Int) < (n : Int)) = false := by simp; omega
          clear hbig
          unfold maxLen at hn64
          have hp2 := HRW.out.set (cs' := [.slice a' n c']) 0 (.slice a' n c') rfl
          have hB2 := below_setCell HII.out.bel (g + 1) 0 (.slice a' n c') (by omega)
          have hK' := (heap_setCell_other W ⟨g + 1, 0, none⟩ D (.slice a' n c') (by exact hDg)).trans HK.out
          have hpb2 : PBuf 0 (W.setCell ⟨g + 1, 0, none⟩ (.slice a' n c')) (.slice a' n c') R := HRB.out.same fun k hk => heap_setCell_other W ⟨g + 1, 0, none⟩ k _ (by show k ≠ g + 1; have := HII.out.own k hk; omega)
          have HW5 := Lib.hid (And.intro hp2 (And.intro hB2 (And.intro hpb2 hK')))
          clear hp2 hB2 hK' hpb2
          go_wp2_with fail
          generalize W.setCell ⟨g + 1, 0, none⟩ (.slice a' n c') = W5 at *
          obtain ⟨hp2, hB2, hpb2, hK'⟩ := HW5.out
          have c2 : (W5.putObj D (.deferred none)).cell? ⟨g + 1, 0, none⟩ = some (.slice a' n c') := Row.cell (i := 0) (cs := [.slice a' n c']) ((World.putObj_heap_other (fun e => hDg e.symm)).trans hp2) rfl
          refine ⟨by simp, .inl ⟨_, _, rfl, run_takeDeferred hK', ?_⟩⟩
          exact ⟨_, results_sp Tryd.results41 _ _ (g + 1) _ _ rfl rfl c2, _, by rw [HE2.out]; rfl, by rw [HL2.out]; exact (pbuf_kept hpb2 (grownBy_putObj' W5 D _) (fun r e => by cases e; exact ⟨_, hK', rfl⟩)).rest HI64.out, hB2.trans (belowK_b (w := w) (Nat.le_refl _) W5 D _ _ (by omega) hK' rfl rfl)⟩
    · skip
      have HE2 : Hid (E0 = eb) := Lib.hid (by rw [HE.out]; simp [hzb])
      have HL2 : Hid (L0 = []) := Lib.hid (by rw [HL.out, HE2.out, if_neg hzb])
      have e1 : (eb != 0) = true := by simpa using hzb
      clear hka hkb hzb HE HL
      go_enter Tryd.func41, Tryd.ntmps41
      go_upto_region 2 with (first | (go_at_call 21; refine (HCA.out _ HW0.out).mono ?_; rintro e w1 ⟨rfl, hb1⟩; have HB1 := Lib.hid (below_next HW0.out hb1); have HR61 := Lib.hid (HR6.out.keep hb1); have cz1 := HR61.out.cell (i := 0) rfl; have fz1 := HR61.out.free 0; clear hb1) | fail)
      go_upto_region 5 with (first | (go_at_call 21; refine (HCB.out _ HB1.out).mono ?_; rintro e w2 ⟨rfl, hb2⟩; have HB2 := Lib.hid (below_next HB1.out hb2); have HR62 := Lib.hid (HR61.out.keep hb2); have cz2 := HR62.out.cell (i := 0) rfl; have fz2 := HR62.out.free 0; clear hb2) | fail)
      go_wp2_with fail
      have hp2 := HR62.out.set (cs' := [.slice none 0 0]) 0 (.slice none 0 0) rfl
      exact bodyPost_ret (results_sp Tryd.results41 _ _ (w.heap.size + 1) _ _ rfl rfl (hp2.cell (i := 0) rfl)) rfl ⟨_, by rw [HE2.out]; rfl, by rw [HL2.out]; exact prest_nil _ _, below_setCell HB2.out (w.heap.size + 1) 0 (.slice none 0 0) (by omega)⟩
  · skip
    have HE2 : Hid (E0 = ea) := Lib.hid (by rw [HE.out]; simp [hza])
    have HL2 : Hid (L0 = []) := Lib.hid (by rw [HL.out, HE2.out, if_neg hza])
    have e1 : (ea != 0) = true := by simpa using hza
    clear hka hkb hza HE HL
    go_enter Tryd.func41, Tryd.ntmps41
    go_upto_region 2 with (first | (go_at_call 21; refine (HCA.out _ HW0.out).mono ?_; rintro e w1 ⟨rfl, hb1⟩; have HB1 := Lib.hid (below_next HW0.out hb1); have HR61 := Lib.hid (HR6.out.keep hb1); have cz1 := HR61.out.cell (i := 0) rfl; have fz1 := HR61.out.free 0; clear hb1) | fail)
    go_wp2_with fail
    have hp2 := HR61.out.set (cs' := [.slice none 0 0]) 0 (.slice none 0 0) rfl
    exact bodyPost_ret (results_sp Tryd.results41 _ _ (w.heap.size + 1) _ _ rfl rfl (hp2.cell (i := 0) rfl)) rfl ⟨_, by rw [HE2.out]; rfl, by rw [HL2.out]; exact prest_nil _ _, below_setCell HB1.out (w.heap.size + 1) 0 (.slice none 0 0) (by omega)⟩

set_option maxRecDepth 100000 in
set_option maxHeartbeats 8000000 in
theorem combine_and (la lb : List Sp) (va vb : Value) (B : Nat) (w : World) (ha : PRest B w la va) (hb : PRest B w lb vb) (hB : B ≤ w.heap.size) :
    Calls Tryd.prog 41 #[va, vb, .func (.func 44) #[] #[]] w fun e w' => ∃ v, e = .returned (.tuple #[v, .int .i64 (combE (fun p q => p && q) la lb)]) ∧ PRest w'.heap.size w' (combL (fun p q => p && q) la lb) v ∧ Below w.heap.size w w' := by
  obtain ⟨a1, c1, rfl, -⟩ := id ha
  obtain ⟨a2, c2, rfl, -⟩ := id hb
  have HA := Lib.hid ha
  have HB := Lib.hid hb
  have HBS := Lib.hid hB
  have HCA : Hid (∀ W, Below w.heap.size w W → Calls Tryd.prog 21 #[.slice a1 la.length c1] W fun e w' => e = .returned (.int .i64 (chk la)) ∧ Below W.heap.size W w') := Lib.hid (fun W hW => Check_call la _ B W (ha.stays (hW.mono hB)) (by have := hW.size; omega))
  have HCB : Hid (∀ W, Below w.heap.size w W → Calls Tryd.prog 21 #[.slice a2 lb.length c2] W fun e w' => e = .returned (.int .i64 (chk lb)) ∧ Below W.heap.size W w') := Lib.hid (fun W hW => Check_call lb _ B W (hb.stays (hW.mono hB)) (by have := hW.size; omega))
  have hka := fun h0 => chk_ok (l := la) h0
  have hkb := fun h0 => chk_ok (l := lb) h0
  obtain ⟨ea, hea⟩ : ∃ e, e = chk la := ⟨_, rfl⟩
  obtain ⟨eb, heb⟩ : ∃ e, e = chk lb := ⟨_, rfl⟩
  have HE : Hid (combE (fun p q => p && q) la lb = if ea ≠ 0 then ea else if eb ≠ 0 then eb else if 256 < (combR (fun p q => p && q) la lb).length then 2 else 0) := Lib.hid (by unfold combE; rw [hea, heb])
  have HL : Hid (combL (fun p q => p && q) la lb = if combE (fun p q => p && q) la lb = 0 then combR (fun p q => p && q) la lb else []) := Lib.hid rfl
  obtain ⟨E0, hE0⟩ : ∃ E, E = combE (fun p q => p && q) la lb := ⟨_, rfl⟩
  obtain ⟨L0, hL0⟩ : ∃ L, L = combL (fun p q => p && q) la lb := ⟨_, rfl⟩
  rw [← hE0, ← hL0]
  rw [← hE0] at HE HL
  rw [← hL0] at HL
  clear hE0 hL0
  rw [← hea] at HCA hka
  rw [← heb] at HCB hkb
  clear hea heb ha hb
  have HW0 := Lib.hid (below_next (Joins.below_alloc1 w (.cells #[.func (.func 44) #[] #[]] 56)) (Joins.below_alloc1 _ (.cells #[.slice none 0 0] 32)))
  have HR5 : Hid (Row ((w.alloc (.cells #[.func (.func 44) #[] #[]] 56)).alloc (.cells #[.slice none 0 0] 32)) w.heap.size 56 [.func (.func 44) #[] #[]]) := Lib.hid ((row_new w _ _).keep (Joins.below_alloc1 _ _))
  have HR6 : Hid (Row ((w.alloc (.cells #[.func (.func 44) #[] #[]] 56)).alloc (.cells #[.slice none 0 0] 32)) (w.heap.size + 1) 32 [.slice none 0 0]) := Lib.hid (by
    have h := row_new (w.alloc (.cells #[.func (.func 44) #[] #[]] 56)) 32 [.slice none 0 0]
    rw [World.size_alloc] at h; exact h)
  by_cases hza : ea = 0
  · subst hza
    by_cases hzb : eb = 0
    · subst hzb
      obtain ⟨hla, hca⟩ := hka rfl
      obtain ⟨hlb, hcb⟩ := hkb rfl
      clear hka hkb
      refine (callsIn_wide (n := 6)).1 ?_
      refine callsIn_of_wp_marks Tryd.func41 rfl trivial ?_ rfl
      simp only [Tryd.ntmps41, List.size_toArray, List.length_cons, List.length_nil, Nat.reduceAdd, Nat.reduceSub, Array.replicate_succ, Array.replicate_zero, List.push_toArray, List.append_toArray, List.nil_append, List.cons_append]
      refine wpIn_wide.2 ?_
      go_upto_region 2 with (first | (go_at_call 21; refine (HCA.out _ HW0.out).mono ?_; rintro e w1 ⟨rfl, hb1⟩; have HB1 := Lib.hid (below_next HW0.out hb1); have HR51 := Lib.hid (HR5.out.keep hb1); have HR61 := Lib.hid (HR6.out.keep hb1); clear hb1) | fail)
      go_upto_region 5 with (first | (go_at_call 21; refine (HCB.out _ HB1.out).mono ?_; rintro e w2 ⟨rfl, hb2⟩; have HB2 := Lib.hid (below_next HB1.out hb2); have HR52 := Lib.hid (HR51.out.keep hb2); have HR62 := Lib.hid (HR61.out.keep hb2); clear hb2) | fail)
      clear HCA HCB HR5 HR6 HR51 HR61 HW0
      have hlt2 := HR62.out.lt
      have HW3 := Lib.hid (below_next (Joins.below_alloc1 w2 (.cells #[.bool false] 4)) (Joins.below_alloc1 _ (.cells #[.func (.func 48) #[] #[.pointer (some ⟨w2.heap.size, 0, none⟩), .pointer (some ⟨w.heap.size + 1, 0, none⟩)]] 59)))
      go_wp2_with (go_at_call 49; refine (boundaries_call a1 la.length c1 a2 lb.length c2 _).mono ?_; rintro e w9 ⟨rfl, rfl⟩)
      clear HW3
      obtain ⟨vt, hvt⟩ : ∃ v, v = Value.func (.func 48) #[] #[.pointer (some ⟨w2.heap.size, 0, none⟩), .pointer (some ⟨w.heap.size + 1, 0, none⟩)] := ⟨_, rfl⟩
      rw [← hvt]
      have hb3 : Below w2.heap.size w2 ((((w2.alloc (.cells #[.bool false] 4)).alloc (.cells #[vt] 59)).alloc (.cells #[.slice a1 la.length c1] 32)).alloc (.cells #[.slice a2 lb.length c2] 32)) :=
        below_next (below_next (below_next (Joins.below_alloc1 w2 _) (Joins.below_alloc1 _ _)) (Joins.below_alloc1 _ _)) (Joins.below_alloc1 _ _)
      have q0 : Row ((((w2.alloc (.cells #[.bool false] 4)).alloc (.cells #[vt] 59)).alloc (.cells #[.slice a1 la.length c1] 32)).alloc (.cells #[.slice a2 lb.length c2] 32)) w2.heap.size 4 [.bool false] :=
        (((row_new w2 _ _).keep (Joins.below_alloc1 _ _)).keep (Joins.below_alloc1 _ _)).keep (Joins.below_alloc1 _ _)
      have q1 : Row ((((w2.alloc (.cells #[.bool false] 4)).alloc (.cells #[vt] 59)).alloc (.cells #[.slice a1 la.length c1] 32)).alloc (.cells #[.slice a2 lb.length c2] 32)) (w2.heap.size + 1) 59 [vt] := by
        have := ((row_new (w2.alloc (.cells #[.bool false] 4)) 59 [vt]).keep (Joins.below_alloc1 _ (.cells #[.slice a1 la.length c1] 32))).keep (Joins.below_alloc1 _ (.cells #[.slice a2 lb.length c2] 32))
        rwa [World.size_alloc] at this
      have q2 : Row ((((w2.alloc (.cells #[.bool false] 4)).alloc (.cells #[vt] 59)).alloc (.cells #[.slice a1 la.length c1] 32)).alloc (.cells #[.slice a2 lb.length c2] 32)) (w2.heap.size + 1 + 1) 32 [.slice a1 la.length c1] := by
        have := (row_new ((w2.alloc (.cells #[.bool false] 4)).alloc (.cells #[vt] 59)) 32 [.slice a1 la.length c1]).keep (Joins.below_alloc1 _ (.cells #[.slice a2 lb.length c2] 32))
        rwa [World.size_alloc, World.size_alloc] at this
      have q3 : Row ((((w2.alloc (.cells #[.bool false] 4)).alloc (.cells #[vt] 59)).alloc (.cells #[.slice a1 la.length c1] 32)).alloc (.cells #[.slice a2 lb.length c2] 32)) (w2.heap.size + 1 + 1 + 1) 32 [.slice a2 lb.length c2] := by
        have := row_new (((w2.alloc (.cells #[.bool false] 4)).alloc (.cells #[vt] 59)).alloc (.cells #[.slice a1 la.length c1] 32)) 32 [.slice a2 lb.length c2]
        rwa [World.size_alloc, World.size_alloc, World.size_alloc] at this
      have hs3 : ((((w2.alloc (.cells #[.bool false] 4)).alloc (.cells #[vt] 59)).alloc (.cells #[.slice a1 la.length c1] 32)).alloc (.cells #[.slice a2 lb.length c2] 32)).heap.size = w2.heap.size + 4 := by simp
      have HI0 := below_next HB2.out hb3
      have q5 := HR52.out.keep hb3
      have q6 := HR62.out.keep hb3
      generalize (((w2.alloc (.cells #[.bool false] 4)).alloc (.cells #[vt] 59)).alloc (.cells #[.slice a1 la.length c1] 32)).alloc (.cells #[.slice a2 lb.length c2] 32) = W3 at *
      generalize ho : w2.heap.size = o at *
      generalize hg : w.heap.size = g at *
      have HS3 := Lib.hid hs3
      have hini : CoI (fun p q => p && q) w g o (o + 4) (.func (.func 44) #[] #[]) vt [] (.slice none 0 0) W3 := ⟨q0, q6, pbuf_nil _ _, fun k hk => (by cases hk), q5, q1, by rw [hg]; exact HI0, by omega⟩
      have HVT := Lib.hid hvt
      clear hb3 HB2 HR52 HR62 HB1 q0 q1 q5 q6 hvt
      refine (wpIn_wide (n := 6)).1 ?_
      refine range_toldA (F := Fence.wide) (n := 6) rfl (by omega) (gf := 53) (lb := #[.pointer (some ⟨o + 1 + 1, 0, none⟩), .pointer (some ⟨o + 1 + 1 + 1, 0, none⟩)]) rfl trivial (enters_of Tryd.func53 (by kernel_rfl) rfl)
        (encs := encB) (T := fun x _ => 0 ≤ x.1 ∧ x.1 ≤ 73049) (fun x => ownFrom_pure _ _) (B := fun b => b < o + 4 ∧ b ≠ o ∧ b ≠ g + 1) (fun b hb => by omega) (S := fun ys => ys = bns la lb (2 * la.length + 2 * lb.length) 0 0) (N := 2 * la.length + 2 * lb.length)
        (fun W hW => bns_tells 5 (by omega) (o + 1 + 1) (o + 1 + 1 + 1) _ la lb _ _ B W ⟨by omega, by omega, by omega⟩ ⟨by omega, by omega, by omega⟩ (fun b hb => by have := hW.size; omega)
          ((hW.cell (p := ⟨o + 1 + 1, 0, none⟩) (show o + 1 + 1 < W3.heap.size by omega)).trans (q2.cell (i := 0) rfl)) ((hW.cell (p := ⟨o + 1 + 1 + 1, 0, none⟩) (show o + 1 + 1 + 1 < W3.heap.size by omega)).trans (q3.cell (i := 0) rfl))
          (fun W' hk => ⟨PRest.kp2 ((HA.out.stays (HI0.mono (by omega))).stays (hW.mono (by omega))) (by have := hW.size; omega) (fun b hb => ⟨by omega, by omega, by omega⟩) hk, PRest.kp2 ((HB.out.stays (HI0.mono (by omega))).stays (hW.mono (by omega))) (by have := hW.size; omega) (fun b hb => ⟨by omega, by omega, by omega⟩) hk⟩) hca hcb hla hlb) (fun _ => rfl)
        (fun pre W => ∃ v, CoI (fun p q => p && q) w g o (o + 4) (.func (.func 44) #[] #[]) vt pre v W)
        ?own ⟨_, hini⟩
        (fun x a' W => (0 ≤ x.1 ∧ x.1 ≤ 73049) ∧ ∃ Bx, o + 4 ≤ Bx ∧ Row W Bx 64 [.bool x.2.1, .bool x.2.2] ∧ a' = { tmps := #[.slice a1 la.length c1, .slice a2 lb.length c2, .func (.func 44) #[] #[], undef, undef, .pointer (some ⟨g, 0, none⟩), .pointer (some ⟨g + 1, 0, none⟩), .int .i64 0, .pointer (some ⟨o, 0, none⟩), .pointer (some ⟨o + 1, 0, none⟩), .int .i64 x.1, .pointer (some ⟨Bx, 0, none⟩), .slice a1 la.length c1, .int .i64 0, .int .i64 0, .bool false, undef, .slice a2 lb.length c2, .int .i64 0, .int .i64 0, .bool false, undef, vt, .slice a1 la.length c1, .slice a2 lb.length c2, .func (.func 53) #[] #[.pointer (some ⟨o + 1 + 1, 0, none⟩), .pointer (some ⟨o + 1 + 1 + 1, 0, none⟩)], .int .i64 x.1, .agg #[.bool x.2.1, .bool x.2.2], undef, undef, undef, undef, undef, undef, undef, undef, undef, undef, undef, undef, undef, undef, undef], defers := [] })
        ?owna ?assign ?body ?done
      case own =>
        rintro pre A B row ⟨v, hs⟩ hgr hr
        exact ⟨v, hs.kept hgr fun r e => ⟨by have := (hr r e).1; omega, (hr r e).2⟩⟩
      case owna =>
        rintro x a' _ A B row ⟨h0, Bx, h1, h2, h3⟩ hgr hr
        exact ⟨h0, Bx, h1, row_kept h2 hgr fun r e => (hr r e).2, h3⟩
      case assign =>
        rintro y pre x W K ⟨v, hI⟩ hx hlen hK
        obtain ⟨day, pa, pb⟩ := x
        unfold encB
        gi_wp2
        have hb := Joins.below_alloc1 W (.cells #[.bool pa, .bool pb] 64)
        exact hK _ _ ((others_below hb).from _) (Kp2.below hb) ⟨v, hI.keep hb⟩ ⟨hx, W.heap.size, hI.big, row_new W _ _, rfl⟩
      case body =>
        rintro y pre x a' W ⟨v, hI⟩ ⟨hx0, Bx, hBx, hxr, rfl⟩ hlen
        obtain ⟨day, pa, pb⟩ := x
        simp only at hx0 hxr ⊢
        have HI := Lib.hid hI
        have HX := Lib.hid hxr
        have HFL : Hid ((foldF (fun p q => p && q) pre).1.length ≤ 2000) := Lib.hid (by have h := foldF_len (fun p q => p && q) pre ([], false); simp only [List.length_nil] at h; unfold foldF; omega)
        have HFN : Hid ((foldF (fun p q => p && q) pre).2 = true → (foldF (fun p q => p && q) pre).1 ≠ []) := Lib.hid (foldF_ne (fun p q => p && q) pre ([], false) (by simp))
        have HSTAY : Hid ((fun p q => p && q) pa pb = (foldF (fun p q => p && q) pre).2 → ∀ W', CoI (fun p q => p && q) w g o (o + 4) (.func (.func 44) #[] #[]) vt pre v W' → CoI (fun p q => p && q) w g o (o + 4) (.func (.func 44) #[] #[]) vt (pre ++ [(day, pa, pb)]) v W') := Lib.hid (fun h W' hi => hi.stay (x := (day, pa, pb)) h)
        have HTURN : Hid (¬ (fun p q => p && q) pa pb = (foldF (fun p q => p && q) pre).2 → ∀ (W1 W' : World) v', CoI (fun p q => p && q) w g o (o + 4) (.func (.func 44) #[] #[]) vt pre v W1 → Row W' o 4 [.bool (!(foldF (fun p q => p && q) pre).2)] → Row W' (g + 1) 32 [v'] → PBuf 0 W' v' (turnF (foldF (fun p q => p && q) pre) day).1 → Turned o (g + 1) W1 W' v v' → CoI (fun p q => p && q) w g o (o + 4) (.func (.func 44) #[] #[]) vt (pre ++ [(day, pa, pb)]) v' W') :=
          Lib.hid (fun h W1 W' v' hi h1 h2 h3 h4 => hi.turn (x := (day, pa, pb)) h hlt2 hg (by omega) h1 h2 h3 h4)
        have HRO := Lib.hid hI.ro
        have hc5 := hI.rf.cell (i := 0) rfl
        have hc8 := hI.ro.cell (i := 0) rfl
        have hcx0 := hxr.cell (i := 0) rfl
        have hcx1 := hxr.cell (i := 1) rfl
        obtain ⟨⟨c, op⟩, hst⟩ : ∃ st, st = foldF (fun p q => p && q) pre := ⟨_, rfl⟩
        rw [← hst] at HFL HFN HSTAY HTURN hc8
        simp only at HFL HFN HSTAY HTURN hc8
        have HB : Hid (PBuf 0 W v c ∧ ∀ k, v.ownBlock = some k → o + 4 ≤ k) := Lib.hid ⟨by have := hI.rb; rw [← hst] at this; exact this, hI.own⟩
        have HRO2 : Hid (Row W o 4 [.bool op]) := Lib.hid (by have := hI.ro; rw [← hst] at this; exact this)
        have HDAY := Lib.hid hx0
        have hg5 := hI.rf.lt
        clear hI hxr hst hini q2 q3 hlen hx0 HRO
        gi_wp2
        refine wpIn_region_quiet (by kernel_rfl) (by kernel_rfl) (fun ⟨_, _, h⟩ => h) (by kernel_rfl) ?_
        repeat (go_big_quiet_step ((go_at_call 44; exact Calls.quiet_of_same (want_and pa pb _))))
        refine wpQuiet_nil ?_
        intro _ hw'
        obtain ⟨nq, hw''⟩ := hw'
        subst hw''
        have HDB := Lib.hid (drewN_below W nq)
        have HI2 := Lib.hid (HI.out.keep HDB.out)
        have HRO3 := Lib.hid (HRO2.out.keep HDB.out)
        have HPB := Lib.hid (HB.out.1.keep HDB.out)
        have HCT := Lib.hid (HI2.out.rt.cell (i := 0) rfl)
        rw [HVT.out] at HCT
        by_cases he : (fun p q => p && q) pa pb = op
        · have HEND := Lib.hid (HSTAY.out he _ HI2.out)
          generalize W.drewN nq = V at *
          cases pa <;> cases pb <;> cases op <;> (first | (exact absurd he (by decide)) | skip)
          all_goals clear he
          all_goals gi_wp2
          all_goals exact ⟨(others_below HDB.out).from _, Kp2.below HDB.out, _, HEND.out⟩
        · have hgl := HI2.out.rl.lt
          have hol := HI2.out.ro.lt
          have ct := HCT.out
          have HTC := Lib.hid (turn_call o (g + 1) c op v day _ (by omega) HRO3.out HI2.out.rl HPB.out (fun k hk => by have := HB.out.2 k hk; omega) HFN.out HFL.out HDAY.out)
          have HEND := Lib.hid (fun W9 v' => HTURN.out he _ W9 v' HI2.out)
          have HKP : Hid (∀ W9 v', Turned o (g + 1) (W.drewN nq) W9 v v' → KeepsOthers W W9 ∧ Kp2 (fun b => b < o + 4 ∧ b ≠ o ∧ b ≠ g + 1) W W9) := Lib.hid (fun W9 v' ht9 => ⟨(others_below HDB.out).trans ht9.others, (Kp2.below HDB.out).trans ⟨ht9.others.size, fun b hb hlt => ht9.block b hlt hb.2.1 hb.2.2 (fun e => by have := HB.out.2 b e; omega)⟩⟩)
          generalize W.drewN nq = V at *
          cases pa <;> cases pb <;> cases op <;> (first | (exact absurd rfl he) | skip)
          all_goals clear he
          all_goals gi_wp2
          all_goals refine ⟨trivial, ?_⟩
          all_goals refine (CallsIn.inRound y (callsIn_wide.2 HTC.out)).mono ?_
          all_goals rintro e W9 ⟨⟨u, rfl⟩, v', ho9, hl9, hb9, hs9, ht9⟩
          all_goals have HEND2 := Lib.hid (HEND.out W9 v' ho9 hl9 hb9 ht9)
          all_goals have HKP2 := Lib.hid (HKP.out W9 v' ht9)
          all_goals clear ho9 hl9 hb9 hs9 ht9
          all_goals gi_wp2
          all_goals exact ⟨HKP2.out.1.from _, HKP2.out.2, _, HEND2.out⟩
      case done =>
        rintro D ys W hD rfl ⟨v, hI⟩ hK
        obtain ⟨hop, hset⟩ := fold_all (Wf := (fun p q => p && q)) hca hcb rfl
        have hro := hI.ro
        have hrb := hI.rb
        rw [show (foldF (fun p q => p && q) (bns la lb (2 * la.length + 2 * lb.length) 0 0)).1 = combR (fun p q => p && q) la lb from rfl] at hrb hset
        have HI64 : Hid (∀ p, p ∈ combR (fun p q => p && q) la lb → I64 p.1 ∧ I64 p.2) := Lib.hid (fun p hp => by
          obtain ⟨j, hj, rfl⟩ := List.mem_iff_getElem.1 hp
          have h := span_rng hset.can j hj
          simp [hj] at h
          exact ⟨⟨by omega, by omega⟩, ⟨by omega, by omega⟩⟩)
        obtain ⟨R, hR⟩ : ∃ R, R = combR (fun p q => p && q) la lb := ⟨_, rfl⟩
        rw [← hR] at hrb hset HI64 HE HL
        obtain ⟨a', c', rfl⟩ := hrb.shape
        have HII := Lib.hid hI
        have HRB := Lib.hid hrb
        have HRW := Lib.hid hI.rl
        have hcl := hI.rl.cell (i := 0) rfl
        have hfl := hI.rl.free 0
        have HK := Lib.hid hK
        have hDg : D ≠ g + 1 := by have := hI.rl.lt; omega
        obtain ⟨n, hn⟩ : ∃ n, n = R.length := ⟨_, rfl⟩
        have HN := Lib.hid hn
        have hn64 : n ≤ maxLen := by rw [hn]; obtain ⟨_, _, he, h1, h2, _⟩ := hrb.rest HI64.out; injection he with _ e2 e3; omega
        rw [← hn] at hcl HRW HII HRB HE
        clear hI hro hrb hK hini hop hset hn hR q2 q3
        by_cases hbig : 256 < n
        · have HE2 : Hid (E0 = 2) := Lib.hid (by rw [HE.out]; simp [hbig])
          have HL2 : Hid (L0 = []) := Lib.hid (by rw [HL.out, HE2.out]; simp)
          have e1 : decide ((256 : Int) < (n : Int)) = true := by simp; omega
          clear hbig
          unfold maxLen at hn64
          have hp2 := HRW.out.set (cs' := [.slice none 0 0]) 0 (.slice none 0 0) rfl
          have hB2 := below_setCell HII.out.bel (g + 1) 0 (.slice none 0 0) (by omega)
          have hK' := (heap_setCell_other W ⟨g + 1, 0, none⟩ D (.slice none 0 0) (by exact hDg)).trans HK.out
          have HW5 := Lib.hid (And.intro hp2 (And.intro hB2 hK'))
          clear hp2 hB2 hK'
          go_wp2_with fail
          generalize W.setCell ⟨g + 1, 0, none⟩ (.slice none 0 0) = W5 at *
          obtain ⟨hp2, hB2, hK'⟩ := HW5.out
          have c2 : (W5.putObj D (.deferred none)).cell? ⟨g + 1, 0, none⟩ = some (.slice none 0 0) := Row.cell (i := 0) (cs := [.slice none 0 0]) ((World.putObj_heap_other (fun e => hDg e.symm)).trans hp2) rfl
          refine ⟨by simp, .inl ⟨_, _, rfl, run_takeDeferred hK', ?_⟩⟩
          exact ⟨_, results_sp Tryd.results41 _ _ (g + 1) _ _ rfl rfl c2, _, by rw [HE2.out]; rfl, by rw [HL2.out]; exact prest_nil _ _, hB2.trans (belowK_b (w := w) (Nat.le_refl _) W5 D _ _ (by omega) hK' rfl rfl)⟩
        · have HE2 : Hid (E0 = 0) := Lib.hid (by rw [HE.out]; simp [hbig])
          have HL2 : Hid (L0 = R) := Lib.hid (by rw [HL.out, HE2.out]; simp)
          have e1 : decide ((256 : Int) < (n : Int)) = false := by simp; omega
          clear hbig
          unfold maxLen at hn64
          have hp2 := HRW.out.set (cs' := [.slice a' n c']) 0 (.slice a' n c') rfl
          have hB2 := below_setCell HII.out.bel (g + 1) 0 (.slice a' n c') (by omega)
          have hK' := (heap_setCell_other W ⟨g + 1, 0, none⟩ D (.slice a' n c') (by exact hDg)).trans HK.out
          have hpb2 : PBuf 0 (W.setCell ⟨g + 1, 0, none⟩ (.slice a' n c')) (.slice a' n c') R := HRB.out.same fun k hk => heap_setCell_other W ⟨g + 1, 0, none⟩ k _ (by show k ≠ g + 1; have := HII.out.own k hk; omega)
          have HW5 := Lib.hid (And.intro hp2 (And.intro hB2 (And.intro hpb2 hK')))
          clear hp2 hB2 hK' hpb2
          go_wp2_with fail
          generalize W.setCell ⟨g + 1, 0, none⟩ (.slice a' n c') = W5 at *
          obtain ⟨hp2, hB2, hpb2, hK'⟩ := HW5.out
          have c2 : (W5.putObj D (.deferred none)).cell? ⟨g + 1, 0, none⟩ = some (.slice a' n c') := Row.cell (i := 0) (cs := [.slice a' n c']) ((World.putObj_heap_other (fun e => hDg e.symm)).trans hp2) rfl
          refine ⟨by simp, .inl ⟨_, _, rfl, run_takeDeferred hK', ?_⟩⟩
          exact ⟨_, results_sp Tryd.results41 _ _ (g + 1) _ _ rfl rfl c2, _, by rw [HE2.out]; rfl, by rw [HL2.out]; exact (pbuf_kept hpb2 (grownBy_putObj' W5 D _) (fun r e => by cases e; exact ⟨_, hK', rfl⟩)).rest HI64.out, hB2.trans (belowK_b (w := w) (Nat.le_refl _) W5 D _ _ (by omega) hK' rfl rfl)⟩
    · skip
      have HE2 : Hid (E0 = eb) := Lib.hid (by rw [HE.out]; simp [hzb])
      have HL2 : Hid (L0 = []) := Lib.hid (by rw [HL.out, HE2.out, if_neg hzb])
      have e1 : (eb != 0) = true := by simpa using hzb
      clear hka hkb hzb HE HL
      go_enter Tryd.func41, Tryd.ntmps41
      go_upto_region 2 with (first | (go_at_call 21; refine (HCA.out _ HW0.out).mono ?_; rintro e w1 ⟨rfl, hb1⟩; have HB1 := Lib.hid (below_next HW0.out hb1); have HR61 := Lib.hid (HR6.out.keep hb1); have cz1 := HR61.out.cell (i := 0) rfl; have fz1 := HR61.out.free 0; clear hb1) | fail)
      go_upto_region 5 with (first | (go_at_call 21; refine (HCB.out _ HB1.out).mono ?_; rintro e w2 ⟨rfl, hb2⟩; have HB2 := Lib.hid (below_next HB1.out hb2); have HR62 := Lib.hid (HR61.out.keep hb2); have cz2 := HR62.out.cell (i := 0) rfl; have fz2 := HR62.out.free 0; clear hb2) | fail)
      go_wp2_with fail
      have hp2 := HR62.out.set (cs' := [.slice none 0 0]) 0 (.slice none 0 0) rfl
      exact bodyPost_ret (results_sp Tryd.results41 _ _ (w.heap.size + 1) _ _ rfl rfl (hp2.cell (i := 0) rfl)) rfl ⟨_, by rw [HE2.out]; rfl, by rw [HL2.out]; exact prest_nil _ _, below_setCell HB2.out (w.heap.size + 1) 0 (.slice none 0 0) (by omega)⟩
  · skip
    have HE2 : Hid (E0 = ea) := Lib.hid (by rw [HE.out]; simp [hza])
    have HL2 : Hid (L0 = []) := Lib.hid (by rw [HL.out, HE2.out, if_neg hza])
    have e1 : (ea != 0) = true := by simpa using hza
    clear hka hkb hza HE HL
    go_enter Tryd.func41, Tryd.ntmps41
    go_upto_region 2 with (first | (go_at_call 21; refine (HCA.out _ HW0.out).mono ?_; rintro e w1 ⟨rfl, hb1⟩; have HB1 := Lib.hid (below_next HW0.out hb1); have HR61 := Lib.hid (HR6.out.keep hb1); have cz1 := HR61.out.cell (i := 0) rfl; have fz1 := HR61.out.free 0; clear hb1) | fail)
    go_wp2_with fail
    have hp2 := HR61.out.set (cs' := [.slice none 0 0]) 0 (.slice none 0 0) rfl
    exact bodyPost_ret (results_sp Tryd.results41 _ _ (w.heap.size + 1) _ _ rfl rfl (hp2.cell (i := 0) rfl)) rfl ⟨_, by rw [HE2.out]; rfl, by rw [HL2.out]; exact prest_nil _ _, below_setCell HB1.out (w.heap.size + 1) 0 (.slice none 0 0) (by omega)⟩

set_option maxRecDepth 100000 in
set_option maxHeartbeats 8000000 in
theorem combine_not (la lb : List Sp) (va vb : Value) (B : Nat) (w : World) (ha : PRest B w la va) (hb : PRest B w lb vb) (hB : B ≤ w.heap.size) :
    Calls Tryd.prog 41 #[va, vb, .func (.func 45) #[] #[]] w fun e w' => ∃ v, e = .returned (.tuple #[v, .int .i64 (combE (fun p q => p && !q) la lb)]) ∧ PRest w'.heap.size w' (combL (fun p q => p && !q) la lb) v ∧ Below w.heap.size w w' := by
  obtain ⟨a1, c1, rfl, -⟩ := id ha
  obtain ⟨a2, c2, rfl, -⟩ := id hb
  have HA := Lib.hid ha
  have HB := Lib.hid hb
  have HBS := Lib.hid hB
  have HCA : Hid (∀ W, Below w.heap.size w W → Calls Tryd.prog 21 #[.slice a1 la.length c1] W fun e w' => e = .returned (.int .i64 (chk la)) ∧ Below W.heap.size W w') := Lib.hid (fun W hW => Check_call la _ B W (ha.stays (hW.mono hB)) (by have := hW.size; omega))
  have HCB : Hid (∀ W, Below w.heap.size w W → Calls Tryd.prog 21 #[.slice a2 lb.length c2] W fun e w' => e = .returned (.int .i64 (chk lb)) ∧ Below W.heap.size W w') := Lib.hid (fun W hW => Check_call lb _ B W (hb.stays (hW.mono hB)) (by have := hW.size; omega))
  have hka := fun h0 => chk_ok (l := la) h0
  have hkb := fun h0 => chk_ok (l := lb) h0
  obtain ⟨ea, hea⟩ : ∃ e, e = chk la := ⟨_, rfl⟩
  obtain ⟨eb, heb⟩ : ∃ e, e = chk lb := ⟨_, rfl⟩
  have HE : Hid (combE (fun p q => p && !q) la lb = if ea ≠ 0 then ea else if eb ≠ 0 then eb else if 256 < (combR (fun p q => p && !q) la lb).length then 2 else 0) := Lib.hid (by unfold combE; rw [hea, heb])
  have HL : Hid (combL (fun p q => p && !q) la lb = if combE (fun p q => p && !q) la lb = 0 then combR (fun p q => p && !q) la lb else []) := Lib.hid rfl
  obtain ⟨E0, hE0⟩ : ∃ E, E = combE (fun p q => p && !q) la lb := ⟨_, rfl⟩
  obtain ⟨L0, hL0⟩ : ∃ L, L = combL (fun p q => p && !q) la lb := ⟨_, rfl⟩
  rw [← hE0, ← hL0]
  rw [← hE0] at HE HL
  rw [← hL0] at HL
  clear hE0 hL0
  rw [← hea] at HCA hka
  rw [← heb] at HCB hkb
  clear hea heb ha hb
  have HW0 := Lib.hid (below_next (Joins.below_alloc1 w (.cells #[.func (.func 45) #[] #[]] 56)) (Joins.below_alloc1 _ (.cells #[.slice none 0 0] 32)))
  have HR5 : Hid (Row ((w.alloc (.cells #[.func (.func 45) #[] #[]] 56)).alloc (.cells #[.slice none 0 0] 32)) w.heap.size 56 [.func (.func 45) #[] #[]]) := Lib.hid ((row_new w _ _).keep (Joins.below_alloc1 _ _))
  have HR6 : Hid (Row ((w.alloc (.cells #[.func (.func 45) #[] #[]] 56)).alloc (.cells #[.slice none 0 0] 32)) (w.heap.size + 1) 32 [.slice none 0 0]) := Lib.hid (by
    have h := row_new (w.alloc (.cells #[.func (.func 45) #[] #[]] 56)) 32 [.slice none 0 0]
    rw [World.size_alloc] at h; exact h)
  by_cases hza : ea = 0
  · subst hza
    by_cases hzb : eb = 0
    · subst hzb
      obtain ⟨hla, hca⟩ := hka rfl
      obtain ⟨hlb, hcb⟩ := hkb rfl
      clear hka hkb
      refine (callsIn_wide (n := 6)).1 ?_
      refine callsIn_of_wp_marks Tryd.func41 rfl trivial ?_ rfl
      simp only [Tryd.ntmps41, List.size_toArray, List.length_cons, List.length_nil, Nat.reduceAdd, Nat.reduceSub, Array.replicate_succ, Array.replicate_zero, List.push_toArray, List.append_toArray, List.nil_append, List.cons_append]
      refine wpIn_wide.2 ?_
      go_upto_region 2 with (first | (go_at_call 21; refine (HCA.out _ HW0.out).mono ?_; rintro e w1 ⟨rfl, hb1⟩; have HB1 := Lib.hid (below_next HW0.out hb1); have HR51 := Lib.hid (HR5.out.keep hb1); have HR61 := Lib.hid (HR6.out.keep hb1); clear hb1) | fail)
      go_upto_region 5 with (first | (go_at_call 21; refine (HCB.out _ HB1.out).mono ?_; rintro e w2 ⟨rfl, hb2⟩; have HB2 := Lib.hid (below_next HB1.out hb2); have HR52 := Lib.hid (HR51.out.keep hb2); have HR62 := Lib.hid (HR61.out.keep hb2); clear hb2) | fail)
      clear HCA HCB HR5 HR6 HR51 HR61 HW0
      have hlt2 := HR62.out.lt
      have HW3 := Lib.hid (below_next (Joins.below_alloc1 w2 (.cells #[.bool false] 4)) (Joins.below_alloc1 _ (.cells #[.func (.func 48) #[] #[.pointer (some ⟨w2.heap.size, 0, none⟩), .pointer (some ⟨w.heap.size + 1, 0, none⟩)]] 59)))
      go_wp2_with (go_at_call 49; refine (boundaries_call a1 la.length c1 a2 lb.length c2 _).mono ?_; rintro e w9 ⟨rfl, rfl⟩)
      clear HW3
      obtain ⟨vt, hvt⟩ : ∃ v, v = Value.func (.func 48) #[] #[.pointer (some ⟨w2.heap.size, 0, none⟩), .pointer (some ⟨w.heap.size + 1, 0, none⟩)] := ⟨_, rfl⟩
      rw [← hvt]
      have hb3 : Below w2.heap.size w2 ((((w2.alloc (.cells #[.bool false] 4)).alloc (.cells #[vt] 59)).alloc (.cells #[.slice a1 la.length c1] 32)).alloc (.cells #[.slice a2 lb.length c2] 32)) :=
        below_next (below_next (below_next (Joins.below_alloc1 w2 _) (Joins.below_alloc1 _ _)) (Joins.below_alloc1 _ _)) (Joins.below_alloc1 _ _)
      have q0 : Row ((((w2.alloc (.cells #[.bool false] 4)).alloc (.cells #[vt] 59)).alloc (.cells #[.slice a1 la.length c1] 32)).alloc (.cells #[.slice a2 lb.length c2] 32)) w2.heap.size 4 [.bool false] :=
        (((row_new w2 _ _).keep (Joins.below_alloc1 _ _)).keep (Joins.below_alloc1 _ _)).keep (Joins.below_alloc1 _ _)
      have q1 : Row ((((w2.alloc (.cells #[.bool false] 4)).alloc (.cells #[vt] 59)).alloc (.cells #[.slice a1 la.length c1] 32)).alloc (.cells #[.slice a2 lb.length c2] 32)) (w2.heap.size + 1) 59 [vt] := by
        have := ((row_new (w2.alloc (.cells #[.bool false] 4)) 59 [vt]).keep (Joins.below_alloc1 _ (.cells #[.slice a1 la.length c1] 32))).keep (Joins.below_alloc1 _ (.cells #[.slice a2 lb.length c2] 32))
        rwa [World.size_alloc] at this
      have q2 : Row ((((w2.alloc (.cells #[.bool false] 4)).alloc (.cells #[vt] 59)).alloc (.cells #[.slice a1 la.length c1] 32)).alloc (.cells #[.slice a2 lb.length c2] 32)) (w2.heap.size + 1 + 1) 32 [.slice a1 la.length c1] := by
        have := (row_new ((w2.alloc (.cells #[.bool false] 4)).alloc (.cells #[vt] 59)) 32 [.slice a1 la.length c1]).keep (Joins.below_alloc1 _ (.cells #[.slice a2 lb.length c2] 32))
        rwa [World.size_alloc, World.size_alloc] at this
      have q3 : Row ((((w2.alloc (.cells #[.bool false] 4)).alloc (.cells #[vt] 59)).alloc (.cells #[.slice a1 la.length c1] 32)).alloc (.cells #[.slice a2 lb.length c2] 32)) (w2.heap.size + 1 + 1 + 1) 32 [.slice a2 lb.length c2] := by
        have := row_new (((w2.alloc (.cells #[.bool false] 4)).alloc (.cells #[vt] 59)).alloc (.cells #[.slice a1 la.length c1] 32)) 32 [.slice a2 lb.length c2]
        rwa [World.size_alloc, World.size_alloc, World.size_alloc] at this
      have hs3 : ((((w2.alloc (.cells #[.bool false] 4)).alloc (.cells #[vt] 59)).alloc (.cells #[.slice a1 la.length c1] 32)).alloc (.cells #[.slice a2 lb.length c2] 32)).heap.size = w2.heap.size + 4 := by simp
      have HI0 := below_next HB2.out hb3
      have q5 := HR52.out.keep hb3
      have q6 := HR62.out.keep hb3
      generalize (((w2.alloc (.cells #[.bool false] 4)).alloc (.cells #[vt] 59)).alloc (.cells #[.slice a1 la.length c1] 32)).alloc (.cells #[.slice a2 lb.length c2] 32) = W3 at *
      generalize ho : w2.heap.size = o at *
      generalize hg : w.heap.size = g at *
      have HS3 := Lib.hid hs3
      have hini : CoI (fun p q => p && !q) w g o (o + 4) (.func (.func 45) #[] #[]) vt [] (.slice none 0 0) W3 := ⟨q0, q6, pbuf_nil _ _, fun k hk => (by cases hk), q5, q1, by rw [hg]; exact HI0, by omega⟩
      have HVT := Lib.hid hvt
      clear hb3 HB2 HR52 HR62 HB1 q0 q1 q5 q6 hvt
      refine (wpIn_wide (n := 6)).1 ?_
      refine range_toldA (F := Fence.wide) (n := 6) rfl (by omega) (gf := 53) (lb := #[.pointer (some ⟨o + 1 + 1, 0, none⟩), .pointer (some ⟨o + 1 + 1 + 1, 0, none⟩)]) rfl trivial (enters_of Tryd.func53 (by kernel_rfl) rfl)
        (encs := encB) (T := fun x _ => 0 ≤ x.1 ∧ x.1 ≤ 73049) (fun x => ownFrom_pure _ _) (B := fun b => b < o + 4 ∧ b ≠ o ∧ b ≠ g + 1) (fun b hb => by omega) (S := fun ys => ys = bns la lb (2 * la.length + 2 * lb.length) 0 0) (N := 2 * la.length + 2 * lb.length)
        (fun W hW => bns_tells 5 (by omega) (o + 1 + 1) (o + 1 + 1 + 1) _ la lb _ _ B W ⟨by omega, by omega, by omega⟩ ⟨by omega, by omega, by omega⟩ (fun b hb => by have := hW.size; omega)
          ((hW.cell (p := ⟨o + 1 + 1, 0, none⟩) (show o + 1 + 1 < W3.heap.size by omega)).trans (q2.cell (i := 0) rfl)) ((hW.cell (p := ⟨o + 1 + 1 + 1, 0, none⟩) (show o + 1 + 1 + 1 < W3.heap.size by omega)).trans (q3.cell (i := 0) rfl))
          (fun W' hk => ⟨PRest.kp2 ((HA.out.stays (HI0.mono (by omega))).stays (hW.mono (by omega))) (by have := hW.size; omega) (fun b hb => ⟨by omega, by omega, by omega⟩) hk, PRest.kp2 ((HB.out.stays (HI0.mono (by omega))).stays (hW.mono (by omega))) (by have := hW.size; omega) (fun b hb => ⟨by omega, by omega, by omega⟩) hk⟩) hca hcb hla hlb) (fun _ => rfl)
        (fun pre W => ∃ v, CoI (fun p q => p && !q) w g o (o + 4) (.func (.func 45) #[] #[]) vt pre v W)
        ?own ⟨_, hini⟩
        (fun x a' W => (0 ≤ x.1 ∧ x.1 ≤ 73049) ∧ ∃ Bx, o + 4 ≤ Bx ∧ Row W Bx 64 [.bool x.2.1, .bool x.2.2] ∧ a' = { tmps := #[.slice a1 la.length c1, .slice a2 lb.length c2, .func (.func 45) #[] #[], undef, undef, .pointer (some ⟨g, 0, none⟩), .pointer (some ⟨g + 1, 0, none⟩), .int .i64 0, .pointer (some ⟨o, 0, none⟩), .pointer (some ⟨o + 1, 0, none⟩), .int .i64 x.1, .pointer (some ⟨Bx, 0, none⟩), .slice a1 la.length c1, .int .i64 0, .int .i64 0, .bool false, undef, .slice a2 lb.length c2, .int .i64 0, .int .i64 0, .bool false, undef, vt, .slice a1 la.length c1, .slice a2 lb.length c2, .func (.func 53) #[] #[.pointer (some ⟨o + 1 + 1, 0, none⟩), .pointer (some ⟨o + 1 + 1 + 1, 0, none⟩)], .int .i64 x.1, .agg #[.bool x.2.1, .bool x.2.2], undef, undef, undef, undef, undef, undef, undef, undef, undef, undef, undef, undef, undef, undef, undef], defers := [] })
        ?owna ?assign ?body ?done
      case own =>
        rintro pre A B row ⟨v, hs⟩ hgr hr
        exact ⟨v, hs.kept hgr fun r e => ⟨by have := (hr r e).1; omega, (hr r e).2⟩⟩
      case owna =>
        rintro x a' _ A B row ⟨h0, Bx, h1, h2, h3⟩ hgr hr
        exact ⟨h0, Bx, h1, row_kept h2 hgr fun r e => (hr r e).2, h3⟩
      case assign =>
        rintro y pre x W K ⟨v, hI⟩ hx hlen hK
        obtain ⟨day, pa, pb⟩ := x
        unfold encB
        gi_wp2
        have hb := Joins.below_alloc1 W (.cells #[.bool pa, .bool pb] 64)
        exact hK _ _ ((others_below hb).from _) (Kp2.below hb) ⟨v, hI.keep hb⟩ ⟨hx, W.heap.size, hI.big, row_new W _ _, rfl⟩
      case body =>
        rintro y pre x a' W ⟨v, hI⟩ ⟨hx0, Bx, hBx, hxr, rfl⟩ hlen
        obtain ⟨day, pa, pb⟩ := x
        simp only at hx0 hxr ⊢
        have HI := Lib.hid hI
        have HX := Lib.hid hxr
        have HFL : Hid ((foldF (fun p q => p && !q) pre).1.length ≤ 2000) := Lib.hid (by have h := foldF_len (fun p q => p && !q) pre ([], false); simp only [List.length_nil] at h; unfold foldF; omega)
        have HFN : Hid ((foldF (fun p q => p && !q) pre).2 = true → (foldF (fun p q => p && !q) pre).1 ≠ []) := Lib.hid (foldF_ne (fun p q => p && !q) pre ([], false) (by simp))
        have HSTAY : Hid ((fun p q => p && !q) pa pb = (foldF (fun p q => p && !q) pre).2 → ∀ W', CoI (fun p q => p && !q) w g o (o + 4) (.func (.func 45) #[] #[]) vt pre v W' → CoI (fun p q => p && !q) w g o (o + 4) (.func (.func 45) #[] #[]) vt (pre ++ [(day, pa, pb)]) v W') := Lib.hid (fun h W' hi => hi.stay (x := (day, pa, pb)) h)
        have HTURN : Hid (¬ (fun p q => p && !q) pa pb = (foldF (fun p q => p && !q) pre).2 → ∀ (W1 W' : World) v', CoI (fun p q => p && !q) w g o (o + 4) (.func (.func 45) #[] #[]) vt pre v W1 → Row W' o 4 [.bool (!(foldF (fun p q => p && !q) pre).2)] → Row W' (g + 1) 32 [v'] → PBuf 0 W' v' (turnF (foldF (fun p q => p && !q) pre) day).1 → Turned o (g + 1) W1 W' v v' → CoI (fun p q => p && !q) w g o (o + 4) (.func (.func 45) #[] #[]) vt (pre ++ [(day, pa, pb)]) v' W') :=
          Lib.hid (fun h W1 W' v' hi h1 h2 h3 h4 => hi.turn (x := (day, pa, pb)) h hlt2 hg (by omega) h1 h2 h3 h4)
        have HRO := Lib.hid hI.ro
        have hc5 := hI.rf.cell (i := 0) rfl
        have hc8 := hI.ro.cell (i := 0) rfl
        have hcx0 := hxr.cell (i := 0) rfl
        have hcx1 := hxr.cell (i := 1) rfl
        obtain ⟨⟨c, op⟩, hst⟩ : ∃ st, st = foldF (fun p q => p && !q) pre := ⟨_, rfl⟩
        rw [← hst] at HFL HFN HSTAY HTURN hc8
        simp only at HFL HFN HSTAY HTURN hc8
        have HB : Hid (PBuf 0 W v c ∧ ∀ k, v.ownBlock = some k → o + 4 ≤ k) := Lib.hid ⟨by have := hI.rb; rw [← hst] at this; exact this, hI.own⟩
        have HRO2 : Hid (Row W o 4 [.bool op]) := Lib.hid (by have := hI.ro; rw [← hst] at this; exact this)
        have HDAY := Lib.hid hx0
        have hg5 := hI.rf.lt
        clear hI hxr hst hini q2 q3 hlen hx0 HRO
        gi_wp2
        refine wpIn_region_quiet (by kernel_rfl) (by kernel_rfl) (fun ⟨_, _, h⟩ => h) (by kernel_rfl) ?_
        repeat (go_big_quiet_step ((go_at_call 45; exact Calls.quiet_of_same (want_not pa pb _))))
        refine wpQuiet_nil ?_
        intro _ hw'
        obtain ⟨nq, hw''⟩ := hw'
        subst hw''
        have HDB := Lib.hid (drewN_below W nq)
        have HI2 := Lib.hid (HI.out.keep HDB.out)
        have HRO3 := Lib.hid (HRO2.out.keep HDB.out)
        have HPB := Lib.hid (HB.out.1.keep HDB.out)
        have HCT := Lib.hid (HI2.out.rt.cell (i := 0) rfl)
        rw [HVT.out] at HCT
        by_cases he : (fun p q => p && !q) pa pb = op
        · have HEND := Lib.hid (HSTAY.out he _ HI2.out)
          generalize W.drewN nq = V at *
          cases pa <;> cases pb <;> cases op <;> (first | (exact absurd he (by decide)) | skip)
          all_goals clear he
          all_goals gi_wp2
          all_goals exact ⟨(others_below HDB.out).from _, Kp2.below HDB.out, _, HEND.out⟩
        · have hgl := HI2.out.rl.lt
          have hol := HI2.out.ro.lt
          have ct := HCT.out
          have HTC := Lib.hid (turn_call o (g + 1) c op v day _ (by omega) HRO3.out HI2.out.rl HPB.out (fun k hk => by have := HB.out.2 k hk; omega) HFN.out HFL.out HDAY.out)
          have HEND := Lib.hid (fun W9 v' => HTURN.out he _ W9 v' HI2.out)
          have HKP : Hid (∀ W9 v', Turned o (g + 1) (W.drewN nq) W9 v v' → KeepsOthers W W9 ∧ Kp2 (fun b => b < o + 4 ∧ b ≠ o ∧ b ≠ g + 1) W W9) := Lib.hid (fun W9 v' ht9 => ⟨(others_below HDB.out).trans ht9.others, (Kp2.below HDB.out).trans ⟨ht9.others.size, fun b hb hlt => ht9.block b hlt hb.2.1 hb.2.2 (fun e => by have := HB.out.2 b e; omega)⟩⟩)
          generalize W.drewN nq = V at *
          cases pa <;> cases pb <;> cases op <;> (first | (exact absurd rfl he) | skip)
          all_goals clear he
          all_goals gi_wp2
          all_goals refine ⟨trivial, ?_⟩
          all_goals refine (CallsIn.inRound y (callsIn_wide.2 HTC.out)).mono ?_
          all_goals rintro e W9 ⟨⟨u, rfl⟩, v', ho9, hl9, hb9, hs9, ht9⟩
          all_goals have HEND2 := Lib.hid (HEND.out W9 v' ho9 hl9 hb9 ht9)
          all_goals have HKP2 := Lib.hid (HKP.out W9 v' ht9)
          all_goals clear ho9 hl9 hb9 hs9 ht9
          all_goals gi_wp2
          all_goals exact ⟨HKP2.out.1.from _, HKP2.out.2, _, HEND2.out⟩
      case done =>
        rintro D ys W hD rfl ⟨v, hI⟩ hK
        obtain ⟨hop, hset⟩ := fold_all (Wf := (fun p q => p && !q)) hca hcb rfl
        have hro := hI.ro
        have hrb := hI.rb
        rw [show (foldF (fun p q => p && !q) (bns la lb (2 * la.length + 2 * lb.length) 0 0)).1 = combR (fun p q => p && !q) la lb from rfl] at hrb hset
        have HI64 : Hid (∀ p, p ∈ combR (fun p q => p && !q) la lb → I64 p.1 ∧ I64 p.2) := Lib.hid (fun p hp => by
          obtain ⟨j, hj, rfl⟩ := List.mem_iff_getElem.1 hp
          have h := span_rng hset.can j hj
          simp [hj] at h
          exact ⟨⟨by omega, by omega⟩, ⟨by omega, by omega⟩⟩)
        obtain ⟨R, hR⟩ : ∃ R, R = combR (fun p q => p && !q) la lb := ⟨_, rfl⟩
        rw [← hR] at hrb hset HI64 HE HL
        obtain ⟨a', c', rfl⟩ := hrb.shape
        have HII := Lib.hid hI
        have HRB := Lib.hid hrb
        have HRW := Lib.hid hI.rl
        have hcl := hI.rl.cell (i := 0) rfl
        have hfl := hI.rl.free 0
        have HK := Lib.hid hK
        have hDg : D ≠ g + 1 := by have := hI.rl.lt; omega
        obtain ⟨n, hn⟩ : ∃ n, n = R.length := ⟨_, rfl⟩
        have HN := Lib.hid hn
        have hn64 : n ≤ maxLen := by rw [hn]; obtain ⟨_, _, he, h1, h2, _⟩ := hrb.rest HI64.out; injection he with _ e2 e3; omega
        rw [← hn] at hcl HRW HII HRB HE
        clear hI hro hrb hK hini hop hset hn hR q2 q3
        by_cases hbig : 256 < n
        · have HE2 : Hid (E0 = 2) := Lib.hid (by rw [HE.out]; simp [hbig])
          have HL2 : Hid (L0 = []) := Lib.hid (by rw [HL.out, HE2.out]; simp)
          have e1 : decide ((256 : Int) < (n : Int)) = true := by simp; omega
          clear hbig
          unfold maxLen at hn64
          have hp2 := HRW.out.set (cs' := [.slice none 0 0]) 0 (.slice none 0 0) rfl
          have hB2 := below_setCell HII.out.bel (g + 1) 0 (.slice none 0 0) (by omega)
          have hK' := (heap_setCell_other W ⟨g + 1, 0, none⟩ D (.slice none 0 0) (by exact hDg)).trans HK.out
          have HW5 := Lib.hid (And.intro hp2 (And.intro hB2 hK'))
          clear hp2 hB2 hK'
          go_wp2_with fail
          generalize W.setCell ⟨g + 1, 0, none⟩ (.slice none 0 0) = W5 at *
          obtain ⟨hp2, hB2, hK'⟩ := HW5.out
          have c2 : (W5.putObj D (.deferred none)).cell? ⟨g + 1, 0, none⟩ = some (.slice none 0 0) := Row.cell (i := 0) (cs := [.slice none 0 0]) ((World.putObj_heap_other (fun e => hDg e.symm)).trans hp2) rfl
          refine ⟨by simp, .inl ⟨_, _, rfl, run_takeDeferred hK', ?_⟩⟩
          exact ⟨_, results_sp Tryd.results41 _ _ (g + 1) _ _ rfl rfl c2, _, by rw [HE2.out]; rfl, by rw [HL2.out]; exact prest_nil _ _, hB2.trans (belowK_b (w := w) (Nat.le_refl _) W5 D _ _ (by omega) hK' rfl rfl)⟩
        · have HE2 : Hid (E0 = 0) := Lib.hid (by rw [HE.out]; simp [hbig])
          have HL2 : Hid (L0 = R) := Lib.hid (by rw [HL.out, HE2.out]; simp)
          have e1 : decide ((256 : Int) < (n : Int)) = false := by simp; omega
          clear hbig
          unfold maxLen at hn64
          have hp2 := HRW.out.set (cs' := [.slice a' n c']) 0 (.slice a' n c') rfl
          have hB2 := below_setCell HII.out.bel (g + 1) 0 (.slice a' n c') (by omega)
          have hK' := (heap_setCell_other W ⟨g + 1, 0, none⟩ D (.slice a' n c') (by exact hDg)).trans HK.out
          have hpb2 : PBuf 0 (W.setCell ⟨g + 1, 0, none⟩ (.slice a' n c')) (.slice a' n c') R := HRB.out.same fun k hk => heap_setCell_other W ⟨g + 1, 0, none⟩ k _ (by show k ≠ g + 1; have := HII.out.own k hk; omega)
          have HW5 := Lib.hid (And.intro hp2 (And.intro hB2 (And.intro hpb2 hK')))
          clear hp2 hB2 hK' hpb2
          go_wp2_with fail
          generalize W.setCell ⟨g + 1, 0, none⟩ (.slice a' n c') = W5 at *
          obtain ⟨hp2, hB2, hpb2, hK'⟩ := HW5.out
          have c2 : (W5.putObj D (.deferred none)).cell? ⟨g + 1, 0, none⟩ = some (.slice a' n c') := Row.cell (i := 0) (cs := [.slice a' n c']) ((World.putObj_heap_other (fun e => hDg e.symm)).trans hp2) rfl
          refine ⟨by simp, .inl ⟨_, _, rfl, run_takeDeferred hK', ?_⟩⟩
          exact ⟨_, results_sp Tryd.results41 _ _ (g + 1) _ _ rfl rfl c2, _, by rw [HE2.out]; rfl, by rw [HL2.out]; exact (pbuf_kept hpb2 (grownBy_putObj' W5 D _) (fun r e => by cases e; exact ⟨_, hK', rfl⟩)).rest HI64.out, hB2.trans (belowK_b (w := w) (Nat.le_refl _) W5 D _ _ (by omega) hK' rfl rfl)⟩
    · skip
      have HE2 : Hid (E0 = eb) := Lib.hid (by rw [HE.out]; simp [hzb])
      have HL2 : Hid (L0 = []) := Lib.hid (by rw [HL.out, HE2.out, if_neg hzb])
      have e1 : (eb != 0) = true := by simpa using hzb
      clear hka hkb hzb HE HL
      go_enter Tryd.func41, Tryd.ntmps41
      go_upto_region 2 with (first | (go_at_call 21; refine (HCA.out _ HW0.out).mono ?_; rintro e w1 ⟨rfl, hb1⟩; have HB1 := Lib.hid (below_next HW0.out hb1); have HR61 := Lib.hid (HR6.out.keep hb1); have cz1 := HR61.out.cell (i := 0) rfl; have fz1 := HR61.out.free 0; clear hb1) | fail)
      go_upto_region 5 with (first | (go_at_call 21; refine (HCB.out _ HB1.out).mono ?_; rintro e w2 ⟨rfl, hb2⟩; have HB2 := Lib.hid (below_next HB1.out hb2); have HR62 := Lib.hid (HR61.out.keep hb2); have cz2 := HR62.out.cell (i := 0) rfl; have fz2 := HR62.out.free 0; clear hb2) | fail)
      go_wp2_with fail
      have hp2 := HR62.out.set (cs' := [.slice none 0 0]) 0 (.slice none 0 0) rfl
      exact bodyPost_ret (results_sp Tryd.results41 _ _ (w.heap.size + 1) _ _ rfl rfl (hp2.cell (i := 0) rfl)) rfl ⟨_, by rw [HE2.out]; rfl, by rw [HL2.out]; exact prest_nil _ _, below_setCell HB2.out (w.heap.size + 1) 0 (.slice none 0 0) (by omega)⟩
  · skip
    have HE2 : Hid (E0 = ea) := Lib.hid (by rw [HE.out]; simp [hza])
    have HL2 : Hid (L0 = []) := Lib.hid (by rw [HL.out, HE2.out, if_neg hza])
    have e1 : (ea != 0) = true := by simpa using hza
    clear hka hkb hza HE HL
    go_enter Tryd.func41, Tryd.ntmps41
    go_upto_region 2 with (first | (go_at_call 21; refine (HCA.out _ HW0.out).mono ?_; rintro e w1 ⟨rfl, hb1⟩; have HB1 := Lib.hid (below_next HW0.out hb1); have HR61 := Lib.hid (HR6.out.keep hb1); have cz1 := HR61.out.cell (i := 0) rfl; have fz1 := HR61.out.free 0; clear hb1) | fail)
    go_wp2_with fail
    have hp2 := HR61.out.set (cs' := [.slice none 0 0]) 0 (.slice none 0 0) rfl
    exact bodyPost_ret (results_sp Tryd.results41 _ _ (w.heap.size + 1) _ _ rfl rfl (hp2.cell (i := 0) rfl)) rfl ⟨_, by rw [HE2.out]; rfl, by rw [HL2.out]; exact prest_nil _ _, below_setCell HB1.out (w.heap.size + 1) 0 (.slice none 0 0) (by omega)⟩
end Go.Proofs.YtiicjmbnkjociaaDoor
