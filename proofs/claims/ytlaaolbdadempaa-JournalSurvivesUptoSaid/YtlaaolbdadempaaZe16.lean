/- Bytes cloned. -/
import Derived.Laws.AppendOwnNone
import Derived.Test.YtlaaolbdadempaaZe13
import Derived.Test.YtlaaolbdadempaaZe15
namespace Go.Proofs.Ytlaaolbdadempaa
open Go.RowKit

theorem wpList_buf {w : World} {ops : Array Oper} {rest : List Oper} {o : Oper} {a : Act} {Q : Exit → Act → World → Prop} (hgd : o.guard = none) (s x : Operand)
    (ho : o.op = .call { callee := .builtin .append, args := #[s, x], argTypes := #[35, 35] })
    (v : Value) (xs : List UInt8) (hs : a.eval s = v) (hb : Buf w v xs) (sv : Value) (B : Nat) (ys : List UInt8) (hx : a.eval x = sv) (hr : Rest B w ys sv) (hlen : xs.length + ys.length ≤ 70368744177664)
    (h : ∀ v' w', Buf w' v' (xs ++ ys) → Wrote w w' v v' → wpList Try.prog ops Q rest (a.put o.dst v') w') : wpList Try.prog ops Q (o :: rest) a w := by
  obtain ⟨i0, hi, hz0, hz1, hz2⟩ := info_parts Try.info5
  obtain ⟨ad, cap, rfl, hcap, hcm, hn, hc⟩ := hr
  have hown : w.ownsRow 0 5 1 v xs.length (cellsOf xs) := hb
  have hy : (cellsOf ys).length = ys.length * 1 := by rw [cellsOf_len, Nat.mul_one]
  cases ad with
  | none =>
    obtain ⟨h0, rfl⟩ := hn rfl
    obtain rfl : ys = [] := List.eq_nil_of_length_eq_zero h0
    refine wpList_append_own_none hgd s x 35 ho 0 5 i0 1 Try.underlying35 hi v xs.length (cellsOf xs) hs hown hx ?_
    exact h v w (by rw [List.append_nil]; exact hb) (Wrote.refl w v)
  | some ad =>
    refine wpList_append_mine w hgd s x 35 ho 5 i0 (.int .u8 0) 1 1 Try.underlying35 hi hz0 hz1 hz2 rfl (by decide) v xs.length (cellsOf xs) hs hown ad ys.length cap (cellsOf ys) hx hy ?_ (cells_one ys) (by unfold maxLen; omega) (by omega) ?_
    · intro j u hj
      rcases hc with h0 | ⟨b, off, he, _, hc⟩
      · obtain rfl : ys = [] := List.eq_nil_of_length_eq_zero h0
        simp [cellsOf] at hj
      · obtain rfl := Option.some.inj he
        have hjl : j < ys.length := by
          have := (List.getElem?_eq_some_iff.1 hj).1
          rwa [cellsOf_len] at this
        rw [cellsOf_get hjl] at hj
        rw [← hj, Addr.add_lit]
        exact hc j hjl
    · intro v' w' ho1 hw1
      refine h v' w' ?_ hw1
      unfold Buf
      rw [List.length_append, cellsOf_append]; exact ho1
/-- a buffer of the call's own, as a slice that is read -/
theorem rests_of_buf {S : Nat → Prop} {w : World} {v : Value} {xs : List UInt8} (h : Buf w v xs) (hg : ∀ g, v.ownBlock = some g → S g) : RestS S w xs v := by
  have h' := h
  rcases h.2 with ⟨rfl, h1⟩ | ⟨g, cap, cur, rfl, hbg, hg2, hnc, hcm, hcs, htake⟩
  · obtain rfl : xs = [] := List.eq_nil_of_length_eq_zero (by omega)
    exact rests_nil _ _
  · refine ⟨_, cap, rfl, hnc, hcm, (fun h => by cases h), .inr ⟨g, 0, rfl, hg g rfl, fun i hi => ?_⟩⟩
    have c1 := World.ownsRow.cells h' (g := g) rfl i _ (cellsOf_get hi)
    rw [Addr.add_lit] at c1
    exact c1
def New (w0 w : World) (v : Value) (xs : List UInt8) : Prop := Buf w v xs ∧ Below w0.heap.size w0 w ∧ ∀ k, v.ownBlock = some k → w0.heap.size ≤ k
theorem New.app {w0 w w1 : World} {v v' : Value} {xs ys : List UInt8} (h : New w0 w v xs) (hb : Buf w1 v' ys) (hw : Wrote w w1 v v') : New w0 w1 v' ys := by
  refine ⟨hb, h.2.1.trans (hw.toBelow h.2.1.size h.2.2), fun k hk => ?_⟩
  rcases hw.own with h9 | h9
  · exact h.2.2 k (h9 ▸ hk)
  · exact Nat.le_trans h.2.1.size (h9 k hk)
theorem buf_made (w : World) : New w (w.alloc (.cells #[] 5)) (.slice (some ⟨w.heap.size, 0, none⟩) 0 0) [] :=
  ⟨owns_none w 5 1, Joins.below_alloc1 w _, fun k hk => by cases hk; exact Nat.le_refl _⟩
set_option maxHeartbeats 2000000 in
set_option maxRecDepth 100000 in
theorem clone35_call (xs : List UInt8) (v : Value) (w : World) (h : Rest w.heap.size w xs v) (hl : xs.length ≤ 1000000000000) :
    Calls Try.prog 65 #[v] w fun e w' => ∃ v', e = .returned v' ∧ RestS (fun b => w.heap.size ≤ b) w' xs v' ∧ Below w.heap.size w w' := by
  have HV := Lib.hid h
  obtain ⟨a, cap, rfl, hc1, hc2⟩ := h.shape
  obtain ⟨n, hn⟩ : ∃ n, n = xs.length := ⟨_, rfl⟩
  have HN := Lib.hid hn
  cases a with
  | none =>
    have h0 : xs.length = 0 := by
      obtain ⟨a2, cap2, he, _, _, h4, _⟩ := h
      injection he with he1
      exact (h4 he1.symm).1
    have h00 : cap = 0 := by
      obtain ⟨a2, cap2, he, _, _, h4, _⟩ := h
      injection he with he1 he2 he3
      rw [he3]; exact (h4 he1.symm).2
    subst h00
    obtain rfl : xs = [] := List.eq_nil_of_length_eq_zero h0
    clear h hn HN
    show Calls Try.prog 65 #[.slice none 0 0] w _
    have hq : ∀ W : World, (binOp .eql 35 (.slice none 0 0) (.slice none 0 0)).run Try.prog W = .ok (.bool true) W := fun W => run_eql_nil_slice W 35 5 none 0 0 0 0 Try.underlying35
    go_enter Try.func65, Try.ntmps65
    go_wp2_with fail
    go_ret
    exact ⟨_, rfl, rests_nil _ _, Below.refl _ _⟩
  | some p =>
    rw [← hn] at HV hc2 hl ⊢
    have hq : ∀ W : World, (binOp .eql 35 (.slice (some p) n cap) (.slice none 0 0)).run Try.prog W = .ok (.bool false) W := fun W => run_eql_nil_slice W 35 5 (some p) n cap 0 0 Try.underlying35
    clear h hn
    go_enter Try.func65, Try.ntmps65
    go_wp2_with (refine wpList_buf rfl (.tmp 5) (.tmp 6) rfl _ [] rfl (buf_made w).1 (.slice (some p) n cap) w.heap.size xs rfl (HV.out.stays (Joins.below_alloc1 w _)) (by rw [← HN.out]; simp; omega) ?_; intro v2 w2 hb2 hw2; have HN2 := Lib.hid ((buf_made w).app hb2 hw2); clear hb2 hw2)
    go_ret
    rw [List.nil_append] at HN2
    exact ⟨_, rfl, rests_of_buf HN2.out.1 HN2.out.2.2, HN2.out.2.1⟩
end Go.Proofs.Ytlaaolbdadempaa

/- Append: the program's function. -/
namespace Go.Proofs.Ytlaaolbdadempaa
open Go.RowKit

theorem size55 : (Try.prog.info? 55).map (·.size) = some 3 := by kernel_rfl
theorem results_jn {fn : Func} {p q : Tmp} (h : fn.results = #[.cell p 55, .tmp q]) (tmps : Array Value) (w : World) (g : Nat) (cs : List Value) (hl : cs.length = 3)
    (hp : tmps.getD p undef = .pointer (some ⟨g, 0, none⟩)) (x : Value) (hx : tmps.getD q undef = x) (hg : Row w g 55 cs) :
    (results fn tmps).run Try.prog w = .ok (.tuple #[.agg cs.toArray, x]) w := by
  have hr : (loadVar 55 ⟨g, 0, none⟩).run Try.prog w = .ok (.agg cs.toArray) w := run_loadVar_row (P := Try.prog) w g 55 55 cs.toArray (0, 0) _ hg Try.underlying55 rfl (by rw [size55]; simp [hl])
  have hp' : tmps[p]?.getD undef = .pointer (some ⟨g, 0, none⟩) := by simpa using hp
  have hx' : tmps[q]?.getD undef = x := by simpa using hx
  simp [results, h, hp', hx', asAddr, hr]
/-- what a call answers that returns a journal and an error -/
def JAnsS (S : Nat → Prop) (w : World) (r : Jnl × Int) (e : Ending) (w' : World) : Prop :=
  ∃ v, e = .returned (.tuple #[jv v r.1.many r.1.synced, .int .i64 r.2]) ∧ NRestS (Ext S w.heap.size) w' r.1.recs v ∧ Below w.heap.size w w'
theorem jans_zero {S : Nat → Prop} {w w' : World} {r : Jnl × Int} {k : Int} (hr : r = (zeroJ, k)) (hb : Below w.heap.size w w') : JAnsS S w r (.returned (.tuple #[.agg #[.slice none 0 0, .int .i64 0, .int .i64 0], .int .i64 k])) w' := by
  subst hr
  exact ⟨_, rfl, nrests_nil _ _, hb⟩
/-- the values of a slice of slices, also of an empty one -/
theorem NRestS.olds {S : Nat → Prop} {w : World} {xs a n cap} (h : NRestS S w xs (.slice a n cap)) :
    ∃ vs : List Value, vs.length = n * 1 ∧ (∀ b, a = some b → ∀ (j : Nat) u, vs[j]? = some u → w.cell? (b.add j) = some u) ∧ (∀ u ∈ vs, u.oneCell' = true) ∧ vs.length = xs.length ∧ ∀ (i : Nat) x u, xs[i]? = some x → vs[i]? = some u → RestS S w x u := by
  have hn : n = xs.length := by obtain ⟨_, _, he, _⟩ := h; injection he
  rcases Nat.eq_zero_or_pos n with h0 | h0
  · exact ⟨[], by rw [h0]; rfl, fun b hb j u hj => by simp at hj, fun u hu => by simp at hu, by rw [← hn, h0]; rfl, fun i x u hi hu => by simp at hu⟩
  · obtain ⟨b, off, vs, rfl, -, hb, hl, hcell, hel⟩ := h.vals h0
    refine ⟨vs, by omega, fun b' hb' j u hj => ?_, fun u hu => ?_, hl, fun i x u hi hu => ?_⟩
    · injection hb' with hb'; subst hb'; rw [Addr.add_lit]; exact (hcell j u hj).1
    · obtain ⟨j, hj⟩ := List.getElem?_of_mem hu; exact (hcell j u hj).2
    · obtain ⟨u2, h1, h2⟩ := hel i x hi
      rw [h1] at hu; cases hu; exact h2
theorem jown_shape {B e n : Nat} {w : World} {v : Value} {xs : List Value} (h : w.ownsRow B e 1 v (n + 1) xs) : ∃ g cap, v = .slice (some ⟨g, 0, none⟩) (n + 1) cap ∧ B ≤ g := by
  rcases h.2 with ⟨rfl, h1⟩ | ⟨g, cap, cur, rfl, hbg, hg2, hnc, hcm, hcs, htake⟩
  · omega
  · exact ⟨g, cap, rfl, hbg⟩
theorem usedL_ge : ∀ l : List (List UInt8), l.length ≤ usedL l
  | [] => Nat.zero_le _
  | x :: l => by
    have h1 := usedL_ge l
    have h2 := secsOf_pos x.length
    have : usedL (x :: l) = secsOf x.length + usedL l := by simp [usedL]
    rw [this, List.length_cons]; omega
set_option maxHeartbeats 8000000 in
set_option maxRecDepth 100000 in
theorem append_call (S : Nat → Prop) (j : Jnl) (v : Value) (b : List UInt8) (bv : Value) (w : World) (h : NRestS S w j.recs v) (hb : Rest w.heap.size w b bv) (hj : Mild j) (hbl : b.length ≤ 1000000000000) :
    Calls Try.prog 41 #[jv v j.many j.synced, bv] w (JAnsS S w (appJ j b)) := by
  have HV := Lib.hid h
  have HBV := Lib.hid hb
  have HC1 : Hid (∀ W, Below w.heap.size w W → Calls Try.prog 43 #[jv v j.many j.synced] W fun e w' => e = .returned (.int .i64 (if jokB j then 0 else 1)) ∧ Below W.heap.size W w') := Lib.hid (fun W hW => jcheck_call j v W _ (h.rest.stays hW) hW.size hj)
  have HC2 : Hid (jokB j = true → ∀ W, Below w.heap.size w W → Calls Try.prog 63 #[jv v j.many j.synced] W fun e w' => e = .returned (.int .i64 (j.many - usedL j.recs)) ∧ Below W.heap.size W w') := Lib.hid (fun h1 W hW => by
    have h2 : 1 ≤ j.many ∧ j.many ≤ 4096 := by unfold jokB at h1; simp at h1; omega
    exact free_call j v W _ (h.rest.stays hW) hW.size hj.used hj.len (by omega) (by omega))
  have hcap : ∃ a cap, v = .slice a j.recs.length cap ∧ cap ≤ 9223372036854775807 ∧ j.recs.length ≤ cap ∧ (a = none → j.recs.length = 0 ∧ cap = 0) := by
    obtain ⟨a, cap, h1, h2, h3, h4, _⟩ := h; exact ⟨a, cap, h1, h3, h2, h4⟩
  obtain ⟨a, cap, rfl, hc1, hc2, hc3⟩ := hcap
  obtain ⟨ba, bc, rfl, hb1, hb2⟩ := hb.shape
  have HCL : Hid (∀ W, Calls Try.prog 64 #[.slice a j.recs.length cap] W fun e w' => e = .returned (.slice a j.recs.length j.recs.length) ∧ w' = W) := Lib.hid (fun W => clip22_call a _ cap W hc2 hc1 hc3)
  have HSO : Hid (∀ W, Calls Try.prog 62 #[.slice ba b.length bc] W fun e w' => e = .returned (.int .i64 (secsOf b.length : Int)) ∧ w' = W) := Lib.hid (fun W => sectorsOf_call _ hbl ba bc W)
  have HCC : Hid (∀ W, Below w.heap.size w W → Calls Try.prog 65 #[.slice ba b.length bc] W fun e w' => ∃ v', e = .returned v' ∧ RestS (fun b => W.heap.size ≤ b) w' b v' ∧ Below W.heap.size W w') := Lib.hid (fun W hW => clone35_call b _ W ((hb.stays hW).mono hW.size) hbl)
  have hng := usedL_ge j.recs
  have hn12 : j.recs.length ≤ 1000000000000 := by have := hj.used; omega
  have HAJ : Hid (appJ j b = if jokB j then if j.many - usedL j.recs < secsOf b.length then (zeroJ, 2) else ({ j with recs := j.recs ++ [b] }, 0) else (zeroJ, 1)) := Lib.hid rfl
  clear h hb hj hng
  obtain ⟨n, hn⟩ : ∃ n, n = j.recs.length := ⟨_, rfl⟩
  obtain ⟨bn, hbn⟩ : ∃ bn, bn = b.length := ⟨_, rfl⟩
  rw [← hn] at HV HC1 HC2 HCL hc2 hc3 hn12 ⊢
  rw [← hbn] at HBV HSO HCC HAJ hb2 hbl ⊢
  have HN := Lib.hid hn
  have HBN := Lib.hid hbn
  clear hn hbn
  unfold jv at *
  have HR2 := Lib.hid ((row_new w 55 [.slice a n cap, .int .i64 j.many, .int .i64 j.synced]).keep (Joins.below_alloc1 _ (.cells #[.slice none 0 0, .int .i64 0, .int .i64 0] 55)))
  have HR4 := row_new (w.alloc (.cells #[.slice a n cap, .int .i64 j.many, .int .i64 j.synced] 55)) 55 [.slice none 0 0, .int .i64 0, .int .i64 0]
  rw [World.size_alloc] at HR4
  replace HR4 := Lib.hid HR4
  have HB := Lib.hid (below_two w (.cells #[.slice a n cap, .int .i64 j.many, .int .i64 j.synced] 55) (.cells #[.slice none 0 0, .int .i64 0, .int .i64 0] 55))
  generalize jokB j = r at *
  cases r
  · go_enter Try.func41, Try.ntmps41
    go_wp2_with (first
      | (go_at_call 43; refine (HC1.out _ HB.out).mono ?_; rintro e w2 ⟨rfl, hb⟩; replace HR4 := Lib.hid (HR4.out.keep hb); replace HB := Lib.hid (below_next HB.out hb); clear hb)
      | (refine wpList_store_ags rfl 55 (.tmp 4) (.tmp 10) rfl (w.heap.size + 1) [.slice none 0 0, .int .i64 0, .int .i64 0] _ size55 (by rfl) rfl rfl HR4.out (by rfl) HB.out (by omega) ?_; intro w9 hr hb hf))
    exact bodyPost_ret (results_jn Try.results41 _ w9 (w.heap.size + 1) _ rfl rfl _ rfl hr) rfl (jans_zero (by rw [HAJ.out]; rfl) hb)
  · have HC2' := Lib.hid (HC2.out rfl)
    clear HC2
    go_enter Try.func41, Try.ntmps41
    go_wp2_with (first
      | (go_at_call 43; refine (HC1.out _ HB.out).mono ?_; rintro e w2 ⟨rfl, hb⟩; have d0 := HR2.out.later hb (i := 0) rfl; have d1 := HR2.out.later hb (i := 1) rfl; have d2 := HR2.out.later hb (i := 2) rfl; replace HR2 := Lib.hid (HR2.out.keep hb); replace HR4 := Lib.hid (HR4.out.keep hb); replace HB := Lib.hid (below_next HB.out hb); clear hb))
    refine' cut1 (F := fun W4 => Below w2.heap.size w2 W4) _ ?r4 ?k4
    case r4 =>
      intro K
      go_region_law (first
        | (go_simp; go_at_call 62; refine (HSO.out _).mono ?_; rintro e w6 ⟨rfl, rfl⟩)
        | (go_simp; go_at_call 63; refine (HC2'.out _ (below_drew HB.out)).mono ?_; rintro e w7 ⟨rfl, hb7⟩; have hb7 := below_undrew hb7))
      · exact K _ (by first | exact hb7 | exact below_drew hb7)
      all_goals exact K _ (by first | exact hb7 | exact below_drew hb7)
    case k4 =>
      intro W4 hb
      have d0 := HR2.out.later hb (i := 0) rfl
      have d1 := HR2.out.later hb (i := 1) rfl
      have d2 := HR2.out.later hb (i := 2) rfl
      replace HR2 := Lib.hid (HR2.out.keep hb)
      replace HR4 := Lib.hid (HR4.out.keep hb)
      replace HB := Lib.hid (below_next HB.out hb)
      have hlt4 := HR4.out.lt
      clear hb
      by_cases hgt : j.many - (usedL j.recs : Int) < (secsOf bn : Int)
      · have HAJ2 := Lib.hid (show appJ j b = (zeroJ, 2) from by rw [HAJ.out, if_pos trivial, if_pos hgt])
        go_wp2_with (first
          | (refine wpList_store_ags rfl 55 (.tmp 4) (.tmp 17) rfl (w.heap.size + 1) [.slice none 0 0, .int .i64 0, .int .i64 0] _ size55 (by rfl) rfl rfl HR4.out (by rfl) HB.out (by omega) ?_; intro w9 hr hb hf))
        exact bodyPost_ret (results_jn Try.results41 _ w9 (w.heap.size + 1) _ rfl rfl _ rfl hr) rfl (jans_zero HAJ2.out hb)
      · have HAJ2 := Lib.hid (show appJ j b = ({ j with recs := j.recs ++ [b] }, 0) from by rw [HAJ.out, if_pos trivial, if_neg hgt])
        clear HAJ
        obtain ⟨i0, hi, hz0, hz1, hz2⟩ := info_parts Try.info35
        obtain ⟨vs, hvl, hvc, hv1, hvx, hvel⟩ := HV.out.olds
        have HVC : Hid (∀ W, Below w.heap.size w W → ∀ b', a = some b' → ∀ (j : Nat) u, vs[j]? = some u → W.cell? (b'.add j) = some u) := Lib.hid (fun W hW b' hb' jj u hu => by
          have h9 := hvc b' hb' jj u hu
          rw [hW.cell (World.block_lt_of_cell? w _ h9)]; exact h9)
        have HVL := Lib.hid hvl
        have HV1 := Lib.hid hv1
        have HVX := Lib.hid hvx
        have HVE := Lib.hid hvel
        have HI := Lib.hid hi
        have HZ0 := Lib.hid hz0
        have HZ1 := Lib.hid hz1
        have HZ2 := Lib.hid hz2
        have HC3 := Lib.hid hc3
        clear hvl hvc hv1 hvx hvel hi hz0 hz1 hz2 hc3
        go_wp2_with (first
          | (go_at_call 64; refine (HCL.out _).mono ?_; rintro e w5 ⟨rfl, rfl⟩)
          | (go_at_call 65; refine (HCC.out _ HB.out).mono ?_; rintro e w6 ⟨cv, rfl, hcv, hb⟩; have HCV := Lib.hid hcv; have HB6 := Lib.hid hb; have HCS : Hid (∃ ca cn cc, cv = .slice ca cn cc) := Lib.hid (by obtain ⟨ca, cc, h9, _⟩ := hcv; exact ⟨_, _, _, h9⟩); replace HR2 := Lib.hid (HR2.out.keep hb); replace HR4 := Lib.hid (HR4.out.keep hb); replace HB := Lib.hid (below_next HB.out hb); clear hb hcv d0 d1 d2; obtain ⟨ca, cn, cc, rfl⟩ := HCS.out)
          | (refine wpList_append_grows _ rfl (.tmp 20) (.tmp 23) 22 rfl 35 i0 _ 1 24 Try.underlying22 HI.out HZ0.out HZ1.out HZ2.out rfl (by decide) a n n vs rfl (fun h => ⟨(HC3.out h).1, (HC3.out h).1⟩) HVL.out (HVC.out _ (HB.out.alloc HB.out.size _)) ⟨w6.heap.size, 0, none⟩ 1 1 [.slice ca cn cc] rfl rfl (fun jj u hu => by rw [Addr.add_lit, Nat.zero_add]; exact (row_new w6 35 [.slice ca cn cc]).cell hu) (by intro u hu; simp at hu; subst hu; rfl) (by omega) (by unfold maxLen; omega) (by omega) ?_; intro v7 w7 hown hgrow; obtain ⟨g7, c7, rfl, hg7⟩ := jown_shape hown; have HOWN := Lib.hid hown; have hb := below_grown hgrow; have hb7 := below_next (Joins.below_alloc1 w6 (.cells #[.slice ca cn cc] 35)) hb; replace HR2 := Lib.hid (HR2.out.keep hb7); replace HR4 := Lib.hid (HR4.out.keep hb7); replace HB := Lib.hid (below_next HB.out hb7); have HB7 := Lib.hid hb7; clear hown hgrow hb hb7; have d0 := HR2.out.cell (i := 0) rfl; have d1 := HR2.out.cell (i := 1) rfl; have d2 := HR2.out.cell (i := 2) rfl; have f0 := HR2.out.free 0)
          | (refine wpList_store_ags rfl 55 (.tmp 4) (.tmp 26) rfl (w.heap.size + 1) [.slice (some ⟨g7, 0, none⟩) (n + 1) c7, .int .i64 j.many, .int .i64 j.synced] _ size55 (by rfl) rfl rfl (HR4.out.setFar 0 _ (by omega)) (by rfl) (below_setCell HB.out _ 0 _ (Nat.le_refl _)) (by omega) ?_; intro w9 hr hb hf))
        have hown := HOWN.out
        have hs7 := HB7.out.size
        have hs6 := HB6.out.size
        have hn7 : NRestS (fun i => Cut S w.heap.size i ∨ w5.heap.size ≤ i) w7 (j.recs ++ [b]) (.slice (some ⟨g7, 0, none⟩) (n + 1) c7) := nrests_of_owns hown (by rw [List.length_append, ← HN.out]; rfl) (by rw [List.length_append, List.length_append, HVX.out]; rfl) (fun g hg => by
            cases hg
            rw [World.size_alloc] at hg7
            exact .inr (show w5.heap.size ≤ g7 by omega)) (fun i x u hx hu => by
            rcases Nat.lt_or_ge i vs.length with hi | hi
            · rw [List.getElem?_append_left hi] at hu
              rw [List.getElem?_append_left (by have := HVX.out; omega)] at hx
              exact ((HVE.out i x u hx hu).later HB.out).weak (fun b hb _ => .inl hb)
            · rw [List.getElem?_append_right hi] at hu
              rw [List.getElem?_append_right (by have := HVX.out; omega), ← HVX.out] at hx
              obtain ⟨h1, h2⟩ := List.getElem?_eq_some_iff.1 hx
              have h0 : i - vs.length = 0 := by simpa using h1
              rw [h0] at hx hu
              cases hx; cases hu
              exact (HCV.out.keep (.below HB7.out)).weak (fun b hb _ => .inr hb))
        have hk : KeepS (fun i => Cut S w.heap.size i ∨ w5.heap.size ≤ i) w7 w9 := fun i hi _ => by
          have h1 : i ≠ w.heap.size + 1 := hi.elim (fun hi => by have := hi.2; omega) (fun hi => by omega)
          have h2 : i ≠ w.heap.size := hi.elim (fun hi => by have := hi.2; omega) (fun hi => by omega)
          exact (hf i h1).trans (heap_setCell_other w7 ⟨w.heap.size, 0, none⟩ i _ h2)
        have hn9 : NRestS (Ext S w.heap.size) w9 (j.recs ++ [b]) (.slice (some ⟨g7, 0, none⟩) (n + 1) c7) := (hn7.keep hk).weak (fun i hi _ => by
          rcases hi with hi | hi
          · exact .inl hi.1
          · exact .inr (by omega))
        exact bodyPost_ret (results_jn Try.results41 _ w9 (w.heap.size + 1) _ rfl rfl _ rfl hr) rfl ⟨_, by rw [HAJ2.out]; rfl, by rw [HAJ2.out]; exact hn9, hb⟩
end Go.Proofs.Ytlaaolbdadempaa

/- A sector that is read: the program's function. -/
namespace Go.Proofs.Ytlaaolbdadempaa
open Go.RowKit

/-- what is told of a sector that was read -/
def ReadPc (b : List UInt8) (k : Nat) (w : World) (e : Ending) (w' : World) : Prop :=
  ∃ u, e = .returned (.tuple #[pv (readP b k).1.gen (readP b k).1.marks u, .bool (readP b k).2]) ∧ Rest w.heap.size w (readP b k).1.data u ∧ Below w.heap.size w w'
theorem readPc_no {b : List UInt8} {k : Nat} {w w' : World} (hg : goodB b k = false) (hb : Below w.heap.size w w') : ReadPc b k w (.returned (.tuple #[.agg #[.int .u32 0, .int .u8 0, .slice none 0 0], .bool false])) w' := by
  unfold ReadPc readP
  rw [if_neg (by rw [hg]; decide)]
  exact ⟨_, rfl, rest_nil _ _, hb⟩
theorem secP_len (p : Pce) (k : Nat) (h : p.data.length ≤ 112) : (secP p k).length = 128 := by
  unfold secP bodyP; simp [digs_len]; omega
theorem size115 : (Try.prog.info? 115).map (·.size) = some 3 := by kernel_rfl
theorem results_pc {fn : Func} {p q : Tmp} (h : fn.results = #[.cell p 115, .tmp q]) (tmps : Array Value) (w : World) (g : Nat) (cs : List Value) (hl : cs.length = 3)
    (hp : tmps.getD p undef = .pointer (some ⟨g, 0, none⟩)) (x : Value) (hx : tmps.getD q undef = x) (hg : Row w g 115 cs) :
    (results fn tmps).run Try.prog w = .ok (.tuple #[.agg cs.toArray, x]) w := by
  have hr : (loadVar 115 ⟨g, 0, none⟩).run Try.prog w = .ok (.agg cs.toArray) w := run_loadVar_row (P := Try.prog) w g 115 115 cs.toArray (0, 0) _ hg Try.underlying115 rfl (by rw [size115]; simp [hl])
  have hp' : tmps[p]?.getD undef = .pointer (some ⟨g, 0, none⟩) := by simpa using hp
  have hx' : tmps[q]?.getD undef = x := by simpa using hx
  simp [results, h, hp', hx', asAddr, hr]
set_option maxHeartbeats 8000000 in
set_option maxRecDepth 100000 in
theorem read_call (b : List UInt8) (hb : b.length = 128) (k : Nat) (hk : k ≤ 1000000) (v : Value) (w : World) (h : Rest w.heap.size w b v) :
    Calls Try.prog 94 #[v, .int .i64 (k : Int)] w (ReadPc b k w) := by
  have HV := Lib.hid h
  obtain ⟨a, cap, rfl, hl, hm, _, hc⟩ := h
  rcases hc with hc | ⟨bb, off, rfl, hbb, hc⟩
  · omega
  rw [hb] at hl HV ⊢
  unfold maxLen at hm
  have hcap : (128 : Int) ≤ (cap : Int) := by omega
  obtain ⟨q, hq⟩ : ∃ q, q = (b.getD 11 0).toNat := ⟨_, rfl⟩
  obtain ⟨m, hmm⟩ : ∃ m, m = b.getD 10 0 := ⟨_, rfl⟩
  have d11 : w.cell? ⟨bb, off + 11, none⟩ = some (.int .u8 (q : Int)) := by rw [hc 11 (by omega), hq]; simp [hb]
  have d10 : w.cell? ⟨bb, off + 10, none⟩ = some (.int .u8 (m.toNat : Int)) := by rw [hc 10 (by omega), hmm]; simp [hb]
  have c11 := ((Joins.below_alloc1 w (.cells #[.int .u32 0, .int .u8 0, .slice none 0 0] 115)).cell (p := ⟨bb, off + 11, none⟩) hbb).trans d11
  have c10 := ((Joins.below_alloc1 w (.cells #[.int .u32 0, .int .u8 0, .slice none 0 0] 115)).cell (p := ⟨bb, off + 10, none⟩) hbb).trans d10
  have HP : Hid (pceOf b = ⟨num4 b, m, (b.drop 12).take q⟩) := Lib.hid (by rw [hq, hmm]; rfl)
  have HGD : Hid (goodB b k = (decide (q ≤ 112) && fitB (pceOf b) && decide (secP (pceOf b) k = b))) := Lib.hid (by rw [hq]; rfl)
  have HB0 := Lib.hid hb
  clear d11 d10 hc hb
  have hql : q < 256 := by rw [hq]; exact (b.getD 11 0).toNat_lt
  clear hq hmm
  by_cases hq : q ≤ 112
  · have hqi : (q : Int) ≤ 112 := by omega
    have HR1 := Lib.hid (row_new w 115 [.int .u32 0, .int .u8 0, .slice none 0 0])
    obtain ⟨w1, hw1⟩ : ∃ w1, w1 = w.alloc (.cells #[.int .u32 0, .int .u8 0, .slice none 0 0] 115) := ⟨_, rfl⟩
    have HB := Lib.hid (show Below w.heap.size w w1 from by rw [hw1]; exact Joins.below_alloc1 w _)
    have HN : Hid (∀ W, Below w.heap.size w W → Calls Try.prog 87 #[.slice (some ⟨bb, off, none⟩) 128 cap] W fun e w' => e = .returned (.int .u32 (num4 b : Int)) ∧ w' = W) := Lib.hid (fun W hW => number_call b _ _ W (HV.out.stays hW) (by rw [HB0.out]; omega))
    go_enter Try.func94, Try.ntmps94
    go_wp2_with fail
    rw [← hw1] at c11 c10 ⊢
    replace HR1 : Hid (Row w1 w.heap.size 115 [.int .u32 0, .int .u8 0, .slice none 0 0]) := Lib.hid (by rw [hw1]; exact HR1.out)
    have x0 := HR1.out.cell (i := 0) rfl
    have x1 := HR1.out.cell (i := 1) rfl
    have x2 := HR1.out.cell (i := 2) rfl
    have f0 := HR1.out.free 0
    have f1 := HR1.out.free 1
    have f2 := HR1.out.free 2
    have hwr : IntKind.i64.wrap (12 + (q : Int)) = 12 + (q : Int) := by rw [IntKind.wrap_i64]; omega
    have hne : ¬ cap = 12 := by omega
    have hq1 : (12 : Int) ≤ 12 + (q : Int) := by omega
    have hq2 : 12 + (q : Int) ≤ (cap : Int) := by omega
    have hq3 : (0 : Int) ≤ 12 + (q : Int) := by omega
    clear hw1
    have HF := Lib.hid (show Row (((w1.setCell ⟨w.heap.size, 0, none⟩ (.int .u32 (num4 b : Int))).setCell ⟨w.heap.size, 1, none⟩ (.int .u8 (m.toNat : Int))).setCell ⟨w.heap.size, 2, none⟩ (.slice (some ⟨bb, off + 12, none⟩) q (cap - 12))).drew w.heap.size 115 [.int .u32 (num4 b : Int), .int .u8 (m.toNat : Int), .slice (some ⟨bb, off + 12, none⟩) q (cap - 12)] ∧ Below w.heap.size w (((w1.setCell ⟨w.heap.size, 0, none⟩ (.int .u32 (num4 b : Int))).setCell ⟨w.heap.size, 1, none⟩ (.int .u8 (m.toNat : Int))).setCell ⟨w.heap.size, 2, none⟩ (.slice (some ⟨bb, off + 12, none⟩) q (cap - 12))).drew from
      ⟨((HR1.out.set 0 _ rfl).set 1 _ rfl).set 2 _ rfl, below_drew (below_setCell (below_setCell (below_setCell HB.out _ 0 _ (Nat.le_refl _)) _ 1 _ (Nat.le_refl _)) _ 2 _ (Nat.le_refl _))⟩)
    have hlen : (12 + (q : Int)).toNat - 12 = q := by omega
    refine' cut1 (F := fun W4 => Row W4 w.heap.size 115 [.int .u32 (num4 b : Int), .int .u8 (m.toNat : Int), .slice (some ⟨bb, off + 12, none⟩) q (cap - 12)] ∧ Below w.heap.size w W4) _ ?r4 ?k4
    case r4 =>
      intro K
      go_region_law (go_simp; go_at_call 87; refine (HN.out _ (by first | exact below_drew HB.out)).mono ?_; rintro e w6 ⟨rfl, rfl⟩)
      all_goals
        have hF := HF.out
        generalize (((w1.setCell ⟨w.heap.size, 0, none⟩ (.int .u32 (num4 b : Int))).setCell ⟨w.heap.size, 1, none⟩ (.int .u8 (m.toNat : Int))).setCell ⟨w.heap.size, 2, none⟩ (.slice (some ⟨bb, off + 12, none⟩) q (cap - 12))).drew = W4 at hF ⊢
        exact K W4 hF
    case k4 =>
      rintro W4 ⟨hr, hb⟩
      have HR := Lib.hid hr
      have HB := Lib.hid hb
      clear hr hb c10 c11 x0 x1 x2 f0 f1 f2 HF HN HR1
      obtain ⟨d, hd⟩ : ∃ d, d = (b.drop 12).take q := ⟨_, rfl⟩
      have hdl : d.length = q := by rw [hd, List.length_take, List.length_drop, HB0.out]; omega
      have HDR : Hid (Rest w.heap.size w d (.slice (some ⟨bb, off + 12, none⟩) q (cap - 12))) := Lib.hid (by
        have := rest_part (bs := b) (b := bb) (off := off) (cap := cap) (by rw [HB0.out]; exact HV.out) 12 q (cap - 12) (by rw [HB0.out]; omega) (by omega) (by omega)
        rw [← hd] at this; exact this)
      rw [← hd] at HP
      obtain ⟨P, hP⟩ : ∃ P, P = pceOf b := ⟨_, rfl⟩
      rw [← hP] at HP HGD
      have hPd : P.data = d := by rw [HP.out]
      have hPg : P.gen = num4 b := by rw [HP.out]
      have hPm : P.marks = m := by rw [HP.out]
      have HQ : Hid (q ≤ 112) := hq
      have HFI : Hid (∀ W, Calls Try.prog 102 #[.agg #[.int .u32 (num4 b : Int), .int .u8 (m.toNat : Int), .slice (some ⟨bb, off + 12, none⟩) q (cap - 12)]] W fun e w' => e = .returned (.bool (fitB P)) ∧ Below W.heap.size W w') := Lib.hid (fun W => by
        have := fits_call P (some ⟨bb, off + 12, none⟩) (cap - 12) W (by rw [hPd, hdl]; omega)
        rw [hPd, hdl, hPg, hPm] at this; exact this)
      have HSE : Hid (∀ W, Below w.heap.size w W → Calls Try.prog 89 #[.agg #[.int .u32 (num4 b : Int), .int .u8 (m.toNat : Int), .slice (some ⟨bb, off + 12, none⟩) q (cap - 12)], .int .i64 (k : Int)] W fun e w' => e = .returned (.agg (cellsOf (secP P k)).toArray) ∧ Below W.heap.size W w') := Lib.hid (fun W hW => by
        have := sectorP_call P (by rw [hPg]; exact num4_lt b) (by rw [hPd, hdl]; exact hq) k hk (.slice (some ⟨bb, off + 12, none⟩) q (cap - 12)) W (by rw [hPd]; exact (HDR.out.stays hW).mono hW.size)
        rw [hPg, hPm] at this; exact this)
      have HSL : Hid ((secP P k).length = 128) := Lib.hid (secP_len P k (by rw [hPd, hdl]; exact hq))
      have HEND : Hid (∀ w', Below w.heap.size w w' → goodB b k = true → ReadPc b k w (.returned (.tuple #[.agg #[.int .u32 (num4 b : Int), .int .u8 (m.toNat : Int), .slice (some ⟨bb, off + 12, none⟩) q (cap - 12)], .bool true])) w') := Lib.hid (fun w' hb hg => by
        unfold ReadPc readP
        rw [if_pos hg]
        refine ⟨.slice (some ⟨bb, off + 12, none⟩) q (cap - 12), ?_, ?_, hb⟩
        · unfold pv; rw [← hP, hPg, hPm]
        · show Rest w.heap.size w (pceOf b).data _
          rw [← hP, hPd]; exact HDR.out)
      clear hP hPd hPg hPm hd hdl hq HP
      have HZ := Lib.hid zero116
      have c0 := HR.out.cell (i := 0) rfl
      have c1 := HR.out.cell (i := 1) rfl
      have c2 := HR.out.cell (i := 2) rfl
      go_wp2_with fail
      refine (HFI.out _).mono ?_
      rintro e w5 ⟨rfl, hb⟩
      replace HR := Lib.hid (HR.out.keep hb)
      replace HB := Lib.hid (below_next HB.out hb)
      clear hb c0 c1 c2
      obtain ⟨r, hr⟩ : ∃ r, r = fitB P := ⟨_, rfl⟩
      rw [← hr] at HGD ⊢
      clear hr
      cases r
      · go_wp2_with (first
          | (refine wpList_store_ag rfl 115 (.tmp 4) (.tmp 29) rfl w.heap.size [.int .u32 0, .int .u8 0, .slice none 0 0] _ size115 (by rfl) rfl rfl HR.out (by rfl) HB.out (Nat.le_refl _) ?_; intro w6 hrow hb hf; replace HR := Lib.hid hrow; replace HB := Lib.hid hb; clear hrow hb hf))
        exact bodyPost_ret (results_pc Try.results94 _ w6 w.heap.size _ rfl rfl _ rfl HR.out) rfl (readPc_no (by rw [HGD.out]; simp) HB.out)
      · have c0 := HR.out.cell (i := 0) rfl
        have c1 := HR.out.cell (i := 1) rfl
        have c2 := HR.out.cell (i := 2) rfl
        go_wp2_with (first
          | (go_at_call 89; refine (HSE.out _ HB.out).mono ?_; rintro e w7 ⟨rfl, hb⟩; replace HR := Lib.hid (HR.out.keep hb); replace HB := Lib.hid (below_next HB.out hb); clear hb c0 c1 c2)
          | (refine wpList_alloc_u rfl 7 rfl rfl (cellsOf zSec) HZ.out ?_; intro g7 w8 hg7 hrow hb; have HR7 := Lib.hid hrow; have hne7 : w.heap.size ≠ g7 := (by have := HR.out.lt; omega); have hle7 : w.heap.size ≤ g7 := (by have := HR.out.lt; omega); replace HR := Lib.hid (HR.out.keep hb); replace HB := Lib.hid (below_next HB.out hb); clear hb hrow hg7)
          | (refine wpList_store_ag rfl 116 (.tmp 7) (.tmp 32) rfl g7 (cellsOf (secP P k)) (cellsOf zSec) (by rw [cellsOf_len, HSL.out]; exact size116) (by rw [cellsOf_len, cellsOf_len, HSL.out]; rfl) rfl rfl HR7.out (cellsOf_all _) HB.out hle7 ?_; intro w9 hrow hb hf; replace HR7 := Lib.hid hrow; replace HR := Lib.hid (hf _ _ _ hne7 HR.out); replace HB := Lib.hid hb; clear hrow hb hf))
        refine (equal_call (secP P k) b _ _ w9 ((row_restT HR7.out HSL.out (by omega))) (by have := (HV.out.stays HB.out).mono HB.out.size; rw [← HB0.out] at this ⊢; exact this)).mono ?_
        rintro e w10 ⟨rfl, rfl⟩
        by_cases he : secP P k = b
        · have hgd : Hid (goodB b k = true) := Lib.hid (by rw [HGD.out]; simp [he, HQ.out])
          rw [decide_eq_true he]
          clear he
          have c0 := HR.out.cell (i := 0) rfl
          have c1 := HR.out.cell (i := 1) rfl
          have c2 := HR.out.cell (i := 2) rfl
          go_wp2_with (first
            | (refine wpList_store_as rfl 115 (.tmp 4) (.tmp 38) rfl w.heap.size [.int .u32 (num4 b : Int), .int .u8 (m.toNat : Int), .slice (some ⟨bb, off + 12, none⟩) q (cap - 12)] size115 rfl rfl HR.out (by rfl) ?_))
          refine bodyPost_ret (results_pc Try.results94 _ _ w.heap.size _ rfl rfl (.bool true) rfl HR.out) rfl ?_
          exact HEND.out _ HB.out hgd.out
        · have hgd : Hid (goodB b k = false) := Lib.hid (by rw [HGD.out]; simp [he])
          rw [decide_eq_false he]
          clear he
          go_wp2_with (first
            | (refine wpList_store_ag rfl 115 (.tmp 4) (.tmp 37) rfl w.heap.size [.int .u32 0, .int .u8 0, .slice none 0 0] _ size115 (by rfl) rfl rfl HR.out (by rfl) HB.out (Nat.le_refl _) ?_; intro w11 hrow hb hf; replace HR := Lib.hid hrow; replace HB := Lib.hid hb; clear hrow hb hf))
          exact bodyPost_ret (results_pc Try.results94 _ w11 w.heap.size _ rfl rfl _ rfl HR.out) rfl (readPc_no hgd.out HB.out)
  · have hqi : ¬ (q : Int) ≤ 112 := by omega
    have hgd : Hid (goodB b k = false) := Lib.hid (by rw [HGD.out]; simp [hq])
    have HR := Lib.hid (row_new w 115 [.int .u32 0, .int .u8 0, .slice none 0 0])
    have HB := Lib.hid (Joins.below_alloc1 w (.cells #[.int .u32 0, .int .u8 0, .slice none 0 0] 115))
    go_enter Try.func94, Try.ntmps94
    go_wp2_with (first
      | (refine wpList_store_ag rfl 115 (.tmp 4) (.tmp 14) rfl w.heap.size [.int .u32 0, .int .u8 0, .slice none 0 0] _ size115 (by rfl) rfl rfl HR.out (by rfl) HB.out (Nat.le_refl _) ?_; intro w3 hrow hb hf; replace HR := Lib.hid hrow; replace HB := Lib.hid hb; clear hrow hb hf))
    exact bodyPost_ret (results_pc Try.results94 _ w3 w.heap.size _ rfl rfl _ rfl HR.out) rfl (readPc_no hgd.out HB.out)
end Go.Proofs.Ytlaaolbdadempaa
