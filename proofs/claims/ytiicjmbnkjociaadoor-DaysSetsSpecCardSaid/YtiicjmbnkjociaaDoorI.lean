/- The boundaries of two sets, in order: the iterator. -/
import Derived.Test.YtiicjmbnkjociaaDoorH
import Derived.Deep.RegionHeld3
import Derived.OrdersHeld
namespace Go.Proofs.YtiicjmbnkjociaaDoor
open Go.RowKit Go.Shelf
attribute [local go_sem] Oper.semAt_some

theorem tdiv2 (i : Nat) : (i : Int).tdiv 2 = ((i / 2 : Nat) : Int) := by rw [Int.tdiv_eq_ediv_of_nonneg (by omega)]; omega
theorem tmod2 (i : Nat) : (i : Int).tmod 2 = ((i % 2 : Nat) : Int) := by rw [Int.tmod_eq_emod_of_nonneg (by omega)]; omega
set_option maxHeartbeats 2000000 in
set_option maxRecDepth 100000 in
theorem boundary_call (l : List Sp) (v : Value) (i : Nat) (B : Nat) (w : World) (h : PRest B w l v) (hn : l.length ≤ 256) (hcan : Can l) (hi : i ≤ 2 * l.length) :
    Calls Tryd.prog 54 #[v, .int .i64 (i : Int)] w fun e w' => e = .returned (.int .i64 (bd l i)) ∧ w' = w := by
  obtain ⟨a, cap, rfl, -⟩ := id h
  obtain ⟨-, hl, hm, hc⟩ := spans_at h
  unfold maxLen at hm
  have hw0 : IntKind.i64.wrap (2 * (l.length : Int)) = ((2 * l.length : Nat) : Int) := by rw [IntKind.wrap_i64]; omega
  have hd := tdiv2 i
  have ht := tmod2 i
  by_cases he : i = 2 * l.length
  · have hb : bd l i = 73050 := by unfold bd; rw [if_pos he]
    rw [hb, he]
    generalize l.length = n at *
    have e1 : (((2 * n : Nat) : Int) == ((2 * n : Nat) : Int)) = true := by simp
    generalize ((2 * n : Nat) : Int) = y at *
    clear h hc hb hd ht he
    go_enter Tryd.func54, Tryd.ntmps54
    go_wp2_with fail
    go_ret
    exact ⟨rfl, rfl⟩
  · obtain ⟨-, b, off, rfl, -, hc1, hc2⟩ := hc (i / 2) (by omega)
    have hrng := span_rng hcan (i / 2) (by omega)
    have hb : bd l i = if i % 2 = 0 then (l.getD (i / 2) (0, 0)).1 else (l.getD (i / 2) (0, 0)).2 + 1 := by unfold bd; rw [if_neg he]
    rw [hb]
    generalize (l.getD (i / 2) (0, 0)).1 = x1 at *
    generalize (l.getD (i / 2) (0, 0)).2 = x2 at *
    have e1 : ((i : Int) == ((2 * l.length : Nat) : Int)) = false := by simp; omega
    have hlt : ((i / 2 : Nat) : Int) < (l.length : Int) := by omega
    generalize l.length = n at *
    generalize ((2 * n : Nat) : Int) = y at *
    obtain ⟨j, hj⟩ : ∃ j, j = i / 2 := ⟨_, rfl⟩
    rw [← hj] at hd hc1 hc2 hlt
    clear h hc hb he hj
    rcases Nat.mod_two_eq_zero_or_one i with h0 | h0
    · rw [h0] at ht ⊢
      rw [if_pos rfl]
      have e2 : (((0 : Nat) : Int) == 0) = true := rfl
      clear h0
      go_enter Tryd.func54, Tryd.ntmps54
      go_wp2_with fail
      go_ret
      exact ⟨rfl, rfl⟩
    · rw [h0] at ht ⊢
      rw [if_neg (by omega)]
      have e2 : (((1 : Nat) : Int) == 0) = false := rfl
      have hw2 : IntKind.i64.wrap (x2 + 1) = x2 + 1 := by rw [IntKind.wrap_i64]; omega
      clear h0
      go_enter Tryd.func54, Tryd.ntmps54
      go_wp2_with fail
      go_ret
      exact ⟨rfl, rfl⟩
/-- a boundary, and whether the days behind it are in the first set, and in the second one -/
abbrev Bn := Int × Bool × Bool
def up (l : List Sp) (i : Nat) (day : Int) : Nat := if bd l i = day then i + 1 else i
def bday (a b : List Sp) (i k : Nat) : Int := min (bd a i) (bd b k)
def bns (a b : List Sp) : Nat → Nat → Nat → List Bn
  | 0, _, _ => []
  | f + 1, i, k => if i < 2 * a.length ∨ k < 2 * b.length then
      (bday a b i k, decide (up a i (bday a b i k) % 2 = 1), decide (up b k (bday a b i k) % 2 = 1)) :: bns a b f (up a i (bday a b i k)) (up b k (bday a b i k)) else []
theorem up_le {a b : List Sp} (ha : Can a) (hb : Can b) {i k : Nat} (hi : i ≤ 2 * a.length) (hk : k ≤ 2 * b.length) (hlt : i < 2 * a.length ∨ k < 2 * b.length) :
    up a i (bday a b i k) ≤ 2 * a.length ∧ up b k (bday a b i k) ≤ 2 * b.length ∧ i + k < up a i (bday a b i k) + up b k (bday a b i k) ∧ i ≤ up a i (bday a b i k) ∧ k ≤ up b k (bday a b i k) ∧ 0 ≤ bday a b i k ∧ bday a b i k ≤ 73049 := by
  have h1 : i = 2 * a.length → bd a i = 73050 := fun h => by unfold bd; rw [if_pos h]
  have h2 : k = 2 * b.length → bd b k = 73050 := fun h => by unfold bd; rw [if_pos h]
  have h3 : i < 2 * a.length → 0 ≤ bd a i ∧ bd a i ≤ 73049 := bd_rng ha i
  have h4 : k < 2 * b.length → 0 ≤ bd b k ∧ bd b k ≤ 73049 := bd_rng hb k
  have h5 : min (bd a i) (bd b k) = bd a i ∨ min (bd a i) (bd b k) = bd b k := by rw [Int.min_def]; split <;> simp
  have h6 : min (bd a i) (bd b k) ≤ bd a i := Int.min_le_left _ _
  have h7 : min (bd a i) (bd b k) ≤ bd b k := Int.min_le_right _ _
  unfold up bday
  generalize min (bd a i) (bd b k) = y at *
  split <;> split <;> omega
def encB (x : Bn) : Array Value := #[.int .i64 x.1, .agg #[.bool x.2.1, .bool x.2.2]]
theorem rows_inRound {n l : Nat} {P : Program} {row : String} {args : Array Value} {w : World} {R : Value → World → Prop} (h : Rows P row args w R) : RowsIn (Fence.wide.inRound l) n P row args w R :=
  fun c cs _ => let ⟨v, w', r, s⟩ := h c cs; ⟨v, w', r, stepsIn_wide.2 s⟩
/-- an operation, but for a defer: in a round as outside -/
theorem wpIn_of_wp {n l : Nat} {P : Program} {o : Oper} {a : Act} {w : World} {K : Act → World → Prop} {Q : Exit → Act → World → Prop} (hnd : ∀ c, o.op ≠ .defer c) (h : o.wp P a w K Q) : o.wpIn (Fence.wide.inRound l) n P a w K Q := by
  refine ⟨fun f _ => trivial, ?_⟩
  rw [show (Fence.wide.inRound l).round = some l from rfl, Oper.semAt_some l _ _ hnd]
  unfold Oper.wp at h
  generalize (execOp a.eval o).run P w = r at h
  match r, h with
  | .ok (.value v) w', h => exact h
  | .ok .skip w', h => exact h
  | .ok (.defer d) w', h => exact h
  | .ok (.enter f args) w', h => exact ⟨(fun e => by cases e), CallsIn.inRound l (callsIn_wide.2 h)⟩
  | .ok (.row row args) w', h => exact ⟨(fun e => by cases e), rows_inRound h⟩
  | .halt (.panic v) w', h => exact h
theorem wpAny_inRound {n l : Nat} {P : Program} {md : Region.Mode} {ops : Array Oper} {Q : Exit → Act → World → Prop} (hno : ¬ LetsOut Q) (hnd : ∀ (i : Nat) (o : Oper), ops[i]? = some o → ∀ c, o.op ≠ .defer c) :
    ∀ (fuel : Nat) (listed : Array Bool) (a : Act) (w : World), wpAny P md ops Q fuel listed a w → wpAnyIn (Fence.wide.inRound l) n P md ops Q fuel listed a w
  | 0, _, _, _, h => h
  | fuel + 1, listed, a, w, h => ⟨h.1, fun i hi => by
    have h2 := h.2 i hi
    unfold wpOp at h2
    unfold wpOpIn
    cases ho : ops[i]? with
    | none => rw [ho] at h2; exact wpAny_inRound hno hnd fuel _ a w h2
    | some o =>
      rw [ho] at h2
      dsimp only at h2 ⊢
      by_cases hw : Region.wanted o (yielded ops a.tmps) = true
      · rw [if_pos hw] at h2 ⊢
        rcases h2 with h2 | h2
        · exact wpIn_of_wp (hnd i o ho) (Oper.wp_mono (fun a' w' h' => wpAny_inRound hno hnd fuel _ a' w' h') h2)
        · exact absurd h2.2 hno
      · rw [if_neg hw] at h2 ⊢
        exact ⟨fun _ _ => trivial, wpAny_inRound hno hnd fuel _ _ w h2⟩⟩
theorem toldPost_shut {α : Type} (C : Nat) (B : Nat → Prop) (I : List α → World → Prop) (xs : List α) (W : World) : ¬ LetsOut (toldPost C B I xs W) := fun ⟨_, _, h⟩ => h
/-- a quiet region in a round: one walk, in the order of the text -/
theorem wpIn_region_quiet {n r id : Nat} {P : Program} {Q : Exit → Act → World → Prop} {a : Act} {w : World} {l : List Oper} (hm : P.follows .mixedOrders = true) (hB : Region.lexB .any l.toArray = true) (hno : ¬ LetsOut Q) (hnd : (l.toArray.all fun o => match o.op with | .defer _ => false | _ => true) = true)
    (h : wpQuiet P l.toArray (fun w' => ∃ n, w' = w.drewN n) (fun a' => ∀ w', (∃ n, w' = w.drewN n) → Q .normal a' w') l a) : (Code.region id l.toArray true).wpIn (Fence.wide.inRound r) n P Q a w := by
  simp only [Region.lexB, Bool.and_eq_true] at hB
  refine wpIn_region_any hm (wpAny_inRound hno (fun i o ho c hc => by
    have h1 := (Array.all_eq_true.1 hnd) i (Array.getElem?_eq_some_iff.1 ho).1
    rw [(Array.getElem?_eq_some_iff.1 ho).2, hc] at h1
    cases h1) _ _ _ _ (wpAny_of_quiet (C := fun w' => ∃ n, w' = w.drewN n) (Q := fun a' => ∀ w', (∃ n, w' = w.drewN n) → Q .normal a' w') (fun _ w' hw' h => h w' hw') _ _ _ _ ⟨1, rfl⟩ ?_))
  have := wpAnyQ_lex (C := fun w' => ∃ n, w' = w.drewN n) (md := .any) hB.1 l 0 (Array.replicate l.toArray.size false) a (by simp) (by simpa using hB.2) (by simpa using h)
  simpa using this
set_option maxRecDepth 100000 in
set_option maxHeartbeats 4000000 in
theorem bns_tells (q : Nat) (hq : 1 ≤ q) (B1 B2 : Nat) (B : Nat → Prop) (la lb : List Sp) (va vb : Value) (Ba : Nat) (w : World) (hB1 : B B1) (hB2 : B B2) (hBn : ∀ b, B b → b < w.heap.size) (hc1 : w.cell? ⟨B1, 0, none⟩ = some va) (hc2 : w.cell? ⟨B2, 0, none⟩ = some vb)
    (hA : ∀ W, Kp2 B w W → PRest Ba W la va ∧ PRest Ba W lb vb) (ha : Can la) (hb : Can lb) (hla : la.length ≤ 256) (hlb : lb.length ≤ 256) :
    Tells Fence.wide q Tryd.prog 53 #[.pointer (some ⟨B1, 0, none⟩), .pointer (some ⟨B2, 0, none⟩)] encB (fun x _ => 0 ≤ x.1 ∧ x.1 ≤ 73049) B (fun ys => ys = bns la lb (2 * la.length + 2 * lb.length) 0 0) (2 * la.length + 2 * lb.length) w := by
  intro l J W hW hJ hY h0
  have HAB : Hid (∀ W', Kp2 B W W' → W'.cell? ⟨B1, 0, none⟩ = some va ∧ W'.cell? ⟨B2, 0, none⟩ = some vb ∧ PRest Ba W' la va ∧ PRest Ba W' lb vb) := Lib.hid (fun W' hk => by
    have h1 := hA W' ((Kp2.below hW).trans hk)
    exact ⟨hk.2.cell hB1 ((hW.cell (p := ⟨B1, 0, none⟩) (hBn B1 hB1)).trans hc1), hk.2.cell hB2 ((hW.cell (p := ⟨B2, 0, none⟩) (hBn B2 hB2)).trans hc2), h1.1, h1.2⟩)
  have hV := HAB.out W (Kp2.refl _ _)
  obtain ⟨aa, ca, rfl, ha1, ha2, -⟩ := hV.2.2.1
  obtain ⟨ab, cb, rfl, hb1, hb2, -⟩ := hV.2.2.2
  clear hV
  have HCA : Hid (∀ i (W' : World), i ≤ 2 * la.length → Kp2 B W W' → Calls Tryd.prog 54 #[.slice aa la.length ca, .int .i64 (i : Int)] W' fun e w' => e = .returned (.int .i64 (bd la i)) ∧ w' = W') := Lib.hid (fun i W' hi hk => boundary_call la _ i Ba W' (HAB.out W' hk).2.2.1 hla ha hi)
  have HCB : Hid (∀ i (W' : World), i ≤ 2 * lb.length → Kp2 B W W' → Calls Tryd.prog 54 #[.slice ab lb.length cb, .int .i64 (i : Int)] W' fun e w' => e = .returned (.int .i64 (bd lb i)) ∧ w' = W') := Lib.hid (fun i W' hi hk => boundary_call lb _ i Ba W' (HAB.out W' hk).2.2.2 hlb hb hi)
  have HU := Lib.hid (fun i k (hi : i ≤ 2 * la.length) (hk : k ≤ 2 * lb.length) hlt => up_le ha hb hi hk hlt)
  have HBN : Hid (∀ f i k, bns la lb (f + 1) i k = if i < 2 * la.length ∨ k < 2 * lb.length then
      (bday la lb i k, decide (up la i (bday la lb i k) % 2 = 1), decide (up lb k (bday la lb i k) % 2 = 1)) :: bns la lb f (up la i (bday la lb i k)) (up lb k (bday la lb i k)) else []) := Lib.hid (fun f i k => rfl)
  have HBZ : Hid (∀ i k, bns la lb 0 i k = []) := Lib.hid (fun i k => rfl)
  obtain ⟨na, hna⟩ : ∃ n, n = la.length := ⟨_, rfl⟩
  obtain ⟨nb, hnb⟩ : ∃ n, n = lb.length := ⟨_, rfl⟩
  clear hc1 hc2 hA hW
  rw [← hna] at hla ha1 HCA HU HBN hY HAB ⊢
  rw [← hnb] at hlb hb1 HCB HU HBN hY HAB ⊢
  have hw1 : IntKind.i64.wrap (2 * (na : Int)) = ((2 * na : Nat) : Int) := by rw [IntKind.wrap_i64]; omega
  have hw2 : IntKind.i64.wrap (2 * (nb : Int)) = ((2 * nb : Nat) : Int) := by rw [IntKind.wrap_i64]; omega
  unfold maxLen at ha2 hb2
  have HLEN : Hid (na ≤ 256 ∧ nb ≤ 256) := Lib.hid ⟨hla, hlb⟩
  obtain ⟨ma, hma⟩ : ∃ n, n = 2 * na := ⟨_, rfl⟩
  obtain ⟨mb, hmb⟩ : ∃ n, n = 2 * nb := ⟨_, rfl⟩
  rw [← hma] at hw1 HCA HU HBN hY ⊢
  rw [← hmb] at hw2 HCB HU HBN hY ⊢
  have HM : Hid (ma ≤ 512 ∧ mb ≤ 512) := Lib.hid (by omega)
  clear hma hmb hna hnb hla hlb
  refine callsIn_of_wp Tryd.func53 rfl trivial ?_ rfl
  simp only [Tryd.ntmps53, List.size_toArray, List.length_cons, List.length_nil, Nat.reduceAdd, Nat.reduceSub, Array.replicate_succ, Array.replicate_zero, List.push_toArray, List.append_toArray, List.nil_append, List.cons_append]
  gi_wp2
  gi_loopw [4, 5] (fun s4 s5 wr => ∃ (i k f : Nat) (pre : List Bn), (i ≤ ma ∧ k ≤ mb ∧ ma + mb ≤ f + (i + k) ∧ pre.length ≤ i + k) ∧ pre ++ bns la lb f i k = bns la lb (ma + mb) 0 0 ∧ s4 = .int .i64 (i : Int) ∧ s5 = .int .i64 (k : Int) ∧ J pre wr ∧ Kp2 B W wr)
    (fun s4 s5 _ => ma + mb - (intOf s4).toNat - (intOf s5).toNat)
  case atStart => exact ⟨0, 0, ma + mb, [], ⟨by omega, by omega, by omega, by simp⟩, rfl, rfl, rfl, h0, Kp2.refl _ _⟩
  case round =>
    obtain ⟨i, k, f, pre, hik, hpre, rfl, rfl, hJs, hnx⟩ := hrel
    have hx1 := (HAB.out wr hnx).1
    have hx2 := (HAB.out wr hnx).2.1
    have HIK := Lib.hid hik
    by_cases hlt : i < ma ∨ k < mb
    · obtain ⟨f, rfl⟩ : ∃ g, f = g + 1 := ⟨f - 1, by omega⟩
      rw [HBN.out, if_pos hlt] at hpre
      have hu := HU.out i k (by omega) (by omega) hlt
      obtain ⟨day, hday⟩ : ∃ d, d = bday la lb i k := ⟨_, rfl⟩
      rw [← hday] at hpre hu
      have HA2 : Hid (∀ q, Calls Tryd.prog 54 #[.slice aa na ca, .int .i64 (i : Int)] (wr.drewN q) fun e w' => e = .returned (.int .i64 (bd la i)) ∧ w' = wr.drewN q) := Lib.hid (fun q => HCA.out i _ (by omega) (hnx.trans (Kp2.below (drewN_below wr q))))
      have HB2 : Hid (∀ q, Calls Tryd.prog 54 #[.slice ab nb cb, .int .i64 (k : Int)] (wr.drewN q) fun e w' => e = .returned (.int .i64 (bd lb k)) ∧ w' = wr.drewN q) := Lib.hid (fun q => HCB.out k _ (by omega) (hnx.trans (Kp2.below (drewN_below wr q))))
      have HUA : Hid (up la i day = if bd la i = day then i + 1 else i) := Lib.hid rfl
      have HUB : Hid (up lb k day = if bd lb k = day then k + 1 else k) := Lib.hid rfl
      have hmin : min (bd la i) (bd lb k) = day := hday.symm
      have HJD : Hid (∀ q, J pre (wr.drewN q)) := Lib.hid (fun q => hJ pre wr _ none hJs ⟨(drewN_below wr q).os, (drewN_below wr q).tape, (drewN_below wr q).output, (drewN_below wr q).size, fun i hi _ => (drewN_below wr q).block i hi⟩ (fun r e => by cases e))
      have HNX : Hid (∀ q, Kp2 B W (wr.drewN q)) := Lib.hid (fun q => hnx.trans (Kp2.below (drewN_below wr q)))
      have HY := Lib.hid hY
      have HU2 := Lib.hid hu
      have HPRE := Lib.hid hpre
      generalize bd la i = x at *
      generalize bd lb k = y at *
      generalize up la i day = i2 at *
      generalize up lb k day = k2 at *
      have hwi : IntKind.i64.wrap ((i : Int) + 1) = ((i + 1 : Nat) : Int) := by have := HM.out; rw [IntKind.wrap_i64]; omega
      have hwk : IntKind.i64.wrap ((k : Int) + 1) = ((k + 1 : Nat) : Int) := by have := HM.out; rw [IntKind.wrap_i64]; omega
      clear hday hJs hnx hY hu hik hpre
      by_cases hia : i < ma
      · have hii : (i : Int) < (ma : Int) := by omega
        clear hlt hia
        gi_wp2
        refine wpIn_wide.2 (wp_region_quiet_lit (by kernel_rfl) (by kernel_rfl) ?_)
        repeat (go_big_quiet_step ((go_at_call 54; first | (with_reducible exact Calls.quiet_of_same (HA2.out _)) | (with_reducible exact Calls.quiet_of_same (HB2.out _)))))
        refine wpQuiet_nil ?_
        intro _ hw'
        obtain ⟨nq, hw''⟩ := hw'
        subst hw''
        have HJ2 := Lib.hid (HJD.out nq)
        have HN2 := Lib.hid (HNX.out nq)
        generalize wr.drewN nq = wq at *
        by_cases cx : x = day
        · by_cases cy : y = day
          · skip
            have hpa : decide (i2 % 2 = 1) = ((((i : Int) + 1) % 2) == 1) := by have h := HUA.out; rw [if_pos cx] at h; rw [h]; by_cases h2 : (i + 1 : Nat) % 2 = 1 <;> simp [h2] <;> omega
            have hpb : decide (k2 % 2 = 1) = ((((k : Int) + 1) % 2) == 1) := by have h := HUB.out; rw [if_pos cy] at h; rw [h]; by_cases h2 : (k + 1 : Nat) % 2 = 1 <;> simp [h2] <;> omega
            have HI2 : Hid (i2 = (i + 1 : Nat)) := Lib.hid (by have h := HUA.out; rw [if_pos cx] at h; exact h)
            have HK2 : Hid (k2 = (k + 1 : Nat)) := Lib.hid (by have h := HUB.out; rw [if_pos cy] at h; exact h)
            obtain ⟨fn, tmps, assign, body, hyr, hR⟩ := HY.out pre (day, decide (i2 % 2 = 1), decide (k2 % 2 = 1)) wq HJ2.out ⟨HU2.out.2.2.2.2.2.1, HU2.out.2.2.2.2.2.2⟩ (by have := HIK.out; have := HU2.out; omega)
            replace hyr : (Instr.yield l #[.int .i64 day, .agg #[.bool (decide (i2 % 2 = 1)), .bool (decide (k2 % 2 = 1))]]).run Tryd.prog wq = .ok (.round l fn tmps assign body) wq := hyr
            rw [hpa, hpb] at hyr
            clear hpa hpb
            have ex : (x == day) = true := by simpa using cx
            have ey : (y == day) = true := by simpa using cy
            clear cx cy
            gi_wp2
            refine hR.mono ?_
            rintro e W3 ⟨rfl, hJ3, hk3⟩
            gi_wp2
            go_roundw
            case rel => exact ⟨(i + 1 : Nat), (k + 1 : Nat), f, _, ⟨by have := HI2.out; have := HU2.out; omega, by have := HK2.out; have := HU2.out; omega, by have := HIK.out; have := HI2.out; have := HK2.out; have := HU2.out; omega, by have := HIK.out; have := HI2.out; have := HK2.out; have := HU2.out; simp; omega⟩, by have h := HPRE.out; rw [HI2.out, HK2.out] at h ⊢; simpa using h, rfl, rfl, hJ3, HN2.out.trans hk3⟩
            case measure => have := HI2.out; have := HK2.out; have := HU2.out; have := HIK.out; simp [intOf] <;> omega
          · skip
            have hpa : decide (i2 % 2 = 1) = ((((i : Int) + 1) % 2) == 1) := by have h := HUA.out; rw [if_pos cx] at h; rw [h]; by_cases h2 : (i + 1 : Nat) % 2 = 1 <;> simp [h2] <;> omega
            have hpb : decide (k2 % 2 = 1) = ((((k : Int)) % 2) == 1) := by have h := HUB.out; rw [if_neg cy] at h; rw [h]; by_cases h2 : k % 2 = 1 <;> simp [h2] <;> omega
            have HI2 : Hid (i2 = (i + 1 : Nat)) := Lib.hid (by have h := HUA.out; rw [if_pos cx] at h; exact h)
            have HK2 : Hid (k2 = k) := Lib.hid (by have h := HUB.out; rw [if_neg cy] at h; exact h)
            obtain ⟨fn, tmps, assign, body, hyr, hR⟩ := HY.out pre (day, decide (i2 % 2 = 1), decide (k2 % 2 = 1)) wq HJ2.out ⟨HU2.out.2.2.2.2.2.1, HU2.out.2.2.2.2.2.2⟩ (by have := HIK.out; have := HU2.out; omega)
            replace hyr : (Instr.yield l #[.int .i64 day, .agg #[.bool (decide (i2 % 2 = 1)), .bool (decide (k2 % 2 = 1))]]).run Tryd.prog wq = .ok (.round l fn tmps assign body) wq := hyr
            rw [hpa, hpb] at hyr
            clear hpa hpb
            have ex : (x == day) = true := by simpa using cx
            have ey : (y == day) = false := by simpa using cy
            clear cx cy
            gi_wp2
            refine hR.mono ?_
            rintro e W3 ⟨rfl, hJ3, hk3⟩
            gi_wp2
            go_roundw
            case rel => exact ⟨(i + 1 : Nat), k, f, _, ⟨by have := HI2.out; have := HU2.out; omega, by have := HK2.out; have := HU2.out; omega, by have := HIK.out; have := HI2.out; have := HK2.out; have := HU2.out; omega, by have := HIK.out; have := HI2.out; have := HK2.out; have := HU2.out; simp; omega⟩, by have h := HPRE.out; rw [HI2.out, HK2.out] at h ⊢; simpa using h, rfl, rfl, hJ3, HN2.out.trans hk3⟩
            case measure => have := HI2.out; have := HK2.out; have := HU2.out; have := HIK.out; simp [intOf] <;> omega
        · by_cases cy : y = day
          · skip
            have hpa : decide (i2 % 2 = 1) = ((((i : Int)) % 2) == 1) := by have h := HUA.out; rw [if_neg cx] at h; rw [h]; by_cases h2 : i % 2 = 1 <;> simp [h2] <;> omega
            have hpb : decide (k2 % 2 = 1) = ((((k : Int) + 1) % 2) == 1) := by have h := HUB.out; rw [if_pos cy] at h; rw [h]; by_cases h2 : (k + 1 : Nat) % 2 = 1 <;> simp [h2] <;> omega
            have HI2 : Hid (i2 = i) := Lib.hid (by have h := HUA.out; rw [if_neg cx] at h; exact h)
            have HK2 : Hid (k2 = (k + 1 : Nat)) := Lib.hid (by have h := HUB.out; rw [if_pos cy] at h; exact h)
            obtain ⟨fn, tmps, assign, body, hyr, hR⟩ := HY.out pre (day, decide (i2 % 2 = 1), decide (k2 % 2 = 1)) wq HJ2.out ⟨HU2.out.2.2.2.2.2.1, HU2.out.2.2.2.2.2.2⟩ (by have := HIK.out; have := HU2.out; omega)
            replace hyr : (Instr.yield l #[.int .i64 day, .agg #[.bool (decide (i2 % 2 = 1)), .bool (decide (k2 % 2 = 1))]]).run Tryd.prog wq = .ok (.round l fn tmps assign body) wq := hyr
            rw [hpa, hpb] at hyr
            clear hpa hpb
            have ex : (x == day) = false := by simpa using cx
            have ey : (y == day) = true := by simpa using cy
            clear cx cy
            gi_wp2
            refine hR.mono ?_
            rintro e W3 ⟨rfl, hJ3, hk3⟩
            gi_wp2
            go_roundw
            case rel => exact ⟨i, (k + 1 : Nat), f, _, ⟨by have := HI2.out; have := HU2.out; omega, by have := HK2.out; have := HU2.out; omega, by have := HIK.out; have := HI2.out; have := HK2.out; have := HU2.out; omega, by have := HIK.out; have := HI2.out; have := HK2.out; have := HU2.out; simp; omega⟩, by have h := HPRE.out; rw [HI2.out, HK2.out] at h ⊢; simpa using h, rfl, rfl, hJ3, HN2.out.trans hk3⟩
            case measure => have := HI2.out; have := HK2.out; have := HU2.out; have := HIK.out; simp [intOf] <;> omega
          · exact absurd hmin (by have := Int.min_def x y; split at this <;> omega)
      · have hii : (ma : Int) ≤ (i : Int) := by omega
        have hkk : (k : Int) < (mb : Int) := by omega
        clear hlt hia
        gi_wp2
        refine wpIn_wide.2 (wp_region_quiet_lit (by kernel_rfl) (by kernel_rfl) ?_)
        repeat (go_big_quiet_step ((go_at_call 54; first | (with_reducible exact Calls.quiet_of_same (HA2.out _)) | (with_reducible exact Calls.quiet_of_same (HB2.out _)))))
        refine wpQuiet_nil ?_
        intro _ hw'
        obtain ⟨nq, hw''⟩ := hw'
        subst hw''
        have HJ2 := Lib.hid (HJD.out nq)
        have HN2 := Lib.hid (HNX.out nq)
        generalize wr.drewN nq = wq at *
        by_cases cx : x = day
        · by_cases cy : y = day
          · skip
            have hpa : decide (i2 % 2 = 1) = ((((i : Int) + 1) % 2) == 1) := by have h := HUA.out; rw [if_pos cx] at h; rw [h]; by_cases h2 : (i + 1 : Nat) % 2 = 1 <;> simp [h2] <;> omega
            have hpb : decide (k2 % 2 = 1) = ((((k : Int) + 1) % 2) == 1) := by have h := HUB.out; rw [if_pos cy] at h; rw [h]; by_cases h2 : (k + 1 : Nat) % 2 = 1 <;> simp [h2] <;> omega
            have HI2 : Hid (i2 = (i + 1 : Nat)) := Lib.hid (by have h := HUA.out; rw [if_pos cx] at h; exact h)
            have HK2 : Hid (k2 = (k + 1 : Nat)) := Lib.hid (by have h := HUB.out; rw [if_pos cy] at h; exact h)
            obtain ⟨fn, tmps, assign, body, hyr, hR⟩ := HY.out pre (day, decide (i2 % 2 = 1), decide (k2 % 2 = 1)) wq HJ2.out ⟨HU2.out.2.2.2.2.2.1, HU2.out.2.2.2.2.2.2⟩ (by have := HIK.out; have := HU2.out; omega)
            replace hyr : (Instr.yield l #[.int .i64 day, .agg #[.bool (decide (i2 % 2 = 1)), .bool (decide (k2 % 2 = 1))]]).run Tryd.prog wq = .ok (.round l fn tmps assign body) wq := hyr
            rw [hpa, hpb] at hyr
            clear hpa hpb
            have ex : (x == day) = true := by simpa using cx
            have ey : (y == day) = true := by simpa using cy
            clear cx cy
            gi_wp2
            refine hR.mono ?_
            rintro e W3 ⟨rfl, hJ3, hk3⟩
            gi_wp2
            go_roundw
            case rel => exact ⟨(i + 1 : Nat), (k + 1 : Nat), f, _, ⟨by have := HI2.out; have := HU2.out; omega, by have := HK2.out; have := HU2.out; omega, by have := HIK.out; have := HI2.out; have := HK2.out; have := HU2.out; omega, by have := HIK.out; have := HI2.out; have := HK2.out; have := HU2.out; simp; omega⟩, by have h := HPRE.out; rw [HI2.out, HK2.out] at h ⊢; simpa using h, rfl, rfl, hJ3, HN2.out.trans hk3⟩
            case measure => have := HI2.out; have := HK2.out; have := HU2.out; have := HIK.out; simp [intOf] <;> omega
          · skip
            have hpa : decide (i2 % 2 = 1) = ((((i : Int) + 1) % 2) == 1) := by have h := HUA.out; rw [if_pos cx] at h; rw [h]; by_cases h2 : (i + 1 : Nat) % 2 = 1 <;> simp [h2] <;> omega
            have hpb : decide (k2 % 2 = 1) = ((((k : Int)) % 2) == 1) := by have h := HUB.out; rw [if_neg cy] at h; rw [h]; by_cases h2 : k % 2 = 1 <;> simp [h2] <;> omega
            have HI2 : Hid (i2 = (i + 1 : Nat)) := Lib.hid (by have h := HUA.out; rw [if_pos cx] at h; exact h)
            have HK2 : Hid (k2 = k) := Lib.hid (by have h := HUB.out; rw [if_neg cy] at h; exact h)
            obtain ⟨fn, tmps, assign, body, hyr, hR⟩ := HY.out pre (day, decide (i2 % 2 = 1), decide (k2 % 2 = 1)) wq HJ2.out ⟨HU2.out.2.2.2.2.2.1, HU2.out.2.2.2.2.2.2⟩ (by have := HIK.out; have := HU2.out; omega)
            replace hyr : (Instr.yield l #[.int .i64 day, .agg #[.bool (decide (i2 % 2 = 1)), .bool (decide (k2 % 2 = 1))]]).run Tryd.prog wq = .ok (.round l fn tmps assign body) wq := hyr
            rw [hpa, hpb] at hyr
            clear hpa hpb
            have ex : (x == day) = true := by simpa using cx
            have ey : (y == day) = false := by simpa using cy
            clear cx cy
            gi_wp2
            refine hR.mono ?_
            rintro e W3 ⟨rfl, hJ3, hk3⟩
            gi_wp2
            go_roundw
            case rel => exact ⟨(i + 1 : Nat), k, f, _, ⟨by have := HI2.out; have := HU2.out; omega, by have := HK2.out; have := HU2.out; omega, by have := HIK.out; have := HI2.out; have := HK2.out; have := HU2.out; omega, by have := HIK.out; have := HI2.out; have := HK2.out; have := HU2.out; simp; omega⟩, by have h := HPRE.out; rw [HI2.out, HK2.out] at h ⊢; simpa using h, rfl, rfl, hJ3, HN2.out.trans hk3⟩
            case measure => have := HI2.out; have := HK2.out; have := HU2.out; have := HIK.out; simp [intOf] <;> omega
        · by_cases cy : y = day
          · skip
            have hpa : decide (i2 % 2 = 1) = ((((i : Int)) % 2) == 1) := by have h := HUA.out; rw [if_neg cx] at h; rw [h]; by_cases h2 : i % 2 = 1 <;> simp [h2] <;> omega
            have hpb : decide (k2 % 2 = 1) = ((((k : Int) + 1) % 2) == 1) := by have h := HUB.out; rw [if_pos cy] at h; rw [h]; by_cases h2 : (k + 1 : Nat) % 2 = 1 <;> simp [h2] <;> omega
            have HI2 : Hid (i2 = i) := Lib.hid (by have h := HUA.out; rw [if_neg cx] at h; exact h)
            have HK2 : Hid (k2 = (k + 1 : Nat)) := Lib.hid (by have h := HUB.out; rw [if_pos cy] at h; exact h)
            obtain ⟨fn, tmps, assign, body, hyr, hR⟩ := HY.out pre (day, decide (i2 % 2 = 1), decide (k2 % 2 = 1)) wq HJ2.out ⟨HU2.out.2.2.2.2.2.1, HU2.out.2.2.2.2.2.2⟩ (by have := HIK.out; have := HU2.out; omega)
            replace hyr : (Instr.yield l #[.int .i64 day, .agg #[.bool (decide (i2 % 2 = 1)), .bool (decide (k2 % 2 = 1))]]).run Tryd.prog wq = .ok (.round l fn tmps assign body) wq := hyr
            rw [hpa, hpb] at hyr
            clear hpa hpb
            have ex : (x == day) = false := by simpa using cx
            have ey : (y == day) = true := by simpa using cy
            clear cx cy
            gi_wp2
            refine hR.mono ?_
            rintro e W3 ⟨rfl, hJ3, hk3⟩
            gi_wp2
            go_roundw
            case rel => exact ⟨i, (k + 1 : Nat), f, _, ⟨by have := HI2.out; have := HU2.out; omega, by have := HK2.out; have := HU2.out; omega, by have := HIK.out; have := HI2.out; have := HK2.out; have := HU2.out; omega, by have := HIK.out; have := HI2.out; have := HK2.out; have := HU2.out; simp; omega⟩, by have h := HPRE.out; rw [HI2.out, HK2.out] at h ⊢; simpa using h, rfl, rfl, hJ3, HN2.out.trans hk3⟩
            case measure => have := HI2.out; have := HK2.out; have := HU2.out; have := HIK.out; simp [intOf] <;> omega
          · exact absurd hmin (by have := Int.min_def x y; split at this <;> omega)
    · have hii : (ma : Int) ≤ (i : Int) := by omega
      have hkk : (mb : Int) ≤ (k : Int) := by omega
      have HPR : Hid (pre = bns la lb (ma + mb) 0 0) := Lib.hid (by
        rw [← hpre]
        cases f with
        | zero => rw [HBZ.out, List.append_nil]
        | succ f => rw [HBN.out, if_neg hlt, List.append_nil])
      clear hlt hpre
      gi_wp2
      go_end0
      exact ⟨⟨_, rfl⟩, _, HPR.out, hJs⟩
end Go.Proofs.YtiicjmbnkjociaaDoor
