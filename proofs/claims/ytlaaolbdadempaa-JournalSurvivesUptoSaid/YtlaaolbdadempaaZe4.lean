/- Slices of slices cloned; a new disk. -/
import Derived.Deep.RegionLaw
import Derived.Deep.RegionHeld
import Derived.BigRegion
import Derived.WalkSpells
import Derived.Deep.RegionWith
import Derived.Test.YtlaaolbdadempaaZe3
namespace Go.Proofs.Ytlaaolbdadempaa
open Go.RowKit

theorem Try.info35 : (Try.prog.info? 35).map (fun i => (i.zero, i.size, i.bytes)) = some (some (.slice none 0 0), 1, 24) := by kernel_rfl
theorem tab_of_owns {S : Nat → Prop} {w : World} {v : Value} {n : Nat} {xs : List (List UInt8)} {vs : List Value} (h : w.ownsRow 0 35 1 v n vs) (h0 : 0 < n) (hn : n = xs.length) (hl : vs.length = xs.length)
    (hel : ∀ (i : Nat) x, xs[i]? = some x → ∃ u, vs[i]? = some u ∧ RestS S w x u) :
    ∃ g cap, v = .slice (some ⟨g, 0, none⟩) n cap ∧ Tab S g cap w xs vs ∧ cap ≤ maxLen := by
  rcases h.2 with ⟨rfl, h1⟩ | ⟨g, cap, cur, rfl, hbg, hg, hnc, hcm, hcs, htake⟩
  · omega
  · refine ⟨g, cap, rfl, ⟨⟨cur.toList.drop n, ?_, ?_⟩, hl, hel⟩, hcm⟩
    · have htk : cur.toList.take n = vs := by simpa using htake
      show w.heap[g]? = some (.cells (vs ++ cur.toList.drop n).toArray 35 (0, 0))
      rw [← htk, List.take_append_drop]
      simpa using hg
    · have htk : cur.toList.take n = vs := by simpa using htake
      rw [← htk, List.take_append_drop]; simp; omega
theorem owns_none (w : World) (e size : Nat) : (w.alloc (.cells #[] e)).ownsRow 0 e size (.slice (some ⟨w.heap.size, 0, none⟩) 0 0) 0 [] := by
  refine ⟨by simp, .inr ⟨w.heap.size, 0, #[], rfl, Nat.zero_le _, heap_alloc_new w _, Nat.le_refl _, by simp [maxLen], by simp, by simp⟩⟩

set_option maxHeartbeats 2000000 in
set_option maxRecDepth 100000 in
theorem clone_call (S : Nat → Prop) (xs : List (List UInt8)) (v : Value) (w : World) (h : NRestS S w xs v) (h0 : 0 < xs.length) (hn : xs.length ≤ 1099511627776) :
    Calls Try.prog 79 #[v] w fun e w' => ∃ g cap vs, e = .returned (.slice (some ⟨g, 0, none⟩) xs.length cap) ∧ Tab (Cut S w.heap.size) g cap w' xs vs ∧ cap ≤ maxLen ∧ w.heap.size ≤ g ∧ Below w.heap.size w w' := by
  obtain ⟨a, cap, rfl, hc1, hc2⟩ := h.rest.shape
  obtain ⟨b, off, vs, rfl, -, hb, hl, hcell, hel⟩ := h.vals h0
  obtain ⟨i0, hi, hz0, hz1, hz2⟩ := info_parts Try.info35
  have q22 : ∀ W : World, (binOp .eql 22 (.slice (some ⟨b, off, none⟩) xs.length cap) (.slice none 0 0)).run Try.prog W = .ok (.bool false) W := fun W => run_eql_nil_slice W 22 35 (some ⟨b, off, none⟩) xs.length cap 0 0 Try.underlying22
  clear h
  go_enter Try.func79, Try.ntmps79
  go_wp2_with (refine wpList_append_mine _ rfl (.tmp 5) (.tmp 6) 22 rfl 35 i0 _ 1 24 Try.underlying22 hi hz0 hz1 hz2 rfl (by decide) _ 0 [] rfl (owns_none w 35 1) ⟨b, off, none⟩ xs.length cap vs rfl (by rw [hl, Nat.mul_one]) (fun j u hj => by rw [Addr.add_lit]; exact ((Joins.below_alloc1 w _).cell (p := ⟨b, off + j, none⟩) hb).trans (hcell j u hj).1) (fun u hu => by obtain ⟨j, hj⟩ := List.getElem?_of_mem hu; exact (hcell j u hj).2) (by unfold maxLen; omega) (by omega) ?_; intro v' w2 hown hwr)
  go_ret
  have hb2 : Below w.heap.size w w2 := (Joins.below_alloc1 w (.cells #[] 35)).trans (hwr.toBelow (B := w.heap.size) (by simp) (fun k hk => by cases hk; exact Nat.le_refl _))
  have hvk : ∀ k, v'.ownBlock = some k → w.heap.size ≤ k := fun k hk => by
    rcases hwr.own with h1 | h1
    · rw [h1] at hk; cases hk; exact Nat.le_refl _
    · have := h1 k hk; simp at this; omega
  obtain ⟨g, c, rfl, ht, hc⟩ := tab_of_owns (S := Cut S w.heap.size) (xs := xs) (vs := vs) (n := xs.length) (by simpa using hown) h0 rfl hl (fun i x hi => by
    obtain ⟨u, h1, h2⟩ := hel i x hi
    exact ⟨u, h1, h2.later hb2⟩)
  exact ⟨g, c, vs, rfl, ht, hc, hvk g rfl, hb2⟩
end Go.Proofs.Ytlaaolbdadempaa

/- A new disk. -/
namespace Go.Proofs.Ytlaaolbdadempaa
open Go.RowKit

theorem below_undrew {B : Nat} {w w' : World} (h : Below B w.drew w') : Below B w w' := ⟨h.os, h.tape, h.output, h.size, h.block⟩
theorem made_nils (n : Nat) : madeCells (Value.slice none 0 0).cells (n * 1) = (List.replicate n (Value.slice none 0 0)).toArray := by
  apply Array.ext'
  rw [Nat.mul_one, show (Value.slice none 0 0).cells = #[Value.slice none 0 0] from rfl, toList_madeCells_one]
theorem wpList_make22 {ops : Array Oper} {rest : List Oper} {o : Oper} {a : Act} {w : World} {Q : Exit → Act → World → Prop} (hgd : o.guard = none) (x : Operand) (ho : o.op = .makeSlice 22 x x) (n : Nat) (hn : n ≤ 1000000) (hx : a.eval x = .int .i64 (n : Int))
    (h : ∀ g w', Row w' g 35 (List.replicate n (.slice none 0 0)) → g = w.heap.size → Below w.heap.size w w' → wpList Try.prog ops Q rest (a.put o.dst (.slice (some ⟨g, 0, none⟩) n n)) w') : wpList Try.prog ops Q (o :: rest) a w :=
  wpList_plain hgd fun _ hK => by
    obtain ⟨i0, hi, hz0, hz1, hz2⟩ := info_parts Try.info35
    have hr := run_makeSlice (P := Try.prog) w 22 35 i0 (.slice none 0 0) Try.underlying22 hi hz0 .i64 .i64 (n : Int) (n : Int) (by omega) (by omega) (by rw [hz1, Int.toNat_natCast]; omega) (by rw [hz2]; omega) (by omega)
    rw [hz1, Int.toNat_natCast, made_nils] at hr
    have h1 := hK _ _ (h _ _ (row_new w 35 _) rfl (Joins.below_alloc1 w _))
    unfold Oper.wp execOp
    simp [ho, hx, hr, Sem.run_bind]
    exact h1
theorem setRow_same {w : World} {g T : Nat} {cs : List Value} (h : Row w g T cs) : w.setRow g cs.toArray = w := by
  have hh : (w.setRow g cs.toArray).heap = w.heap := by
    apply Array.ext_getElem?
    intro i
    by_cases hi : i = g
    · subst hi; exact (setRow_heap w i _ _ T (0, 0) h).trans h.symm
    · exact setRow_other w g i _ hi
  cases w
  simp only [World.setRow] at hh ⊢
  rw [hh]
/-- a store of what is there already -/
theorem wpList_store_as {ops : Array Oper} {rest : List Oper} {o : Oper} {a : Act} {w : World} {Q : Exit → Act → World → Prop} (hgd : o.guard = none) (T : TypeId) (x y : Operand) (ho : o.op = .store T x y)
    (g : Nat) (new : List Value) (hT : (Try.prog.info? T).map (·.size) = some new.length) (hx : a.eval x = .pointer (some ⟨g, 0, none⟩)) (hy : a.eval y = .agg new.toArray) (hg : Row w g T new)
    (h1 : new.all (·.oneCell') = true) (h : wpList Try.prog ops Q rest (a.put o.dst undef) w) : wpList Try.prog ops Q (o :: rest) a w :=
  wpList_plain hgd fun _ hK => wp_store_row T x y ho g new.toArray hx hy T new.toArray hg (by rw [hT]; rfl) rfl (by simpa using h1) (hK _ _ (by rw [setRow_same hg]; exact h))
def zeros : List UInt8 := List.replicate 128 0
theorem sectorL_nil : sectorL [] = zeros := rfl
/-- n sectors, the first k of them of zero bytes, the others nil -/
def upto (n k : Nat) : List (List UInt8) := List.replicate k zeros ++ List.replicate (n - k) []
theorem upto_len {n k : Nat} (h : k ≤ n) : (upto n k).length = n := by unfold upto; simp; omega
theorem upto_set {n k : Nat} (h : k < n) : (upto n k).set k zeros = upto n (k + 1) := by
  unfold upto
  obtain ⟨m, rfl⟩ : ∃ m, n = k + 1 + m := ⟨n - k - 1, by omega⟩
  rw [List.set_append_right _ _ (by simp), List.length_replicate, Nat.sub_self, show k + 1 + m - k = m + 1 by omega, List.replicate_succ, List.set_cons_zero, show k + 1 + m - (k + 1) = m by omega]
  rw [List.replicate_succ' (n := k), List.append_assoc]; rfl
theorem tab_made {S : Nat → Prop} {w : World} {g n : Nat} (h : Row w g 35 (List.replicate n (.slice none 0 0))) : Tab S g n w (upto n 0) (List.replicate n (.slice none 0 0)) := by
  refine ⟨⟨[], by simpa using h, by simp⟩, by rw [upto_len (Nat.zero_le _)]; simp, fun i x hi => ?_⟩
  have hil := (List.getElem?_eq_some_iff.1 hi).1
  rw [upto_len (Nat.zero_le _)] at hil
  have hx : x = [] := by
    unfold upto at hi
    simp only [List.replicate_zero, List.nil_append, Nat.sub_zero] at hi
    rw [List.getElem?_replicate_of_lt hil] at hi
    exact (Option.some.inj hi).symm
  subst hx
  exact ⟨_, List.getElem?_replicate_of_lt hil, rests_nil _ _⟩
theorem row_rest {w : World} {g n : Nat} {xs : List UInt8} (h : Row w g 5 (cellsOf xs)) (hl : xs.length = n) (hn : n ≤ 1000000) : Rest w.heap.size w xs (.slice (some ⟨g, 0, none⟩) n n) :=
  ⟨some ⟨g, 0, none⟩, n, by rw [hl], by omega, by unfold maxLen; omega, (fun h => by cases h), .inr ⟨g, 0, rfl, h.lt, fun i hi => by rw [Nat.zero_add]; exact h.cell (cellsOf_get hi)⟩⟩
/-- what a call answers that returns a disk and an error -/
def AnswersS (S : Nat → Prop) (w : World) (r : Dsk × Int) (e : Ending) (w' : World) : Prop := ∃ v', e = .returned (.tuple #[v', .int .i64 r.2]) ∧ DRestS (Ext S w.heap.size) w' r.1 v' ∧ Below w.heap.size w w'
theorem drests_zero (S : Nat → Prop) (w : World) : DRestS S w zeroD (.agg #[.slice none 0 0, .slice none 0 0, .int .i64 0, .bool false]) := ⟨_, _, rfl, nrests_nil _ _, prests_nil _ _⟩

def newD (n : Int) : Dsk × Int := if n < 1 ∨ 4096 < n then (zeroD, 1) else (⟨List.replicate n.toNat zeros, [], -1, false⟩, 0)
def NewHead (w : World) (n gs : Nat) (s18 : Value) (wr : World) : Prop := ∃ (k : Nat) (vs : List Value), k ≤ n ∧ s18 = .int .i64 (k : Int) ∧ Tab (fun b => w.heap.size + 2 ≤ b) gs n wr (upto n k) vs ∧ Row wr w.heap.size 25 [.slice (some ⟨gs, 0, none⟩) n n, .slice none 0 0, .int .i64 (-1), .bool false] ∧ Below w.heap.size w wr
set_option maxHeartbeats 4000000 in
set_option maxRecDepth 100000 in
theorem new_call (S : Nat → Prop) (n : Int) (w : World) : Calls Try.prog 19 #[.int .i64 n] w (AnswersS S w (newD n)) := by
  unfold newD
  have HR0 := Lib.hid (row_new w 25 [.slice none 0 0, .slice none 0 0, .int .i64 0, .bool false])
  have HB0 := Lib.hid (Joins.below_alloc1 w (.cells #[.slice none 0 0, .slice none 0 0, .int .i64 0, .bool false] 25))
  by_cases h1 : n < 1
  · rw [if_pos (.inl h1)]
    go_enter Try.func19, Try.ntmps19
    go_wp2_with fail
    exact bodyPost_ret (results_dsk Try.results19 _ _ w.heap.size _ rfl rfl _ rfl HR0.out) rfl ⟨_, rfl, drests_zero _ _, HB0.out⟩
  · by_cases h2 : 4096 < n
    · rw [if_pos (.inr h2)]
      go_enter Try.func19, Try.ntmps19
      go_wp2_with fail
      exact bodyPost_ret (results_dsk Try.results19 _ _ w.heap.size _ rfl rfl _ rfl HR0.out) rfl ⟨_, rfl, drests_zero _ _, HB0.out⟩
    · rw [if_neg (by omega)]
      obtain ⟨m, rfl⟩ : ∃ m : Nat, n = m := ⟨n.toNat, by omega⟩
      rw [Int.toNat_natCast]
      go_enter Try.func19, Try.ntmps19
      go_wp2_with (first
        | (refine wpList_make22 rfl (.tmp 12) rfl m (by omega) rfl ?_; intro gs w1 hrow hg hb; have HT := Lib.hid hrow; have HG : Hid (gs = w.heap.size + 1) := Lib.hid (by rw [hg]; simp); have HR := Lib.hid (HR0.out.keep hb); have HB := Lib.hid (below_next HB0.out hb); clear hrow hb hg)
        | (refine wpList_store_ag rfl 25 (.tmp 2) (.tmp 14) rfl w.heap.size [.slice (some ⟨gs, 0, none⟩) m m, .slice none 0 0, .int .i64 (-1), .bool false] _ size25 (by rfl) rfl rfl HR.out (by rfl) HB.out (Nat.le_refl _) ?_; intro w3 hr hb hf; have hc0 := hr.cell (i := 0) rfl; have HT3 := Lib.hid (tab_made (S := fun b => w.heap.size + 2 ≤ b) (hf gs 35 _ (by rw [HG.out]; omega) HT.out)); have HR3 := Lib.hid hr; have HB3 := Lib.hid hb; clear hr hb hf))
      have HSN : Hid (∀ W, Calls Try.prog 51 #[.slice none 0 0] W fun e w' => ∃ g, e = .returned (.slice (some ⟨g, 0, none⟩) 128 128) ∧ W.heap.size ≤ g ∧ Row w' g 5 (cellsOf zeros) ∧ Below W.heap.size W w') := Lib.hid (fun W => sector_call [] _ W (nrest_nil _ _))
      have hm1 : (m : Int) ≤ 4096 := by omega
      clear hc0 HR HB HT HR0 HB0
      go_loopw [18] (fun s18 wr => NewHead w m gs s18 wr) (fun s18 _ => m - (intOf s18).toNat)
      case atStart => exact ⟨0, _, Nat.zero_le _, rfl, HT3.out, HR3.out, HB3.out⟩
      case round =>
        obtain ⟨k, vs, hk, rfl, ht, hr, hb⟩ := hrel
        have HT := Lib.hid ht
        have HR := Lib.hid hr
        have HB := Lib.hid hb
        have hc0 := hr.cell (i := 0) rfl
        clear ht hr hb
        rcases Nat.lt_or_ge k m with hlt | hge
        · have hkm : (k : Int) < (m : Int) := by omega
          have hk0 : (0 : Int) ≤ (k : Int) := by omega
          obtain ⟨u, hu⟩ : ∃ u, vs[k]? = some u := ⟨_, List.getElem?_eq_getElem (by rw [HT.out.len, upto_len hk]; exact hlt)⟩
          have HU := Lib.hid hu
          clear hu
          go_wp2_with fail
          go_region_with (go_at_call 51; refine (HSN.out _).mono ?_; rintro e w4 ⟨g, rfl, hg, hrow, hb'⟩; have hb : Below wr.heap.size wr w4 := below_undrew hb'; have hc1 := HR.out.later hb (i := 0) rfl; have hk2 := (HT.out.keep hb).cell HU.out; have hk3 := (HT.out.keep hb).free k)
          all_goals
            have hgg : gs < g := Nat.lt_of_lt_of_le HT.out.lt hg
            have hset := (HT.out.keep hb).set (i := k) (by rw [upto_len hk]; exact hlt) (rows_rest (S := fun b => w.heap.size + 2 ≤ b) (n := 128) hrow (by simp [zeros]) (by omega) (by rw [HG.out] at hgg; omega)) (by rw [HG.out]; omega)
            rw [upto_set hlt] at hset
            have HSET := Lib.hid hset
            have HR4 := Lib.hid ((HR.out.keep hb).setFar (g' := gs) k (.slice (some ⟨g, 0, none⟩) 128 128) (by rw [HG.out]; omega))
            have HB4 := Lib.hid (below_setCell (below_next HB.out hb) gs k (.slice (some ⟨g, 0, none⟩) 128 128) (by rw [HG.out]; omega))
            clear hset hb hb' hrow
            go_wp2_with fail
            exact ⟨⟨k + 1, _, hlt, by go_num, HSET.out, HR4.out, HB4.out⟩, by simp [intOf]; omega⟩
        · obtain rfl : k = m := by omega
          have hT2 := HT.out
          rw [show upto k k = List.replicate k zeros by unfold upto; simp] at hT2
          have HN := Lib.hid (hT2.nrest (S' := Ext S w.heap.size) (by unfold maxLen; omega) (.inr (by rw [HG.out]; omega)) (fun b hb _ => .inr (by omega)))
          rw [List.length_replicate] at HN
          have hg2 := HG.out
          clear hT2 hg2
          go_wp2_with (first
            | (refine wpList_load_dsk rfl (.tmp 2) rfl w.heap.size _ (by rfl) rfl HR.out ?_)
            | (refine wpList_store_as rfl 25 (.tmp 2) (.tmp 27) rfl w.heap.size [.slice (some ⟨gs, 0, none⟩) k k, .slice none 0 0, .int .i64 (-1), .bool false] size25 rfl rfl HR.out (by rfl) ?_))
          exact bodyPost_ret (results_dsk Try.results19 _ wr w.heap.size _ rfl rfl _ rfl HR.out) rfl ⟨_, rfl, ⟨_, _, rfl, HN.out, prests_nil _ _⟩, HB.out⟩
end Go.Proofs.Ytlaaolbdadempaa
