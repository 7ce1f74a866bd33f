/- Rounds walked as outside; the columns of some rows; slices.Clone of a list. -/
import Derived.Test.YthkmbbgcadfilaaPe
import Derived.WalkSpells
namespace Go.Proofs.Ythkmbbgcadfilaa
open Go.RowKit Go.Shelf
attribute [local go_sem] Oper.semAt_some

theorem rows_inRound {n l : Nat} {P : Program} {row : String} {args : Array Value} {w : World} {R : Value → World → Prop} (h : Rows P row args w R) : RowsIn (Fence.wide.inRound l) n P row args w R :=
  fun c cs _ => let ⟨v, w', r, s⟩ := h c cs; ⟨v, w', r, stepsIn_wide.2 s⟩
/-- an operation, but for a defer: in a round as outside -/
theorem wpIn_of_wp {n l : Nat} {P : Program} {o : Oper} {a : Act} {w : World} {K : Act → World → Prop} {Q : Exit → Act → World → Prop} (hnd : ∀ c, o.op ≠ .defer c) (h : o.wp P a w K Q) : o.wpIn (Fence.wide.inRound l) n P a w K Q := by
  refine ⟨fun f _ => trivial, ?_⟩
  rw [show (Fence.wide.inRound l).round = some l from rfl, Oper.semAt_some l _ _ hnd]
  unfold Oper.wp at h
  generalize (execOp a.eval o).run P w = r at h
  match r, h with
  | .ok (.value v) w', h => exact h
  | .ok .skip w', h => exact h
  | .ok (.defer d) w', h => exact h
  | .ok (.enter f args) w', h => exact ⟨(fun e => by cases e), CallsIn.inRound l (callsIn_wide.2 h)⟩
  | .ok (.row row args) w', h => exact ⟨(fun e => by cases e), rows_inRound h⟩
  | .halt (.panic v) w', h => exact h
theorem noDefer {ops : Array Oper} (hnd : (ops.all fun o => match o.op with | .defer _ => false | _ => true) = true) : ∀ (i : Nat) (o : Oper), ops[i]? = some o → ∀ c, o.op ≠ .defer c := fun i o ho c hc => by
  have h1 := (Array.all_eq_true.1 hnd) i (Array.getElem?_eq_some_iff.1 ho).1
  rw [(Array.getElem?_eq_some_iff.1 ho).2, hc] at h1
  cases h1
theorem wpListIn_of {n r : Nat} {P : Program} {ops : Array Oper} {Q : Exit → Act → World → Prop} (hno : ¬ LetsOut Q) : ∀ (l : List Oper) (a : Act) (w : World), (∀ o, o ∈ l → ∀ c, o.op ≠ .defer c) → wpList P ops Q l a w → wpListIn (Fence.wide.inRound r) n P ops Q l a w
  | [], _, _, _, h => h
  | o :: rest, a, w, hnd, h => by
    have ih := fun a w => wpListIn_of (n := n) (r := r) (P := P) (ops := ops) hno rest a w (fun o' ho => hnd o' (by simp [ho]))
    unfold wpList at h
    unfold wpListIn
    by_cases hw : Region.wanted o (yielded ops a.tmps) = true
    · rw [if_pos hw] at h ⊢
      rcases h with h | h
      · exact wpIn_of_wp (hnd o (by simp)) (Oper.wp_mono (fun a' w' h' => ih a' w' h') h)
      · exact absurd h.2 hno
    · rw [if_neg hw] at h ⊢
      exact ⟨fun _ _ => trivial, ih _ _ h⟩
/-- a region in its written order, in a round as outside -/
theorem wpIn_region_plain {n r id : Nat} {P : Program} {Q : Exit → Act → World → Prop} {a : Act} {w : World} {l : List Oper} (hno : ¬ LetsOut Q) (hnd : (l.toArray.all fun o => match o.op with | .defer _ => false | _ => true) = true) (h : wpList P l.toArray Q l a w) : (Code.region id l.toArray false).wpIn (Fence.wide.inRound r) n P Q a w :=
  wpIn_region_lit (wpListIn_of hno l a w (fun o ho c hc => by
    obtain ⟨i, hi⟩ := List.getElem?_of_mem ho
    exact noDefer hnd i o (by simpa using hi) c hc) h)

/-- the columns of some rows, as bits -/
def uniU (S : Nat → Nat) (l : List Nat) : Nat := l.foldl (fun a i => a ||| S i) 0
theorem uniU_app (S : Nat → Nat) (l : List Nat) (i : Nat) : uniU S (l ++ [i]) = uniU S l ||| S i := by unfold uniU; rw [List.foldl_append]; rfl
theorem uniU_step {S : Nat → Nat} {l : List Nat} {k : Nat} (h : k < l.length) : uniU S (l.take (k + 1)) = uniU S (l.take k) ||| S (l.getD k 0) := by
  rw [List.take_succ_eq_append_getElem h, uniU_app]
  simp [h]
theorem foldl_bit (S : Nat → Nat) (j : Nat) : ∀ (l : List Nat) (a : Nat), (l.foldl (fun a i => a ||| S i) a).testBit j = (a.testBit j || l.any (fun i => (S i).testBit j))
  | [], a => by simp
  | x :: l, a => by
    rw [List.foldl_cons, foldl_bit S j l, Nat.testBit_or, List.any_cons, Bool.or_assoc]
theorem uniU_bit (S : Nat → Nat) (l : List Nat) (j : Nat) : (uniU S l).testBit j = l.any (fun i => (S i).testBit j) := by
  unfold uniU; rw [foldl_bit]; simp
theorem foldl_lt {S : Nat → Nat} {m : Nat} (hS : ∀ i, S i < 2 ^ m) : ∀ (l : List Nat) (a : Nat), a < 2 ^ m → l.foldl (fun a i => a ||| S i) a < 2 ^ m
  | [], _, h => h
  | x :: l, a, h => by rw [List.foldl_cons]; exact foldl_lt hS l _ (Nat.or_lt_two_pow h (hS x))
theorem uniU_lt {S : Nat → Nat} {m : Nat} (hS : ∀ i, S i < 2 ^ m) (l : List Nat) : uniU S l < 2 ^ m := foldl_lt hS l 0 (Nat.two_pow_pos m)
theorem popR_bits : ∀ (k x : Nat), popR k x = ((List.range k).filter (fun j => x.testBit j)).length
  | 0, _ => rfl
  | k + 1, x => by
    show x % 2 + popR k (x / 2) = _
    have e : ((fun j => x.testBit j) ∘ Nat.succ) = fun j => (x / 2).testBit j := by
      funext j
      show x.testBit (j + 1) = _
      rw [Nat.testBit_succ]
    rw [popR_bits k (x / 2), List.range_succ_eq_map, List.filter_cons, List.filter_map, e]
    by_cases h : x % 2 = 1
    · have h1 : x.testBit 0 = true := by simp [Nat.testBit_zero, h]
      rw [if_pos h1, h, List.length_cons, List.length_map]; omega
    · have h1 : ¬ x.testBit 0 = true := by simp [Nat.testBit_zero]; omega
      rw [if_neg h1, List.length_map]; omega
/-- the columns of some rows -/
def colsL (C : List (List Int)) (m : Nat) (l : List Nat) : List Nat := (List.range m).filter (fun j => l.any (fun i => decide (cst C i j ≠ -1)))
theorem mem_colsL {C : List (List Int)} {m : Nat} {l : List Nat} {j : Nat} : j ∈ colsL C m l ↔ j < m ∧ ∃ i, i ∈ l ∧ cst C i j ≠ -1 := by
  unfold colsL
  simp only [List.mem_filter, List.mem_range, List.any_eq_true, decide_eq_true_eq]
theorem colsL_nodup (C : List (List Int)) (m : Nat) (l : List Nat) : (colsL C m l).Nodup := (List.filter_sublist).nodup List.nodup_range
theorem cnt_cols {C : List (List Int)} {m : Nat} (hm : m ≤ 16) (l : List Nat) : popR 16 (uniU (fun i => rowU (cst C i) m) l) = (colsL C m l).length := by
  rw [popR_bits]
  have hb : ∀ j, j ∈ (List.range 16).filter (fun j => (uniU (fun i => rowU (cst C i) m) l).testBit j) ↔ j ∈ colsL C m l := fun j => by
    rw [mem_colsL]
    simp only [List.mem_filter, List.mem_range, uniU_bit, List.any_eq_true, rowU_bit, decide_eq_true_eq]
    constructor
    · rintro ⟨-, i, h1, h2, h3⟩; exact ⟨h2, i, h1, h3⟩
    · rintro ⟨h2, i, h1, h3⟩; exact ⟨by omega, i, h1, h2, h3⟩
  have h1 := nodup_le (L := (List.range 16).filter (fun j => (uniU (fun i => rowU (cst C i) m) l).testBit j)) (S := colsL C m l) ((List.filter_sublist).nodup List.nodup_range) (fun x hx => (hb x).1 hx)
  have h2 := nodup_le (L := colsL C m l) (S := (List.range 16).filter (fun j => (uniU (fun i => rowU (cst C i) m) l).testBit j)) (colsL_nodup C m l) (fun x hx => (hb x).2 hx)
  omega
/-- rows with too few columns -/
def crF (C : List (List Int)) (m : Nat) (l : List Nat) : Prop := (colsL C m l).length < l.length
theorem SL.nodup {n : Nat} {l : List Nat} (h : SL n l) : l.Nodup := by
  rw [List.nodup_iff_pairwise_ne, List.pairwise_iff_getElem]
  intro i j hi hj hij he
  have := h.2 i j hij hj
  rw [show l.getD i 0 = l[i] by simp [hi], show l.getD j 0 = l[j] by simp [hj]] at this
  omega
theorem crF_crowd {C : List (List Int)} {n m : Nat} {l : List Nat} (hs : SL n l) (h : crF C m l) : Crowd n m (cst C) l (colsL C m l) :=
  ⟨fun i hi => hs.mem i hi, hs.nodup, fun i j hi hj hc => mem_colsL.2 ⟨hj, i, hi, hc⟩, h⟩
theorem filter_SL {n : Nat} (p : Nat → Bool) : SL n ((List.range n).filter p) := by
  have hp : ((List.range n).filter p).Pairwise (· < ·) := List.Pairwise.filter p List.pairwise_lt_range
  refine ⟨fun i hi => ?_, fun i j hij hj => ?_⟩
  · have h1 := List.getElem_mem hi
    rw [List.mem_filter, List.mem_range] at h1
    rw [show ((List.range n).filter p).getD i 0 = ((List.range n).filter p)[i] by simp [hi]]
    exact h1.1
  · have hi : i < ((List.range n).filter p).length := by omega
    rw [show ((List.range n).filter p).getD i 0 = ((List.range n).filter p)[i] by simp [hi], show ((List.range n).filter p).getD j 0 = ((List.range n).filter p)[j] by simp [hj]]
    exact (List.pairwise_iff_getElem.1 hp) i j hi hj hij
/-- a crowd is a crowd of rows in order -/
theorem crowd_crF {C : List (List Int)} {n m : Nat} {R S : List Nat} (h : Crowd n m (cst C) R S) : ∃ l, SL n l ∧ 1 ≤ l.length ∧ crF C m l := by
  have hlen : R.length ≤ ((List.range n).filter (fun i => decide (i ∈ R))).length := nodup_le h.nodup (fun x hx => by
    rw [List.mem_filter, List.mem_range]; exact ⟨h.rows x hx, decide_eq_true hx⟩)
  have hc : (colsL C m ((List.range n).filter (fun i => decide (i ∈ R)))).length ≤ S.length := nodup_le (colsL_nodup _ _ _) (fun j hj => by
    obtain ⟨h1, i, h2, h3⟩ := mem_colsL.1 hj
    rw [List.mem_filter] at h2
    exact h.cols i j (of_decide_eq_true h2.2) h1 h3)
  have := h.few
  refine ⟨(List.range n).filter (fun i => decide (i ∈ R)), filter_SL _, by omega, ?_⟩
  show (colsL C m ((List.range n).filter (fun i => decide (i ∈ R)))).length < ((List.range n).filter (fun i => decide (i ∈ R))).length
  omega
set_option maxRecDepth 100000 in
set_option maxHeartbeats 4000000 in
theorem cloneI_call (L : List Int) (g s : Nat) (w : World) (hr : Row w g 3 (nums L)) (hl : L.length = s) (hs : s ≤ 1000) (hI : ∀ x, x ∈ L → I64 x) :
    Calls Try.prog 43 #[.slice (some ⟨g, 0, none⟩) s s] w fun e w' => Below w.heap.size w w' ∧ ∃ v, e = .returned v ∧ IBuf w' v L ∧ ∀ k, v.ownBlock = some k → w.heap.size ≤ k := by
  have HI := Lib.hid (irest_rowN hr hl (by unfold maxLen; omega) hI)
  have HL := Lib.hid hl
  have hq : ∀ W : World, (binOp .eql 23 (.slice (some ⟨g, 0, none⟩) s s) (.slice none 0 0)).run Try.prog W = .ok (.bool false) W := fun W => run_eql_nil_slice W 23 3 (some ⟨g, 0, none⟩) s s 0 0 Try.underlying23
  clear hr hl hI
  go_enter Try.func43, Try.ntmps43
  go_upto_region 3 with (fail)
  have HB0 := Lib.hid (Joins.below_alloc1 w (.cells #[] 3))
  go_wp2_with (at_builtin; refine wpList_copy_ints rfl (.tmp 5) (.tmp 6) rfl w.heap.size rfl (row_new w 3 []) L (.slice (some ⟨g, 0, none⟩) s s) rfl (HI.out.stays HB0.out) (by rw [HL.out]; omega) ?_; intro v' w' hp hw; have HP := Lib.hid (And.intro hp hw); clear hp hw)
  go_ret
  obtain ⟨hp, hw⟩ := HP.out
  have hb := HB0.out
  refine ⟨hb.trans (hw.toBelow (by simp) (fun k hk => by simp [Value.ownBlock] at hk; omega)), v', rfl, hp, fun k hk => ?_⟩
  rcases hw.own with h9 | h9
  · rw [hk] at h9; simp [Value.ownBlock] at h9; omega
  · have := h9 k hk; simp at this; omega
theorem results_den {fn : Func} (h : fn.results = #[.cell 2 23, .cell 3 4, .cell 4 26]) (tmps : Array Value) (w : World) (g2 g3 g4 : Nat) (a : Option Addr) (n c : Nat) (b : Bool) (e : Int) (h2 : tmps.getD 2 undef = .pointer (some ⟨g2, 0, none⟩)) (h3 : tmps.getD 3 undef = .pointer (some ⟨g3, 0, none⟩)) (h4 : tmps.getD 4 undef = .pointer (some ⟨g4, 0, none⟩))
    (c2 : w.cell? ⟨g2, 0, none⟩ = some (.slice a n c)) (c3 : w.cell? ⟨g3, 0, none⟩ = some (.bool b)) (c4 : w.cell? ⟨g4, 0, none⟩ = some (.int .i64 e)) :
    (results fn tmps).run Try.prog w = .ok (.tuple #[.slice a n c, .bool b, .int .i64 e]) w := by
  have h2' : tmps[2]?.getD undef = .pointer (some ⟨g2, 0, none⟩) := by simpa using h2
  have h3' : tmps[3]?.getD undef = .pointer (some ⟨g3, 0, none⟩) := by simpa using h3
  have h4' : tmps[4]?.getD undef = .pointer (some ⟨g4, 0, none⟩) := by simpa using h4
  simp [results, h, h2', h3', h4', asAddr, go_sem, c2, c3, c4]
end Go.Proofs.Ythkmbbgcadfilaa
