/- Arguments opened together with their bulk: bytes, lists of bytes, journals. -/
import Derived.Test.YtlaaolbdadempaaRows
import Derived.JoinedCond
import Derived.Deep.Strs
import Derived.Test.YtlaaolbdadempaaZe3
import Derived.Test.YtlaaolbdadempaaZe13
namespace Go.Proofs.Ytlaaolbdadempaa
open Go.RowKit Go.ChangeShapes Go.WideShapes Go.ChangeAt

theorem cells55 : Try.prog.cellsOf 55 = 3 := by kernel_rfl
theorem Try.read55 : Try.prog.readableRec 55 = true := by kernel_rfl
theorem Try.read22 : Try.prog.readableRec 22 = true := by kernel_rfl
section
variable {H : Type} {enc : TypeId × Value → H} {W : World}
theorem bulk_one (d : DataW H) : 1 ≤ Rows.uptoBulk d := by
  cases d with
  | lit l => cases l <;> simp [Rows.uptoBulk]
  | nil => simp [Rows.uptoBulk]
  | ptr d => simp [Rows.uptoBulk]
  | slice elems spare => simp [Rows.uptoBulk]
  | agg parts => simp [Rows.uptoBulk]
  | iface t d => simp [Rows.uptoBulk]
  | map entries => simp [Rows.uptoBulk]
  | held h => simp [Rows.uptoBulk]
theorem bulk_len (l : List (DataW H)) : l.length ≤ Rows.uptoBulkAll l := by
  induction l with
  | nil => simp [Rows.uptoBulkAll]
  | cons x r ih => have := bulk_one x; simp only [Rows.uptoBulkAll, List.length_cons]; omega
theorem bulk_sum : ∀ (l : List (DataW H)) (f : List Nat), f.length = l.length → (∀ (i : Nat) (d : DataW H), l[i]? = some d → ∀ (n : Nat), f[i]? = some n → n ≤ Rows.uptoBulk d) → f.sum ≤ Rows.uptoBulkAll l
  | [], [], _, _ => by simp [Rows.uptoBulkAll]
  | d :: l, n :: f, hl, h => by
    have h0 := h 0 d rfl n rfl
    have h1 := bulk_sum l f (by simpa using hl) (fun i d' hd n' hn => h (i + 1) d' (by simpa using hd) n' (by simpa using hn))
    simp only [Rows.uptoBulkAll, List.sum_cons]
    omega
  | [], n :: f, hl, _ => by simp at hl
  | d :: l, [], hl, _ => by simp at hl
set_option maxRecDepth 100000 in
theorem open_bytes_b {fuel : Nat} {cs : List Value} {x : DataW H × List MemPlace} (h : DataW.trod enc Try.prog W 0 (fun _ => true) true fuel 35 cs = some x) :
    ∃ bs u, cs = [u] ∧ Rest W.heap.size W bs u ∧ bs.length + 1 ≤ Rows.uptoBulk x.1 := by
  obtain ⟨bs, u, rfl, hr⟩ := open_bytes h
  refine ⟨bs, u, rfl, hr, ?_⟩
  obtain ⟨a3, c3, rfl, _⟩ := hr
  rcases DataW.trod_slice Try.underlying35 h with ⟨e3, e4⟩ | ⟨a, len, cap, elems, rest, n2, hfu, e3, e4, _, hl, hcm, hel, hbind, _, _⟩
  · injection e3 with e3
    injection e3 with _ e3 _
    rw [e3, e4]
    simp [Rows.uptoBulk]
  · injection e3 with e3
    injection e3 with _ e3 _
    rw [e3, e4]
    have h1 := bulk_len (elems.map (·.1))
    rw [List.length_map, hel] at h1
    simp only [Rows.uptoBulk]
    omega
set_option maxRecDepth 100000 in
theorem open_nested_b {fuel : Nat} {cs : List Value} {x : DataW H × List MemPlace} (h : DataW.trod enc Try.prog W 0 (fun _ => true) true fuel 22 cs = some x) :
    ∃ (xs : List (List UInt8)) (u : Value), cs = [u] ∧ NRest W.heap.size W xs u ∧ (xs.map fun b => b.length + 1).sum + 1 ≤ Rows.uptoBulk x.1 := by
  rcases DataW.trod_slice Try.underlying22 h with ⟨rfl, e4⟩ | ⟨a, len, cap, elems, rest, n2, hfu, rfl, e4, _, hl, hcm, hel, hbind, _, _⟩
  · exact ⟨[], _, rfl, nrest_nil _ _, by rw [e4]; simp [Rows.uptoBulk]⟩
  · have hex : ∀ i, ∃ p : List UInt8 × Value, i < len → W.cell? (a.add i) = some p.2 ∧ Rest W.heap.size W p.1 p.2 ∧ ∀ d, (elems.map (·.1))[i]? = some d → p.1.length + 1 ≤ Rows.uptoBulk d := by
      intro i
      by_cases hi : i < len
      · have hb := hbind i hi
        rw [cells35] at hb
        have hsome : elems[i]? = some (elems[i]'(by omega)) := List.getElem?_eq_getElem (by omega)
        rw [hsome] at hb
        cases hcs : W.cells? 0 (a.add (i * 1)) 1 with
        | none => rw [hcs] at hb; cases hb
        | some cs2 =>
          rw [hcs] at hb
          obtain ⟨_, hlen, hat⟩ := World.cells?_some hcs
          obtain ⟨bs, u, rfl, hr, hbk⟩ := open_bytes_b (show DataW.trod enc Try.prog W 0 (fun _ => true) true n2 35 cs2 = some (elems[i]'(by omega)) from hb)
          have h0 := hat 0 (by omega)
          rw [Go.Deep.add_add] at h0
          refine ⟨(bs, u), fun _ => ⟨by rw [show a.add i = a.add (i * 1 + 0) by rw [Nat.mul_one, Nat.add_zero], h0]; rfl, hr, fun d hd => ?_⟩⟩
          rw [List.getElem?_map, hsome] at hd
          injection hd with hd
          rw [← hd]; exact hbk
      · exact ⟨([], undef), fun h => absurd h hi⟩
    obtain ⟨f, hf2⟩ := Classical.skolem.1 hex
    have hlen : ((List.range len).map fun i => (f i).1).length = len := by simp
    refine ⟨(List.range len).map fun i => (f i).1, _, rfl, ⟨some a, cap, by rw [hlen], by rw [hlen]; omega, hcm, (fun h => by cases h), ?_⟩, ?_⟩
    · rcases Nat.eq_zero_or_pos len with h0 | h0
      · exact .inl (by rw [hlen, h0])
      · right
        have hc0 := (hf2 0 h0).1
        have hsp2 : a.spot = none := by have := spot_none hc0; simpa [Addr.add] using this
        have ha := addr_eta hsp2
        have hblt : a.block < W.heap.size := by
          rw [ha, Addr.add_lit] at hc0
          exact World.block_lt_of_cell? W ⟨a.block, a.off + 0, none⟩ hc0
        refine ⟨a.block, a.off, by rw [← ha], hblt, fun i y hi => ?_⟩
        simp only [List.getElem?_map, Option.map_eq_some_iff] at hi
        obtain ⟨i', hi', rfl⟩ := hi
        obtain ⟨hi1, hi2⟩ := List.getElem?_eq_some_iff.1 hi'
        simp at hi1 hi2
        subst hi2
        obtain ⟨h1, h2, _⟩ := hf2 i hi1
        rw [ha, Addr.add_lit] at h1
        exact ⟨_, h1, h2⟩
    · rw [e4]
      have h1 := bulk_sum (elems.map (·.1)) (((List.range len).map fun i => (f i).1).map fun b => b.length + 1) (by simp [hel]) (fun i d hd n hn => by
        simp only [List.getElem?_map, Option.map_eq_some_iff] at hn
        obtain ⟨b, ⟨i', hi', rfl⟩, rfl⟩ := hn
        obtain ⟨hi1, hi2⟩ := List.getElem?_eq_some_iff.1 hi'
        simp at hi1 hi2
        subst hi2
        exact (hf2 i hi1).2.2 d hd)
      simp only [Rows.uptoBulk]
      omega
set_option maxRecDepth 100000 in
theorem open_jnl {fuel : Nat} {cs : List Value} {x : DataW H × List MemPlace} (h : DataW.trod enc Try.prog W 0 (fun _ => true) true fuel 55 cs = some x) :
    ∃ (l : List (List UInt8)) (v : Value) (m s : Int), cs = [v, .int .i64 m, .int .i64 s] ∧ NRest W.heap.size W l v ∧ (l.map fun b => b.length + 1).sum + 1 ≤ Rows.uptoBulk x.1 ∧ (-9223372036854775808 ≤ m ∧ m ≤ 9223372036854775807) ∧ (-9223372036854775808 ≤ s ∧ s ≤ 9223372036854775807) := by
  obtain ⟨y0, y1, y2, m, rfl, hl, h0, h1, h2⟩ := Deep.trod_struct3 Try.underlying55 h
  rw [cells55] at hl
  match cs, hl with
  | [c0, c1, c2], _ =>
    simp only [cells3, cells22, List.drop_zero, List.drop_succ_cons, List.take_succ_cons, List.take_zero] at h0 h1 h2
    obtain ⟨xs, u, e0, r0, hbk⟩ := open_nested_b h0
    obtain ⟨k, e1, _, wk⟩ := DataW.trod_int Try.underlying3 h1
    obtain ⟨k2, e2, _, wk2⟩ := DataW.trod_int Try.underlying3 h2
    injection e0 with e0
    injection e1 with e1
    injection e2 with e2
    subst e0 e1 e2
    refine ⟨xs, c0, k, k2, rfl, r0, ?_, bounds_i64 wk, bounds_i64 wk2⟩
    simp only [Rows.uptoBulk, Rows.uptoBulkAll]
    omega
set_option maxRecDepth 100000 in
theorem open_jnl_arg {base : Nat} {v : Value} {d : DataW H} {p : List MemPlace} (hv : Value.okWide Try.prog W .any base 55 v) (h : DataW.Trod enc Try.prog W 0 (fun _ => true) true 55 v d p) :
    ∃ (l : List (List UInt8)) (u : Value) (m s : Int), v = .agg #[u, .int .i64 m, .int .i64 s] ∧ NRest W.heap.size W l u ∧ (l.map fun b => b.length + 1).sum ≤ Rows.uptoBulk d := by
  obtain ⟨cs, rfl, hsz⟩ := okWide_struct Try.underlying55 hv
  obtain ⟨fuel, hf⟩ := h
  obtain ⟨l, u, m, s, hc, r0, hb, _, _⟩ := open_jnl hf
  refine ⟨l, u, m, s, ?_, r0, by have hb' : _ + 1 ≤ Rows.uptoBulk d := hb; omega⟩
  have h2 : cs.toList = [u, .int .i64 m, .int .i64 s] := by simpa [Value.cells] using hc
  have h1 : cs = #[u, .int .i64 m, .int .i64 s] := by
    have h3 := congrArg List.toArray h2
    simpa using h3
  rw [h1]
set_option maxRecDepth 100000 in
theorem open_bytes_arg_b {base : Nat} {v : Value} {d : DataW H} {p : List MemPlace} (hv : Value.okWide Try.prog W .any base 35 v) (h : DataW.Trod enc Try.prog W 0 (fun _ => true) true 35 v d p) :
    ∃ bs : List UInt8, Rest W.heap.size W bs v ∧ bs.length + 1 ≤ Rows.uptoBulk d := by
  obtain ⟨a, len, cap, rfl⟩ := okWide_slice Try.underlying35 hv
  obtain ⟨fuel, hf⟩ := h
  obtain ⟨bs, u, hc, hr, hb⟩ := open_bytes_b hf
  have h1 : u = .slice a len cap := by simp [Value.cells] at hc; exact hc.symm
  subst h1
  exact ⟨bs, hr, hb⟩
set_option maxRecDepth 100000 in
theorem open_nested_arg_b {base : Nat} {v : Value} {d : DataW H} {p : List MemPlace} (hv : Value.okWide Try.prog W .any base 22 v) (h : DataW.Trod enc Try.prog W 0 (fun _ => true) true 22 v d p) :
    ∃ xs : List (List UInt8), NRest W.heap.size W xs v ∧ (xs.map fun b => b.length + 1).sum ≤ Rows.uptoBulk d := by
  obtain ⟨a, len, cap, rfl⟩ := okWide_slice Try.underlying22 hv
  obtain ⟨fuel, hf⟩ := h
  obtain ⟨bs, u, hc, hr, hb⟩ := open_nested_b hf
  have h1 : u = .slice a len cap := by simp [Value.cells] at hc; exact hc.symm
  subst h1
  exact ⟨bs, hr, by have hb' : _ + 1 ≤ Rows.uptoBulk d := hb; omega⟩
end
theorem used_sum : ∀ l : List (List UInt8), usedL l ≤ (l.map fun b => b.length + 1).sum
  | [] => Nat.le_refl _
  | b :: l => by
    have h := used_sum l
    have e : usedL (b :: l) = secsOf b.length + usedL l := by simp [usedL]
    have h2 : secsOf b.length ≤ b.length + 1 := by unfold secsOf; omega
    rw [e, List.map_cons, List.sum_cons]; omega
theorem len_sum {l : List (List UInt8)} {x : List UInt8} (h : x ∈ l) : x.length ≤ (l.map fun b => b.length + 1).sum := by
  induction l with
  | nil => cases h
  | cons y l ih =>
    rw [List.map_cons, List.sum_cons]
    rcases List.mem_cons.1 h with h | h
    · subst h; omega
    · have := ih h; omega
theorem mild_sum {l : List (List UInt8)} {m s : Int} {n : Nat} (h : (l.map fun b => b.length + 1).sum ≤ n) (hn : n ≤ 1000000000000) : Mild ⟨l, m, s⟩ :=
  ⟨Nat.le_trans (used_sum l) (Nat.le_trans h hn), fun x hx => Nat.le_trans (len_sum hx) (Nat.le_trans h hn)⟩
end Go.Proofs.Ytlaaolbdadempaa

/- Crashes (records, whether the disk stops, after how many sectors) as an argument: opened, with its bulk. -/
namespace Go.Proofs.Ytlaaolbdadempaa
open Go.RowKit Go.ChangeShapes Go.WideShapes Go.ChangeAt

/-- one crash of the law's script -/
structure Crash3 where
  recs : List (List UInt8)
  stop : Bool
  left : UInt8
def CRest (B : Nat) (w : World) (xs : List Crash3) (v : Value) : Prop :=
  ∃ (a : Option Addr) (cap : Nat), v = .slice a xs.length cap ∧ xs.length ≤ cap ∧ cap ≤ maxLen ∧ (a = none → xs.length = 0 ∧ cap = 0) ∧
    (xs.length = 0 ∨ ∃ b off, a = some ⟨b, off, none⟩ ∧ b < B ∧ ∀ (i : Nat) x, xs[i]? = some x → ∃ u, NRest B w x.recs u ∧
      w.cell? ⟨b, off + i * 3, none⟩ = some u ∧ w.cell? ⟨b, off + i * 3 + 1, none⟩ = some (.bool x.stop) ∧ w.cell? ⟨b, off + i * 3 + 2, none⟩ = some (.int .u8 (x.left.toNat : Int)))
theorem CRest.shape {B : Nat} {w : World} {xs v} (h : CRest B w xs v) : ∃ (a : Option Addr) (cap : Nat), v = .slice a xs.length cap ∧ cap ≤ 9223372036854775807 ∧ xs.length ≤ cap := by
  obtain ⟨a, cap, h1, h2, h3, _⟩ := h
  exact ⟨a, cap, h1, h3, h2⟩
theorem CRest.at {B : Nat} {w : World} {xs : List Crash3} {a n cap} (h : CRest B w xs (.slice a n cap)) {i : Nat} {x : Crash3} (hi : xs[i]? = some x) : ∃ b off u, a = some ⟨b, off, none⟩ ∧ b < B ∧ NRest B w x.recs u ∧
    ∀ W, Below B w W → W.cell? ⟨b, off + i * 3, none⟩ = some u ∧ W.cell? ⟨b, off + i * 3 + 1, none⟩ = some (.bool x.stop) ∧ W.cell? ⟨b, off + i * 3 + 2, none⟩ = some (.int .u8 (x.left.toNat : Int)) := by
  obtain ⟨a2, cap2, he, h2, h3, h4, h5⟩ := h
  injection he with he1 he2 he3
  subst he1
  rcases h5 with h5 | ⟨b, off, rfl, hb, hc⟩
  · have := (List.getElem?_eq_some_iff.1 hi).1; omega
  · obtain ⟨u, hn, c0, c1, c2⟩ := hc i x hi
    refine ⟨b, off, u, rfl, hb, hn, fun W hW => ⟨?_, ?_, ?_⟩⟩
    · exact (hW.cell (p := ⟨b, off + i * 3, none⟩) hb).trans c0
    · exact (hW.cell (p := ⟨b, off + i * 3 + 1, none⟩) hb).trans c1
    · exact (hW.cell (p := ⟨b, off + i * 3 + 2, none⟩) hb).trans c2
theorem cells68 : Try.prog.cellsOf 68 = 3 := by kernel_rfl
theorem Try.read66 : Try.prog.readableRec 66 = true := by kernel_rfl
section
variable {H : Type} {enc : TypeId × Value → H} {W : World}
/-- what a crash weighs -/
def bulkC (x : Crash3) : Nat := (x.recs.map fun b => b.length + 1).sum
set_option maxRecDepth 100000 in
theorem open_crash_b {fuel : Nat} {cs : List Value} {x : DataW H × List MemPlace} (h : DataW.trod enc Try.prog W 0 (fun _ => true) true fuel 68 cs = some x) :
    ∃ (p : Crash3) (u : Value), cs = [u, .bool p.stop, .int .u8 (p.left.toNat : Int)] ∧ NRest W.heap.size W p.recs u ∧ bulkC p + 1 ≤ Rows.uptoBulk x.1 := by
  obtain ⟨y0, y1, y2, m, rfl, hl, h0, h1, h2⟩ := Deep.trod_struct3 Try.underlying68 h
  rw [cells68] at hl
  match cs, hl with
  | [c0, c1, c2], _ =>
    simp only [cells4, cells5, cells22, List.drop_zero, List.drop_succ_cons, List.take_succ_cons, List.take_zero] at h0 h1 h2
    obtain ⟨xs, u, e0, r0, hbk⟩ := open_nested_b h0
    obtain ⟨b, e1, _⟩ := DataW.trod_bool Try.underlying4 h1
    obtain ⟨k2, e2, _, wk2⟩ := DataW.trod_int Try.underlying5 h2
    have b2 := bounds_u8 wk2
    injection e0 with e0
    injection e1 with e1
    injection e2 with e2
    subst e0 e1 e2
    have q2 : (((UInt8.ofNat k2.toNat).toNat : Nat) : Int) = k2 := by simp; omega
    refine ⟨⟨xs, b, UInt8.ofNat k2.toNat⟩, c0, by simp only [q2], r0, ?_⟩
    simp only [Rows.uptoBulk, Rows.uptoBulkAll, bulkC]
    omega
set_option maxRecDepth 100000 in
theorem open_crashes_b {fuel : Nat} {cs : List Value} {x : DataW H × List MemPlace} (h : DataW.trod enc Try.prog W 0 (fun _ => true) true fuel 66 cs = some x) :
    ∃ (xs : List Crash3) (u : Value), cs = [u] ∧ CRest W.heap.size W xs u ∧ (xs.map fun p => bulkC p + 1).sum + 1 ≤ Rows.uptoBulk x.1 := by
  rcases DataW.trod_slice Try.underlying66 h with ⟨rfl, e4⟩ | ⟨a, len, cap, elems, rest, n2, hfu, rfl, e4, _, hl, hcm, hel, hbind, _, _⟩
  · exact ⟨[], _, rfl, ⟨none, 0, rfl, by simp, by simp [maxLen], fun _ => ⟨rfl, rfl⟩, .inl rfl⟩, by rw [e4]; simp [Rows.uptoBulk]⟩
  · have hex : ∀ i, ∃ p : Crash3 × Value, i < len → W.cell? (a.add (i * 3)) = some p.2 ∧ W.cell? (a.add (i * 3 + 1)) = some (.bool p.1.stop) ∧ W.cell? (a.add (i * 3 + 2)) = some (.int .u8 (p.1.left.toNat : Int)) ∧
        NRest W.heap.size W p.1.recs p.2 ∧ ∀ d, (elems.map (·.1))[i]? = some d → bulkC p.1 + 1 ≤ Rows.uptoBulk d := by
      intro i
      by_cases hi : i < len
      · have hb := hbind i hi
        rw [cells68] at hb
        have hsome : elems[i]? = some (elems[i]'(by omega)) := List.getElem?_eq_getElem (by omega)
        rw [hsome] at hb
        cases hcs : W.cells? 0 (a.add (i * 3)) 3 with
        | none => rw [hcs] at hb; cases hb
        | some cs2 =>
          rw [hcs] at hb
          obtain ⟨_, hlen, hat⟩ := World.cells?_some hcs
          obtain ⟨p, u, rfl, hr, hbk⟩ := open_crash_b (show DataW.trod enc Try.prog W 0 (fun _ => true) true n2 68 cs2 = some (elems[i]'(by omega)) from hb)
          have h0 := hat 0 (by omega)
          have h1 := hat 1 (by omega)
          have h2 := hat 2 (by omega)
          rw [Go.Deep.add_add] at h0 h1 h2
          refine ⟨(p, u), fun _ => ⟨by rw [show a.add (i * 3) = a.add (i * 3 + 0) by rw [Nat.add_zero], h0]; rfl, by rw [h1]; rfl, by rw [h2]; rfl, hr, fun d hd => ?_⟩⟩
          rw [List.getElem?_map, hsome] at hd
          injection hd with hd
          rw [← hd]; exact hbk
      · exact ⟨(⟨[], false, 0⟩, undef), fun h => absurd h hi⟩
    obtain ⟨f, hf2⟩ := Classical.skolem.1 hex
    have hlen : ((List.range len).map fun i => (f i).1).length = len := by simp
    refine ⟨(List.range len).map fun i => (f i).1, _, rfl, ⟨some a, cap, by rw [hlen], by rw [hlen]; omega, hcm, (fun h => by cases h), ?_⟩, ?_⟩
    · rcases Nat.eq_zero_or_pos len with h0 | h0
      · exact .inl (by rw [hlen, h0])
      · right
        have hc0 := (hf2 0 h0).1
        have hsp2 : a.spot = none := by have := spot_none hc0; simpa [Addr.add] using this
        have ha := addr_eta hsp2
        have hblt : a.block < W.heap.size := by
          rw [ha, Addr.add_lit] at hc0
          exact World.block_lt_of_cell? W ⟨a.block, a.off + 0 * 3, none⟩ hc0
        refine ⟨a.block, a.off, by rw [← ha], hblt, fun i y hi => ?_⟩
        simp only [List.getElem?_map, Option.map_eq_some_iff] at hi
        obtain ⟨i', hi', rfl⟩ := hi
        obtain ⟨hi1, hi2⟩ := List.getElem?_eq_some_iff.1 hi'
        simp at hi1 hi2
        subst hi2
        obtain ⟨h1, h2, h3, h4, _⟩ := hf2 i hi1
        rw [ha, Addr.add_lit] at h1 h2 h3
        exact ⟨_, h4, h1, h2, h3⟩
    · rw [e4]
      have h1 := bulk_sum (elems.map (·.1)) (((List.range len).map fun i => (f i).1).map fun p => bulkC p + 1) (by simp [hel]) (fun i d hd n hn => by
        simp only [List.getElem?_map, Option.map_eq_some_iff] at hn
        obtain ⟨b, ⟨i', hi', rfl⟩, rfl⟩ := hn
        obtain ⟨hi1, hi2⟩ := List.getElem?_eq_some_iff.1 hi'
        simp at hi1 hi2
        subst hi2
        exact (hf2 i hi1).2.2.2.2 d (by simpa using hd))
      simp only [Rows.uptoBulk]
      omega
set_option maxRecDepth 100000 in
theorem open_crashes_arg_b {base : Nat} {v : Value} {d : DataW H} {p : List MemPlace} (hv : Value.okWide Try.prog W .any base 66 v) (h : DataW.Trod enc Try.prog W 0 (fun _ => true) true 66 v d p) :
    ∃ xs : List Crash3, CRest W.heap.size W xs v ∧ (xs.map fun p => bulkC p + 1).sum ≤ Rows.uptoBulk d := by
  obtain ⟨a, len, cap, rfl⟩ := okWide_slice Try.underlying66 hv
  obtain ⟨fuel, hf⟩ := h
  obtain ⟨xs, u, hc, hr, hb⟩ := open_crashes_b hf
  have h1 : u = .slice a len cap := by simp [Value.cells] at hc; exact hc.symm
  subst h1
  exact ⟨xs, hr, by have hb' : _ + 1 ≤ Rows.uptoBulk d := hb; omega⟩
end
end Go.Proofs.Ytlaaolbdadempaa
