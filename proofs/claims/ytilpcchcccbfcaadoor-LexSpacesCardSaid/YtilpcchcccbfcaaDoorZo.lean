/- An argument that is a list of tokens, opened. -/
import Derived.Test.YtilpcchcccbfcaaDoorZ
import Derived.Test.YtilpcchcccbfcaaDoorP
import Derived.SizedLaws
import Derived.Lib.SmallJoins
namespace Go.Proofs.YtilpcchcccbfcaaDoor
open Go.RowKit Go.ChangeShapes Go.WideShapes Go.ChangeAt

theorem cells35 : Tryd.prog.cellsOf 35 = 4 := by kernel_rfl
theorem cells3 : Tryd.prog.cellsOf 3 = 1 := by kernel_rfl
theorem bytes35 : Tryd.prog.bytesOf 35 = 40 := by kernel_rfl
theorem Tryd.laidOut : laidOutB Tryd.prog = true := by kernel_rfl
theorem Tryd.read23 : Tryd.prog.readableRec 23 = true := by kernel_rfl
theorem weightsAll_mem {H : Type} {P : Program} {e : TypeId} : ∀ {l : List (DataW H)} {d : DataW H}, d ∈ l → ∀ n ∈ d.weights P e, n ∈ DataW.weightsAll P e l
  | [], _, h, _, _ => by cases h
  | x :: r, d, h, n, hn => by
    rw [DataW.weightsAll]
    rcases List.mem_cons.1 h with rfl | h
    · exact List.mem_append_left _ hn
    · exact List.mem_append_right _ (weightsAll_mem h n hn)
theorem spot_none {w : World} {a : Addr} {v : Value} (h : w.cell? a = some v) : a.spot = none := by
  cases hs : a.spot with
  | none => rfl
  | some x =>
    unfold World.cell? at h
    split at h
    · rw [hs] at h; simp at h
    · cases h
theorem addr_eta {a : Addr} (h : a.spot = none) : a = ⟨a.block, a.off, none⟩ := by
  obtain ⟨b, o, s⟩ := a
  simp at h; subst h; rfl

section
variable {H : Type} {enc : TypeId × Value → H} {W : World}
set_option maxRecDepth 100000 in
/-- one token, opened -/
theorem open_tok {n : Nat} {cs : List Value} {x : DataW H × List MemPlace} (h : DataW.trod enc Tryd.prog W 0 (fun _ => true) true n 35 cs = some x) :
    ∃ t : Tok, cs = tokCells t ∧ (-9223372036854775808 ≤ t.n ∧ t.n ≤ 9223372036854775807) ∧ t.text.length ∈ x.1.weights Tryd.prog 35 := by
  obtain ⟨y0, y1, y2, y3, m, rfl, hl, h0, h1, h2, h3⟩ := Joins.trod_struct4 Tryd.underlying35 h
  rw [cells35] at hl
  match cs, hl with
  | [c0, c1, c2, c3], _ =>
    simp only [cells3, cells9, List.drop_zero, List.drop_succ_cons, List.take_succ_cons, List.take_zero] at h0 h1 h2 h3
    obtain ⟨k, e0, rfl, w0⟩ := DataW.trod_int Tryd.underlying3 h0
    obtain ⟨s, e1, rfl, hs⟩ := DataW.trod_string Tryd.underlying9 h1
    obtain ⟨v, e2, rfl, w2⟩ := DataW.trod_int Tryd.underlying3 h2
    obtain ⟨z, e3, rfl, w3⟩ := DataW.trod_int Tryd.underlying3 h3
    injection e0 with e0
    injection e1 with e1
    injection e2 with e2
    injection e3 with e3
    subst e0 e1 e2 e3
    refine ⟨⟨k, s.data.toList, v, z⟩, rfl, bounds_i64 w2, ?_⟩
    simp [DataW.weights, DataW.weightsEach, Tryd.underlying35]
set_option maxRecDepth 100000 in
theorem open_toks {base : Nat} {v : Value} {d : DataW H} {p : List MemPlace} (hv : Value.okWide Tryd.prog W .any base 23 v) (h : DataW.Trod enc Tryd.prog W 0 (fun _ => true) true 23 v d p) (hsz : ∀ n ∈ d.weights Tryd.prog 23, n ≤ reachBytes) :
    ∃ ts : List Tok, TRest W.heap.size W ts v ∧ ts.length ≤ 4611686018427387904 ∧ ∀ t ∈ ts, TokOk t := by
  obtain ⟨a, len, cap, rfl⟩ := okWide_slice Tryd.underlying23 hv
  obtain ⟨fuel, hf⟩ := h
  rcases DataW.trod_slice Tryd.underlying23 hf with ⟨e3, _⟩ | ⟨a2, len2, cap2, elems, rest, n2, rfl, e3, he, _, hl, hcm, hel, hbind, _, _⟩
  · simp [Value.cells] at e3
    obtain ⟨rfl, rfl, rfl⟩ := e3
    exact ⟨[], trest_nil _ _, by simp, fun t ht => by cases ht⟩
  · simp [Value.cells] at e3
    obtain ⟨rfl, rfl, rfl⟩ := e3
    have hd : d = .slice (elems.map (·.1)) (rest.map (·.1)) := congrArg Prod.fst he
    have hrb : reachBytes = 140737488351232 := rfl
    have hlen : len ≤ 140737488351232 := by
      have := hsz ((elems.length + rest.length) * 40) (by rw [hd]; simp [DataW.weights, Tryd.underlying23, bytes35])
      omega
    have hex : ∀ i, ∃ t : Tok, i < len → (∀ j u, (tokCells t)[j]? = some u → W.cell? (a2.add (i * 4 + j)) = some u) ∧ TokOk t := by
      intro i
      by_cases hi : i < len
      · have hb := hbind i hi
        rw [cells35] at hb
        have hsome : elems[i]? = some (elems[i]'(by omega)) := List.getElem?_eq_getElem (by omega)
        rw [hsome] at hb
        cases hcs : W.cells? 0 (a2.add (i * 4)) 4 with
        | none => rw [hcs] at hb; cases hb
        | some cs2 =>
          rw [hcs] at hb
          obtain ⟨t, e0, hbn, hw⟩ := open_tok hb
          obtain ⟨_, _, hat⟩ := World.cells?_some hcs
          refine ⟨t, fun _ => ⟨fun j u hj => ?_, ?_, hbn⟩⟩
          · have hj4 : j < 4 := by have := (List.getElem?_eq_some_iff.1 hj).1; rwa [tokCells_len] at this
            have h0 := hat j hj4
            rw [Go.Deep.add_add] at h0
            rw [h0, e0]; exact hj
          · have hmem : (elems[i]'(by omega)).1 ∈ elems.map (·.1) := List.mem_map_of_mem (List.getElem_mem _)
            have := hsz t.text.length (by
              rw [hd]
              simp only [DataW.weights, Tryd.underlying23]
              exact List.mem_cons_of_mem _ (List.mem_append_left _ (weightsAll_mem hmem _ hw)))
            omega
      · exact ⟨⟨0, [], 0, 0⟩, fun h => absurd h hi⟩
    obtain ⟨f, hf2⟩ := Classical.skolem.1 hex
    have hll : ((List.range len).map f).length = len := by simp
    refine ⟨(List.range len).map f, ⟨some a2, cap, by rw [hll], by rw [hll]; omega, hcm, (fun h => by cases h), ?_⟩, by rw [hll]; omega, fun t ht => ?_⟩
    · rcases Nat.eq_zero_or_pos len with h0 | h0
      · exact .inl (by rw [hll, h0])
      · right
        have hc0 := (hf2 0 h0).1 0 _ rfl
        have hsp2 : a2.spot = none := by have := spot_none hc0; simpa [Addr.add] using this
        have ha := addr_eta hsp2
        refine ⟨a2.block, a2.off, by rw [← ha], ?_, fun i t hi j u hj => ?_⟩
        · rw [ha, Addr.add_lit] at hc0
          exact World.block_lt_of_cell? W ⟨a2.block, a2.off + (0 * 4 + 0), none⟩ hc0
        · simp only [List.getElem?_map, Option.map_eq_some_iff] at hi
          obtain ⟨i', hi', rfl⟩ := hi
          obtain ⟨hi1, hi2⟩ := List.getElem?_eq_some_iff.1 hi'
          simp at hi1 hi2
          subst hi2
          have h1 := (hf2 i hi1).1 j u hj
          rw [ha, Addr.add_lit] at h1
          rw [← h1]; congr 2; omega
    · simp only [List.mem_map, List.mem_range] at ht
      obtain ⟨i, hi, rfl⟩ := ht
      exact (hf2 i hi).2
end
end Go.Proofs.YtilpcchcccbfcaaDoor
