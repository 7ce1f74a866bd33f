/- An argument that is a list of lists of bytes, opened. -/
import Derived.Test.YtbceimbcjijfgaaDoorZq24
import Derived.Test.YtbceimbcjijfgaaDoorZq20
namespace Go.Proofs.YtbceimbcjijfgaaDoor.Dig
open Go.ChangeShapes Go.WideShapes Go.ChangeAt Go.RowKit Go.ChangeMaps

theorem cells34 : Tryd.prog.cellsOf 34 = 1 := by kernel_rfl
theorem read22 : Tryd.prog.readableRec 22 = true := by kernel_rfl
section
variable {H : Type} {enc : TypeId × Value → H} {W : World}
theorem bytes_cells {fuel : Nat} {cs : List Value} {x : DataW H × List MemPlace} (hf : DataW.trod enc Tryd.prog W 0 (fun _ => true) true fuel 34 cs = some x) : ∃ (bs : List UInt8) (v : Value), cs = [v] ∧ Rest W.heap.size W bs v := by
  rcases DataW.trod_slice Tryd.underlying34 hf with ⟨e3, _⟩ | ⟨a2, len, cap, elems, rest, n2, rfl, e3, _, _, hl, hcm, hel, hbind, _, _⟩
  · exact ⟨[], _, e3, rest_nil _ _⟩
  · have hex : ∀ i, ∃ n : Nat, i < len → n < 256 ∧ W.cell? (a2.add i) = some (.int .u8 (n : Int)) := by
      intro i
      by_cases hi : i < len
      · have hb := hbind i hi
        rw [Tryd.cells5] at hb
        have hsome : elems[i]? = some (elems[i]'(by omega)) := List.getElem?_eq_getElem (by omega)
        rw [hsome] at hb
        cases hcs : W.cells? 0 (a2.add (i * 1)) 1 with
        | none => rw [hcs] at hb; cases hb
        | some cs2 =>
          rw [hcs] at hb
          obtain ⟨k, e0, _, wk⟩ := DataW.trod_int Tryd.underlying5 hb
          have hk := bounds_u8 wk
          obtain ⟨_, _, hat⟩ := World.cells?_some hcs
          have h0 := hat 0 (by omega)
          refine ⟨k.toNat, fun _ => ⟨by omega, ?_⟩⟩
          rw [Go.Deep.add_add] at h0
          rw [show a2.add i = a2.add (i * 1 + 0) by rw [Nat.mul_one, Nat.add_zero], h0, e0, Int.toNat_of_nonneg hk.1]; rfl
      · exact ⟨0, fun h => absurd h hi⟩
    obtain ⟨f, hf2⟩ := Classical.skolem.1 hex
    have hlen : ((List.range len).map fun i => UInt8.ofNat (f i)).length = len := by simp
    refine ⟨(List.range len).map fun i => UInt8.ofNat (f i), _, e3, some a2, cap, by rw [hlen], by rw [hlen]; omega, hcm, (fun h => by cases h), ?_⟩
    rcases Nat.eq_zero_or_pos len with h0 | h0
    · exact .inl (by rw [hlen, h0])
    · right
      have hc0 := (hf2 0 h0).2
      have hsp2 : a2.spot = none := by have := spot_none hc0; simpa [Addr.add] using this
      have ha := addr_eta hsp2
      have hblt : a2.block < W.heap.size := by
        rw [ha, Addr.add_lit] at hc0
        exact World.block_lt_of_cell? W ⟨a2.block, a2.off + 0, none⟩ hc0
      refine ⟨a2.block, a2.off, by rw [← ha], hblt, fun i hi => ?_⟩
      rw [hlen] at hi
      have h1 := (hf2 i hi).2
      rw [ha, Addr.add_lit] at h1
      rw [h1]
      simp [Nat.mod_eq_of_lt (hf2 i hi).1]
theorem open_lists {base : Nat} {v : Value} {d : DataW H} {p : List MemPlace} (hv : Value.okWide Tryd.prog W .any base 22 v) (h : DataW.Trod enc Tryd.prog W 0 (fun _ => true) true 22 v d p) :
    ∃ ls : List (List UInt8), LRest W.heap.size W ls v := by
  obtain ⟨a, len, cap, rfl⟩ := okWide_slice Tryd.underlying22 hv
  obtain ⟨fuel, hf⟩ := h
  rcases DataW.trod_slice Tryd.underlying22 hf with ⟨e3, _⟩ | ⟨a2, len2, cap2, elems, rest, n2, rfl, e3, _, _, hl, hcm, hel, hbind, _, _⟩
  · simp [Value.cells] at e3
    obtain ⟨rfl, rfl, rfl⟩ := e3
    exact ⟨[], none, 0, rfl, Nat.zero_le _, by simp [maxLen], .inl rfl⟩
  · simp [Value.cells] at e3
    obtain ⟨rfl, rfl, rfl⟩ := e3
    have hex : ∀ i, ∃ b : List UInt8, i < len → ∃ xv, W.cell? (a2.add i) = some xv ∧ Rest W.heap.size W b xv := by
      intro i
      by_cases hi : i < len
      · have hb := hbind i hi
        rw [cells34] at hb
        have hsome : elems[i]? = some (elems[i]'(by omega)) := List.getElem?_eq_getElem (by omega)
        rw [hsome] at hb
        cases hcs : W.cells? 0 (a2.add (i * 1)) 1 with
        | none => rw [hcs] at hb; cases hb
        | some cs2 =>
          rw [hcs] at hb
          obtain ⟨b, xv, e0, hr⟩ := bytes_cells hb
          obtain ⟨_, _, hat⟩ := World.cells?_some hcs
          have h0 := hat 0 (by omega)
          refine ⟨b, fun _ => ⟨xv, ?_, hr⟩⟩
          rw [Go.Deep.add_add] at h0
          rw [show a2.add i = a2.add (i * 1 + 0) by rw [Nat.mul_one, Nat.add_zero], h0, e0]; rfl
      · exact ⟨[], fun h => absurd h hi⟩
    obtain ⟨f, hf2⟩ := Classical.skolem.1 hex
    have hlen : ((List.range len).map f).length = len := by simp
    refine ⟨(List.range len).map f, some a2, cap, by rw [hlen], by rw [hlen]; omega, hcm, ?_⟩
    rcases Nat.eq_zero_or_pos len with h0 | h0
    · exact .inl (by rw [hlen, h0])
    · right
      obtain ⟨xv0, hc0, _⟩ := hf2 0 h0
      have hsp2 : a2.spot = none := by have := spot_none hc0; simpa [Addr.add] using this
      have ha := addr_eta hsp2
      have hblt : a2.block < W.heap.size := by
        rw [ha, Addr.add_lit] at hc0
        exact World.block_lt_of_cell? W ⟨a2.block, a2.off + 0, none⟩ hc0
      refine ⟨a2.block, a2.off, by rw [← ha], hblt, fun i hi => ?_⟩
      rw [hlen] at hi
      obtain ⟨xv, h1, hr⟩ := hf2 i hi
      rw [ha, Addr.add_lit] at h1
      exact ⟨xv, h1, by rw [show ((List.range len).map f).getD i [] = f i by simp [hi]]; exact hr⟩
end
end Go.Proofs.YtbceimbcjijfgaaDoor.Dig

/- Few: the reference's function. -/
namespace Go.Proofs.YtbceimbcjijfgaaDoor.Dig
open Go.RowKit

def fewB (ls : List (List UInt8)) : Bool := decide (ls.length ≤ 40) && ls.all fun b => decide (b.length ≤ 200)
def FwHead (w : World) (ls : List (List UInt8)) (s2 : Value) (wr : World) : Prop := ∃ k : Nat, s2 = .int .i64 (k : Int) ∧ k ≤ ls.length ∧ k ≤ 40 ∧ (∀ j, j < k → (ls.getD j []).length ≤ 200) ∧ wr = w
set_option maxHeartbeats 4000000 in
set_option maxRecDepth 100000 in
theorem Few_call (ls : List (List UInt8)) (v : Value) (w : World) (hr : LRest w.heap.size w ls v) :
    Calls Tryd.prog 11 #[v] w fun e w' => e = .returned (.bool (fewB ls)) ∧ w' = w := by
  obtain ⟨a, cap, rfl⟩ : ∃ a cap, v = .slice a ls.length cap := by obtain ⟨a, cap, h, _⟩ := hr; exact ⟨a, cap, h⟩
  have HR := Lib.hid hr
  obtain ⟨n, hn⟩ : ∃ n, n = ls.length := ⟨_, rfl⟩
  rw [← hn] at HR ⊢
  have HN := Lib.hid hn
  clear hr hn
  go_enter Tryd.func11, Tryd.ntmps11
  go_wp2_with fail
  go_loopw [3] (fun s3 wr => FwHead w ls s3 wr) (fun s3 _ => 41 - (intOf s3).toNat)
  case atStart => exact ⟨0, rfl, Nat.zero_le _, Nat.zero_le _, fun j hj => absurd hj (Nat.not_lt_zero j), rfl⟩
  case round =>
    obtain ⟨k, rfl, hk1, hk2, hall, rfl⟩ := hrel
    rw [← HN.out] at hk1
    have HALL := Lib.hid hall
    have hki : (k : Int) ≤ 40 := by omega
    by_cases hc : k < n ∧ k < 40
    · obtain ⟨h1, h2⟩ := hc
      have h1i : (k : Int) < (n : Int) := by omega
      have h2i : (k : Int) < 40 := by omega
      obtain ⟨b, off, rfl⟩ : ∃ b off, a = some ⟨b, off, none⟩ := by
        obtain ⟨a', cap', h3, _, _, h4⟩ := HR.out
        injection h3 with e1 _ _
        rcases h4 with h0 | ⟨b, off, ha, _, _⟩
        · rw [← HN.out] at h0; omega
        · exact ⟨b, off, by rw [e1, ha]⟩
      obtain ⟨_, xv, ck, hx⟩ := LRest.at HR.out k (by rw [← HN.out]; exact h1)
      obtain ⟨xa, xc, rfl⟩ : ∃ xa xc, xv = .slice xa (ls.getD k []).length xc := by obtain ⟨xa, xc, h, _⟩ := hx; exact ⟨xa, xc, h⟩
      obtain ⟨xl, hxl⟩ : ∃ xl, xl = (ls.getD k []).length := ⟨_, rfl⟩
      rw [← hxl] at ck
      have HXL := Lib.hid hxl
      clear hx hxl hall
      by_cases h200 : xl ≤ 200
      · have hx2 : ¬ (200 : Int) < (xl : Int) := by omega
        go_wp2_with fail
        exact ⟨⟨k + 1, by go_num, by rw [← HN.out]; omega, by omega, fun j hj => by
          rcases Nat.lt_or_ge j k with h | h
          · exact HALL.out j h
          · obtain rfl : j = k := by omega
            rw [← HXL.out]; exact h200, rfl⟩, by simp [intOf]; omega⟩
      · have hx2 : (200 : Int) < (xl : Int) := by omega
        have HF : Hid (fewB ls = false) := Lib.hid (by
          unfold fewB
          have h5 : ¬ (ls.all fun b => decide (b.length ≤ 200)) = true := fun h => by
            have h6 := List.all_eq_true.1 h (ls.getD k []) (by rw [show ls.getD k [] = ls[k]'(by rw [← HN.out]; exact h1) by simp [show k < ls.length by rw [← HN.out]; exact h1]]; exact List.getElem_mem _)
            simp at h6
            have := HXL.out
            simp at this
            omega
          simp only [Bool.not_eq_true] at h5
          rw [h5, Bool.and_false])
        go_wp2_with fail
        go_ret
        exact ⟨by rw [HF.out]; rfl, rfl⟩
    · have HF : Hid (fewB ls = decide (n ≤ 40)) := Lib.hid (by
        unfold fewB
        rw [← HN.out]
        by_cases h5 : n ≤ 40
        · have h6 : (ls.all fun b => decide (b.length ≤ 200)) = true := List.all_eq_true.2 fun x hx => by
            obtain ⟨j, hj, rfl⟩ := List.getElem_of_mem hx
            have h7 := HALL.out j (by rw [← HN.out] at hj; omega)
            rw [show ls.getD j [] = ls[j] by simp [hj]] at h7
            simpa using h7
          rw [h6, Bool.and_true]
        · rw [decide_eq_false h5, Bool.false_and])
      by_cases h1 : k < n
      · have h1i : (k : Int) < (n : Int) := by omega
        have h2i : ¬ (k : Int) < 40 := by omega
        have h3i : ¬ (n : Int) ≤ 40 := by omega
        have h3 : decide (n ≤ 40) = false := decide_eq_false (by omega)
        clear hc hall
        go_wp2_with fail
        go_ret
        exact ⟨by rw [HF.out, h3]; rfl, rfl⟩
      · have h1i : ¬ (k : Int) < (n : Int) := by omega
        have h3i : (n : Int) ≤ 40 := by omega
        have h3 : decide (n ≤ 40) = true := decide_eq_true (by omega)
        clear hc hall
        go_wp2_with fail
        go_ret
        exact ⟨by rw [HF.out, h3]; rfl, rfl⟩
end Go.Proofs.YtbceimbcjijfgaaDoor.Dig
