/- passesOn: does each other vertex pass on what it gets? -/
import Derived.Test.YtbmbddapbgnioaaGb
namespace Go.Proofs.Ytbmbddapbgnioaa
open Go.RowKit Go.Shelf

def psB (E : List Int) (s t : Int) : Bool := (List.range 64).all (fun v : Nat => decide (E.getD v 0 = 0 ∨ (v : Int) = s ∨ (v : Int) = t))
theorem ps_yes {E : List Int} {s t : Int} (h : ∀ v : Nat, v < 64 → E.getD v 0 = 0 ∨ (v : Int) = s ∨ (v : Int) = t) : psB E s t = true := by
  unfold psB
  rw [List.all_eq_true]
  intro v hv
  exact decide_eq_true (h v (List.mem_range.1 hv))
theorem ps_no {E : List Int} {s t : Int} {v : Nat} (hv : v < 64) (h : ¬ (E.getD v 0 = 0 ∨ (v : Int) = s ∨ (v : Int) = t)) : psB E s t = false := by
  unfold psB
  rw [List.all_eq_false]
  exact ⟨v, List.mem_range.2 hv, by rw [decide_eq_false h]; simp⟩
theorem idx50 (cs : Array Value) (k : Nat) (x : Int) (w : World) (hk : k < 64) (h : cs[k]? = some (.int .i64 x)) : (Instr.index 50 (.agg cs) (.int .i64 (k : Int))).run Try.prog w = .ok (.int .i64 x) w := by
  obtain ⟨i0, hi, hz⟩ := info_parts Try.infoI
  simp only [Prod.mk.injEq] at hz
  obtain ⟨hz0, hz1, hz2⟩ := hz
  have h1 : (k : Int) < 64 := by omega
  simp [Instr.index, run_underlying Try.underlying50, run_underlying Try.underlying3, asIntOf, h1, sizeOf, typeInfo, hi, hz1, part, isAgg, h, go_sem]
  intro h2; omega
set_option maxRecDepth 100000 in
set_option maxHeartbeats 8000000 in
theorem passes_call (N s t : Int) (E : List Int) (va : Value) (w : World) (hE : E.length = 64) :
    Calls Try.prog 26 #[netV N s t va, .agg (nums E).toArray] w fun e w' => e = .returned (.bool (psB E s t)) ∧ Below w.heap.size w w' := by
  obtain ⟨cs, hcs⟩ : ∃ cs, cs = (nums E).toArray := ⟨_, rfl⟩
  have hat : ∀ v : Nat, v < 64 → cs[v]? = some (.int .i64 (E.getD v 0)) := fun v hv => by rw [hcs]; simp [nums, hE, hv]
  have hsz : cs.size = 64 := by rw [hcs]; simp [nums, hE]
  rw [← hcs]
  have HAT := Lib.hid hat
  have HSZ : Hid ((Try.prog.info? 50).map (·.size) = some cs.size) := Lib.hid (by rw [hsz]; kernel_rfl)
  have HS64 := Lib.hid hsz
  clear hcs hat hsz
  unfold netV
  have HX := Lib.hid (bx_new w N s t va)
  have HS1 : Hid ((w.alloc (.cells #[.int .i64 N, .int .i64 s, .int .i64 t, va] 24)).heap.size = w.heap.size + 1) := Lib.hid (World.size_alloc ..)
  obtain ⟨W1, hW1⟩ : ∃ W1, W1 = w.alloc (.cells #[.int .i64 N, .int .i64 s, .int .i64 t, va] 24) := ⟨_, rfl⟩
  have HW1 := Lib.hid hW1
  rw [← hW1] at HX HS1
  clear hW1
  have q2 : (W1.alloc (.cells cs 50)).heap[w.heap.size + 1]? = some (.cells cs 50 (0, 0)) := by rw [← HS1.out]; exact heap_alloc_new W1 _
  have HX2 := Lib.hid (HX.out.keep (Joins.below_alloc1 W1 (.cells cs 50)))
  obtain ⟨W2, hW2⟩ : ∃ W2, W2 = W1.alloc (.cells cs 50) := ⟨_, rfl⟩
  have HW2 := Lib.hid hW2
  rw [← hW2] at HX2 q2
  have HQ2 := Lib.hid q2
  clear hW2 q2 HX HS1
  go_enter Try.func26, Try.ntmps26
  go_upto_region 1 with (fail)
  rw [← HW1.out, ← HW2.out]
  clear HW1 HW2
  have d1 := HX2.out.row.cell (i := 1) rfl
  have d2 := HX2.out.row.cell (i := 2) rfl
  have HB := Lib.hid HX2.out.bw
  clear HX2
  go_wp2_with (refine wpList_load_row rfl 50 (.tmp 3) rfl (w.heap.size + 1) rfl 50 cs (0, 0) _ HQ2.out Try.underlying50 rfl HSZ.out ?_)
  go_loopw [8] (fun s8 wr => ∃ (k : Nat), k ≤ 64 ∧ s8 = .int .i64 (k : Int) ∧ wr = W2 ∧ ∀ v : Nat, v < k → E.getD v 0 = 0 ∨ (v : Int) = s ∨ (v : Int) = t) (fun s8 _ => 64 - (intOf s8).toNat)
  case atStart => exact ⟨0, by omega, rfl, rfl, fun v h => by omega⟩
  case round =>
    obtain ⟨k, hk, rfl, rfl, hall⟩ := hrel
    have HK := Lib.hid hk
    have HALL := Lib.hid hall
    clear hk hall
    by_cases hlt : k < 64
    · have hki : (k : Int) < 64 := by omega
      have e0 := HAT.out k hlt
      have e9 := fun W => idx50 cs k _ W hlt e0
      obtain ⟨x, hx⟩ : ∃ x, x = E.getD k 0 := ⟨_, rfl⟩
      rw [← hx] at e0 e9
      have HEQ := Lib.hid hx
      have HLT := Lib.hid hlt
      have hs64 := HS64.out
      clear hx hlt
      by_cases hx0 : x = 0
      · subst hx0
        go_wp2_with fail
        exact ⟨⟨k + 1, by have := HLT.out; omega, by go_num, by trivial, fun v hv => by
           rcases Nat.lt_or_ge v k with h9 | h9
           · exact HALL.out v h9
           · obtain rfl : v = k := by omega
             exact .inl HEQ.out.symm⟩, by have := HLT.out; simp [intOf]; omega⟩
      · by_cases hs : (k : Int) = s
        · subst hs
          go_wp2_with fail
          exact ⟨⟨k + 1, by have := HLT.out; omega, by go_num, by trivial, fun v hv => by
             rcases Nat.lt_or_ge v k with h9 | h9
             · exact HALL.out v h9
             · obtain rfl : v = k := by omega
               exact .inr (.inl rfl)⟩, by have := HLT.out; simp [intOf]; omega⟩
        · by_cases ht : (k : Int) = t
          · subst ht
            go_wp2_with fail
            exact ⟨⟨k + 1, by have := HLT.out; omega, by go_num, by trivial, fun v hv => by
               rcases Nat.lt_or_ge v k with h9 | h9
               · exact HALL.out v h9
               · obtain rfl : v = k := by omega
                 exact .inr (.inr rfl)⟩, by have := HLT.out; simp [intOf]; omega⟩
          · have g1 : (x != 0) = true := by simp [hx0]
            have g2 : ((k : Int) != s) = true := by simp [hs]
            have g3 : ((k : Int) != t) = true := by simp [ht]
            have HAF : Hid (psB E s t = false) := Lib.hid (ps_no HLT.out (by rw [← HEQ.out]; omega))
            go_wp2_with fail
            go_ret
            exact ⟨by rw [HAF.out]; rfl, HB.out⟩
    · obtain rfl : k = 64 := by have := HK.out; omega
      have HAF : Hid (psB E s t = true) := Lib.hid (ps_yes HALL.out)
      go_wp2_with fail
      go_ret
      exact ⟨by rw [HAF.out]; rfl, HB.out⟩
end Go.Proofs.Ytbmbddapbgnioaa
