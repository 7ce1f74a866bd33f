/- Pending writes from the last one to the first: the library's iterator. -/
import Derived.RangeFuncNested
import Derived.RangeFuncBound
import Derived.RangeFuncCalls
import Derived.RangeFuncLeaves
import Derived.Shelf.Abstract
import Derived.Shelf.RegionOpen
import Derived.WalkKit
import Derived.OwnWalkIn
import Derived.TacticsInMore
import Derived.LoopNIn
import Derived.LoopIn
import Derived.Test.YtlaaolbdadempaaZe5
namespace Go.Proofs.Ytlaaolbdadempaa
open Go.RowKit Go.Shelf
attribute [local go_sem] Oper.semAt_some

/-- what has come when k rounds are over: the places n - 1, n - 2 and so on -/
def down (n k : Nat) : List Nat := (List.range k).map fun i => n - 1 - i
theorem down_succ (n k : Nat) : down n (k + 1) = down n k ++ [n - 1 - k] := by simp [down, List.range_succ]
theorem down_len (n k : Nat) : (down n k).length = k := by simp [down]
/-- in world W the slice sv holds n writes: at place j the index av j and the bytes at uv j -/
def Wrs (n₀ : Nat) (W : World) (sv : Value) (n : Nat) (av : Nat → Int) (uv : Nat → Value) : Prop :=
  (∃ a cap, sv = .slice a n cap ∧ cap ≤ 9223372036854775807 ∧ n ≤ cap) ∧ (n = 0 ∨ ∃ b off cap, sv = .slice (some ⟨b, off, none⟩) n cap ∧ b < n₀ ∧ ∀ j, j < n → W.cell? ⟨b, off + j * 2, none⟩ = some (.int .i64 (av j)) ∧ W.cell? ⟨b, off + j * 2 + 1, none⟩ = some (uv j))
theorem Wrs.below {n₀ : Nat} {A B : World} (h : Below n₀ A B) {sv n av uv} (k : Wrs n₀ A sv n av uv) : Wrs n₀ B sv n av uv := by
  refine ⟨k.1, ?_⟩
  rcases k.2 with h0 | ⟨b, off, cap, h1, h2, h3⟩
  · exact .inl h0
  · exact .inr ⟨b, off, cap, h1, h2, fun j hj => ⟨(h.cell (p := ⟨b, off + j * 2, none⟩) h2).trans (h3 j hj).1, (h.cell (p := ⟨b, off + j * 2 + 1, none⟩) h2).trans (h3 j hj).2⟩⟩
set_option maxRecDepth 100000 in
set_option maxHeartbeats 2000000 in
theorem back1_in (F : Fence) (q : Nat) (h78 : F.fn 78) (hro : F.round = none) (hq : 1 ≤ q) (l Bs n₀ n : Nat) (sv : Value) (av : Nat → Int) (uv : Nat → Value) (J Jx : List Nat → World → Prop)
    (hY : ∀ pre (x : Nat) W, J pre W → pre.length < n → YieldAt F (q - 1) Try.prog l #[.int .i64 (x : Int), .agg #[.int .i64 (av x), uv x]] W fun e W' =>
      (e = .returned (.bool true) ∧ J (pre ++ [x]) W' ∧ Below n₀ W W') ∨ (e = .returned (.bool false) ∧ Jx (pre ++ [x]) W'))
    (W : World) (hBs : W.cell? ⟨Bs, 0, none⟩ = some sv) (hBn : Bs < n₀) (hc : Wrs n₀ W sv n av uv) (h0 : J [] W) :
    CallsIn F q Try.prog 78 #[.func (.yield l) #[] #[], .pointer (some ⟨Bs, 0, none⟩)] W fun e W' => (∃ v, e = .returned v) ∧
      ((∃ ys, ys = down n n ∧ J ys W') ∨ (∃ pre, (∃ k, k ≤ n ∧ pre = down n k) ∧ Jx pre W')) := by
  obtain ⟨⟨a, cap, rfl, hc1, hc2⟩, hel⟩ := hc
  refine callsIn_of_wp Try.func78 rfl h78 ?_ hro
  simp only [Try.ntmps78, List.size_toArray, List.length_cons, List.length_nil, Nat.reduceAdd, Nat.reduceSub, Array.replicate_succ, Array.replicate_zero, List.push_toArray, List.append_toArray, List.nil_append, List.cons_append]
  gi_wp2
  gi_loopw [3] (fun i wr => ∃ (k : Nat) (j : Int), (j + 1 + k = n ∧ k ≤ n) ∧ i = .int .i64 j ∧ J (down n k) wr ∧ Below n₀ W wr)
    (fun i _ => (intOf i + 1).toNat)
  case atStart => exact ⟨0, (n : Int) - 1, ⟨by omega, by omega⟩, rfl, h0, Below.refl _ _⟩
  case round =>
    obtain ⟨k, j, ⟨hjk, hkn0⟩, rfl, hJs, hnx⟩ := hrel
    have hbs : wr.cell? ⟨Bs, 0, none⟩ = some (.slice a n cap) := (hnx.cell (p := ⟨Bs, 0, none⟩) hBn).trans hBs
    by_cases hlt : 0 ≤ j
    · obtain ⟨i, rfl⟩ : ∃ i : Nat, j = i := ⟨j.toNat, by omega⟩
      have hnn : n = i + 1 + k := by omega
      rcases hel with hel | ⟨b, off, cap', he, hb, hcs⟩
      · omega
      · injection he with he1 he2 he3
        subst he1 he3
        obtain ⟨fn, tmps, assign, body, hy, hR⟩ := hY _ i wr hJs (by rw [down_len]; omega)
        have hcx := (hnx.cell (p := ⟨b, off + i * 2, none⟩) hb).trans (hcs i (by omega)).1
        have hcx1 := (hnx.cell (p := ⟨b, off + i * 2 + 1, none⟩) hb).trans (hcs i (by omega)).2
        have hin : (i : Int) < (n : Int) := by omega
        have hds : down n (k + 1) = down n k ++ [i] := by rw [down_succ, show n - 1 - k = i by omega]
        have HDS := Lib.hid hds
        have HNN := Lib.hid hnn
        have HKN : Hid (k + 1 ≤ n) := Lib.hid (by omega)
        clear hcs hBs hjk hds hnn
        gi_wp2
        refine hR.mono ?_
        rintro e W3 (⟨rfl, hJ3, hk3⟩ | ⟨rfl, hJx3⟩)
        · gi_wp2
          go_roundw
          case rel => exact ⟨k + 1, (i : Int) - 1, ⟨by have := HNN.out; omega, HKN.out⟩, rfl, by rw [HDS.out]; exact hJ3, hnx.trans hk3⟩
          case measure => simp [intOf] <;> omega
        · gi_wp2
          refine bodyPost_ret (results_none rfl _ _ _) rfl ?_
          exact ⟨⟨_, rfl⟩, .inr ⟨_, ⟨k + 1, HKN.out, HDS.out.symm⟩, hJx3⟩⟩
    · obtain rfl : k = n := by omega
      gi_wp2
      go_end0
      first | exact ⟨⟨_, rfl⟩, .inl ⟨_, rfl, hJs⟩⟩ | exact ⟨⟨_, rfl⟩, .inl hJs⟩
set_option maxHeartbeats 1000000 in
theorem back_in (F : Fence) (q : Nat) (h56 : F.fn 56) (hro : F.round = none) (a : Option Addr) (n cap : Nat) (w : World) :
    CallsIn F q Try.prog 56 #[.slice a n cap] w fun e w' => e = .returned (.func (.func 78) #[] #[.pointer (some ⟨w.heap.size, 0, none⟩)]) ∧ w' = w.alloc (.cells #[.slice a n cap] 23) := by
  refine callsIn_of_wp Try.func56 rfl h56 ?_ hro
  simp only [Try.ntmps56, List.size_toArray, List.length_cons, List.length_nil, Nat.reduceAdd, Nat.reduceSub, Array.replicate_succ, Array.replicate_zero, List.push_toArray, List.append_toArray, List.nil_append, List.cons_append]
  gi_wp2
  go_ret
  exact ⟨rfl, rfl⟩
def encW (av : Nat → Int) (uv : Nat → Value) (x : Nat) : Array Value := #[Value.int .i64 (x : Int), .agg #[.int .i64 (av x), uv x]]
theorem back_stops (F : Fence) (q : Nat) (h78 : F.fn 78) (hro : F.round = none) (hq : 1 ≤ q) (Bs n₀ n : Nat) (sv : Value) (av : Nat → Int) (uv : Nat → Value) (w : World) (hBs : Bs < n₀) (hn₀ : n₀ ≤ w.heap.size)
    (hc : w.cell? ⟨Bs, 0, none⟩ = some sv) (hI : Wrs n₀ w sv n av uv) :
    SeqStopsK F q Try.prog 78 #[.pointer (some ⟨Bs, 0, none⟩)] (encW av uv) (Below n₀) (fun ys => ys = down n n) (fun pre => ∃ k, k ≤ n ∧ pre = down n k) n w := fun l J Jx W hW _ _ hY h0 => by
  have hc' := (hW.cell (p := ⟨Bs, 0, none⟩) (show Bs < w.heap.size by omega)).trans hc
  exact back1_in F q h78 hro hq l Bs n₀ n sv av uv J Jx hY W hc' hBs (hI.below (hW.mono hn₀)) h0
end Go.Proofs.Ytlaaolbdadempaa
