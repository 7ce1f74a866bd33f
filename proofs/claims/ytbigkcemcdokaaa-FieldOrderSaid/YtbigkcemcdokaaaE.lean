/- The points but one: the program's iterator. -/
import Derived.Test.YtbigkcemcdokaaaD
namespace Go.Proofs.Ytbigkcemcdokaaa
open Go.RowKit Go.Shelf
attribute [local go_sem] Oper.semAt_some

/-- the places below k but i -/
def oth (i k : Nat) : List Nat := (List.range k).filter (· != i)
theorem oth_zero (i : Nat) : oth i 0 = [] := rfl
theorem oth_same (i : Nat) : oth i (i + 1) = oth i i := by simp [oth, List.range_succ]
theorem oth_succ {i k : Nat} (h : k ≠ i) : oth i (k + 1) = oth i k ++ [k] := by simp [oth, List.range_succ, h]
theorem oth_len (i k : Nat) : (oth i k).length ≤ k := by
  unfold oth; exact Nat.le_trans (List.length_filter_le _ _) (by simp)
def encP (l : List (Int × Int)) (x : Nat) : Array Value := #[.agg #[.int .i64 (l.getD x (0, 0)).1, .int .i64 (l.getD x (0, 0)).2]]
set_option maxRecDepth 100000 in
set_option maxHeartbeats 4000000 in
theorem others_tells (q : Nat) (hq : 1 ≤ q) (Bs Bi : Nat) (B : Nat → Prop) (l : List (Int × Int)) (ix : Nat) (a : Option Addr) (cap : Nat) (w : World) (hBs : B Bs) (hBi : B Bi) (hBn : ∀ b, B b → b < w.heap.size) (hc : w.cell? ⟨Bs, 0, none⟩ = some (.slice a l.length cap)) (hci : w.cell? ⟨Bi, 0, none⟩ = some (.int .i64 (ix : Int)))
    (hcap : l.length ≤ cap ∧ cap ≤ maxLen) (hel : l.length = 0 ∨ ∃ b off, a = some ⟨b, off, none⟩ ∧ B b ∧ ∀ i (h : i < l.length), w.cell? ⟨b, off + i * 2, none⟩ = some (.int .i64 l[i].1) ∧ w.cell? ⟨b, off + i * 2 + 1, none⟩ = some (.int .i64 l[i].2)) :
    Tells Fence.wide q Try.prog 30 #[.pointer (some ⟨Bs, 0, none⟩), .pointer (some ⟨Bi, 0, none⟩)] (encP l) (fun _ _ => True) B (fun ys => ys = oth ix l.length) l.length w := by
  intro y J W hW hJ hY h0
  have hBs' := (hW.cell (p := ⟨Bs, 0, none⟩) (hBn Bs hBs)).trans hc
  have hBi' := (hW.cell (p := ⟨Bi, 0, none⟩) (hBn Bi hBi)).trans hci
  have HE : Hid (∀ i, i < l.length → ∀ W', Kp2 B W W' → ∃ b off, a = some ⟨b, off, none⟩ ∧ W'.cell? ⟨b, off + i * 2, none⟩ = some (.int .i64 (l.getD i (0, 0)).1) ∧ W'.cell? ⟨b, off + i * 2 + 1, none⟩ = some (.int .i64 (l.getD i (0, 0)).2)) := Lib.hid (fun i hi W' hk => by
    rcases hel with h | ⟨b, off, ha, hb, hcl⟩
    · omega
    · have e : l.getD i (0, 0) = l[i] := by simp [hi]
      rw [e]
      exact ⟨b, off, ha, hk.2.cell hb ((hW.cell (p := ⟨b, off + i * 2, none⟩) (hBn b hb)).trans (hcl i hi).1), hk.2.cell hb ((hW.cell (p := ⟨b, off + i * 2 + 1, none⟩) (hBn b hb)).trans (hcl i hi).2)⟩)
  obtain ⟨hc1, hc2⟩ := hcap
  unfold maxLen at hc2
  obtain ⟨n, hn⟩ : ∃ n, n = l.length := ⟨_, rfl⟩
  rw [← hn] at hBs' hY HE hc1 ⊢
  have hnm : (n : Int) ≤ 9223372036854775807 := by omega
  clear hel hc hci hW hn hc1 hc2
  refine callsIn_of_wp Try.func30 rfl trivial ?_ rfl
  simp only [Try.ntmps30, List.size_toArray, List.length_cons, List.length_nil, Nat.reduceAdd, Nat.reduceSub, Array.replicate_succ, Array.replicate_zero, List.push_toArray, List.append_toArray, List.nil_append, List.cons_append]
  gi_wp2
  gi_loopw [8] (fun i wr => ∃ (k : Nat), k ≤ n ∧ i = .int .i64 (k : Int) ∧ J (oth ix k) wr ∧ Kp2 B W wr)
    (fun i _ => n - (intOf i).toNat)
  case atStart => exact ⟨0, by omega, rfl, h0, Kp2.refl _ _⟩
  case round =>
    obtain ⟨k, hkn, rfl, hJs, hnx⟩ := hrel
    rcases Nat.lt_or_ge k n with hlt | hge
    · obtain ⟨b, off, rfl, hcx, hcy⟩ := HE.out k hlt wr hnx
      have hki : (k : Int) < (n : Int) := by omega
      have hbi : wr.cell? ⟨Bi, 0, none⟩ = some (.int .i64 (ix : Int)) := hnx.2.cell hBi hBi'
      have hbil : Bi < wr.heap.size := lt_of_cell hbi
      obtain ⟨px, hpx⟩ : ∃ px, px = (l.getD k (0, 0)).1 := ⟨_, rfl⟩
      obtain ⟨py, hpy⟩ : ∃ py, py = (l.getD k (0, 0)).2 := ⟨_, rfl⟩
      have hal : Below wr.heap.size wr (wr.alloc (.cells #[.int .i64 px, .int .i64 py] 35)) := Joins.below_alloc1 wr _
      have hJ2 : J (oth ix k) (wr.alloc (.cells #[.int .i64 px, .int .i64 py] 35)) := hJ _ wr _ none hJs ⟨hal.os, hal.tape, hal.output, hal.size, fun i hi _ => hal.block i hi⟩ (fun r e => by cases e)
      by_cases hik : k = ix
      · have hkb : ((k : Int) == (ix : Int)) = true := by simp [hik]
        have hkd : ¬ ¬ (k : Int) = (ix : Int) := by simp [hik]
        have hkbn : ((k : Int) != (ix : Int)) = false := by simp [hik]
        have HOS : Hid (oth ix (k + 1) = oth ix k) := Lib.hid (by rw [hik]; exact oth_same ix)
        have HX := Lib.hid (hnx.trans (Kp2.below hal))
        rw [← hpx] at hcx
        rw [← hpy] at hcy
        clear hY hpx hpy hnx hik
        have HJ2 := Lib.hid hJ2
        clear hJ2 hJs hal
        gi_wp2
        refine ⟨fun _ h => (by cases h), ?_⟩
        gi_wp2
        exact ⟨⟨k + 1, by omega, by go_num, by rw [HOS.out]; exact HJ2.out, HX.out⟩, by simp [intOf]; omega⟩
      · have hkb : ((k : Int) == (ix : Int)) = false := by simp; omega
        have hkd : ¬ (k : Int) = (ix : Int) := by omega
        have hkbn : ((k : Int) != (ix : Int)) = true := by simp; omega
        have HOS : Hid (oth ix (k + 1) = oth ix k ++ [k]) := Lib.hid (oth_succ hik)
        have HX := Lib.hid (hnx.trans (Kp2.below hal))
        obtain ⟨fn, tmps, assign, body, hy, hR⟩ := hY _ k _ hJ2 trivial (by have := oth_len ix k; omega)
        replace hy : (Instr.yield y #[.agg #[.int .i64 (l.getD k (0, 0)).1, .int .i64 (l.getD k (0, 0)).2]]).run Try.prog (wr.alloc (.cells #[.int .i64 px, .int .i64 py] 35)) = .ok (.round y fn tmps assign body) (wr.alloc (.cells #[.int .i64 px, .int .i64 py] 35)) := hy
        rw [← hpx] at hcx hy
        rw [← hpy] at hcy hy
        clear hY hpx hpy hnx hik
        clear hJ2 hJs hal
        gi_wp2
        refine hR.mono ?_
        rintro e W3 ⟨rfl, hJ3, hk3⟩
        gi_wp2
        exact ⟨⟨k + 1, by omega, by go_num, by rw [HOS.out]; exact hJ3, HX.out.trans hk3⟩, by simp [intOf]; omega⟩
    · obtain rfl : k = n := by omega
      gi_wp2
      go_end0
      exact ⟨⟨_, rfl⟩, _, rfl, hJs⟩
set_option maxHeartbeats 1000000 in
theorem others_in (q : Nat) (a : Option Addr) (n cap : Nat) (i : Int) (w : World) :
    CallsIn Fence.wide q Try.prog 27 #[.slice a n cap, .int .i64 i] w fun e w' => e = .returned (.func (.func 30) #[] #[.pointer (some ⟨w.heap.size, 0, none⟩), .pointer (some ⟨w.heap.size + 1, 0, none⟩)]) ∧ w' = (w.alloc (.cells #[.slice a n cap] 31)).alloc (.cells #[.int .i64 i] 3) := by
  refine callsIn_of_wp Try.func27 rfl trivial ?_ rfl
  simp only [Try.ntmps27, List.size_toArray, List.length_cons, List.length_nil, Nat.reduceAdd, Nat.reduceSub, Array.replicate_succ, Array.replicate_zero, List.push_toArray, List.append_toArray, List.nil_append, List.cons_append]
  gi_wp2
  go_ret
  exact ⟨rfl, rfl⟩
end Go.Proofs.Ytbigkcemcdokaaa
