/- The reference's Same, of equal disks. -/
import Derived.Laws.BytesArg
import Derived.Test.YtlaaolbdadempaaZe8
namespace Go.Proofs.Ytlaaolbdadempaa
open Go.RowKit

set_option maxRecDepth 100000 in
theorem conv_rest {B : Nat} {W : World} {xs : List UInt8} {a : Option Addr} {n c : Nat} (h : Rest B W xs (.slice a n c)) : (convert 35 9 (.slice a n c)).run Try.prog W = .ok (.string ⟨xs.toArray⟩) W := by
  obtain ⟨a2, cap2, he, h2, h3, h4, h5⟩ := h
  injection he with he1 he2 he3
  subst he1 he2 he3
  cases a with
  | none =>
    obtain rfl : xs = [] := List.eq_nil_of_length_eq_zero (h4 rfl).1
    exact run_convert_bytes_nil W 35 5 Try.underlying35 Try.underlying5 0 c 9 Try.underlying9
  | some p =>
    refine run_convert_bytes_back W 35 9 5 p c xs Try.underlying35 Try.underlying5 Try.underlying9 (fun j hj => ?_)
    rcases h5 with h5 | ⟨b, off, he, hb, hc⟩
    · omega
    · injection he with he
      subst he
      rw [Addr.add_lit]; exact hc j hj
def SmHead (n : Nat) (W : World) (s5 : Value) (wr : World) : Prop := ∃ k : Nat, k ≤ n ∧ s5 = .int .i64 (k : Int) ∧ Below W.heap.size W wr
set_option maxHeartbeats 8000000 in
set_option maxRecDepth 100000 in
theorem refsame_call (d : Dsk) (v v' : Value) (w : World) (h : DRest w.heap.size w d v) (h' : DRest w.heap.size w d v') :
    Calls Try.prog 21 #[v, v'] w fun e w' => e = .returned (.bool true) ∧ Below w.heap.size w w' := by
  obtain ⟨s, p, rfl, hs, hp⟩ := h
  obtain ⟨s', p', rfl, hs', hp'⟩ := h'
  have HS := Lib.hid hs
  have HP := Lib.hid hp
  have HS' := Lib.hid hs'
  have HP' := Lib.hid hp'
  obtain ⟨a, cap, rfl, hc1, hc2⟩ := hs.shape
  obtain ⟨a2, cap2, rfl, hc3, hc4⟩ := hp.shape
  obtain ⟨a', cap', rfl, hc1', hc2'⟩ := hs'.shape
  obtain ⟨a2', cap2', rfl, hc3', hc4'⟩ := hp'.shape
  clear hs hp hs' hp'
  unfold dskOf dskCells
  obtain ⟨xs, ps, left, stop⟩ := d
  simp only at HS HP HS' HP' hc2 hc4 hc2' hc4' ⊢
  obtain ⟨n, hn⟩ : ∃ n, n = xs.length := ⟨_, rfl⟩
  obtain ⟨m, hm⟩ : ∃ m, m = ps.length := ⟨_, rfl⟩
  rw [← hn] at HS HS' hc2 hc2' ⊢
  rw [← hm] at HP HP' hc4 hc4' ⊢
  have HN := Lib.hid hn
  have HM := Lib.hid hm
  clear hn hm
  obtain ⟨W0, hW0⟩ : ∃ W0, W0 = (w.alloc (.cells #[.slice a n cap, .slice a2 m cap2, .int .i64 left, .bool stop] 25)).alloc (.cells #[.slice a' n cap', .slice a2' m cap2', .int .i64 left, .bool stop] 25) := ⟨_, rfl⟩
  have HB0 : Hid (Below w.heap.size w W0) := Lib.hid (by rw [hW0]; exact below_two w _ _)
  have HR0 : Hid (Row W0 w.heap.size 25 [.slice a n cap, .slice a2 m cap2, .int .i64 left, .bool stop]) := Lib.hid (by rw [hW0]; exact (row_new w 25 _).keep (Joins.below_alloc1 _ _))
  have HR1 : Hid (Row W0 (w.heap.size + 1) 25 [.slice a' n cap', .slice a2' m cap2', .int .i64 left, .bool stop]) := Lib.hid (by
    have := row_new (w.alloc (.cells #[.slice a n cap, .slice a2 m cap2, .int .i64 left, .bool stop] 25)) 25 [.slice a' n cap', .slice a2' m cap2', .int .i64 left, .bool stop]
    rw [hW0]; rwa [World.size_alloc] at this)
  cases stop
  all_goals
    go_enter Try.func21, Try.ntmps21
    go_wp2_with fail
    rw [← hW0]
    go_loopw [5] (fun s5 wr => SmHead n W0 s5 wr) (fun s5 _ => n - (intOf s5).toNat)
    case atStart => exact ⟨0, Nat.zero_le _, rfl, Below.refl _ _⟩
    case round =>
      obtain ⟨k, hk, rfl, hb⟩ := hrel
      have HB := Lib.hid hb
      have c0 := HR0.out.later hb (i := 0) rfl
      have c1 := HR0.out.later hb (i := 1) rfl
      have e0 := HR1.out.later hb (i := 0) rfl
      have e1 := HR1.out.later hb (i := 1) rfl
      clear hb
      rcases Nat.lt_or_ge k n with hlt | hge
      · obtain ⟨x, hx⟩ : ∃ x, xs[k]? = some x := ⟨_, List.getElem?_eq_getElem (by rw [← HN.out]; exact hlt)⟩
        obtain ⟨b, off, u, rfl, hbl, hru, hcell⟩ := HS.out.at hx
        obtain ⟨b', off', u', rfl, hbl', hru', hcell'⟩ := HS'.out.at hx
        obtain ⟨ua, uc, rfl, -, -⟩ := hru.shape
        obtain ⟨ua', uc', rfl, -, -⟩ := hru'.shape
        have hB := below_next HB0.out HB.out
        have hcx := hcell wr hB
        have hcx' := hcell' wr hB
        have hv1 : ∀ q : Nat, _ := fun q => conv_rest (hru.stays (below_drewN hB q))
        have hv1' : ∀ q : Nat, _ := fun q => conv_rest (hru'.stays (below_drewN hB q))
        have hkn : (k : Int) < (n : Int) := by omega
        have hk0 : (0 : Int) ≤ (k : Int) := by omega
        generalize x.length = l at hcx hcx' hv1 hv1'
        generalize (⟨x.toArray⟩ : ByteArray) = X at hv1 hv1'
        clear hru hru' hcell hcell' hx hB
        go_wp2_with fail
        go_quiet (fail)
        go_wp2_with fail
        exact ⟨⟨k + 1, hlt, by go_num, below_drewN HB.out _⟩, by simp [intOf]; omega⟩
      · obtain rfl : k = n := by omega
        obtain ⟨W2, rfl⟩ : ∃ W2, W2 = wr := ⟨wr, rfl⟩
        go_wp2_with fail
        go_loopw [6] (fun s6 wr => SmHead m W2 s6 wr) (fun s6 _ => m - (intOf s6).toNat)
        case atStart => exact ⟨0, Nat.zero_le _, rfl, Below.refl _ _⟩
        case round =>
          obtain ⟨j, hj, rfl, hb⟩ := hrel
          have HB2 := Lib.hid hb
          have HB3 := Lib.hid (below_next HB.out hb)
          have c1 := HR0.out.later HB3.out (i := 1) rfl
          have e1 := HR1.out.later HB3.out (i := 1) rfl
          clear hb c0 e0
          rcases Nat.lt_or_ge j m with hlt | hge2
          · obtain ⟨x, hx⟩ : ∃ x, ps[j]? = some x := ⟨_, List.getElem?_eq_getElem (by rw [← HM.out]; exact hlt)⟩
            obtain ⟨b, off, u, rfl, hbl, hru, hcell⟩ := HP.out.at hx
            obtain ⟨b', off', u', rfl, hbl', hru', hcell'⟩ := HP'.out.at hx
            obtain ⟨ua, uc, rfl, -, -⟩ := hru.shape
            obtain ⟨ua', uc', rfl, -, -⟩ := hru'.shape
            have hB := below_next HB0.out HB3.out
            have hcx := (hcell wr hB).1
            have hcx' := (hcell' wr hB).1
            have hcy := (hcell wr hB).2
            have hcy' := (hcell' wr hB).2
            have hv1 : ∀ q : Nat, _ := fun q => conv_rest (hru.stays (below_drewN hB q))
            have hv1' : ∀ q : Nat, _ := fun q => conv_rest (hru'.stays (below_drewN hB q))
            have hjm : (j : Int) < (m : Int) := by omega
            have hj0 : (0 : Int) ≤ (j : Int) := by omega
            obtain ⟨at', data⟩ := x
            simp only at hcx hcx' hcy hcy' hv1 hv1'
            generalize data.length = l at hcy hcy' hv1 hv1'
            generalize (⟨data.toArray⟩ : ByteArray) = X at hv1 hv1'
            clear hru hru' hcell hcell' hx hB
            go_wp2_with fail
            go_quiet (fail)
            go_wp2_with fail
            exact ⟨⟨j + 1, hlt, by go_num, below_drewN HB2.out _⟩, by simp [intOf]; omega⟩
          · obtain rfl : j = m := by omega
            go_wp2_with fail
            go_ret
            exact ⟨rfl, below_next HB0.out HB3.out⟩
end Go.Proofs.Ytlaaolbdadempaa
