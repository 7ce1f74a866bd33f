/- Lists of spans: Check, Count and Nth of the specification; the law DaysListSpec. -/
import Derived.Test.YtiicjmbnkjociaaDoorQ
namespace Go.Proofs.YtiicjmbnkjociaaDoor
open Go.RowKit

set_option maxHeartbeats 8000000 in
set_option maxRecDepth 100000 in
theorem refCheck_call (l : List Sp) (v : Value) (B : Nat) (w : World) (h : PRest B w l v) (hB : B ≤ w.heap.size) :
    Calls Tryd.prog 22 #[v] w fun e w' => e = .returned (.int .i64 (chk l)) ∧ Below w.heap.size w w' := by
  obtain ⟨a, cap, rfl, -⟩ := id h
  obtain ⟨-, hl, hm, hc⟩ := spans_at h
  have HC := Lib.hid hc
  have HT : Hid ((∀ j, j < l.length → okAt 0 l j) → canB 0 l = true) := Lib.hid canB_of
  have HF : Hid (∀ j, j < l.length → ¬ okAt 0 l j → canB 0 l = false) := Lib.hid (fun j hj hk => canB_not hj hk)
  have HLS : Hid (∀ k, k < l.length → (∀ j, j < k → okAt 0 l j) → 0 ≤ lst 0 l k ∧ (0 < k → lst 0 l k = (l.getD (k - 1) (0, 0)).2 + 2 ∧ (l.getD (k - 1) (0, 0)).2 ≤ 73048)) := Lib.hid (fun k hk hj => by
    cases k with
    | zero => exact ⟨Int.le_refl _, fun h => absurd h (by omega)⟩
    | succ k =>
      refine ⟨?_, fun _ => ⟨rfl, (hj k (by omega)).2.2⟩⟩
      show 0 ≤ (l.getD k (0, 0)).2 + 2
      have h0 : ∀ i, i ≤ k → 0 ≤ lst 0 l i := fun i => by
        induction i with
        | zero => intro _; exact Int.le_refl _
        | succ i ih =>
          intro hi
          have h1 := ih (by omega)
          have h2 := hj i (by omega)
          unfold okAt at h2
          show 0 ≤ (l.getD i (0, 0)).2 + 2
          omega
      have h1 := h0 k (by omega)
      have h2 := hj k (by omega)
      unfold okAt at h2
      omega)
  unfold chk
  unfold maxLen at hm
  obtain ⟨n, hn2⟩ : ∃ n, n = l.length := ⟨_, rfl⟩
  rw [← hn2] at hl HC HT HF HLS ⊢
  generalize canB 0 l = r at *
  clear h hc hn2
  by_cases hbig : 256 < n
  · rw [if_pos hbig]
    have e0 : decide ((256 : Int) < (n : Int)) = true := by simp; omega
    clear hbig
    go_enter Tryd.func22, Tryd.ntmps22
    go_wp2_with fail
    go_ret
    exact ⟨rfl, Below.refl _ _⟩
  · rw [if_neg hbig]
    have e0 : decide ((256 : Int) < (n : Int)) = false := by simp; omega
    have HN : Hid (n ≤ 256) := Lib.hid (by omega)
    obtain ⟨E, hE⟩ : ∃ E : Int, E = if r = true then 0 else 120 := ⟨_, rfl⟩
    rw [← hE]
    have HE1 : Hid (r = true → E = 0) := Lib.hid (fun h => by rw [hE, if_pos h])
    have HE2 : Hid (r = false → E = 120) := Lib.hid (fun h => by rw [hE, h]; rfl)
    clear hE
    have hn256 : n ≤ 256 := by omega
    clear hbig
    go_enter Tryd.func22, Tryd.ntmps22
    go_wp2_with fail
    go_loopw [3] (fun s3 wr => ∃ k : Nat, (k ≤ n ∧ ∀ j, j < k → okAt 0 l j) ∧ s3 = .int .i64 (k : Int) ∧ Below w.heap.size w wr) (fun s3 _ => n - (intOf s3).toNat)
    case atStart => exact ⟨0, ⟨by omega, fun j hj => by omega⟩, rfl, Below.refl _ _⟩
    case round =>
      obtain ⟨k, hk, rfl, hb⟩ := hrel
      have HK := Lib.hid hk
      have HB := Lib.hid hb
      rcases Nat.lt_or_ge k n with hlt | hge
      · have hlsk := HLS.out k hlt hk.2
        obtain ⟨⟨hI1, hI2⟩, b, off, rfl, hbB, hc1, hc2⟩ := HC.out k hlt
        have hd1 := (hb.cell (p := ⟨b, off + k * 2, none⟩) (by show b < w.heap.size; omega)).trans hc1
        have hd2 := (hb.cell (p := ⟨b, off + k * 2 + 1, none⟩) (by show b < w.heap.size; omega)).trans hc2
        have hlo : Hid (okAt 0 l k = (lst 0 l k ≤ (l.getD k (0, 0)).1 ∧ (l.getD k (0, 0)).1 ≤ (l.getD k (0, 0)).2 ∧ (l.getD k (0, 0)).2 ≤ 73048)) := Lib.hid rfl
        have HO : Hid (okAt 0 l k → ∀ j, j < k + 1 → okAt 0 l j) := Lib.hid (fun h j hj => by
          rcases Nat.lt_or_ge j k with h1 | h1
          · exact HK.out.2 j h1
          · obtain rfl : j = k := by omega
            exact h)
        have HPC : Hid (0 < k → wr.cell? ⟨b, off + (k - 1) * 2 + 1, none⟩ = some (.int .i64 (l.getD (k - 1) (0, 0)).2)) := Lib.hid (fun h0 => by
          obtain ⟨-, b', off', he, hbB', hc1', hc2'⟩ := HC.out (k - 1) (by omega)
          injection he with he
          injection he with e1 e2
          subst e1 e2
          exact (hb.cell (p := ⟨b, off + (k - 1) * 2 + 1, none⟩) (by show b < w.heap.size; omega)).trans hc2')
        have HFK := Lib.hid (HF.out k hlt)
        have HD1 := Lib.hid (fun W => refDay_call (l.getD k (0, 0)).1 W)
        have HD2 := Lib.hid (fun W => refDay_call (l.getD k (0, 0)).2 W)
        generalize (l.getD k (0, 0)).1 = x1 at *
        generalize (l.getD k (0, 0)).2 = x2 at *
        generalize (l.getD (k - 1) (0, 0)).2 = p2 at *
        have HL0 : Hid (k = 0 → lst 0 l k = 0) := Lib.hid (fun h => by subst h; rfl)
        generalize lst 0 l k = lo at *
        have hki : (k : Int) < (n : Int) := by omega
        have hwk : IntKind.i64.wrap ((k : Int) + 1) = ((k + 1 : Nat) : Int) := by rw [IntKind.wrap_i64]; omega
        have HLT := Lib.hid hlt
        have q1 : isDayB x1 = true ↔ 0 ≤ x1 ∧ x1 ≤ 73048 := by unfold isDayB; simp
        have q2 : isDayB x2 = true ↔ 0 ≤ x2 ∧ x2 ≤ 73048 := by unfold isDayB; simp
        have q1' : isDayB x1 = false ↔ ¬ (0 ≤ x1 ∧ x1 ≤ 73048) := by unfold isDayB; simp <;> omega
        have q2' : isDayB x2 = false ↔ ¬ (0 ≤ x2 ∧ x2 ≤ 73048) := by unfold isDayB; simp <;> omega
        cases t1 : isDayB x1 with
        | false =>
          have t1r := q1'.1 t1
          rw [t1] at HD1
          have HRF : Hid (r = false) := Lib.hid (HFK.out (by rw [hlo.out]; omega))
          clear hb hk hc1 hc2 hbB q1 q2 q1' q2' hlsk hlt t1 t1r HD2
          go_wp2_with fail
          go_quiet ((go_at_call 34; first | (with_reducible exact Calls.quiet_of_same (HD1.out _))))
          go_wp2_with fail
          go_ret
          exact ⟨by rw [HE2.out HRF.out]; first | done | rfl, below_drewN HB.out _⟩
        | true =>
          have t1r := q1.1 t1
          rw [t1] at HD1
          cases t2 : isDayB x2 with
          | false =>
            have t2r := q2'.1 t2
            rw [t2] at HD2
            have HRF : Hid (r = false) := Lib.hid (HFK.out (by rw [hlo.out]; omega))
            clear hb hk hc1 hc2 hbB q1 q2 q1' q2' hlsk hlt t1 t1r t2 t2r
            go_wp2_with fail
            go_quiet ((go_at_call 34; first | (with_reducible exact Calls.quiet_of_same (HD1.out _)) | (with_reducible exact Calls.quiet_of_same (HD2.out _))))
            go_wp2_with fail
            go_ret
            exact ⟨by rw [HE2.out HRF.out]; first | done | rfl, below_drewN HB.out _⟩
          | true =>
            have t2r := q2.1 t2
            rw [t2] at HD2
            by_cases g1 : x2 < x1
            · have e1 : decide (x2 < x1) = true := by simpa using g1
              have HRF : Hid (r = false) := Lib.hid (HFK.out (by rw [hlo.out]; omega))
              clear hb hk hc1 hc2 hbB q1 q2 q1' q2' hlsk hlt t1 t1r t2 t2r g1
              go_wp2_with fail
              go_quiet ((go_at_call 34; first | (with_reducible exact Calls.quiet_of_same (HD1.out _)) | (with_reducible exact Calls.quiet_of_same (HD2.out _))))
              go_wp2_with fail
              go_ret
              exact ⟨by rw [HE2.out HRF.out]; first | done | rfl, below_drewN HB.out _⟩
            · have e1 : decide (x2 < x1) = false := by simpa using g1
              by_cases g2 : k = 0
              · have e2 : decide ((0 : Int) < (k : Int)) = false := by simp; omega
                have e2' : decide (0 < k) = false := by simp; omega
                have hlo0 : lo = 0 ∨ 0 < k := .inl (by exact HL0.out g2)
                have HOK := Lib.hid (HO.out (by rw [hlo.out]; omega))
                clear hb hk hc1 hc2 hbB q1 q2 q1' q2' hlsk hlt t1 t1r t2 t2r g1 g2 hlo0
                go_wp2_with fail
                go_quiet ((go_at_call 34; first | (with_reducible exact Calls.quiet_of_same (HD1.out _)) | (with_reducible exact Calls.quiet_of_same (HD2.out _))))
                go_wp2_with fail
                exact ⟨⟨k + 1, ⟨by have := HLT.out; omega, HOK.out⟩, by first | rfl | trivial, below_drewN HB.out _⟩, by have := HLT.out; simp [intOf]; omega⟩
              · have e2 : decide ((0 : Int) < (k : Int)) = true := by simp; omega
                have e2' : decide (0 < k) = true := by simp; omega
                have hpc := HPC.out (by omega)
                obtain ⟨h5, h6⟩ := hlsk.2 (by omega)
                have hwp : IntKind.i64.wrap (p2 + 2) = p2 + 2 := by rw [IntKind.wrap_i64]; omega
                have hwm : IntKind.i64.wrap ((k : Int) - 1) = ((k - 1 : Nat) : Int) := by rw [IntKind.wrap_i64]; omega
                have hkm : ((k - 1 : Nat) : Int) < (n : Int) := by omega
                obtain ⟨j, hj⟩ : ∃ j, j = k - 1 := ⟨_, rfl⟩
                rw [← hj] at hpc hwm hkm
                by_cases g3 : x1 < p2 + 2
                · have e3 : decide (x1 < p2 + 2) = true := by simpa using g3
                  have HRF : Hid (r = false) := Lib.hid (HFK.out (by rw [hlo.out]; omega))
                  clear hb hk hc1 hc2 hbB q1 q2 q1' q2' hlsk hlt t1 t1r t2 t2r g1 g2 g3 h5 h6 hj
                  go_wp2_with fail
                  go_quiet ((go_at_call 34; first | (with_reducible exact Calls.quiet_of_same (HD1.out _)) | (with_reducible exact Calls.quiet_of_same (HD2.out _))))
                  go_wp2_with fail
                  go_ret
                  exact ⟨by rw [HE2.out HRF.out]; first | done | rfl, below_drewN HB.out _⟩
                · have e3 : decide (x1 < p2 + 2) = false := by simpa using g3
                  have HOK := Lib.hid (HO.out (by rw [hlo.out]; omega))
                  clear hb hk hc1 hc2 hbB q1 q2 q1' q2' hlsk hlt t1 t1r t2 t2r g1 g2 g3 h5 h6 hj
                  go_wp2_with fail
                  go_quiet ((go_at_call 34; first | (with_reducible exact Calls.quiet_of_same (HD1.out _)) | (with_reducible exact Calls.quiet_of_same (HD2.out _))))
                  go_wp2_with fail
                  exact ⟨⟨k + 1, ⟨by have := HLT.out; omega, HOK.out⟩, by first | rfl | trivial, below_drewN HB.out _⟩, by have := HLT.out; simp [intOf]; omega⟩
      · obtain rfl : k = n := by omega
        have HRT : Hid (r = true) := Lib.hid (HT.out hk.2)
        clear hk hb
        go_wp2_with fail
        go_ret
        exact ⟨by rw [HE1.out HRT.out]; first | done | rfl, HB.out⟩
end Go.Proofs.YtiicjmbnkjociaaDoor
