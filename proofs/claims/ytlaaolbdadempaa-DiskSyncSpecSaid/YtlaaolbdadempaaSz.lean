/- The reference's Sync, for every disk. -/
import Derived.Test.YtlaaolbdadempaaRfa
import Derived.Test.YtlaaolbdadempaaRfb
import Derived.Test.YtlaaolbdadempaaRfc
namespace Go.Proofs.Ytlaaolbdadempaa
open Go.RowKit

set_option maxHeartbeats 4000000 in
set_option maxRecDepth 100000 in
theorem refsync_refuse (d : Dsk) (v : Value) (w : World) (h : DRest w.heap.size w d v) (hr : runsB d = false) : Calls Try.prog 31 #[v] w (NewD w zeroD 40) := by
  obtain ⟨s, p, rfl, hs, hp⟩ := h
  have HV : Hid (∀ W, Below w.heap.size w W → Calls Try.prog 23 #[dskOf s p d] W fun e w' => e = .returned (.int .i64 (if validB d then 0 else 40)) ∧ Below W.heap.size W w') := Lib.hid (fun W hW => refcheck_call d _ W ⟨s, p, rfl, hs.keep hW, hp.keep hW⟩)
  obtain ⟨a, cap, rfl, hc1, hc2⟩ := hs.shape
  obtain ⟨a2, cap2, rfl, hc3, hc4⟩ := hp.shape
  have hst : validB d = true → d.stop = true := fun hv => by unfold runsB at hr; rw [hv] at hr; simpa using hr
  clear hs hp hr
  unfold dskOf dskCells at *
  have HRB := Lib.hid ((row_new w 25 [.slice a d.secs.length cap, .slice a2 d.pend.length cap2, .int .i64 d.left, .bool d.stop]).keep (Joins.below_alloc1 _ (.cells #[.slice none 0 0, .slice none 0 0, .int .i64 0, .bool false] 25)))
  have HRR := Lib.hid (row_new (w.alloc (.cells #[.slice a d.secs.length cap, .slice a2 d.pend.length cap2, .int .i64 d.left, .bool d.stop] 25)) 25 [.slice none 0 0, .slice none 0 0, .int .i64 0, .bool false])
  have HB0 := Lib.hid (below_two w (.cells #[.slice a d.secs.length cap, .slice a2 d.pend.length cap2, .int .i64 d.left, .bool d.stop] 25) (.cells #[.slice none 0 0, .slice none 0 0, .int .i64 0, .bool false] 25))
  rw [World.size_alloc] at HRR
  cases hv : validB d
  · rw [hv, if_neg (by decide)] at HV
    clear hv hst
    go_enter Try.func31, Try.ntmps31
    go_wp2_with fail
    refine (HV.out _ HB0.out).mono ?_
    rintro e w2 ⟨rfl, hb⟩
    have HB2 := Lib.hid (below_next HB0.out hb)
    have HRR2 := Lib.hid (HRR.out.keep hb)
    clear hb HRR HB0
    go_wp2_with (refine wpList_store_ags rfl 25 (.tmp 2) (.tmp 16) rfl (w.heap.size + 1) [.slice none 0 0, .slice none 0 0, .int .i64 0, .bool false] _ size25 (by rfl) rfl rfl HRR2.out (by rfl) HB2.out (by omega) ?_; intro w9 hr hb hf)
    exact bodyPost_ret (results_dsk Try.results31 _ w9 (w.heap.size + 1) _ rfl rfl _ rfl hr) rfl ⟨_, _, _, _, rfl, drest_zero _ _, hb⟩
  · have h1 := hst hv
    rw [hv, if_pos rfl] at HV
    rw [h1] at HV HRB HRR HB0 ⊢
    clear hv hst h1
    go_enter Try.func31, Try.ntmps31
    go_wp2_with fail
    refine (HV.out _ HB0.out).mono ?_
    rintro e w2 ⟨rfl, hb⟩
    have HB2 := Lib.hid (below_next HB0.out hb)
    have HRR2 := Lib.hid (HRR.out.keep hb)
    have HRB2 := Lib.hid (HRB.out.keep hb)
    have c3 := HRB2.out.cell (i := 3) rfl
    clear hb HRR HB0 HRB
    go_wp2_with (refine wpList_store_ags rfl 25 (.tmp 2) (.tmp 16) rfl (w.heap.size + 1) [.slice none 0 0, .slice none 0 0, .int .i64 0, .bool false] _ size25 (by rfl) rfl rfl HRR2.out (by rfl) HB2.out (by omega) ?_; intro w9 hr hb hf)
    exact bodyPost_ret (results_dsk Try.results31 _ w9 (w.heap.size + 1) _ rfl rfl _ rfl hr) rfl ⟨_, _, _, _, rfl, drest_zero _ _, hb⟩
theorem refsync_law {W : World} {d d' : Dsk} {s p : Value} {l k : Int} {b : Bool} (h : DRest W.heap.size W d (dv s p l b)) (hr : syncD d = (d', k)) : Calls Try.prog 31 #[dv s p l b] W (NewD W d' k) := by
  cases hv : runsB d
  · have h1 : syncD d = (zeroD, 40) := by unfold syncD; rw [hv]; rfl
    rw [h1] at hr
    injection hr with h2 h3
    subst h2 h3
    exact refsync_refuse d _ W h hv
  · have hR := Runs.of hv
    rcases sync_cases hR with ⟨h1, h2, h3⟩ | ⟨h1, h3, _⟩
    · rw [h3] at hr
      injection hr with h4 h5
      subst h4 h5
      have hl0 := hR.left.1
      obtain ⟨j, hj⟩ : ∃ j : Nat, d.left = j := ⟨d.left.toNat, by omega⟩
      rw [hj, Int.toNat_natCast]
      have hjl : j < d.pend.length := by omega
      have hq : d.pend[j]? = some d.pend[j] := List.getElem?_eq_getElem hjl
      rw [show d.pend.getD j (0, []) = d.pend[j] by simp [List.getD, hjl]]
      exact refsync_c d _ W h hR j d.pend[j] hj hjl hq
    · rw [h3] at hr
      injection hr with h4 h5
      subst h4 h5
      by_cases hl : d.left = -1
      · exact refsync_a d _ W h hR hl
      · exact refsync_b d _ W h hR (by omega)
end Go.Proofs.Ytlaaolbdadempaa
