/- Lists of spans: Count and Nth of the specification; the law DaysListSpec. -/
import Derived.Test.YtiicjmbnkjociaaDoorV
import Derived.Test.YtiicjmbnkjociaaDoorQ
namespace Go.Proofs.YtiicjmbnkjociaaDoor
open Go.RowKit

set_option maxHeartbeats 4000000 in
set_option maxRecDepth 100000 in
theorem refCount_call (l : List Sp) (v : Value) (B : Nat) (w : World) (h : PRest B w l v) (hB : B ≤ w.heap.size) :
    Calls Tryd.prog 18 #[v] w fun e w' => e = .returned (.tuple #[.int .i64 (countN l), .int .i64 (chk l)]) ∧ Below w.heap.size w w' := by
  have HCK := Lib.hid (refCheck_call l v B w h hB)
  have hk0 := fun h0 => chk_ok (l := l) h0
  unfold countN cnt
  obtain ⟨c, hcc⟩ : ∃ c, c = chk l := ⟨_, rfl⟩
  rw [← hcc] at HCK hk0 ⊢
  obtain ⟨a, cap, rfl, -⟩ := id h
  obtain ⟨-, hl, hm, hc⟩ := spans_at h
  by_cases hz : c = 0
  · subst hz
    rw [if_pos rfl]
    obtain ⟨hlen, hcan⟩ := hk0 rfl
    have HC := Lib.hid hc
    have HR := Lib.hid (fun k hk => span_rng hcan k hk)
    have HS := Lib.hid (fun k hk => cntK_73050 hcan k hk)
    unfold maxLen at hm
    obtain ⟨n, hn2⟩ : ∃ n, n = l.length := ⟨_, rfl⟩
    rw [← hn2] at hl hlen HC HR HS HCK ⊢
    have HN := Lib.hid hlen
    clear h hc hn2 hcc hk0 hcan
    go_enter Tryd.func18, Tryd.ntmps18
    go_wp2_with fail
    refine HCK.out.mono ?_
    rintro e w1 ⟨rfl, hb⟩
    have HB1 := Lib.hid hb
    clear hb
    go_wp2_with fail
    go_loopw [5, 6] (fun s5 s6 wr => ∃ k : Nat, k ≤ n ∧ s5 = .int .i64 (cntK l k) ∧ s6 = .int .i64 (k : Int) ∧ Below w.heap.size w wr) (fun _ s6 _ => n - (intOf s6).toNat)
    case atStart => exact ⟨0, by omega, rfl, rfl, HB1.out⟩
    case round =>
      obtain ⟨k, hk, rfl, rfl, hb⟩ := hrel
      have HB := Lib.hid hb
      rcases Nat.lt_or_ge k n with hlt | hge
      · obtain ⟨-, b, off, rfl, hbB, hc1, hc2⟩ := HC.out k hlt
        have hd1 := (hb.cell (p := ⟨b, off + k * 2, none⟩) (by show b < w.heap.size; omega)).trans hc1
        have hd2 := (hb.cell (p := ⟨b, off + k * 2 + 1, none⟩) (by show b < w.heap.size; omega)).trans hc2
        have hst : Hid (cntK l (k + 1) = cntK l k + ((l.getD k (0, 0)).2 - (l.getD k (0, 0)).1 + 1)) := Lib.hid rfl
        have HRK := HR.out k hlt
        have HSK := HS.out k (by omega)
        generalize (l.getD k (0, 0)).1 = x1 at *
        generalize (l.getD k (0, 0)).2 = x2 at *
        generalize cntK l k = y at *
        have hki : (k : Int) < (n : Int) := by omega
        have hw1 : IntKind.i64.wrap (y + x2) = y + x2 := by rw [IntKind.wrap_i64]; omega
        have hw2 : IntKind.i64.wrap (y + x2 - x1) = y + x2 - x1 := by rw [IntKind.wrap_i64]; omega
        have hw3 : IntKind.i64.wrap (y + x2 - x1 + 1) = y + x2 - x1 + 1 := by rw [IntKind.wrap_i64]; omega
        have hwk : IntKind.i64.wrap ((k : Int) + 1) = ((k + 1 : Nat) : Int) := by have := HN.out; rw [IntKind.wrap_i64]; omega
        have HLT := Lib.hid hlt
        have HEQ : Hid (y + x2 - x1 + 1 = y + (x2 - x1 + 1)) := Lib.hid (by omega)
        clear hb hk hc1 hc2 hbB HRK HSK hlt
        go_wp2_with fail
        go_quiet (fail)
        go_wp2_with fail
        exact ⟨⟨k + 1, by have := HLT.out; omega, by rw [hst.out, ← HEQ.out], by first | rfl | trivial, below_drewN HB.out _⟩, by have := HLT.out; simp [intOf]; omega⟩
      · obtain rfl : k = n := by omega
        clear hk hb
        go_wp2_with fail
        go_ret2
        exact ⟨rfl, HB.out⟩
  · rw [if_neg hz]
    have e1 : (c != 0) = true := by simpa using hz
    clear h hc hk0 hcc hl hm
    go_enter Tryd.func18, Tryd.ntmps18
    go_wp2_with fail
    refine HCK.out.mono ?_
    rintro e w1 ⟨rfl, hb⟩
    go_wp2_with fail
    go_ret2
    exact ⟨rfl, hb⟩
set_option maxHeartbeats 4000000 in
set_option maxRecDepth 100000 in
theorem refNth_call (l : List Sp) (v : Value) (q : Int) (B : Nat) (w : World) (h : PRest B w l v) (hB : B ≤ w.heap.size) (hq : q ≤ 9223372036854775807) :
    Calls Tryd.prog 20 #[v, .int .i64 q] w fun e w' => e = .returned (.tuple #[.int .i64 (nthD l q), .bool (nthB l q), .int .i64 (nthE l q)]) ∧ Below w.heap.size w w' := by
  have HCK := Lib.hid (refCheck_call l v B w h hB)
  have hk0 := fun h0 => chk_ok (l := l) h0
  unfold nthD nthB nthE
  obtain ⟨c, hcc⟩ : ∃ c, c = chk l := ⟨_, rfl⟩
  rw [← hcc] at HCK hk0 ⊢
  obtain ⟨a, cap, rfl, -⟩ := id h
  obtain ⟨-, hl, hm, hc⟩ := spans_at h
  by_cases hz : c = 0
  · subst hz
    obtain ⟨hlen, hcan⟩ := hk0 rfl
    by_cases hq0 : 0 ≤ q
    · rw [if_pos ⟨rfl, hq0⟩, if_pos ⟨rfl, hq0⟩, if_pos rfl, if_neg (by omega)]
      have e9 : decide (q < 0) = false := by simpa using hq0
      have HC := Lib.hid hc
      have HR := Lib.hid (fun k hk => span_rng hcan k hk)
      have HD := Lib.hid (fun i (hi : i < l.length) k => nthL_drop hi k)
      have HE : Hid (∀ k, nthL (l.drop l.length) k = (0, false)) := Lib.hid (fun k => by rw [List.drop_length]; rfl)
      have HQ : Hid (nthL (l.drop 0) q = nthL l q) := Lib.hid rfl
      unfold maxLen at hm
      obtain ⟨n, hn2⟩ : ∃ n, n = l.length := ⟨_, rfl⟩
      obtain ⟨R, hR⟩ : ∃ R, R = nthL l q := ⟨_, rfl⟩
      rw [← hn2] at hl hlen HC HR HD HE HCK ⊢
      rw [← hR] at HQ ⊢
      have HN := Lib.hid hlen
      have HQQ : Hid (0 ≤ q ∧ q ≤ 9223372036854775807) := Lib.hid ⟨hq0, hq⟩
      clear h hc hn2 hcc hk0 hcan hR hq0 hq
      go_enter Tryd.func20, Tryd.ntmps20
      go_wp2_with fail
      refine HCK.out.mono ?_
      rintro e w1 ⟨rfl, hb⟩
      have HB1 := Lib.hid hb
      clear hb
      go_wp2_with fail
      go_loopw [1, 8] (fun s1 s8 wr => ∃ (k : Nat) (z : Int), (k ≤ n ∧ 0 ≤ z ∧ z ≤ 9223372036854775807) ∧ nthL (l.drop k) z = R ∧ s1 = .int .i64 z ∧ s8 = .int .i64 (k : Int) ∧ Below w.heap.size w wr) (fun _ s8 _ => n - (intOf s8).toNat)
      case atStart => exact ⟨0, q, ⟨by omega, HQQ.out.1, HQQ.out.2⟩, HQ.out, rfl, rfl, HB1.out⟩
      case round =>
        obtain ⟨k, z, hk, hR, rfl, rfl, hb⟩ := hrel
        have HB := Lib.hid hb
        have HRR := Lib.hid hR
        clear hR
        rcases Nat.lt_or_ge k n with hlt | hge
        · obtain ⟨-, b, off, rfl, hbB, hc1, hc2⟩ := HC.out k hlt
          have hd1 := (hb.cell (p := ⟨b, off + k * 2, none⟩) (by show b < w.heap.size; omega)).trans hc1
          have hd2 := (hb.cell (p := ⟨b, off + k * 2 + 1, none⟩) (by show b < w.heap.size; omega)).trans hc2
          have HRK := HR.out k hlt
          have HDK := Lib.hid (HD.out k hlt z)
          generalize (l.getD k (0, 0)).1 = x1 at *
          generalize (l.getD k (0, 0)).2 = x2 at *
          have hki : (k : Int) < (n : Int) := by omega
          have hwk : IntKind.i64.wrap ((k : Int) + 1) = ((k + 1 : Nat) : Int) := by have := HN.out; rw [IntKind.wrap_i64]; omega
          have hw1 : IntKind.i64.wrap (x2 - x1) = x2 - x1 := by rw [IntKind.wrap_i64]; omega
          have hw2 : IntKind.i64.wrap (x2 - x1 + 1) = x2 - x1 + 1 := by rw [IntKind.wrap_i64]; omega
          have HLT := Lib.hid hlt
          by_cases hgo : z < x2 - x1 + 1
          · have e1 : decide (z < x2 - x1 + 1) = true := by simpa using hgo
            have hw3 : IntKind.i64.wrap (x1 + z) = x1 + z := by rw [IntKind.wrap_i64]; omega
            have HRV : Hid (R = (x1 + z, true)) := Lib.hid (by rw [← HRR.out, HDK.out, if_pos hgo])
            have hd1' := fun q : Nat => ((drewN_below wr q).cell (p := ⟨b, off + k * 2, none⟩) (lt_of_cell hd1)).trans hd1
            clear hb hk hc1 hc2 hbB HRK hlt hgo
            go_wp2_with fail
            go_quiet (fail)
            have hd1q := hd1' nq
            go_wp2_with fail
            go_ret3
            exact ⟨by rw [HRV.out]; first | done | rfl, below_drewN HB.out _⟩
          · have e1 : decide (z < x2 - x1 + 1) = false := by simpa using hgo
            have hw3 : IntKind.i64.wrap (z - (x2 - x1 + 1)) = z - (x2 - x1 + 1) := by rw [IntKind.wrap_i64]; omega
            have HRV : Hid (nthL (l.drop (k + 1)) (z - (x2 - x1 + 1)) = R) := Lib.hid (by rw [← HRR.out, HDK.out, if_neg hgo])
            have HZR : Hid (0 ≤ z - (x2 - x1 + 1) ∧ z - (x2 - x1 + 1) ≤ 9223372036854775807) := Lib.hid (by omega)
            clear hb hk hc1 hc2 hbB HRK hlt hgo
            go_wp2_with fail
            go_quiet (fail)
            go_wp2_with fail
            exact ⟨⟨k + 1, _, ⟨by have := HLT.out; omega, HZR.out.1, HZR.out.2⟩, HRV.out, by first | rfl | trivial, by first | rfl | trivial, below_drewN HB.out _⟩, by have := HLT.out; simp [intOf]; omega⟩
        · obtain rfl : k = n := by omega
          have HRV : Hid (R = (0, false)) := Lib.hid (by rw [← HRR.out, HE.out])
          clear hk hb
          go_wp2_with fail
          go_ret3
          exact ⟨by rw [HRV.out]; first | done | rfl, HB.out⟩
    · rw [if_neg (fun h => hq0 h.2), if_neg (fun h => hq0 h.2), if_pos rfl, if_pos (by omega)]
      have e9 : decide (q < 0) = true := by simp; omega
      clear h hc hk0 hcc hl hm hcan hq0
      go_enter Tryd.func20, Tryd.ntmps20
      go_wp2_with fail
      refine HCK.out.mono ?_
      rintro e w1 ⟨rfl, hb⟩
      go_wp2_with fail
      go_ret3
      exact ⟨rfl, hb⟩
  · rw [if_neg (fun h => hz h.1), if_neg (fun h => hz h.1), if_neg hz]
    have e1 : (c != 0) = true := by simpa using hz
    clear h hc hk0 hcc hl hm
    go_enter Tryd.func20, Tryd.ntmps20
    go_wp2_with fail
    refine HCK.out.mono ?_
    rintro e w1 ⟨rfl, hb⟩
    go_wp2_with fail
    go_ret3
    exact ⟨rfl, hb⟩
set_option maxHeartbeats 8000000 in
set_option maxRecDepth 100000 in
theorem list_walk (l : List Sp) (v : Value) (q : Int) (w : World) (h : PRest w.heap.size w l v) (hT : Tab w) (hq : I64 q) :
    Calls Tryd.prog 4 #[v, .int .i64 q] w fun e w' => e = .returned (.bool true) ∧ Below w.heap.size w w' := by
  have hq2 := hq.2
  have CSA := Lib.hid (sane_call w hT)
  have BW := Lib.hid (Below.refl w.heap.size w)
  have CC := Lib.hid (fun W (h : PRest W.heap.size W l v) => Count_call l v _ W h (Nat.le_refl _))
  have CR := Lib.hid (fun W (h : PRest W.heap.size W l v) => refCount_call l v _ W h (Nat.le_refl _))
  have CN := Lib.hid (fun W (h : PRest W.heap.size W l v) => Nth_call l v q _ W h (Nat.le_refl _) hq2)
  have CM := Lib.hid (fun W (h : PRest W.heap.size W l v) => refNth_call l v q _ W h (Nat.le_refl _) hq2)
  have CK := Lib.hid (fun W (h : PRest W.heap.size W l v) => Check_call l v _ W h (Nat.le_refl _))
  have CQ := Lib.hid (fun W (h : PRest W.heap.size W l v) => refCheck_call l v _ W h (Nat.le_refl _))
  have HR := Lib.hid h
  obtain ⟨a, cap, rfl, hl1, hl2, -⟩ := id h
  have hlm : l.length ≤ maxLen := by omega
  have CF := Lib.hid (fun W => Few_call a l.length cap none 0 0 W hlm (by unfold maxLen; omega))
  generalize countN l = x1 at *
  generalize chk l = x2 at *
  generalize nthD l q = x3 at *
  generalize nthB l q = x4 at *
  generalize nthE l q = x5 at *
  obtain ⟨f, hf⟩ : ∃ f, f = decide (l.length ≤ 260 ∧ 0 ≤ 260) := ⟨_, rfl⟩
  rw [← hf] at CF
  clear hf h hl1 hl2 hlm hq hq2
  have s1 : (x1 == x1) = true := by simp
  have s2 : (x2 == x2) = true := by simp
  have s3 : (x3 == x3) = true := by simp
  have s4 : (x4 == x4) = true := by simp
  have s5 : (x5 == x5) = true := by simp
  cases f
  · go_enter Tryd.func4, Tryd.ntmps4
    go_wp2_with fail
    refine CSA.out.mono ?_
    rintro e w1 ⟨rfl, hb⟩
    go_wp2_with fail
    refine (CF.out _).mono ?_
    rintro e w2 ⟨rfl, rfl⟩
    go_wp2_with fail
    go_ret
    exact ⟨rfl, hb⟩
  · go_enter Tryd.func4, Tryd.ntmps4
    go_wp2_with fail
    refine CSA.out.mono ?_
    rintro e w1 ⟨rfl, hb⟩
    replace BW := Lib.hid (below_next BW.out hb)
    replace HR := Lib.hid (HR.out.keep hb)
    clear hb
    go_wp2_with fail
    refine (CF.out _).mono ?_
    rintro e w2 ⟨rfl, rfl⟩
    go_wp2_with fail
    refine (CC.out _ HR.out).mono ?_
    rintro e w3 ⟨rfl, hb⟩
    replace BW := Lib.hid (below_next BW.out hb)
    replace HR := Lib.hid (HR.out.keep hb)
    clear hb
    go_wp2_with fail
    refine (CR.out _ HR.out).mono ?_
    rintro e w4 ⟨rfl, hb⟩
    replace BW := Lib.hid (below_next BW.out hb)
    replace HR := Lib.hid (HR.out.keep hb)
    clear hb
    go_wp2_with fail
    refine (CN.out _ HR.out).mono ?_
    rintro e w5 ⟨rfl, hb⟩
    replace BW := Lib.hid (below_next BW.out hb)
    replace HR := Lib.hid (HR.out.keep hb)
    clear hb
    go_wp2_with fail
    refine (CM.out _ HR.out).mono ?_
    rintro e w6 ⟨rfl, hb⟩
    replace BW := Lib.hid (below_next BW.out hb)
    replace HR := Lib.hid (HR.out.keep hb)
    clear hb
    go_wp2_with fail
    refine (CK.out _ HR.out).mono ?_
    rintro e w7 ⟨rfl, hb⟩
    replace BW := Lib.hid (below_next BW.out hb)
    replace HR := Lib.hid (HR.out.keep hb)
    clear hb
    go_wp2_with fail
    refine (CQ.out _ HR.out).mono ?_
    rintro e w8 ⟨rfl, hb⟩
    replace BW := Lib.hid (below_next BW.out hb)
    clear hb
    go_wp2_with fail
    go_ret
    exact ⟨by simp, BW.out⟩
end Go.Proofs.YtiicjmbnkjociaaDoor
