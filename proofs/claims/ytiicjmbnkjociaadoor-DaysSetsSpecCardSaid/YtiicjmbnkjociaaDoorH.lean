/- Lists of spans: Count and Nth. -/
import Derived.Test.YtiicjmbnkjociaaDoorG
namespace Go.Proofs.YtiicjmbnkjociaaDoor
open Go.RowKit

/-- the days of the first k spans -/
def cntK (l : List Sp) : Nat → Int
  | 0 => 0
  | k + 1 => cntK l k + ((l.getD k (0, 0)).2 - (l.getD k (0, 0)).1 + 1)
def cnt (l : List Sp) : Int := cntK l l.length
theorem cntK_rng {l : List Sp} (h : Can l) : ∀ k, k ≤ l.length → 0 ≤ cntK l k ∧ cntK l k ≤ lst 0 l k
  | 0, _ => ⟨Int.le_refl _, Int.le_refl _⟩
  | k + 1, hk => by
    have h1 := cntK_rng h k (by omega)
    have h2 := (canF_iff l 0).1 h k (by omega)
    unfold okAt at h2
    show 0 ≤ cntK l k + ((l.getD k (0, 0)).2 - (l.getD k (0, 0)).1 + 1) ∧ cntK l k + ((l.getD k (0, 0)).2 - (l.getD k (0, 0)).1 + 1) ≤ (l.getD k (0, 0)).2 + 2
    omega
theorem span_rng {l : List Sp} (h : Can l) (k : Nat) (hk : k < l.length) : 0 ≤ (l.getD k (0, 0)).1 ∧ (l.getD k (0, 0)).1 ≤ (l.getD k (0, 0)).2 ∧ (l.getD k (0, 0)).2 ≤ 73048 := by
  have h1 := (canF_iff l 0).1 h k hk
  have h2 := lst_ge h k (by omega)
  unfold okAt at h1
  omega
theorem cntK_73050 {l : List Sp} (h : Can l) (k : Nat) (hk : k ≤ l.length) : 0 ≤ cntK l k ∧ cntK l k ≤ 73050 := by
  have h1 := cntK_rng h k hk
  refine ⟨h1.1, ?_⟩
  cases k with
  | zero => have : lst 0 l 0 = 0 := rfl; omega
  | succ k =>
    have := span_rng h k (by omega)
    have : lst 0 l (k + 1) = (l.getD k (0, 0)).2 + 2 := rfl
    omega
def countN (l : List Sp) : Int := if chk l = 0 then cnt l else 0
set_option maxHeartbeats 2000000 in
set_option maxRecDepth 100000 in
theorem Count_call (l : List Sp) (v : Value) (B : Nat) (w : World) (h : PRest B w l v) (hB : B ≤ w.heap.size) :
    Calls Tryd.prog 17 #[v] w fun e w' => e = .returned (.tuple #[.int .i64 (countN l), .int .i64 (chk l)]) ∧ Below w.heap.size w w' := by
  have HCK := Lib.hid (Check_call l v B w h hB)
  have hk0 := fun h0 => chk_ok (l := l) h0
  unfold countN cnt
  obtain ⟨c, hcc⟩ : ∃ c, c = chk l := ⟨_, rfl⟩
  rw [← hcc] at HCK hk0 ⊢
  have h0 := h
  obtain ⟨a, cap, rfl, -⟩ := h0
  obtain ⟨-, hl, hm, hc⟩ := spans_at h
  by_cases hz : c = 0
  · subst hz
    rw [if_pos rfl]
    obtain ⟨hlen, hcan⟩ := hk0 rfl
    have HC := Lib.hid hc
    have HR := Lib.hid (fun k hk => span_rng hcan k hk)
    have HS := Lib.hid (fun k hk => cntK_73050 hcan k hk)
    unfold maxLen at hm
    obtain ⟨n, hn2⟩ : ∃ n, n = l.length := ⟨_, rfl⟩
    rw [← hn2] at hl hlen HC HR HS HCK ⊢
    have HN := Lib.hid hlen
    clear h hc hn2 hcc hk0 hcan
    go_enter Tryd.func17, Tryd.ntmps17
    go_wp2_with fail
    refine HCK.out.mono ?_
    rintro e w1 ⟨rfl, hb⟩
    have HB1 := Lib.hid hb
    clear hb
    go_wp2_with fail
    go_loopw [2, 13] (fun s2 s13 wr => ∃ k : Nat, k ≤ n ∧ s2 = .int .i64 (cntK l k) ∧ s13 = .int .i64 (k : Int) ∧ Below w.heap.size w wr) (fun _ s13 _ => n - (intOf s13).toNat)
    case atStart => exact ⟨0, by omega, rfl, rfl, HB1.out⟩
    case round =>
      obtain ⟨k, hk, rfl, rfl, hb⟩ := hrel
      have HB := Lib.hid hb
      rcases Nat.lt_or_ge k n with hlt | hge
      · obtain ⟨-, b, off, rfl, hbB, hc1, hc2⟩ := HC.out k hlt
        have hd1 := (hb.cell (p := ⟨b, off + k * 2, none⟩) (by show b < w.heap.size; omega)).trans hc1
        have hd2 := (hb.cell (p := ⟨b, off + k * 2 + 1, none⟩) (by show b < w.heap.size; omega)).trans hc2
        have hst : Hid (cntK l (k + 1) = cntK l k + ((l.getD k (0, 0)).2 - (l.getD k (0, 0)).1 + 1)) := Lib.hid rfl
        have HRK := HR.out k hlt
        have HSK := HS.out k (by omega)
        generalize (l.getD k (0, 0)).1 = x1 at *
        generalize (l.getD k (0, 0)).2 = x2 at *
        generalize cntK l k = y at *
        have hki : (k : Int) < (n : Int) := by omega
        have HA := Lib.hid (Joins.below_alloc1 wr (.cells #[.int .i64 x1, .int .i64 x2] 45))
        have HZ := Lib.hid (size_call (x1, x2) (wr.alloc (.cells #[.int .i64 x1, .int .i64 x2] 45)) HRK)
        have hw1 : IntKind.i64.wrap (y + (x2 - x1 + 1)) = y + (x2 - x1 + 1) := by rw [IntKind.wrap_i64]; omega
        have hwk : IntKind.i64.wrap ((k : Int) + 1) = ((k + 1 : Nat) : Int) := by have := HN.out; rw [IntKind.wrap_i64]; omega
        have HLT := Lib.hid hlt
        clear hb hk hc1 hc2 hbB HRK HSK hlt
        unfold SpV at HZ
        go_wp2_with fail
        refine HZ.out.mono ?_
        rintro e w2 ⟨rfl, hb2⟩
        have HB2 := Lib.hid (below_next (below_next HB.out HA.out) hb2)
        clear hb2
        go_wp2_with fail
        exact ⟨⟨k + 1, by have := HLT.out; omega, by first | (rw [hst.out]; done) | rfl | trivial, by first | rfl | trivial, HB2.out⟩, by have := HLT.out; simp [intOf]; omega⟩
      · obtain rfl : k = n := by omega
        clear hk hb
        go_wp2_with fail
        go_ret2
        exact ⟨rfl, HB.out⟩
  · rw [if_neg hz]
    have e1 : (c != 0) = true := by simpa using hz
    clear h hc hk0 hcc hl hm
    go_enter Tryd.func17, Tryd.ntmps17
    go_wp2_with fail
    refine HCK.out.mono ?_
    rintro e w1 ⟨rfl, hb⟩
    go_wp2_with fail
    go_ret2
    exact ⟨rfl, hb⟩
/-- the day of an index -/
def nthL : List Sp → Int → Int × Bool
  | [], _ => (0, false)
  | x :: r, k => if k < x.2 - x.1 + 1 then (x.1 + k, true) else nthL r (k - (x.2 - x.1 + 1))
theorem nthL_drop {l : List Sp} {i : Nat} (hi : i < l.length) (k : Int) : nthL (l.drop i) k = if k < (l.getD i (0, 0)).2 - (l.getD i (0, 0)).1 + 1 then ((l.getD i (0, 0)).1 + k, true) else nthL (l.drop (i + 1)) (k - ((l.getD i (0, 0)).2 - (l.getD i (0, 0)).1 + 1)) := by
  rw [List.drop_eq_getElem_cons hi, nthL]; simp [hi]
def nthD (l : List Sp) (k : Int) : Int := if chk l = 0 ∧ 0 ≤ k then (nthL l k).1 else 0
def nthB (l : List Sp) (k : Int) : Bool := if chk l = 0 ∧ 0 ≤ k then (nthL l k).2 else false
def nthE (l : List Sp) (k : Int) : Int := if chk l = 0 then (if k < 0 then 1 else 0) else chk l
set_option maxHeartbeats 2000000 in
set_option maxRecDepth 100000 in
theorem Nth_call (l : List Sp) (v : Value) (q : Int) (B : Nat) (w : World) (h : PRest B w l v) (hB : B ≤ w.heap.size) (hq : q ≤ 9223372036854775807) :
    Calls Tryd.prog 19 #[v, .int .i64 q] w fun e w' => e = .returned (.tuple #[.int .i64 (nthD l q), .bool (nthB l q), .int .i64 (nthE l q)]) ∧ Below w.heap.size w w' := by
  have HCK := Lib.hid (Check_call l v B w h hB)
  have hk0 := fun h0 => chk_ok (l := l) h0
  unfold nthD nthB nthE
  obtain ⟨c, hcc⟩ : ∃ c, c = chk l := ⟨_, rfl⟩
  rw [← hcc] at HCK hk0 ⊢
  have h0 := h
  obtain ⟨a, cap, rfl, -⟩ := h0
  obtain ⟨-, hl, hm, hc⟩ := spans_at h
  by_cases hz : c = 0
  · subst hz
    obtain ⟨hlen, hcan⟩ := hk0 rfl
    by_cases hq0 : 0 ≤ q
    · rw [if_pos ⟨rfl, hq0⟩, if_pos ⟨rfl, hq0⟩, if_pos rfl, if_neg (by omega)]
      have e9 : decide (q < 0) = false := by simpa using hq0
      have HC := Lib.hid hc
      have HR := Lib.hid (fun k hk => span_rng hcan k hk)
      have HD := Lib.hid (fun i (hi : i < l.length) k => nthL_drop hi k)
      have HE : Hid (∀ k, nthL (l.drop l.length) k = (0, false)) := Lib.hid (fun k => by rw [List.drop_length]; rfl)
      have HQ : Hid (nthL (l.drop 0) q = nthL l q) := Lib.hid rfl
      unfold maxLen at hm
      obtain ⟨n, hn2⟩ : ∃ n, n = l.length := ⟨_, rfl⟩
      obtain ⟨R, hR⟩ : ∃ R, R = nthL l q := ⟨_, rfl⟩
      rw [← hn2] at hl hlen HC HR HD HE HCK ⊢
      rw [← hR] at HQ ⊢
      have HN := Lib.hid hlen
      have HQQ : Hid (0 ≤ q ∧ q ≤ 9223372036854775807) := Lib.hid ⟨hq0, hq⟩
      clear h hc hn2 hcc hk0 hcan hR hq0 hq
      go_enter Tryd.func19, Tryd.ntmps19
      go_wp2_with fail
      refine HCK.out.mono ?_
      rintro e w1 ⟨rfl, hb⟩
      have HB1 := Lib.hid hb
      clear hb
      go_wp2_with fail
      go_loopw [1, 18] (fun s1 s18 wr => ∃ (k : Nat) (z : Int), (k ≤ n ∧ 0 ≤ z ∧ z ≤ 9223372036854775807) ∧ nthL (l.drop k) z = R ∧ s1 = .int .i64 z ∧ s18 = .int .i64 (k : Int) ∧ Below w.heap.size w wr) (fun _ s18 _ => n - (intOf s18).toNat)
      case atStart => exact ⟨0, q, ⟨by omega, HQQ.out.1, HQQ.out.2⟩, HQ.out, rfl, rfl, HB1.out⟩
      case round =>
        obtain ⟨k, z, hk, hR, rfl, rfl, hb⟩ := hrel
        have HB := Lib.hid hb
        have HRR := Lib.hid hR
        clear hR
        rcases Nat.lt_or_ge k n with hlt | hge
        · obtain ⟨-, b, off, rfl, hbB, hc1, hc2⟩ := HC.out k hlt
          have hd1 := (hb.cell (p := ⟨b, off + k * 2, none⟩) (by show b < w.heap.size; omega)).trans hc1
          have hd2 := (hb.cell (p := ⟨b, off + k * 2 + 1, none⟩) (by show b < w.heap.size; omega)).trans hc2
          have HRK := HR.out k hlt
          have HDK := Lib.hid (HD.out k hlt z)
          generalize (l.getD k (0, 0)).1 = x1 at *
          generalize (l.getD k (0, 0)).2 = x2 at *
          have hki : (k : Int) < (n : Int) := by omega
          have HA := Lib.hid (Joins.below_alloc1 wr (.cells #[.int .i64 x1, .int .i64 x2] 45))
          have HZ := Lib.hid (fun W => size_call (x1, x2) W HRK)
          have hwk : IntKind.i64.wrap ((k : Int) + 1) = ((k + 1 : Nat) : Int) := by have := HN.out; rw [IntKind.wrap_i64]; omega
          have HLT := Lib.hid hlt
          have HROW := Lib.hid (row_new wr 45 [.int .i64 x1, .int .i64 x2])
          unfold SpV at HZ
          by_cases hgo : z < x2 - x1 + 1
          · have e1 : decide (z < x2 - x1 + 1) = true := by simpa using hgo
            have hw1 : IntKind.i64.wrap (x1 + z) = x1 + z := by rw [IntKind.wrap_i64]; omega
            have HRV : Hid (R = (x1 + z, true)) := Lib.hid (by rw [← HRR.out, HDK.out, if_pos hgo])
            clear hb hk hc1 hc2 hbB HRK hlt hgo
            go_wp2_with fail
            refine (HZ.out _).mono ?_
            rintro e w2 ⟨rfl, hb2⟩
            have hr2 := HROW.out.keep hb2
            have hr20 := hr2.cell (i := 0) rfl
            have hr21 := hr2.cell (i := 1) rfl
            have HB2 := Lib.hid (below_next (below_next HB.out HA.out) hb2)
            clear hb2 hr2
            go_wp2_with fail
            go_ret3
            exact ⟨by rw [HRV.out]; first | done | rfl, HB2.out⟩
          · have e1 : decide (z < x2 - x1 + 1) = false := by simpa using hgo
            have hw1 : IntKind.i64.wrap (z - (x2 - x1 + 1)) = z - (x2 - x1 + 1) := by rw [IntKind.wrap_i64]; omega
            have HRV : Hid (nthL (l.drop (k + 1)) (z - (x2 - x1 + 1)) = R) := Lib.hid (by rw [← HRR.out, HDK.out, if_neg hgo])
            have HZR : Hid (0 ≤ z - (x2 - x1 + 1) ∧ z - (x2 - x1 + 1) ≤ 9223372036854775807) := Lib.hid (by omega)
            clear hb hk hc1 hc2 hbB HRK hlt hgo
            go_wp2_with fail
            refine (HZ.out _).mono ?_
            rintro e w2 ⟨rfl, hb2⟩
            have hr2 := HROW.out.keep hb2
            have hr20 := hr2.cell (i := 0) rfl
            have hr21 := hr2.cell (i := 1) rfl
            have HB2 := Lib.hid (below_next (below_next HB.out HA.out) hb2)
            clear hb2 hr2
            go_wp2_with fail
            refine (HZ.out _).mono ?_
            rintro e w3 ⟨rfl, hb3⟩
            have HB3 := Lib.hid (below_next HB2.out hb3)
            clear hb3
            go_wp2_with fail
            exact ⟨⟨k + 1, _, ⟨by have := HLT.out; omega, HZR.out.1, HZR.out.2⟩, HRV.out, by first | rfl | trivial, by first | rfl | trivial, HB3.out⟩, by have := HLT.out; simp [intOf]; omega⟩
        · obtain rfl : k = n := by omega
          have HRV : Hid (R = (0, false)) := Lib.hid (by rw [← HRR.out, HE.out])
          clear hk hb
          go_wp2_with fail
          go_ret3
          exact ⟨by rw [HRV.out]; first | done | rfl, HB.out⟩
    · rw [if_neg (fun h => hq0 h.2), if_neg (fun h => hq0 h.2), if_pos rfl, if_pos (by omega)]
      have e9 : decide (q < 0) = true := by simp; omega
      clear h hc hk0 hcc hl hm hcan hq0
      go_enter Tryd.func19, Tryd.ntmps19
      go_wp2_with fail
      refine HCK.out.mono ?_
      rintro e w1 ⟨rfl, hb⟩
      go_wp2_with fail
      go_ret3
      exact ⟨rfl, hb⟩
  · rw [if_neg (fun h => hz h.1), if_neg (fun h => hz h.1), if_neg hz]
    have e1 : (c != 0) = true := by simpa using hz
    clear h hc hk0 hcc hl hm
    go_enter Tryd.func19, Tryd.ntmps19
    go_wp2_with fail
    refine HCK.out.mono ?_
    rintro e w1 ⟨rfl, hb⟩
    go_wp2_with fail
    go_ret3
    exact ⟨rfl, hb⟩
end Go.Proofs.YtiicjmbnkjociaaDoor
