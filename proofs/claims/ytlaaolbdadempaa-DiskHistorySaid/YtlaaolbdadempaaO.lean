/- A disk that stops in a sync. -/
import Derived.Test.YtlaaolbdadempaaN
namespace Go.Proofs.Ytlaaolbdadempaa
open Go.RowKit

theorem cut3 {A B C : Type} {F : A → B → C → Prop} (G : A → B → C → Prop) {R : Prop} (rest : (∀ a b c, F a b c → G a b c) → R) (kk : ∀ a b c, F a b c → G a b c) : R := rest kk
/-- the write that is torn -/
def torn (p : Int × List UInt8) : Int × List UInt8 := (p.1, p.2.take 64)
def haltL (d : Dsk) (k : Nat) (p : Int × List UInt8) : List (Int × List UInt8) := d.pend.take k ++ [torn p]
def haltD (d : Dsk) (k : Nat) (p : Int × List UInt8) : Dsk := ⟨performL d.secs (haltL d k p), [], 0, true⟩
theorem row_set0 {w : World} {g T : Nat} {x y z : Value} (h : Row w g T [x, y]) : Row (w.setCell ⟨g, 1, none⟩ z) g T [x, z] := h.set 1 z rfl
theorem below_drew {B : Nat} {w w' : World} (h : Below B w w') : Below B w w'.drew := ⟨h.os, h.tape, h.output, h.size, h.block⟩
theorem take_get {α} {xs : List α} {k i : Nat} {x : α} (h : (xs.take k)[i]? = some x) : xs[i]? = some x := by
  rw [List.getElem?_take] at h; split at h
  · exact h
  · cases h
theorem pcells_take : ∀ (ps : List (Int × List UInt8)) (us : List Value) (k : Nat), us.length = ps.length → pcells (ps.take k) (us.take k) = (pcells ps us).take (k * 2)
  | [], [], k, _ => by simp [pcells]
  | p :: ps, u :: us, 0, _ => by simp [pcells]
  | p :: ps, u :: us, k + 1, h => by
    have := pcells_take ps us k (by simpa using h)
    rw [show (k + 1) * 2 = k * 2 + 1 + 1 by omega]
    simp [pcells, this]
set_option maxHeartbeats 4000000 in
set_option maxRecDepth 100000 in
theorem halt_call (S : Nat → Prop) (d : Dsk) (v : Value) (k : Nat) (p : Int × List UInt8) (w : World) (h : DRestS S w d v) (hk : d.left = (k : Int)) (hp : d.pend[k]? = some p) (hp128 : p.2.length = 128) (h0 : 0 < d.secs.length) (h1 : d.secs.length ≤ 4096)
    (hpl : d.pend.length ≤ 4096) (hok : ∀ q ∈ d.pend, hasB d.secs.length q.1 = true) :
    Calls Try.prog 57 #[v] w fun e w' => ∃ v', e = .returned v' ∧ DRestS (Ext S w.heap.size) w' (haltD d k p) v' ∧ Below w.heap.size w w' := by
  obtain ⟨s, pv, rfl, hs, hpr⟩ := h
  have HS := Lib.hid hs
  obtain ⟨a, cap, rfl, hc1, hc2⟩ := hs.rest.shape
  obtain ⟨a2, cap2, rfl, hc3, hc4⟩ := hpr.rest.shape
  obtain ⟨us, hul, huel, huc⟩ := hpr.vals
  obtain ⟨b, off, u, rfl, hbl, hru, hcell⟩ := hpr.rest.at hp
  obtain ⟨ua, uc, rfl, hu1, hu2⟩ := hru.shape
  obtain ⟨ub, uo, rfl, hul2⟩ : ∃ ub uo, ua = some ⟨ub, uo, none⟩ ∧ 0 < p.2.length := by
    obtain ⟨a3, c3, he, _, _, _, h5⟩ := hru
    injection he with he1 he2 he3
    subst he1
    rcases h5 with h5 | ⟨b3, o3, rfl, _⟩
    · omega
    · exact ⟨b3, o3, rfl, by omega⟩
  have hkl : k < d.pend.length := (List.getElem?_eq_some_iff.1 hp).1
  have HPERF : Hid (∀ S' W sv lv, NRestS S' W d.secs sv → PRest W.heap.size W (haltL d k p) lv → Calls Try.prog 58 #[sv, lv] W fun e w' => ∃ s', e = .returned s' ∧ NRestS (Ext S' W.heap.size) w' (performL d.secs (haltL d k p)) s' ∧ Below W.heap.size W w') :=
    Lib.hid (fun S' W sv lv h2 h3 => perform_call S' d.secs _ sv lv W h2 h3 h0 h1 (fun q hq => by
      unfold haltL at hq
      rcases List.mem_append.1 hq with hq | hq
      · exact hok q (List.mem_of_mem_take hq)
      · simp at hq; subst hq; exact hok p (List.mem_of_getElem? hp)))
  have HRU := Lib.hid hru
  have HUL := Lib.hid hul
  have HUEL := Lib.hid huel
  have HC := Lib.hid hcell
  have HP := Lib.hid hp
  obtain ⟨n, hn⟩ : ∃ n, n = d.pend.length := ⟨_, rfl⟩
  have HOLD : Hid (∀ W, Below w.heap.size w W → ∀ (j : Nat) x, (pcells (d.pend.take k) (us.take k))[j]? = some x → W.cell? ⟨b, off + j, none⟩ = some x) := Lib.hid (fun W hW j x hj => by
    rw [pcells_take _ _ _ hul] at hj
    have hj := take_get hj
    rcases huc with h2 | ⟨b3, o3, he, h3, h4⟩
    · omega
    · injection he with he; injection he with he1 he2; subst he1 he2
      exact (hW.cell (p := ⟨b, off + j, none⟩) h3).trans (h4 j x hj).1)
  rw [← hn] at hpl hkl hc4 ⊢
  have HN := Lib.hid hn
  unfold dskOf dskCells
  rw [hk]
  have hkn : (k : Int) < (n : Int) := by omega
  have hk0 : (0 : Int) ≤ (k : Int) := by omega
  clear hs hpr hul huel huc hru hcell hp hn hok hk
  obtain ⟨at', data⟩ := p
  simp only at hp128 hu2 HRU HC
  rw [hp128] at HC hu2 HRU
  go_enter Try.func57, Try.ntmps57
  go_wp2_with (refine wpList_load_wr rfl (.tmp 9) rfl b (off + k * 2) at' (.slice (some ⟨ub, uo, none⟩) 128 uc) rfl (HC.out _ (below_two w _ _)) ?_; unfold wrOf)
  have hw0 : Row (((w.alloc (.cells #[.slice a d.secs.length cap, .slice (some ⟨b, off, none⟩) n cap2, .int .i64 (k : Int), .bool d.stop] 25)).alloc (.cells #[.slice none 0 0, .slice none 0 0, .int .i64 0, .bool false] 25)).alloc (.cells #[.int .i64 at', .slice (some ⟨ub, uo, none⟩) 64 uc] 76)) w.heap.size 25 [.slice a d.secs.length cap, .slice (some ⟨b, off, none⟩) n cap2, .int .i64 (k : Int), .bool d.stop] := ((row_new w 25 _).keep (Joins.below_alloc1 _ _)).keep (Joins.below_alloc1 _ _)
  have hw1 : Row (((w.alloc (.cells #[.slice a d.secs.length cap, .slice (some ⟨b, off, none⟩) n cap2, .int .i64 (k : Int), .bool d.stop] 25)).alloc (.cells #[.slice none 0 0, .slice none 0 0, .int .i64 0, .bool false] 25)).alloc (.cells #[.int .i64 at', .slice (some ⟨ub, uo, none⟩) 64 uc] 76)) (w.heap.size + 1) 25 [.slice none 0 0, .slice none 0 0, .int .i64 0, .bool false] := by
    have := (row_new (w.alloc (.cells #[.slice a d.secs.length cap, .slice (some ⟨b, off, none⟩) n cap2, .int .i64 (k : Int), .bool d.stop] 25)) 25 [.slice none 0 0, .slice none 0 0, .int .i64 0, .bool false]).keep (Joins.below_alloc1 _ (.cells #[.int .i64 at', .slice (some ⟨ub, uo, none⟩) 64 uc] 76))
    rwa [World.size_alloc] at this
  have hw2 : Row (((w.alloc (.cells #[.slice a d.secs.length cap, .slice (some ⟨b, off, none⟩) n cap2, .int .i64 (k : Int), .bool d.stop] 25)).alloc (.cells #[.slice none 0 0, .slice none 0 0, .int .i64 0, .bool false] 25)).alloc (.cells #[.int .i64 at', .slice (some ⟨ub, uo, none⟩) 64 uc] 76)) (w.heap.size + 1 + 1) 76 [.int .i64 at', .slice (some ⟨ub, uo, none⟩) 64 uc] := by
    have := row_new ((w.alloc (.cells #[.slice a d.secs.length cap, .slice (some ⟨b, off, none⟩) n cap2, .int .i64 (k : Int), .bool d.stop] 25)).alloc (.cells #[.slice none 0 0, .slice none 0 0, .int .i64 0, .bool false] 25)) 76 [.int .i64 at', .slice (some ⟨ub, uo, none⟩) 64 uc]
    rwa [World.size_alloc, World.size_alloc] at this
  have hbw := below_next (below_two w (.cells #[.slice a d.secs.length cap, .slice (some ⟨b, off, none⟩) n cap2, .int .i64 (k : Int), .bool d.stop] 25) (.cells #[.slice none 0 0, .slice none 0 0, .int .i64 0, .bool false] 25)) (Joins.below_alloc1 _ (.cells #[.int .i64 at', .slice (some ⟨ub, uo, none⟩) 64 uc] 76))
  generalize ((w.alloc (.cells #[.slice a d.secs.length cap, .slice (some ⟨b, off, none⟩) n cap2, .int .i64 (k : Int), .bool d.stop] 25)).alloc (.cells #[.slice none 0 0, .slice none 0 0, .int .i64 0, .bool false] 25)).alloc (.cells #[.int .i64 at', .slice (some ⟨ub, uo, none⟩) 64 uc] 76) = W0 at hw0 hw1 hw2 hbw ⊢
  have HR0 := Lib.hid hw0
  have HR1 := Lib.hid hw1
  have HR2 := Lib.hid hw2
  have HB0 := Lib.hid hbw
  have d1 := hw0.cell (i := 1) rfl
  have d2 := hw0.cell (i := 2) rfl
  have d3 := hw2.cell (i := 0) rfl
  have d4 := hw2.cell (i := 1) rfl
  have hsz := hw2.lt
  have hkc : k ≤ cap2 := by omega
  have hs1 : w.heap.size < W0.heap.size := by omega
  have hs2 : w.heap.size + 1 < W0.heap.size := by omega
  clear hw0 hw1 hw2 hbw
  refine' cut3 (F := fun (g7 cap7 : Nat) (w7 : World) => w7.ownsRow W0.heap.size 76 2 (.slice (some ⟨g7, 0, none⟩) (k + 1) cap7) (k + 1) (pcells (d.pend.take k) (us.take k) ++ [.int .i64 at', .slice (some ⟨ub, uo, none⟩) 64 uc]) ∧ Below W0.heap.size W0 w7) _ ?rest ?kk
  case rest =>
    intro K
    go_region_law (refine step_append_wr rfl (.tmp 21) (.tmp 23) rfl (some ⟨b, off, none⟩) k (d.pend.take k) (us.take k) (by simp [Act.eval, Act.put]) (by rw [List.length_take, ← HN.out]; omega) (fun h => by cases h) (by rw [List.length_take, List.length_take, HUL.out]) (.inr ⟨b, off, rfl, HOLD.out _ (below_next (below_drew HB0.out) (Joins.below_alloc1 _ _))⟩) W0.heap.size (at', data.take 64) (.slice (some ⟨ub, uo, none⟩) 64 uc) (by simp [Act.eval, Act.put]) (row_new W0.drew 76 _) (by omega) rfl ?_; intro g7 cap7 w7 hown hb7)
    all_goals exact K g7 cap7 w7 ⟨Joins.ownsRow_le hown (by simp), below_next (Joins.below_alloc1 W0 _) (below_undrew hb7)⟩
  case kk =>
    rintro g7 cap7 w7 ⟨hown, hb7⟩
    have HB7 := Lib.hid (below_next HB0.out hb7)
    have hg7 := owns_ge hown
    have h7 : Rest w7.heap.size w7 data (.slice (some ⟨ub, uo, none⟩) data.length uc) := by rw [hp128]; exact (HRU.out.stays HB7.out).mono HB7.out.size
    have hpr : PRest w7.heap.size w7 (haltL d k (at', data)) (.slice (some ⟨g7, 0, none⟩) (k + 1) cap7) := by
      have := prests_more (S := fun b => b < w7.heap.size) (p := torn (at', data)) hown (by rw [List.length_take, ← HN.out]; omega) (by rw [List.length_take, List.length_take, HUL.out]) (fun g h => by cases h; exact (hown.lt g7 rfl).2)
        (fun i q x hq hx => (((HUEL.out i q x (take_get hq) (take_get hx)).later HB7.out).rest))
        (rest_part h7 0 64 uc (by omega) (by omega) (Nat.le_refl _))
      exact this
    have HPR := Lib.hid hpr
    have HSL := Lib.hid (HS.out.later HB7.out)
    have e0 := (HR0.out.keep hb7).cell (i := 0) rfl
    have HRR := Lib.hid (HR1.out.keep hb7)
    clear hpr hown hb7 d1 d2 d3 d4
    go_wp2_with (first
      | (go_at_call 58; refine (HPERF.out _ w7 _ _ HSL.out HPR.out).mono ?_; rintro e w8 ⟨s', rfl, hns, hb⟩; obtain ⟨sa, sc, rfl, -, -⟩ := hns.rest.shape; have HNS := Lib.hid hns; have HB8 := Lib.hid (below_next HB7.out hb); have HRR8 := Lib.hid (HRR.out.keep hb); clear hns hb)
      | (refine wpList_store_ags rfl 25 (.tmp 2) (.tmp 29) rfl (w.heap.size + 1) [.slice sa (performL d.secs (haltL d k (at', data))).length sc, .slice none 0 0, .int .i64 0, .bool true] _ size25 (by rfl) rfl rfl HRR8.out (by rfl) HB8.out (by omega) ?_; intro w9 hr hb hf))
    have hns9 : NRestS (Ext S w.heap.size) w9 (performL d.secs (haltL d k (at', data))) (.slice sa (performL d.secs (haltL d k (at', data))).length sc) :=
      (HNS.out.keep (.far (w.heap.size + 1) (fun hh => by
        rcases hh with h1 | h1
        · have := h1.2; omega
        · have := HB7.out.size; have := HRR.out.lt; omega) hf)).weak (fun b hh _ => by
        rcases hh with h1 | h1
        · exact .inl h1.1
        · exact .inr (by have := HB7.out.size; omega))
    exact bodyPost_ret (results_cell_row Try.results57 _ w9 (w.heap.size + 1) 25 _ (0, 0) _ rfl hr Try.underlying25 rfl (by rw [size25]; rfl)) rfl ⟨_, rfl, ⟨_, _, rfl, hns9, prests_nil _ _⟩, hb⟩
end Go.Proofs.Ytlaaolbdadempaa
