/- Writes performed on sectors. -/
import Derived.Test.YtlaaolbdadempaaK
namespace Go.Proofs.Ytlaaolbdadempaa
open Go.RowKit

def put1 (s : List (List UInt8)) (p : Int × List UInt8) : List (List UInt8) := s.set p.1.toNat (sectorL [s.getD p.1.toNat [], p.2])
def performL (s : List (List UInt8)) (l : List (Int × List UInt8)) : List (List UInt8) := l.foldl put1 s
theorem put1_len (s p) : (put1 s p).length = s.length := by simp [put1]
theorem performL_len : ∀ (l : List (Int × List UInt8)) (s : List (List UInt8)), (performL s l).length = s.length
  | [], _ => rfl
  | p :: l, s => by rw [performL, List.foldl_cons]; exact (performL_len l _).trans (put1_len s p)
theorem performL_step {s : List (List UInt8)} {l : List (Int × List UInt8)} {k : Nat} {p} (h : l[k]? = some p) : performL s (l.take (k + 1)) = put1 (performL s (l.take k)) p := by
  obtain ⟨h1, h2⟩ := List.getElem?_eq_some_iff.1 h
  unfold performL
  rw [List.take_succ_eq_append_getElem h1, List.foldl_append, h2]; rfl
theorem nrest_two {W : World} {x y : List UInt8} {u v : Value} (hx : Rest W.heap.size W x u) (hy : Rest W.heap.size W y v) :
    NRest (W.alloc (.cells #[u, v] 35)).heap.size (W.alloc (.cells #[u, v] 35)) [x, y] (.slice (some ⟨W.heap.size, 0, none⟩) 2 2) := by
  have hr := row_new W 35 [u, v]
  have hb := Joins.below_alloc1 W (.cells #[u, v] 35)
  refine ⟨_, _, rfl, Nat.le_refl _, by simp [maxLen], (fun h => by cases h), .inr ⟨W.heap.size, 0, rfl, hr.lt, fun i z hi => ?_⟩⟩
  rw [Nat.zero_add]
  match i, hi with
  | 0, hi => injection hi with hi; subst hi; exact ⟨u, hr.cell rfl, (hx.stays hb).mono hb.size⟩
  | 1, hi => injection hi with hi; subst hi; exact ⟨v, hr.cell rfl, (hy.stays hb).mono hb.size⟩
theorem nrest_one {W : World} {x : List UInt8} {u : Value} (hx : Rest W.heap.size W x u) :
    NRest (W.alloc (.cells #[u] 35)).heap.size (W.alloc (.cells #[u] 35)) [x] (.slice (some ⟨W.heap.size, 0, none⟩) 1 1) := by
  have hr := row_new W 35 [u]
  have hb := Joins.below_alloc1 W (.cells #[u] 35)
  refine ⟨_, _, rfl, Nat.le_refl _, by simp [maxLen], (fun h => by cases h), .inr ⟨W.heap.size, 0, rfl, hr.lt, fun i z hi => ?_⟩⟩
  rw [Nat.zero_add]
  match i, hi with
  | 0, hi => injection hi with hi; subst hi; exact ⟨u, hr.cell rfl, (hx.stays hb).mono hb.size⟩
def Pf1 (S : Nat → Prop) (n g : Nat) : Nat → Prop := fun b => Ext (Cut S n) n b ∧ b ≠ g
def PfHead (S : Nat → Prop) (secs : List (List UInt8)) (l : List (Int × List UInt8)) (g cap : Nat) (w : World) (s11 : Value) (wr : World) : Prop := ∃ (k : Nat) (vs : List Value), k ≤ l.length ∧ s11 = .int .i64 (k : Int) ∧ Tab (Pf1 S w.heap.size g) g cap wr (performL secs (l.take k)) vs ∧ Below w.heap.size w wr
set_option maxHeartbeats 4000000 in
set_option maxRecDepth 100000 in
theorem perform_call (S : Nat → Prop) (secs : List (List UInt8)) (l : List (Int × List UInt8)) (sv pv : Value) (w : World) (hs : NRestS S w secs sv) (hp : PRest w.heap.size w l pv) (h0 : 0 < secs.length) (h1 : secs.length ≤ 4096)
    (hok : ∀ p ∈ l, hasB secs.length p.1 = true) :
    Calls Try.prog 58 #[sv, pv] w fun e w' => ∃ s', e = .returned s' ∧ NRestS (Ext S w.heap.size) w' (performL secs l) s' ∧ Below w.heap.size w w' := by
  have HCL := Lib.hid (clone_call S secs sv w hs h0 (by omega))
  have HV := Lib.hid hp
  obtain ⟨a, acap, rfl, hc1, hc2⟩ := hs.rest.shape
  obtain ⟨a2, acap2, rfl, hc3, hc4⟩ := hp.shape
  have HOK := Lib.hid hok
  clear hs hp hok
  obtain ⟨m, hm⟩ : ∃ m, m = l.length := ⟨_, rfl⟩
  obtain ⟨n, hn⟩ : ∃ n, n = secs.length := ⟨_, rfl⟩
  rw [← hm] at HV hc4 ⊢
  rw [← hn] at HCL HOK hc2 h0 h1 ⊢
  have HM := Lib.hid hm
  have HN := Lib.hid hn
  clear hm hn
  go_enter Try.func58, Try.ntmps58
  go_wp2_with (go_at_call 79; refine HCL.out.mono ?_; rintro e w1 ⟨g, cap, vs0, rfl, ht, hcm, hg, hb⟩; have HT := Lib.hid (ht.weak (S' := Pf1 S w.heap.size g) (fun b h1 _ => ⟨.inl h1, by have := h1.2; omega⟩)); have HB := Lib.hid hb; have HCM := Lib.hid hcm; clear ht hb hcm)
  go_loopw [11] (fun s11 wr => PfHead S secs l g cap w s11 wr) (fun s11 _ => m - (intOf s11).toNat)
  case atStart => exact ⟨0, vs0, Nat.zero_le _, rfl, HT.out, HB.out⟩
  case round =>
    obtain ⟨k, vs, hk, rfl, ht, hb⟩ := hrel
    rw [← HM.out] at hk
    have HT := Lib.hid ht
    have HB := Lib.hid hb
    clear ht hb
    rcases Nat.lt_or_ge k m with hlt | hge
    · obtain ⟨p, hp⟩ : ∃ p, l[k]? = some p := ⟨_, List.getElem?_eq_getElem (by rw [← HM.out]; exact hlt)⟩
      obtain ⟨b, off, u, rfl, hbl, hru, hcell⟩ := HV.out.at hp
      have HC := Lib.hid (hcell wr HB.out)
      have hru2 := (hru.stays HB.out).mono HB.out.size
      obtain ⟨ua, uc, rfl, hu1, hu2⟩ := hru.shape
      have HRU := Lib.hid hru2
      have HST := Lib.hid (performL_step (s := secs) hp)
      have hat := HOK.out p (List.mem_of_getElem? hp)
      have hat2 : 0 ≤ p.1 ∧ p.1 < (n : Int) := by simpa [hasB] using hat
      obtain ⟨at', data⟩ := p
      obtain ⟨i, rfl⟩ : ∃ i : Nat, at' = i := ⟨at'.toNat, by have := hat2.1; simp only at this; omega⟩
      simp only at hat2 HC HRU hu2 HST
      obtain ⟨xs, hxs⟩ : ∃ xs, xs = performL secs (l.take k) := ⟨_, rfl⟩
      have hxl : xs.length = n := by rw [hxs, performL_len, ← HN.out]
      rw [← hxs] at HT HST
      have hin : i < n := by omega
      obtain ⟨x, hx⟩ : ∃ x, xs[i]? = some x := ⟨_, List.getElem?_eq_getElem (by rw [hxl]; exact hin)⟩
      obtain ⟨xu, hxu, hxr0⟩ := HT.out.el i x hx
      have hxr := hxr0.rest
      obtain ⟨xa, xc, rfl, hx1, hx2⟩ := hxr.shape
      have hkm : (k : Int) < (m : Int) := by omega
      have hk0 : (0 : Int) ≤ (k : Int) := by omega
      have hin2 : (i : Int) < (n : Int) := by omega
      have HPT : Hid (performL secs (l.take (k + 1)) = xs.set i (sectorL [x, data])) := Lib.hid (by rw [HST.out]; unfold put1; simp [List.getD, hx])
      have HXU := Lib.hid hxu
      have HXR := Lib.hid hxr
      clear hru hru2 hcell hp hat hxs hxu hxr hxr0 hat2 hx
      go_wp2_with (refine wpList_load_wr rfl (.tmp 13) rfl b (off + k * 2) (i : Int) (.slice ua data.length uc) rfl HC.out ?_; unfold wrOf)
      obtain ⟨W0, hW0⟩ : ∃ W0, W0 = wr.alloc (.cells #[.int .i64 (i : Int), .slice ua data.length uc] 76) := ⟨_, rfl⟩
      have hb0 : Below wr.heap.size wr W0 := by rw [hW0]; exact Joins.below_alloc1 wr _
      have hrow0 : Row W0 wr.heap.size 76 [.int .i64 (i : Int), .slice ua data.length uc] := by rw [hW0]; exact row_new wr 76 _
      rw [← hW0]
      have HB0 := Lib.hid hb0
      have HR0 := Lib.hid hrow0
      have HT0 := Lib.hid (HT.out.keep hb0)
      have HX0 := Lib.hid ((HXR.out.stays hb0).mono hb0.size)
      have HD0 := Lib.hid ((HRU.out.stays hb0).mono hb0.size)
      have d0 := hrow0.cell (i := 0) rfl
      have d1 := hrow0.cell (i := 1) rfl
      have d2 := HT0.out.cell HXU.out
      have hg0 : g < W0.heap.size := HT0.out.lt
      have hw0 : wr.heap.size < W0.heap.size := hrow0.lt
      clear hW0 hb0 hrow0
      go_region_with (go_at_call 51; refine (sector_call [x, data] _ _ (nrest_two (W := W0.drew) HX0.out HD0.out)).mono ?_; rintro e w4 ⟨g4, rfl, hg4, hrow, hb'⟩; have hb : Below W0.heap.size W0 w4 := below_next (Joins.below_alloc1 W0 _) (below_undrew hb'); have e0 := HR0.out.later hb (i := 0) rfl; have e2 := (HT0.out.keep hb).cell HXU.out; have e3 := (HT0.out.keep hb).free i)
      all_goals
        have hgg : g ≠ g4 := by simp at hg4; omega
        have hset := (HT0.out.keep hb).set (i := i) (by rw [hxl]; exact hin) (rows_rest (S := Pf1 S w.heap.size g) (n := 128) hrow (sectorL_len _) (by omega) ⟨.inr (by have := HB.out.size; have := HB0.out.size; simp at hg4; omega), fun h => hgg h.symm⟩) (fun h => h.2 rfl)
        rw [← HPT.out] at hset
        have HSET := Lib.hid hset
        have HB4 := Lib.hid (below_setCell (below_next (below_next HB.out HB0.out) hb) g i (.slice (some ⟨g4, 0, none⟩) 128 128) hg)
        clear hset hb hb' hrow e0 e2 e3 d0 d1 d2
        go_wp2_with fail
        exact ⟨⟨k + 1, _, by rw [← HM.out]; exact hlt, by go_num, HSET.out, HB4.out⟩, by simp [intOf]; omega⟩
    · obtain rfl : k = m := by omega
      have hT := HT.out
      rw [HM.out, List.take_length] at hT
      have HNR := Lib.hid (hT.nrest (S' := Ext S w.heap.size) HCM.out (.inr hg) (fun b hb _ => by
        rcases hb.1 with h1 | h1
        · exact .inl h1.1
        · exact .inr h1))
      rw [performL_len, ← HN.out] at HNR
      clear hT
      go_wp2_with fail
      go_ret
      exact ⟨_, rfl, HNR.out, HB.out⟩
end Go.Proofs.Ytlaaolbdadempaa
