/- The reference's Read. -/
import Derived.Test.YtlaaolbdadempaaZe9
import Derived.Test.YtlaaolbdadempaaZe8
import Derived.Test.YtlaaolbdadempaaZe4
namespace Go.Proofs.Ytlaaolbdadempaa
open Go.RowKit

/-- what is read of the sector before the write with the index k -/
def ReadTo (d : Dsk) (at' : Int) (k : Nat) (data : List UInt8) : Prop :=
  ((∀ j, j < k → (d.pend.getD j (0, [])).1 ≠ at') ∧ data = d.secs.getD at'.toNat []) ∨ ∃ j, j < k ∧ (d.pend.getD j (0, [])).1 = at' ∧ (∀ i, j < i → i < k → (d.pend.getD i (0, [])).1 ≠ at') ∧ data = (d.pend.getD j (0, [])).2
theorem readTo_all {d : Dsk} {at' : Int} {data : List UInt8} (h : ReadTo d at' d.pend.length data) : ReadData d at' data := h
theorem readData_one {d : Dsk} {at' : Int} {a b : List UInt8} (h : ReadData d at' a) (k : ReadData d at' b) : a = b := by
  rcases h with ⟨h1, rfl⟩ | ⟨j, h1, h2, h3, rfl⟩
  · rcases k with ⟨_, rfl⟩ | ⟨i, k1, k2, _, _⟩
    · rfl
    · exact absurd k2 (h1 i k1)
  · rcases k with ⟨k1, _⟩ | ⟨i, k1, k2, k3, rfl⟩
    · exact absurd h2 (k1 j h1)
    · have : i = j := by
        rcases Nat.lt_trichotomy i j with hij | hij | hij
        · exact absurd h2 (k3 j hij h1)
        · exact hij
        · exact absurd k2 (h3 i hij k1)
      rw [this]
theorem readTo_next {d : Dsk} {at' : Int} {k : Nat} {data : List UInt8} (h : ReadTo d at' k data) (hne : (d.pend.getD k (0, [])).1 ≠ at') : ReadTo d at' (k + 1) data := by
  rcases h with ⟨h1, h2⟩ | ⟨j, h1, h2, h3, h4⟩
  · refine .inl ⟨fun j hj => ?_, h2⟩
    by_cases hjk : j = k
    · subst hjk; exact hne
    · exact h1 j (by omega)
  · refine .inr ⟨j, by omega, h2, fun i hi1 hi2 => ?_, h4⟩
    by_cases hik : i = k
    · subst hik; exact hne
    · exact h3 i hi1 (by omega)
theorem readTo_hit {d : Dsk} {at' : Int} {k : Nat} (he : (d.pend.getD k (0, [])).1 = at') : ReadTo d at' (k + 1) (d.pend.getD k (0, [])).2 := .inr ⟨k, by omega, he, fun i h1 h2 => by omega, rfl⟩
def RdHead (d : Dsk) (at' : Int) (n : Nat) (w W : World) (s6 s7 : Value) (wr : World) : Prop := ∃ (k : Nat) (data : List UInt8), k ≤ n ∧ s7 = .int .i64 (k : Int) ∧ Rest w.heap.size w data s6 ∧ ReadTo d at' k data ∧ Below W.heap.size W wr
def RefRead (d : Dsk) (at' : Int) (w : World) (e : Ending) (w' : World) : Prop := ∃ u data, e = .returned (.tuple #[u, .int .i64 0]) ∧ Rest w.heap.size w data u ∧ ReadData d at' data ∧ Below w.heap.size w w'
set_option maxHeartbeats 8000000 in
set_option maxRecDepth 100000 in
theorem refread_call (d : Dsk) (at' : Int) (v : Value) (w : World) (h : DRest w.heap.size w d v) (hr : runsB d = true) (hh : hasB d.secs.length at' = true) :
    Calls Try.prog 29 #[v, .int .i64 at'] w (RefRead d at' w) := by
  obtain ⟨s, p, rfl, hs, hp⟩ := h
  have HS := Lib.hid hs
  have HP := Lib.hid hp
  have hval : validB d = true ∧ d.stop = false := by unfold runsB at hr; simpa using hr
  have HV : Hid (∀ W, Below w.heap.size w W → Calls Try.prog 23 #[dskOf s p d] W fun e w' => e = .returned (.int .i64 0) ∧ Below W.heap.size W w') := Lib.hid (fun W hW => by have := refcheck_call d _ W ⟨s, p, rfl, hs.keep hW, hp.keep hW⟩; rwa [hval.1, if_pos rfl] at this)
  obtain ⟨a, cap, rfl, hc1, hc2⟩ := hs.shape
  obtain ⟨a2, cap2, rfl, hc3, hc4⟩ := hp.shape
  clear hs hp
  obtain ⟨k0, hk0, hk0n⟩ : ∃ k : Nat, at' = k ∧ k < d.secs.length := by
    have := hh; unfold hasB at this; simp at this; exact ⟨at'.toNat, by omega, by omega⟩
  subst hk0
  obtain ⟨x0, hx0⟩ : ∃ x, d.secs[k0]? = some x := ⟨_, List.getElem?_eq_getElem hk0n⟩
  obtain ⟨sb, soff, su, rfl, hsbl, hsru, hscell⟩ := HS.out.at hx0
  have HSC := Lib.hid hscell
  have HX0 : Hid (Rest w.heap.size w (d.secs.getD (k0 : Int).toNat []) su) := Lib.hid (by rw [Int.toNat_natCast]; simpa [List.getD, hx0] using hsru)
  have hst := hval.2
  unfold dskOf dskCells at *
  rw [hst] at HV ⊢
  obtain ⟨n, hn⟩ : ∃ n, n = d.pend.length := ⟨_, rfl⟩
  rw [← hn] at HV HP hc4 ⊢
  have HN := Lib.hid hn
  have HR0 := Lib.hid (row_new w 25 [.slice (some ⟨sb, soff, none⟩) d.secs.length cap, .slice a2 n cap2, .int .i64 d.left, .bool false])
  have HB0 := Lib.hid (Joins.below_alloc1 w (.cells #[.slice (some ⟨sb, soff, none⟩) d.secs.length cap, .slice a2 n cap2, .int .i64 d.left, .bool false] 25))
  have hi0 : (k0 : Int) < (d.secs.length : Int) := by omega
  have hi1 : ¬ (k0 : Int) < 0 := by omega
  have hi2 : ¬ (d.secs.length : Int) ≤ (k0 : Int) := by omega
  clear hn hr hh hval hx0 hsru hscell hst
  go_enter Try.func29, Try.ntmps29
  go_wp2_with fail
  refine (HV.out _ HB0.out).mono ?_
  rintro e w1 ⟨rfl, hb⟩
  have HB1 := Lib.hid (below_next HB0.out hb)
  have HR1 := Lib.hid (HR0.out.keep hb)
  have c0 := HR1.out.cell (i := 0) rfl
  have c1 := HR1.out.cell (i := 1) rfl
  have c3 := HR1.out.cell (i := 3) rfl
  have csu := HSC.out w1 HB1.out
  clear hb HR0 HB0
  go_wp2_with fail
  go_loopw [6, 7] (fun s6 s7 wr => RdHead d (k0 : Int) n w w1 s6 s7 wr) (fun _ s7 _ => n - (intOf s7).toNat)
  case atStart => exact ⟨0, _, Nat.zero_le _, rfl, HX0.out, .inl ⟨fun j hj => by omega, rfl⟩, Below.refl _ _⟩
  case round =>
    obtain ⟨k, data, hk, rfl, hre, hrt, hb⟩ := hrel
    have HB := Lib.hid hb
    have HRE := Lib.hid hre
    have HRT := Lib.hid hrt
    have e1 := HR1.out.later hb (i := 1) rfl
    clear hb hre hrt c0 c1 c3 csu
    rcases Nat.lt_or_ge k n with hlt | hge
    · obtain ⟨x, hx⟩ : ∃ x, d.pend[k]? = some x := ⟨_, List.getElem?_eq_getElem (by rw [← HN.out]; exact hlt)⟩
      obtain ⟨b, off, u, rfl, hbl, hru, hcell⟩ := HP.out.at hx
      have hcx := (hcell wr (below_next HB1.out HB.out)).1
      have hcy := (hcell wr (below_next HB1.out HB.out)).2
      have hgd : d.pend.getD k (0, []) = x := by simp [List.getD, hx]
      have HGD := Lib.hid hgd
      have HRU := Lib.hid hru
      have hkn : (k : Int) < (n : Int) := by omega
      have hk00 : (0 : Int) ≤ (k : Int) := by omega
      obtain ⟨ax, dx⟩ := x
      simp only at hcx hcy
      clear hru hcell hx hgd
      by_cases hax : ax = (k0 : Int)
      · have HT : Hid (ReadTo d (k0 : Int) (k + 1) dx) := Lib.hid (by have := readTo_hit (d := d) (at' := (k0 : Int)) (k := k) (by rw [HGD.out]; exact hax); rwa [HGD.out] at this)
        go_wp2_with fail
        exact ⟨⟨k + 1, dx, hlt, by go_num, HRU.out, HT.out, HB.out⟩, by simp [intOf]; omega⟩
      · have HT : Hid (ReadTo d (k0 : Int) (k + 1) data) := Lib.hid (readTo_next HRT.out (by rw [HGD.out]; exact hax))
        go_wp2_with fail
        exact ⟨⟨k + 1, data, hlt, by go_num, HRE.out, HT.out, HB.out⟩, by simp [intOf]; omega⟩
    · obtain rfl : k = n := by omega
      have HT : Hid (ReadData d (k0 : Int) data) := Lib.hid (by have := HRT.out; rw [HN.out] at this; exact this)
      go_wp2_with fail
      go_ret2
      exact ⟨_, data, rfl, HRE.out, HT.out, below_next HB1.out HB.out⟩
end Go.Proofs.Ytlaaolbdadempaa

/- The reference's Read where it refuses; a sector made of one part. -/
namespace Go.Proofs.Ytlaaolbdadempaa
open Go.RowKit

theorem sectorL_pad (x : List UInt8) (h : x.length ≤ 128) : sectorL [x] = x ++ List.replicate (128 - x.length) 0 := by
  unfold sectorL overlay
  rw [List.foldl_cons, List.foldl_nil, List.length_replicate, List.drop_replicate, List.take_of_length_le h]
theorem sectorL_one (x : List UInt8) (h : x.length = 128) : sectorL [x] = x := by
  rw [sectorL_pad x (by omega), h]; exact List.append_nil x
set_option maxHeartbeats 8000000 in
set_option maxRecDepth 100000 in
theorem refread_refuse (d : Dsk) (at' : Int) (v : Value) (w : World) (h : DRest w.heap.size w d v) (hno : runsB d = false ∨ hasB d.secs.length at' = false) :
    Calls Try.prog 29 #[v, .int .i64 at'] w (RefuseRead w) := by
  have hcase : validB d = false ∨ (validB d = true ∧ d.stop = true) ∨ (validB d = true ∧ d.stop = false ∧ at' < 0) ∨ (validB d = true ∧ d.stop = false ∧ ¬ at' < 0 ∧ (d.secs.length : Int) ≤ at') := by
    unfold runsB hasB at hno
    rcases hb : validB d with _ | _ <;> rcases hs : d.stop with _ | _ <;> simp [hb, hs] at hno ⊢
    rcases Int.lt_or_le at' 0 with k | k
    · exact .inl k
    · exact .inr ⟨k, hno k⟩
  clear hno
  obtain ⟨s, p, rfl, hs, hp⟩ := h
  have HV : Hid (∀ W, Below w.heap.size w W → Calls Try.prog 23 #[dskOf s p d] W fun e w' => e = .returned (.int .i64 (if validB d then 0 else 40)) ∧ Below W.heap.size W w') := Lib.hid (fun W hW => refcheck_call d _ W ⟨s, p, rfl, hs.keep hW, hp.keep hW⟩)
  obtain ⟨a, cap, rfl, hc1, hc2⟩ := hs.shape
  obtain ⟨a2, cap2, rfl, hc3, hc4⟩ := hp.shape
  clear hs hp
  unfold dskOf dskCells at *
  generalize validB d = b at *
  generalize d.stop = st at *
  generalize d.left = left at *
  generalize d.secs.length = n at *
  generalize d.pend.length = m at *
  have HB0 := Lib.hid (Joins.below_alloc1 w (.cells #[.slice a n cap, .slice a2 m cap2, .int .i64 left, .bool st] 25))
  have HR0 := Lib.hid (row_new w 25 [.slice a n cap, .slice a2 m cap2, .int .i64 left, .bool st])
  rcases hcase with h1 | ⟨h1, h2⟩ | ⟨h1, h2, h3⟩ | ⟨h1, h2, h3, h4⟩
  all_goals subst h1
  all_goals try subst h2
  all_goals go_enter Try.func29, Try.ntmps29
  all_goals go_wp2_with fail
  all_goals refine (HV.out _ HB0.out).mono ?_
  all_goals rintro e w1 ⟨rfl, hb⟩
  all_goals have HB1 := Lib.hid (below_next HB0.out hb)
  all_goals have HR1 := Lib.hid (HR0.out.keep hb)
  all_goals have c0 := HR1.out.cell (i := 0) rfl
  all_goals have c3 := HR1.out.cell (i := 3) rfl
  all_goals clear hb HR0 HB0
  all_goals try simp only [Bool.false_eq_true, if_false, if_true]
  all_goals go_wp2_with fail
  all_goals go_ret2
  all_goals exact ⟨rfl, HB1.out⟩
end Go.Proofs.Ytlaaolbdadempaa

/- A sector whose halves begin with a byte: the law's own function. -/
namespace Go.Proofs.Ytlaaolbdadempaa
open Go.RowKit

def dbl (c : UInt8) : List UInt8 := (zeros.set 0 c).set 64 c
theorem dbl_len (c : UInt8) : (dbl c).length = 128 := by simp [dbl, zeros]
theorem set_byte (xs : List UInt8) (i : Nat) (c : UInt8) : (cellsOf xs).set i (.int .u8 (c.toNat : Int)) = cellsOf (xs.set i c) := by simp [cellsOf]
set_option maxHeartbeats 2000000 in
set_option maxRecDepth 100000 in
theorem double_call (c : UInt8) (w : World) :
    Calls Try.prog 34 #[.int .u8 (c.toNat : Int)] w fun e w' => ∃ g, e = .returned (.slice (some ⟨g, 0, none⟩) 128 128) ∧ w.heap.size ≤ g ∧ Row w' g 5 (cellsOf (dbl c)) ∧ Below w.heap.size w w' := by
  have HC : Hid (∀ x : Int, x = (c.toNat : Int) → x = (c.toNat : Int)) := Lib.hid (fun _ h => h)
  generalize hk : (c.toNat : Int) = k
  have HK := Lib.hid hk
  clear hk HC
  go_enter Try.func34, Try.ntmps34
  go_wp2_with (refine wpList_make rfl (.const (.int .i64 128)) rfl 128 (by omega) rfl ?_; intro g w1 hrow hg hb; have HG := Lib.hid hrow; have HGL := Lib.hid hg; have HB := Lib.hid hb; have c0 := hrow.cell (i := 0) (v := .int .u8 0) (by simp [cellsOf]); have c64 := hrow.cell (i := 64) (v := .int .u8 0) (by simp [cellsOf]); have f0 := hrow.free 0; have f64 := hrow.free 64; clear hrow hg hb)
  go_ret
  refine ⟨g, rfl, HGL.out, ?_, below_setCell (below_setCell HB.out g 0 _ HGL.out) g 64 _ HGL.out⟩
  have := (HG.out.set 0 (.int .u8 k) (by rw [← HK.out, set_byte])).set 64 (.int .u8 k) (by rw [← HK.out, set_byte])
  exact this
end Go.Proofs.Ytlaaolbdadempaa
