/- Same: whether two values are equal, for every two values. -/
import Derived.Test.YtgliddedimpgaaaE
namespace Go.Proofs.Ytgliddedimpgaaa
open Go.RowKit

theorem str_loop2 (s : ByteArray) : ∀ (k i : Nat) (r : List UInt8), s.size - i ≤ k → ByteArray.toList.loop s i r = r.reverse ++ s.data.toList.drop i := by
  intro k
  induction k with
  | zero =>
    intro i r h
    have hs : s.data.toList.length = s.size := by rw [Array.length_toList]; rfl
    rw [ByteArray.toList.loop, if_neg (by omega), List.drop_eq_nil_of_le (by omega)]; simp
  | succ k ih =>
    intro i r h
    have hs : s.data.toList.length = s.size := by rw [Array.length_toList]; rfl
    rw [ByteArray.toList.loop]
    by_cases hi : i < s.size
    · rw [if_pos hi, ih (i + 1) _ (by omega), List.drop_eq_getElem_cons (i := i) (by omega)]
      have : s.get! i = s.data.toList[i] := by
        have hd : i < s.data.size := hi
        show s.data[i]! = _
        rw [getElem!_pos s.data i hd, Array.getElem_toList]
      rw [this]; simp
    · rw [if_neg hi, List.drop_eq_nil_of_le (by omega)]; simp
theorem str_list (s : ByteArray) : s.toList = s.data.toList := by
  unfold ByteArray.toList
  rw [str_loop2 s s.size 0 [] (by omega)]; simp
theorem str_inj {s t : ByteArray} (h : s.toList = t.toList) : s = t := by
  rw [str_list, str_list] at h
  obtain ⟨a⟩ := s
  obtain ⟨b⟩ := t
  have : a = b := Array.toList_inj.1 h
  rw [this]

def SameSaid (x : V) : Prop := ∀ (y : V) (v u : Value) (W : World) (b : Bool), Is W x v → Is W y u → (b = true ↔ x = y) → Calls Try.prog 21 #[v, u] W fun e w' => e = .returned (.bool b) ∧ Below W.heap.size W w'

def EqHead (w : World) (l m : List V) (s17 : Value) (wr : World) : Prop := ∃ i : Nat, i ≤ l.length ∧ s17 = .int .i64 i ∧ l.take i = m.take i ∧ Below w.heap.size w wr

theorem take_step {l m : List V} {i : Nat} (h : i < l.length) (h2 : i < m.length) (ht : l.take i = m.take i) (he : l[i] = m[i]) : l.take (i + 1) = m.take (i + 1) := by
  rw [List.take_succ_eq_append_getElem h, List.take_succ_eq_append_getElem h2, ht, he]

theorem elem_eq {l m : List V} {i : Nat} (h : l = m) (h1 : i < l.length) (h2 : i < m.length) : l[i] = m[i] := by subst h; rfl

/-- An element's four cells, in a later world. -/
theorem elem_cellsW {w wr : World} {b off : Nat} {c0 c1 c2 c3 : Value} (hb : Below w.heap.size w wr) (hl : b < w.heap.size)
    (h : w.cell? ⟨b, off, none⟩ = some c0 ∧ w.cell? ⟨b, off + 1, none⟩ = some c1 ∧ w.cell? ⟨b, off + 2, none⟩ = some c2 ∧ w.cell? ⟨b, off + 3, none⟩ = some c3) :
    wr.cell? ⟨b, off, none⟩ = some c0 ∧ wr.cell? ⟨b, off + 1, none⟩ = some c1 ∧ wr.cell? ⟨b, off + 2, none⟩ = some c2 ∧ wr.cell? ⟨b, off + 3, none⟩ = some c3 := by
  obtain ⟨h0, h1, h2, h3⟩ := h
  exact ⟨(hb.cell (p := ⟨b, off, none⟩) hl).trans h0, (hb.cell (p := ⟨b, off + 1, none⟩) hl).trans h1, (hb.cell (p := ⟨b, off + 2, none⟩) hl).trans h2, (hb.cell (p := ⟨b, off + 3, none⟩) hl).trans h3⟩

set_option maxHeartbeats 1000000 in
theorem equal_loop (l m : List V) (hlm : l.length = m.length) (k1 n1 k2 n2 : Int) (s1 s2 : ByteArray) (a1 a2 : Option Addr) (c1 c2 : Nat) (w : World) (b : Bool) (hx : Is w (.mk k1 n1 s1 l) (val k1 n1 s1 a1 l.length c1)) (hy : Is w (.mk k2 n2 s2 m) (val k2 n2 s2 a2 m.length c2))
    (hb : b = true ↔ l = m) (ih : Hid (∀ x ∈ l, SameSaid x)) :
    Calls Try.prog 36 #[.slice a1 l.length c1, .slice a2 m.length c2, .func (Fn.func 21) #[] #[]] w fun e w' => e = .returned (.bool b) ∧ Below w.heap.size w w' := by
  obtain ⟨_, _, _, _, _, _, fk, fn, fs, fa, fl, fc, _, _, _, hl, hc, he⟩ := hx
  obtain ⟨_, _, _, _, _, _, gk, gn, gs, ga, gl, gc, _, _, _, hl2, hc2, he2⟩ := hy
  have hne : (((l.length : Nat) : Int) != ((m.length : Nat) : Int)) = false := by simp; omega
  have HB := Lib.hid hb
  have HL := Lib.hid hlm
  clear hb hlm
  go_enter Try.func36, Try.ntmps36
  go_wp2_with fail
  go_loopw [17] (fun s17 wr => EqHead w l m s17 wr) (fun s17 _ => l.length - (intOf s17).toNat)
  case atStart => exact ⟨0, by omega, rfl, rfl, Below.refl _ _⟩
  case round =>
    obtain ⟨i, hi, rfl, hf, hbw⟩ := hrel
    have HT := Lib.hid hf
    clear hf
    rcases Nat.lt_or_ge i l.length with hlt | hge
    · have hlt2 : i < m.length := by have := HL.out; omega
      rcases hc with h0 | ⟨b1, off, rfl, hbl, hc⟩
      · omega
      rcases hc2 with h0 | ⟨b2, off2, rfl, hbl2, hc2⟩
      · omega
      have hel := Lib.hid (he i hlt)
      have hel2 := Lib.hid (he2 i hlt2)
      obtain ⟨c0, c1, c2, c3⟩ := elem_cellsW hbw hbl (hc i hlt)
      obtain ⟨d0, d1, d2, d3⟩ := elem_cellsW hbw hbl2 (hc2 i hlt2)
      have HLT := World.block_lt_of_cell? wr _ c0
      have HLT2 := World.block_lt_of_cell? wr _ d0
      clear hc hc2 he he2
      go_wp2_with fail
      have hb2 : Below w.heap.size w ((wr.alloc (.cells #[.int .i64 (fk i), .int .i64 (fn i), .string (fs i), .slice (fa i) (fl i) (fc i)] 24)).alloc (.cells #[.int .i64 (gk i), .int .i64 (gn i), .string (gs i), .slice (ga i) (gl i) (gc i)] 24)) :=
        (hbw.alloc hbw.size _).alloc (by have := hbw.size; simp; omega) _
      by_cases hxy : l[i] = m[i]
      · refine (ih.out l[i] (List.getElem_mem hlt) m[i] _ _ _ true (Is.stays hel.out hb2) (Is.stays hel2.out hb2) ⟨fun _ => hxy, fun _ => rfl⟩).mono ?_
        rintro e w1 ⟨rfl, hb3⟩
        have hb4 := below_next hb2 hb3
        have HS := Lib.hid (take_step hlt hlt2 HT.out hxy)
        clear hxy
        go_wp2_with fail
        go_roundw
        case rel => exact ⟨i + 1, by omega, by simp, HS.out, hb4⟩
        case measure => simp [intOf]; omega
      · refine (ih.out l[i] (List.getElem_mem hlt) m[i] _ _ _ false (Is.stays hel.out hb2) (Is.stays hel2.out hb2) ⟨fun h => by (cases h), fun h => absurd h hxy⟩).mono ?_
        rintro e w1 ⟨rfl, hb3⟩
        have hb4 := below_next hb2 hb3
        have HE : Hid (b = false) := by
          cases hbb : b with
          | false => rfl
          | true => exact absurd (elem_eq (HB.out.1 hbb) hlt hlt2) hxy
        clear hxy
        go_wp2_with fail
        go_ret
        exact ⟨by rw [HE.out]; rfl, hb4⟩
    · obtain rfl : i = l.length := by omega
      have HE : Hid (b = true) := by
        have h := HT.out
        rw [List.take_length, HL.out, List.take_length] at h
        exact HB.out.2 h
      go_wp2_with fail
      go_ret
      exact ⟨by rw [HE.out]; rfl, hbw⟩

theorem equal_len (a1 a2 : Option Addr) (n1 n2 c1 c2 : Nat) (f : Value) (h : ¬ n1 = n2) (w : World) :
    Calls Try.prog 36 #[.slice a1 n1 c1, .slice a2 n2 c2, f] w fun e w' => e = .returned (.bool false) ∧ Below w.heap.size w w' := by
  have hne : (((n1 : Nat) : Int) != ((n2 : Nat) : Int)) = true := by simp; omega
  go_enter Try.func36, Try.ntmps36
  go_wp2_with fail
  go_ret
  exact ⟨rfl, Below.refl _ _⟩

/-- the part of Same behind the first three comparisons -/
theorem same_rest (l m : List V) (k n : Int) (s : ByteArray) (a1 a2 : Option Addr) (c1 c2 : Nat) (w : World) (b : Bool) (hx : Is w (.mk k n s l) (val k n s a1 l.length c1)) (hy : Is w (.mk k n s m) (val k n s a2 m.length c2))
    (hb : b = true ↔ l = m) (ih : Hid (∀ x ∈ l, SameSaid x)) :
    Calls Try.prog 36 #[.slice a1 l.length c1, .slice a2 m.length c2, .func (Fn.func 21) #[] #[]] w fun e w' => e = .returned (.bool b) ∧ Below w.heap.size w w' := by
  by_cases h : l.length = m.length
  · exact equal_loop l m h k n k n s s a1 a2 c1 c2 w b hx hy hb ih
  · have : b = false := by
      cases hbb : b with
      | false => rfl
      | true => exact absurd (by rw [hb.1 hbb]) h
    rw [this]
    exact equal_len a1 a2 _ _ c1 c2 _ h w

set_option maxHeartbeats 1000000 in
theorem same_call (x : V) : SameSaid x := by
  refine V.ind (P := fun x => SameSaid x) ?_ x
  intro k n s l ih y v u W b hx hy hb
  have hx2 := Lib.hid hx
  have hy2 := Lib.hid hy
  obtain ⟨_, _, _, _, a1, c1, _, _, _, _, _, _, _, _, _, _, _, _⟩ := hx
  obtain ⟨k', n', s', m, a2, c2, _, _, _, _, _, _, _, _, _, _, _, _⟩ := hy
  have HB := Lib.hid hb
  clear hb
  have no : ∀ {p : Prop}, (V.mk k n s l = V.mk k' n' s' m → p) → ¬ p → b = false := fun hp hn => by
    cases hbb : b with
    | false => rfl
    | true => exact absurd (hp (HB.out.1 hbb)) hn
  by_cases hk : k = k'
  · subst hk
    by_cases hn : n = n'
    · subst hn
      by_cases hs : s = s'
      · subst hs
        clear no
        go_enter Try.func21, Try.ntmps21
        go_wp2_with fail
        refine (same_rest l m k n s a1 a2 c1 c2 _ b (Is.stays hx2.out (Joins.below_alloc2 W _ _)) (Is.stays hy2.out (Joins.below_alloc2 W _ _)) (by rw [HB.out]; simp) (Lib.hid ih)).mono ?_
        rintro e w1 ⟨rfl, hb1⟩
        go_wp2_with fail
        go_ret
        exact ⟨rfl, below_next (Joins.below_alloc2 W _ _) hb1⟩
      · have hb0 := no (p := s = s') (fun h => by (injection h)) hs
        subst hb0
        have h1 : ¬ s.toList = s'.toList := fun h => hs (str_inj h)
        have h2 : (s.toList == s'.toList) = false := by simpa using h1
        clear hs
        go_enter Try.func21, Try.ntmps21
        go_wp2_with fail
        go_ret
        exact ⟨rfl, Joins.below_alloc2 W _ _⟩
    · have hb0 := no (p := n = n') (fun h => by (injection h)) hn
      subst hb0
      have h1 : (n == n') = false := by simpa using hn
      go_enter Try.func21, Try.ntmps21
      go_wp2_with fail
      go_ret
      exact ⟨rfl, Joins.below_alloc2 W _ _⟩
  · have hb0 := no (p := k = k') (fun h => by (injection h)) hk
    subst hb0
    have h1 : (k == k') = false := by simpa using hk
    go_enter Try.func21, Try.ntmps21
    go_wp2_with fail
    go_ret
    exact ⟨rfl, Joins.below_alloc2 W _ _⟩
end Go.Proofs.Ytgliddedimpgaaa
