/- The specification's Same: whether two values are equal, for every two values. -/
import Derived.Test.YtgliddedimpgaaaN
namespace Go.Proofs.Ytgliddedimpgaaa
open Go.RowKit

def RefSameSaid (x : V) : Prop := ∀ (y : V) (v u : Value) (W : World) (b : Bool), Is W x v → Is W y u → (b = true ↔ x = y) → Calls Try.prog 20 #[v, u] W fun e w' => e = .returned (.bool b) ∧ Below W.heap.size W w'

theorem keepC {w1 w2 : World} {p : Addr} {v : Value} (hb : Below w1.heap.size w1 w2) (h : w1.cell? p = some v) : w2.cell? p = some v := (hb.cell (World.block_lt_of_cell? w1 _ h)).trans h

theorem two_kept {w w' : World} {a b c d a' b' c' d' : Value} (h : Below ((w.alloc (.cells #[a, b, c, d] 24)).alloc (.cells #[a', b', c', d'] 24)).heap.size ((w.alloc (.cells #[a, b, c, d] 24)).alloc (.cells #[a', b', c', d'] 24)) w') :
    w'.cell? ⟨w.heap.size, 3, none⟩ = some d ∧ w'.cell? ⟨w.heap.size + 1, 3, none⟩ = some d' ∧ w.heap.size + 2 ≤ w'.heap.size := by
  have hb : Below (w.heap.size + 2) ((w.alloc (.cells #[a, b, c, d] 24)).alloc (.cells #[a', b', c', d'] 24)) w' := h.mono (by simp)
  have h0 : w'.heap[w.heap.size]? = some (.cells #[a, b, c, d] 24) := (hb.block w.heap.size (by omega)).trans ((Below.heap_alloc _ _ _ (by simp)).trans (heap_alloc_new w _))
  have h1 : w'.heap[w.heap.size + 1]? = some (.cells #[a', b', c', d'] 24) := by
    have := heap_alloc_new (w.alloc (.cells #[a, b, c, d] 24)) (.cells #[a', b', c', d'] 24)
    exact (hb.block (w.heap.size + 1) (by omega)).trans (by simpa using this)
  have hs := hb.size
  exact ⟨by rw [Joins.cell_of_block h0]; rfl, by rw [Joins.cell_of_block h1]; rfl, by simp at hs; omega⟩

theorem keep10 {w1 w2 : World} {p0 p1 p2 p3 p4 p5 p6 p7 p8 p9 : Addr} {v0 v1 v2 v3 v4 v5 v6 v7 v8 v9 : Value} (hb : Below w1.heap.size w1 w2)
    (h : w1.cell? p0 = some v0 ∧ w1.cell? p1 = some v1 ∧ w1.cell? p2 = some v2 ∧ w1.cell? p3 = some v3 ∧ w1.cell? p4 = some v4 ∧ w1.cell? p5 = some v5 ∧ w1.cell? p6 = some v6 ∧ w1.cell? p7 = some v7 ∧ w1.cell? p8 = some v8 ∧ w1.cell? p9 = some v9) :
    w2.cell? p0 = some v0 ∧ w2.cell? p1 = some v1 ∧ w2.cell? p2 = some v2 ∧ w2.cell? p3 = some v3 ∧ w2.cell? p4 = some v4 ∧ w2.cell? p5 = some v5 ∧ w2.cell? p6 = some v6 ∧ w2.cell? p7 = some v7 ∧ w2.cell? p8 = some v8 ∧ w2.cell? p9 = some v9 := by
  obtain ⟨h0, h1, h2, h3, h4, h5, h6, h7, h8, h9⟩ := h
  exact ⟨keepC hb h0, keepC hb h1, keepC hb h2, keepC hb h3, keepC hb h4, keepC hb h5, keepC hb h6, keepC hb h7, keepC hb h8, keepC hb h9⟩

theorem below_at2 {w a b : World} (h : Below w.heap.size w a) (k : Below a.heap.size a.drew b) : Below w.heap.size w b := h.drew.trans (k.mono (by simpa using h.size))

set_option maxHeartbeats 4000000 in
theorem refsame_loop (l m : List V) (hlm : l.length = m.length) (k n : Int) (s : ByteArray) (a1 a2 : Option Addr) (u1 u2 : Nat) (w : World) (b : Bool) (hx : Is w (.mk k n s l) (val k n s a1 l.length u1)) (hy : Is w (.mk k n s m) (val k n s a2 m.length u2))
    (hb : b = true ↔ l = m) (ih : Hid (∀ x ∈ l, RefSameSaid x)) :
    Calls Try.prog 20 #[val k n s a1 l.length u1, val k n s a2 m.length u2] w fun e w' => e = .returned (.bool b) ∧ Below w.heap.size w w' := by
  obtain ⟨_, _, _, _, _, _, fk, fn, fs, fa, fl, fc, _, _, _, hl, hc, he⟩ := hx
  obtain ⟨_, _, _, _, _, _, gk, gn, gs, ga, gl, gc, _, _, _, hl2, hc2, he2⟩ := hy
  have hne : (((l.length : Nat) : Int) != ((m.length : Nat) : Int)) = false := by simp; omega
  have HB := Lib.hid hb
  have HL := Lib.hid hlm
  clear hb hlm
  go_enter Try.func20, Try.ntmps20
  go_wp2_with fail
  go_loopw [5] (fun s5 wr => EqHead ((w.alloc (.cells #[.int .i64 k, .int .i64 n, .string s, .slice a1 l.length u1] 24)).alloc (.cells #[.int .i64 k, .int .i64 n, .string s, .slice a2 m.length u2] 24)) l m s5 wr) (fun s5 _ => l.length - (intOf s5).toNat)
  case atStart => exact ⟨0, by omega, rfl, rfl, Below.refl _ _⟩
  case round =>
    obtain ⟨i, hi, rfl, hf, hbw⟩ := hrel
    have HT := Lib.hid hf
    clear hf
    have HW := Lib.hid ((Joins.below_alloc2 w _ _).trans (hbw.mono (by simp; omega)))
    obtain ⟨p3, q3, hsz⟩ := two_kept hbw
    rcases Nat.lt_or_ge i l.length with hlt | hge
    · have hlt2 : i < m.length := by have := HL.out; omega
      rcases hc with h0 | ⟨b1, off, rfl, hbl, hc⟩
      · omega
      rcases hc2 with h0 | ⟨b2, off2, rfl, hbl2, hc2⟩
      · omega
      have hel := Lib.hid (he i hlt)
      have hel2 := Lib.hid (he2 i hlt2)
      obtain ⟨c0, c1, c2, c3⟩ := elem_cellsW HW.out hbl (hc i hlt)
      obtain ⟨d0, d1, d2, d3⟩ := elem_cellsW HW.out hbl2 (hc2 i hlt2)
      clear hc hc2 he he2
      have hd1 : ((i : Int) < (l.length : Int)) := by omega
      have hd2 : ((i : Int) < (m.length : Int)) := by omega
      by_cases hxy : l[i] = m[i]
      · have HS := Lib.hid (take_step hlt hlt2 HT.out hxy)
        go_wp2_with fail
        go_region_held3 (fun w' => w'.cell? ⟨w.heap.size, 3, none⟩ = some (.slice (some ⟨b1, off, none⟩) l.length u1) ∧ w'.cell? ⟨w.heap.size + 1, 3, none⟩ = some (.slice (some ⟨b2, off2, none⟩) m.length u2) ∧
          w'.cell? ⟨b1, off + i * 4, none⟩ = some (.int .i64 (fk i)) ∧ w'.cell? ⟨b1, off + i * 4 + 1, none⟩ = some (.int .i64 (fn i)) ∧ w'.cell? ⟨b1, off + i * 4 + 2, none⟩ = some (.string (fs i)) ∧ w'.cell? ⟨b1, off + i * 4 + 3, none⟩ = some (.slice (fa i) (fl i) (fc i)) ∧
          w'.cell? ⟨b2, off2 + i * 4, none⟩ = some (.int .i64 (gk i)) ∧ w'.cell? ⟨b2, off2 + i * 4 + 1, none⟩ = some (.int .i64 (gn i)) ∧ w'.cell? ⟨b2, off2 + i * 4 + 2, none⟩ = some (.string (gs i)) ∧ w'.cell? ⟨b2, off2 + i * 4 + 3, none⟩ = some (.slice (ga i) (gl i) (gc i)))
          (first | go_keep | (exact keep10 hb3 (by assumption)))
          (first | (go_at_call 20; refine (ih.out l[i] (List.getElem_mem hlt) m[i] _ _ _ true (Is.stays hel.out HW.out.drew) (Is.stays hel2.out HW.out.drew) ⟨fun _ => hxy, fun _ => rfl⟩).mono ?_; rintro e w1 ⟨rfl, hb3⟩))
        clear hxy
        go_wp2_with fail
        go_roundw
        case rel => exact ⟨i + 1, by omega, by simp, HS.out, below_at2 hbw hb3⟩
        case measure => simp [intOf]; omega
      · have HE : Hid (b = false) := by
          cases hbb : b with
          | false => rfl
          | true => exact absurd (elem_eq (HB.out.1 hbb) hlt hlt2) hxy
        go_wp2_with fail
        go_region_held3 (fun w' => w'.cell? ⟨w.heap.size, 3, none⟩ = some (.slice (some ⟨b1, off, none⟩) l.length u1) ∧ w'.cell? ⟨w.heap.size + 1, 3, none⟩ = some (.slice (some ⟨b2, off2, none⟩) m.length u2) ∧
          w'.cell? ⟨b1, off + i * 4, none⟩ = some (.int .i64 (fk i)) ∧ w'.cell? ⟨b1, off + i * 4 + 1, none⟩ = some (.int .i64 (fn i)) ∧ w'.cell? ⟨b1, off + i * 4 + 2, none⟩ = some (.string (fs i)) ∧ w'.cell? ⟨b1, off + i * 4 + 3, none⟩ = some (.slice (fa i) (fl i) (fc i)) ∧
          w'.cell? ⟨b2, off2 + i * 4, none⟩ = some (.int .i64 (gk i)) ∧ w'.cell? ⟨b2, off2 + i * 4 + 1, none⟩ = some (.int .i64 (gn i)) ∧ w'.cell? ⟨b2, off2 + i * 4 + 2, none⟩ = some (.string (gs i)) ∧ w'.cell? ⟨b2, off2 + i * 4 + 3, none⟩ = some (.slice (ga i) (gl i) (gc i)))
          (first | go_keep | (exact keep10 hb3 (by assumption)))
          (first | (go_at_call 20; refine (ih.out l[i] (List.getElem_mem hlt) m[i] _ _ _ false (Is.stays hel.out HW.out.drew) (Is.stays hel2.out HW.out.drew) ⟨fun h => by (cases h), fun h => absurd h hxy⟩).mono ?_; rintro e w1 ⟨rfl, hb3⟩))
        clear hxy
        go_wp2_with fail
        go_ret
        exact ⟨by rw [HE.out]; rfl, below_next HW.out.drew hb3⟩
    · obtain rfl : i = l.length := by omega
      have HE : Hid (b = true) := by
        have h := HT.out
        rw [List.take_length, HL.out, List.take_length] at h
        exact HB.out.2 h
      go_wp2_with fail
      go_ret
      exact ⟨by rw [HE.out]; rfl, HW.out⟩

theorem refsame_len (l m : List V) (hlm : ¬ l.length = m.length) (k n : Int) (s : ByteArray) (a1 a2 : Option Addr) (u1 u2 : Nat) (w : World) :
    Calls Try.prog 20 #[val k n s a1 l.length u1, val k n s a2 m.length u2] w fun e w' => e = .returned (.bool false) ∧ Below w.heap.size w w' := by
  have hne : (((l.length : Nat) : Int) != ((m.length : Nat) : Int)) = true := by simp; omega
  go_enter Try.func20, Try.ntmps20
  go_wp2_with fail
  go_ret
  exact ⟨rfl, Joins.below_alloc2 w _ _⟩

set_option maxHeartbeats 1000000 in
theorem refsame_call (x : V) : RefSameSaid x := by
  refine V.ind (P := fun x => RefSameSaid x) ?_ x
  intro k n s l ih y v u W b hx hy hb
  have hx2 := Lib.hid hx
  have hy2 := Lib.hid hy
  obtain ⟨_, _, _, _, a1, c1, _, _, _, _, _, _, _, _, _, _, _, _⟩ := hx
  obtain ⟨k', n', s', m, a2, c2, _, _, _, _, _, _, _, _, _, _, _, _⟩ := hy
  have HB := Lib.hid hb
  clear hb
  have no : ∀ {p : Prop}, (V.mk k n s l = V.mk k' n' s' m → p) → ¬ p → b = false := fun hp hn => by
    cases hbb : b with
    | false => rfl
    | true => exact absurd (hp (HB.out.1 hbb)) hn
  by_cases hk : k = k'
  · subst hk
    by_cases hn : n = n'
    · subst hn
      by_cases hs : s = s'
      · subst hs
        by_cases hl : l.length = m.length
        · exact refsame_loop l m hl k n s a1 a2 c1 c2 W b hx2.out hy2.out (by rw [HB.out]; simp) (Lib.hid ih)
        · have hb0 := no (p := l.length = m.length) (fun h => by (injection h with _ _ _ h; rw [h])) hl
          rw [hb0]
          exact refsame_len l m hl k n s a1 a2 c1 c2 W
      · have hb0 := no (p := s = s') (fun h => by (injection h)) hs
        subst hb0
        have h1 : ¬ s.toList = s'.toList := fun h => hs (str_inj h)
        have h2 : (s.toList == s'.toList) = false := by simpa using h1
        have h3 : (s.toList != s'.toList) = true := by simpa using h1
        clear hs
        go_enter Try.func20, Try.ntmps20
        go_wp2_with fail
        go_ret
        exact ⟨rfl, Joins.below_alloc2 W _ _⟩
    · have hb0 := no (p := n = n') (fun h => by (injection h)) hn
      subst hb0
      have h1 : (n != n') = true := by simpa using hn
      go_enter Try.func20, Try.ntmps20
      go_wp2_with fail
      go_ret
      exact ⟨rfl, Joins.below_alloc2 W _ _⟩
  · have hb0 := no (p := k = k') (fun h => by (injection h)) hk
    subst hb0
    have h1 : (k != k') = true := by simpa using hk
    go_enter Try.func20, Try.ntmps20
    go_wp2_with fail
    go_ret
    exact ⟨rfl, Joins.below_alloc2 W _ _⟩
end Go.Proofs.Ytgliddedimpgaaa
