/- What the reference's functions answer, as the laws take it. -/
import Derived.Test.YtlaaolbdadempaaZe19
import Derived.Test.YtlaaolbdadempaaZe3
namespace Go.Proofs.Ytlaaolbdadempaa
open Go.RowKit

theorem Rest.keep {w w' : World} {bs : List UInt8} {v : Value} (h : Rest w.heap.size w bs v) (hb : Below w.heap.size w w') : Rest w'.heap.size w' bs v := rest_keep h hb
section
variable {W : World} {d d' : Dsk} {s p : Value} {l k : Int} {b : Bool}
theorem refwrite_law (h : DRest W.heap.size W d (dv s p l b)) (at' : Int) {bs : List UInt8} {bv : Value} (hb : Rest W.heap.size W bs bv) (hr : writeD d at' bs = (d', k)) :
    Calls Try.prog 27 #[dv s p l b, .int .i64 at', bv] W (NewD W d' k) := (refwrite_call _ d _ at' bs bv W (drests h) hb).mono fun _ _ h => h.new hr
theorem refstop_law (h : DRest W.heap.size W d (dv s p l b)) (left : Int) (hr : stopD d left = (d', k)) : Calls Try.prog 33 #[dv s p l b, .int .i64 left] W (NewD W d' k) := (refstop_call _ d _ left W (drests h)).mono fun _ _ h => h.new hr
theorem refnew_law (n : Int) (hr : newD n = (d', k)) : Calls Try.prog 20 #[.int .i64 n] W (NewD W d' k) := (refnew_call (fun _ => True) n W).mono fun _ _ h => h.new hr
theorem refrestart_law (h : DRest W.heap.size W d (dv s p l b)) (hr : restartD d = d') : Calls Try.prog 25 #[dv s p l b] W (NewR W d') :=
  (refrestart_call _ d _ W (drests h)).mono fun _ _ ⟨v, he, hd, hb⟩ => by
    subst hr
    have hd' := hd.rest
    obtain ⟨s, p, rfl, h1, h2⟩ := hd'
    exact ⟨s, p, _, _, he, ⟨s, p, rfl, h1, h2⟩, hb⟩
/-- what the reference reads -/
def RefAt (w : World) (data : List UInt8) (e : Ending) (w' : World) : Prop := ∃ a c, e = .returned (.tuple #[.slice a data.length c, .int .i64 0]) ∧ Rest w'.heap.size w' data (.slice a data.length c) ∧ Below w.heap.size w w'
theorem refread_law (h : DRest W.heap.size W d (dv s p l b)) (at' : Int) (hr : runsB d = true) (hh : hasB d.secs.length at' = true) {data : List UInt8} (hd : readF d at' = data) : Calls Try.prog 29 #[dv s p l b, .int .i64 at'] W (RefAt W data) :=
  (refread_call d at' _ W h hr hh).mono fun _ _ ⟨u, data', he, h1, h2, h3⟩ => by
    obtain rfl : data' = data := (readF_one h2).trans hd
    obtain ⟨a, c, rfl, _, _⟩ := h1.shape
    exact ⟨a, c, he, (h1.stays h3).mono h3.size, h3⟩
theorem refread_none (h : DRest W.heap.size W d (dv s p l b)) (at' : Int) (hno : runsB d = false ∨ hasB d.secs.length at' = false) : Calls Try.prog 29 #[dv s p l b, .int .i64 at'] W (RefuseRead W) := refread_refuse d at' _ W h hno
theorem same_law {s' p' : Value} {l' : Int} {b' : Bool} (h : DRest W.heap.size W d (dv s p l b)) (h' : DRest W.heap.size W d (dv s' p' l' b')) :
    Calls Try.prog 21 #[dv s p l b, dv s' p' l' b'] W fun e w' => e = .returned (.bool true) ∧ Below W.heap.size W w' := refsame_call d _ _ W h h'
/-- what is read of a disk that runs has the length of a sector -/
theorem readF_len {at' : Int} (hr : runsB d = true) (hh : hasB d.secs.length at' = true) : (readF d at').length = 128 := by
  obtain ⟨_, _, h3, _, h5, _⟩ := runs_facts hr
  rcases readF_data d at' with ⟨_, h⟩ | ⟨j, h1, _, _, h⟩
  · rw [h]
    have h0 : at'.toNat < d.secs.length := by unfold hasB at hh; simp at hh; omega
    rw [show d.secs.getD at'.toNat [] = d.secs[at'.toNat] by simp [List.getD, h0]]
    exact h3 _ (List.getElem_mem _)
  · rw [h, show d.pend.getD j (0, []) = d.pend[j] by simp [List.getD, h1]]
    exact (h5 _ (List.getElem_mem _)).2
theorem sector_one {x : List UInt8} (h : x.length = 128) : sectorL [x] = x := by
  rw [sectorL_pad x (by omega), h]; simp
end
end Go.Proofs.Ytlaaolbdadempaa

/- Disks as plain data: what a write, a sync, a stop make of a disk that runs; what is then read. -/
namespace Go.Proofs.Ytlaaolbdadempaa

theorem sectorL_two {x y : List UInt8} (hx : x.length ≤ 128) (hy : y.length ≤ x.length) : sectorL [x, y] = y ++ (x ++ List.replicate (128 - x.length) 0).drop y.length := by
  have h1 := sectorL_pad x hx
  unfold sectorL at h1 ⊢
  rw [List.foldl_cons, List.foldl_nil] at h1
  rw [List.foldl_cons, List.foldl_cons, List.foldl_nil, h1]
  unfold overlay
  rw [List.take_of_length_le (by simp; omega)]
theorem sectorL_top {x y : List UInt8} (hx : x.length = 128) (hy : y.length = 128) : sectorL [x, y] = y := by
  rw [sectorL_two (by omega) (by omega)]
  rw [List.drop_eq_nil_of_le (by simp; omega), List.append_nil]
theorem sectorL_half {x y : List UInt8} (hx : x.length = 128) (hy : y.length ≤ 128) : sectorL [x, y] = y ++ x.drop y.length := by
  rw [sectorL_two (by omega) (by omega), hx]; simp
/-- a disk that runs, by its parts -/
structure Runs (d : Dsk) : Prop where
  pos : 0 < d.secs.length
  most : d.secs.length ≤ 4096
  secs : ∀ x ∈ d.secs, x.length = 128
  few : d.pend.length ≤ 4096
  pend : ∀ q ∈ d.pend, hasB d.secs.length q.1 = true ∧ q.2.length = 128
  left : -1 ≤ d.left ∧ d.left ≤ 65536
  stop : d.stop = false
theorem Runs.of {d : Dsk} (h : runsB d = true) : Runs d := by
  obtain ⟨a, b, c, e, f, g, i, j⟩ := runs_facts h
  exact ⟨a, b, c, e, f, ⟨g, i⟩, j⟩
theorem Runs.runs {d : Dsk} (h : Runs d) : runsB d = true := by
  have h1 : anyDam d.secs = false := by
    unfold anyDam; rw [List.any_eq_false]; intro x hx; simp [damB, h.secs x hx]
  have h2 : anyWrong d.secs.length d.pend = false := by
    unfold anyWrong; rw [List.any_eq_false]; intro x hx; simp [wrongW, damB, (h.pend x hx).1, (h.pend x hx).2]
  unfold runsB validB
  rw [h1, h2, h.stop]
  have := h.pos; have := h.most; have := h.few; have := h.left
  simp; omega
theorem Runs.valid {d : Dsk} (h : Runs d) : validB d = true := by have := h.runs; unfold runsB at this; simp at this; exact this.1
def written (d : Dsk) (at' : Int) (b : List UInt8) : Dsk := ⟨d.secs, d.pend ++ [(at', sectorL [b])], d.left, d.stop⟩
theorem Runs.written {d : Dsk} (h : Runs d) {at' : Int} (ha : hasB d.secs.length at' = true) (b : List UInt8) (hf : d.pend.length < 4096) : Runs (written d at' b) :=
  ⟨h.pos, h.most, h.secs, by show (d.pend ++ [_]).length ≤ 4096; simp; omega, fun q hq => by
    rcases List.mem_append.1 hq with hq | hq
    · exact h.pend q hq
    · simp at hq; subst hq; exact ⟨ha, sectorL_len _⟩, h.left, h.stop⟩
theorem write_ok {d : Dsk} {at' : Int} {b : List UInt8} {d' : Dsk} (h : writeD d at' b = (d', 0)) : Runs d ∧ hasB d.secs.length at' = true ∧ b.length ≤ 128 ∧ d.pend.length < 4096 ∧ d' = written d at' b := by
  unfold writeD at h
  split at h
  · rename_i hr
    rw [Bool.and_eq_true] at hr
    split at h
    · simp at h
    · split at h
      · simp at h
      · simp at h; exact ⟨.of hr.1, hr.2, by omega, by omega, h.symm⟩
  · simp at h
theorem write_runs {d : Dsk} {at' : Int} (b : List UInt8) (h : Runs d) (ha : hasB d.secs.length at' = true) (hb : b.length ≤ 128) (hf : d.pend.length < 4096) : writeD d at' b = (written d at' b, 0) := by
  unfold writeD
  rw [h.runs, ha]
  simp only [Bool.and_self, if_true]
  rw [if_neg (by omega), if_neg (by omega)]; rfl
/-- a write to a disk that runs, of no more than a sector: either it is done, or there are too many -/
theorem write_some {d : Dsk} {at' : Int} (b : List UInt8) (h : Runs d) (ha : hasB d.secs.length at' = true) (hb : b.length ≤ 128) : writeD d at' b = (zeroD, 2) ∨ (d.pend.length < 4096 ∧ writeD d at' b = (written d at' b, 0)) := by
  by_cases hf : d.pend.length < 4096
  · exact .inr ⟨hf, write_runs b h ha hb hf⟩
  · left
    unfold writeD
    rw [h.runs, ha]
    simp only [Bool.and_self, if_true]
    rw [if_neg (by omega), if_pos (by omega)]
theorem readF_written (d : Dsk) (at' other : Int) (b : List UInt8) : readF (written d at' b) other = if at' = other then sectorL [b] else readF d other := by
  unfold readF written
  simp only [List.foldl_append, List.foldl_cons, List.foldl_nil]
/-- the last write to a place -/
def lastW (l : List (Int × List UInt8)) (k : Int) (x : List UInt8) : List UInt8 := l.foldl (fun acc p => if p.1 = k then p.2 else acc) x
theorem readF_last (d : Dsk) (k : Int) : readF d k = lastW d.pend k (d.secs.getD k.toNat []) := rfl
theorem getD_set {α} (l : List α) (i j : Nat) (x y : α) (hi : i < l.length) : (l.set i x).getD j y = if i = j then x else l.getD j y := by
  by_cases h : i = j
  · subst h; simp [List.getD, hi]
  · simp [List.getD, List.getElem?_set_ne h, h]
theorem put1_getD {s : List (List UInt8)} {p : Int × List UInt8} {k : Nat} (hs : ∀ x ∈ s, x.length = 128) (hp : hasB s.length p.1 = true) (hl : p.2.length = 128) : (put1 s p).getD k [] = if p.1 = (k : Int) then p.2 else s.getD k [] := by
  have h2 : 0 ≤ p.1 ∧ p.1 < (s.length : Int) := by unfold hasB at hp; simpa using hp
  unfold put1
  rw [getD_set _ _ _ _ _ (by omega)]
  have hx : (s.getD p.1.toNat []).length = 128 := by
    have : p.1.toNat < s.length := by omega
    rw [show s.getD p.1.toNat [] = s[p.1.toNat] by simp [List.getD, this]]
    exact hs _ (List.getElem_mem _)
  rw [sectorL_top hx hl]
  by_cases h : p.1 = (k : Int)
  · rw [if_pos h, if_pos (by omega)]
  · rw [if_neg h, if_neg (by omega)]
theorem put1_secs {s : List (List UInt8)} {p : Int × List UInt8} (hs : ∀ x ∈ s, x.length = 128) : ∀ x ∈ put1 s p, x.length = 128 := by
  intro x hx
  unfold put1 at hx
  rcases List.mem_or_eq_of_mem_set hx with h | h
  · exact hs x h
  · rw [h]; exact sectorL_len _
theorem performL_secs : ∀ {l : List (Int × List UInt8)} {s : List (List UInt8)}, (∀ x ∈ s, x.length = 128) → ∀ x ∈ performL s l, x.length = 128
  | [], _, h => h
  | p :: l, s, h => by
    have := performL_secs (l := l) (put1_secs (p := p) h)
    simpa [performL] using this
theorem performL_getD : ∀ (l : List (Int × List UInt8)) (s : List (List UInt8)) (k : Nat), (∀ x ∈ s, x.length = 128) → (∀ q ∈ l, hasB s.length q.1 = true ∧ q.2.length = 128) → (performL s l).getD k [] = lastW l (k : Int) (s.getD k [])
  | [], _, _, _, _ => rfl
  | p :: l, s, k, hs, hl => by
    have h1 := hl p (by simp)
    have ih := performL_getD l (put1 s p) k (put1_secs hs) (fun q hq => by rw [put1_len]; exact hl q (by simp [hq]))
    unfold performL at ih ⊢
    rw [List.foldl_cons, ih, put1_getD hs h1.1 h1.2]
    unfold lastW
    rw [List.foldl_cons]
def synced (d : Dsk) : Dsk := ⟨performL d.secs d.pend, [], if d.left = -1 then -1 else d.left - d.pend.length, false⟩
theorem sync_cases {d : Dsk} (h : Runs d) : (d.left ≠ -1 ∧ d.left < (d.pend.length : Int) ∧ syncD d = (haltD d d.left.toNat (d.pend.getD d.left.toNat (0, [])), 40)) ∨ ((d.left = -1 ∨ (d.pend.length : Int) ≤ d.left) ∧ syncD d = (synced d, 0) ∧ Runs (synced d)) := by
  unfold syncD
  rw [if_pos h.runs]
  by_cases hc : d.left ≠ -1 ∧ d.left < (d.pend.length : Int)
  · rw [if_pos hc]; exact .inl ⟨hc.1, hc.2, rfl⟩
  · rw [if_neg hc]
    refine .inr ⟨by omega, rfl, ?_⟩
    refine ⟨?_, ?_, performL_secs h.secs, by simp [synced], fun q hq => by simp [synced] at hq, ?_, rfl⟩
    · show 0 < (performL d.secs d.pend).length; rw [performL_len]; exact h.pos
    · show (performL d.secs d.pend).length ≤ 4096; rw [performL_len]; exact h.most
    · have := h.left; have := h.few
      show -1 ≤ (if d.left = -1 then -1 else d.left - (d.pend.length : Int)) ∧ (if d.left = -1 then -1 else d.left - (d.pend.length : Int)) ≤ 65536
      split <;> omega
theorem synced_reads {d : Dsk} (h : Runs d) (k : Nat) : readF (synced d) (k : Int) = readF d (k : Int) := by
  rw [readF_last, readF_last]
  show lastW [] _ ((performL d.secs d.pend).getD (k : Int).toNat []) = _
  rw [Int.toNat_natCast, performL_getD _ _ _ h.secs h.pend]; rfl
theorem has_nat {n k : Nat} (h : k < n) : hasB n (k : Int) = true := by unfold hasB; simp; omega
end Go.Proofs.Ytlaaolbdadempaa
