/- The history of a disk: plain data. -/
import Derived.Test.YtlaaolbdadempaaHo
import Derived.Test.YtlaaolbdadempaaTg
namespace Go.Proofs.Ytlaaolbdadempaa
open Go.RowKit

theorem dbl_halves (c : UInt8) : Halves (dbl c) c c := by
  refine ⟨dbl_len c, ?_, ?_, ?_, ?_⟩ <;> simp [dbl, zeros, List.getElem?_set]
theorem dbl_sector (c : UInt8) : sectorL [dbl c] = dbl c := sector_one (dbl_len c)
theorem zeros_halves : Halves zeros 0 0 := by
  refine ⟨by simp [zeros], ?_, ?_, ?_, ?_⟩ <;> simp [zeros]
/-- a first half anew -/
theorem torn_halves {x : List UInt8} {a b c : UInt8} (h : Halves x a b) : Halves (sectorL [x, (dbl c).take 64]) c b := by
  obtain ⟨h1, h2, h3, h4, h5⟩ := h
  obtain ⟨d1, d2, d3, d4, d5⟩ := dbl_halves c
  have hl : ((dbl c).take 64).length = 64 := by rw [List.length_take, dbl_len]; rfl
  rw [sectorL_half h1 (by rw [hl]; omega), hl]
  refine ⟨by rw [List.length_append, List.length_drop, hl, h1], ?_, ?_, ?_, ?_⟩
  · rw [List.getElem?_append_left (by omega), List.getElem?_take]; simpa using d2
  · rw [List.getElem?_append_right (by omega), hl, List.getElem?_drop]; simpa using h3
  · rw [List.getElem?_append_left (by omega), List.getElem?_take]; simpa using d4
  · rw [List.getElem?_append_right (by omega), hl, List.getElem?_drop]; simpa using h5
/-- sectors whose halves begin with these bytes -/
def AllH (s : List (List UInt8)) (F S : List UInt8) : Prop := F.length = 4 ∧ S.length = 4 ∧ ∀ (i : Nat) x y, F[i]? = some x → S[i]? = some y → Halves (s.getD i []) x y
def bytesAt (l : List Act3) (F : List UInt8) : List UInt8 := l.foldl (fun f a => f.set (a.at'.toNat % 4) a.byte) F
theorem bytesAt_len : ∀ (l : List Act3) (F : List UInt8), (bytesAt l F).length = F.length
  | [], _ => rfl
  | a :: l, F => by unfold bytesAt; rw [List.foldl_cons]; exact (bytesAt_len l _).trans (by simp)
theorem bytesAt_step {l : List Act3} {F : List UInt8} {k : Nat} {a : Act3} (h : l[k]? = some a) : bytesAt (l.take (k + 1)) F = (bytesAt (l.take k) F).set (a.at'.toNat % 4) a.byte := by
  obtain ⟨h1, h2⟩ := List.getElem?_eq_some_iff.1 h
  unfold bytesAt
  rw [List.take_succ_eq_append_getElem h1, List.foldl_append, h2]; rfl
def pendOf (l : List Act3) : List (Int × List UInt8) := l.map fun a => (((a.at'.toNat % 4 : Nat) : Int), dbl a.byte)
theorem pendOf_len (l : List Act3) : (pendOf l).length = l.length := by simp [pendOf]
theorem set_get4 {F : List UInt8} {k i : Nat} {c x : UInt8} (h : (F.set k c)[i]? = some x) : (i = k ∧ x = c) ∨ (i ≠ k ∧ F[i]? = some x) := by
  by_cases hk : k = i
  · subst hk
    have := (List.getElem?_eq_some_iff.1 h).1
    rw [List.length_set] at this
    rw [List.getElem?_set_self this] at h
    exact .inl ⟨rfl, (Option.some.inj h).symm⟩
  · rw [List.getElem?_set_ne hk] at h
    exact .inr ⟨fun e => hk e.symm, h⟩
theorem AllH.full {s : List (List UInt8)} {F S : List UInt8} (h : AllH s F S) (hs : s.length = 4) (hx : ∀ x ∈ s, x.length = 128) {k : Nat} (hk : k < 4) (c : UInt8) : AllH (put1 s ((k : Int), dbl c)) (F.set k c) (S.set k c) := by
  obtain ⟨h1, h2, h3⟩ := h
  refine ⟨by simpa using h1, by simpa using h2, fun i x y hi hj => ?_⟩
  rw [put1_getD hx (by rw [hs]; exact has_nat hk) (dbl_len c)]
  rcases set_get4 hi with ⟨rfl, rfl⟩ | ⟨hne, hi'⟩
  · rcases set_get4 hj with ⟨_, rfl⟩ | ⟨hne, _⟩
    · rw [if_pos rfl]; exact dbl_halves _
    · exact absurd rfl hne
  · rcases set_get4 hj with ⟨rfl, _⟩ | ⟨_, hj'⟩
    · exact absurd rfl hne
    · rw [if_neg (by omega)]; exact h3 i x y hi' hj'
theorem AllH.first {s : List (List UInt8)} {F S : List UInt8} (h : AllH s F S) (hs : s.length = 4) {k : Nat} (hk : k < 4) (c : UInt8) : AllH (put1 s ((k : Int), (dbl c).take 64)) (F.set k c) S := by
  obtain ⟨h1, h2, h3⟩ := h
  refine ⟨by simpa using h1, h2, fun i x y hi hj => ?_⟩
  unfold put1
  simp only [Int.toNat_natCast]
  rw [getD_set _ _ _ _ _ (by rw [hs]; exact hk)]
  rcases set_get4 hi with ⟨rfl, rfl⟩ | ⟨hne, hi'⟩
  · rw [if_pos rfl]
    exact torn_halves (h3 i _ y (List.getElem?_eq_getElem (by rw [h1]; exact hk)) hj)
  · rw [if_neg (fun e => hne e.symm)]; exact h3 i x y hi' hj
theorem AllH.many {F S : List UInt8} : ∀ (l : List Act3) {s : List (List UInt8)} {F S : List UInt8}, AllH s F S → s.length = 4 → (∀ x ∈ s, x.length = 128) → AllH (performL s (pendOf l)) (bytesAt l F) (bytesAt l S)
  | [], _, _, _, h, _, _ => h
  | a :: l, s, F, S, h, hs, hx => by
    have h1 := h.full hs hx (Nat.mod_lt a.at'.toNat (by omega : 0 < 4)) a.byte
    have h2 := AllH.many (F := F) (S := S) l h1 (by rw [put1_len]; exact hs) (put1_secs hx)
    exact h2
/-- the disk and what is known of it -/
structure Hist (d : Dsk) (last first second : List UInt8) (waiting : List Act3) (room : Int) : Prop where
  runs : Runs d
  four : d.secs.length = 4
  left : d.left = room
  room0 : 0 ≤ room
  pend : d.pend = pendOf waiting
  secs : AllH d.secs first second
  last : last.length = 4 ∧ ∀ (i : Nat) x, last[i]? = some x → Halves (readF d (i : Int)) x x
theorem readF_nat (d : Dsk) (k : Nat) (h : d.pend = []) : readF d (k : Int) = d.secs.getD k [] := by unfold readF; rw [h]; simp
/-- a new disk that stops after some writes -/
theorem Hist.start (L : Nat) (hL : L ≤ 255) : Hist ⟨List.replicate 4 zeros, [], (L : Int), false⟩ [0, 0, 0, 0] [0, 0, 0, 0] [0, 0, 0, 0] [] (L : Int) := by
  have hz : ∀ (i : Nat) (x : UInt8), [0, 0, 0, 0][i]? = some x → x = 0 ∧ i < 4 := fun i x h => by
    have hl := (List.getElem?_eq_some_iff.1 h).1
    simp at hl
    have : x ∈ ([0, 0, 0, 0] : List UInt8) := List.mem_of_getElem? h
    simp at this
    exact ⟨this, hl⟩
  have hs : ∀ i, i < 4 → (List.replicate 4 zeros).getD i [] = zeros := fun i hi => by match i, hi with | 0, _ => rfl | 1, _ => rfl | 2, _ => rfl | 3, _ => rfl
  refine ⟨⟨by simp, by simp, fun x hx => by rw [List.eq_of_mem_replicate hx]; simp [zeros], by simp, fun q hq => by simp at hq, ⟨by simp only; omega, by simp only; omega⟩, rfl⟩, by simp, rfl, by omega, rfl, ⟨rfl, rfl, fun i x y hi hj => ?_⟩, rfl, fun i x hi => ?_⟩
  · obtain ⟨rfl, h4⟩ := hz i x hi
    obtain ⟨rfl, _⟩ := hz i y hj
    rw [hs i h4]; exact zeros_halves
  · obtain ⟨rfl, h4⟩ := hz i x hi
    rw [readF_nat _ _ rfl]
    rw [hs i h4]; exact zeros_halves
theorem Hist.write {d : Dsk} {last first second : List UInt8} {waiting : List Act3} {room : Int} (h : Hist d last first second waiting room) (hw : waiting.length < 4096) (a : Act3) :
    writeD d ((a.at'.toNat % 4 : Nat) : Int) (dbl a.byte) = (written d ((a.at'.toNat % 4 : Nat) : Int) (dbl a.byte), 0) ∧ Hist (written d ((a.at'.toNat % 4 : Nat) : Int) (dbl a.byte)) (last.set (a.at'.toNat % 4) a.byte) first second (waiting ++ [a]) room := by
  have hm : a.at'.toNat % 4 < 4 := Nat.mod_lt _ (by omega)
  have hh : hasB d.secs.length ((a.at'.toNat % 4 : Nat) : Int) = true := by rw [h.four]; exact has_nat hm
  have hf : d.pend.length < 4096 := by rw [h.pend, pendOf_len]; exact hw
  refine ⟨write_runs _ h.runs hh (by rw [dbl_len]; omega) hf, h.runs.written hh _ hf, h.four, h.left, h.room0, ?_, h.secs, by simpa using h.last.1, fun i x hi => ?_⟩
  · show d.pend ++ _ = _
    rw [h.pend, dbl_sector]; simp [pendOf]
  · rw [readF_written]
    rcases set_get4 hi with ⟨rfl, rfl⟩ | ⟨hne, hi'⟩
    · rw [if_pos rfl, dbl_sector]; exact dbl_halves _
    · rw [if_neg (by omega)]; exact h.last.2 i x hi'
/-- a sync that does not stop -/
theorem Hist.sync {d : Dsk} {last first second : List UInt8} {waiting : List Act3} {room : Int} (h : Hist d last first second waiting room) (hw : (waiting.length : Int) ≤ room) :
    syncD d = (synced d, 0) ∧ Hist (synced d) last (bytesAt waiting first) (bytesAt waiting second) [] (room - waiting.length) := by
  rcases sync_cases h.runs with ⟨h1, h2, _⟩ | ⟨_, h2, h3⟩
  · rw [h.left, h.pend, pendOf_len] at h2; omega
  · refine ⟨h2, h3, ?_, ?_, by omega, rfl, ?_, h.last.1, fun i x hi => ?_⟩
    · show (performL d.secs d.pend).length = 4; rw [performL_len]; exact h.four
    · show (if d.left = -1 then -1 else d.left - (d.pend.length : Int)) = _
      have := h.room0
      rw [if_neg (by rw [h.left]; omega), h.left, h.pend, pendOf_len]
    · show AllH (performL d.secs d.pend) _ _
      rw [h.pend]; exact AllH.many (F := first) (S := second) waiting h.secs h.four h.runs.secs
    · rw [synced_reads h.runs]; exact h.last.2 i x hi
/-- a sync that stops -/
theorem Hist.halt {d : Dsk} {last first second : List UInt8} {waiting : List Act3} {room : Nat} (h : Hist d last first second waiting (room : Int)) (hw : room < waiting.length) :
    ∃ x, syncD d = (x, 40) ∧ x.stop = true ∧ Runs (restartD x) ∧ (restartD x).secs.length = 4 ∧ AllH (restartD x).secs (bytesAt (waiting.take (room + 1)) first) (bytesAt (waiting.take room) second) := by
  rcases sync_cases h.runs with ⟨h1, h2, h3⟩ | ⟨h1, _, _⟩
  · obtain ⟨a, ha⟩ : ∃ a, waiting[room]? = some a := ⟨_, List.getElem?_eq_getElem hw⟩
    have hq : d.pend.getD d.left.toNat (0, []) = (((a.at'.toNat % 4 : Nat) : Int), dbl a.byte) := by
      rw [h.left, Int.toNat_natCast, h.pend]; simp [pendOf, List.getD, ha]
    rw [hq, h.left, Int.toNat_natCast] at h3
    have hs : (haltD d room (((a.at'.toNat % 4 : Nat) : Int), dbl a.byte)).secs = put1 (performL d.secs (pendOf (waiting.take room))) (((a.at'.toNat % 4 : Nat) : Int), (dbl a.byte).take 64) := by
      show performL d.secs (haltL d room _) = _
      unfold haltL
      rw [h.pend]
      unfold performL
      rw [List.foldl_append, List.foldl_cons, List.foldl_nil]
      unfold pendOf
      rw [← List.map_take]; rfl
    have hp4 : (performL d.secs (pendOf (waiting.take room))).length = 4 := by rw [performL_len]; exact h.four
    have hal := (AllH.many (F := first) (S := second) (waiting.take room) h.secs h.four h.runs.secs).first hp4 (Nat.mod_lt a.at'.toNat (by omega : 0 < 4)) a.byte
    rw [← bytesAt_step ha] at hal
    refine ⟨_, h3, rfl, ⟨?_, ?_, ?_, by simp [restartD], fun q hq => by simp [restartD] at hq, by simp [restartD], rfl⟩, ?_, ?_⟩
    · show 0 < (haltD d room _).secs.length; rw [hs, put1_len]; omega
    · show (haltD d room _).secs.length ≤ 4096; rw [hs, put1_len]; omega
    · show ∀ x ∈ (haltD d room _).secs, x.length = 128
      rw [hs]; exact put1_secs (performL_secs h.runs.secs)
    · show (haltD d room _).secs.length = 4; rw [hs, put1_len]; exact hp4
    · show AllH (haltD d room _).secs _ _
      rw [hs]; exact hal
  · rw [h.left, h.pend, pendOf_len] at h1; omega
/-- what holds says of a disk without pending writes -/
theorem AllH.reads {d : Dsk} {F S : List UInt8} (h : AllH d.secs F S) (hp : d.pend = []) : ∀ (i : Nat) x y, F[i]? = some x → S[i]? = some y → Halves (readF d (i : Int)) x y := fun i x y hi hj => by
  rw [readF_nat d i hp]; exact h.2.2 i x y hi hj
theorem Hist.restart {d : Dsk} {last first second : List UInt8} {waiting : List Act3} {room : Int} (h : Hist d last first second waiting room) : Runs (restartD d) ∧ (restartD d).secs.length = 4 ∧ AllH (restartD d).secs first second :=
  ⟨⟨h.runs.pos, h.runs.most, h.runs.secs, by simp [restartD], fun q hq => by simp [restartD] at hq, by simp [restartD], rfl⟩, h.four, h.secs⟩
end Go.Proofs.Ytlaaolbdadempaa
