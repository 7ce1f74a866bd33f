/- How bytes are read as a value: plain functions, and how much they leave. Nothing here is proved of the program. -/
import Derived.Test.YtgliddedimpgaaaP
namespace Go.Proofs.Ytgliddedimpgaaa
open Go.RowKit

def decN (f : List UInt8 → Option (V × List UInt8)) : Nat → List UInt8 → Option (List V × List UInt8)
  | 0, bs => some ([], bs)
  | n + 1, bs => match f bs with
    | none => none
    | some (x, r) => match decN f n r with
      | none => none
      | some (l, r2) => some (x :: l, r2)

def decHead (lst : List UInt8 → Option (List V × List UInt8)) : List UInt8 → Option (V × List UInt8)
  | [] => none
  | d :: r =>
    if d.toNat = 1 then (match readNum r with
      | none => none
      | some (u, r) => some (.mk 1 (sgn u) ⟨#[]⟩ [], r))
    else if d.toNat = 2 then (match readNum r with
      | none => none
      | some (u, r) => if u ≤ r.length then some (.mk 2 0 ⟨(r.take u).toArray⟩ [], r.drop u) else none)
    else if d.toNat = 3 then (match lst r with
      | none => none
      | some (l, r) => some (.mk 3 0 ⟨#[]⟩ l, r))
    else none

def decL : Nat → List UInt8 → Option (List V × List UInt8)
  | 0, _ => none
  | d + 1, bs => match readNum bs with
    | none => none
    | some (n, r) => decN (decHead (decL d)) n r

def dec (d : Nat) (bs : List UInt8) : Option (V × List UInt8) := decHead (decL d) bs

theorem rd_len : ∀ (bs : List UInt8) (j u v : Nat) (r : List UInt8), rd j u bs = some (v, r) → r.length < bs.length
  | [], _, _, _, _, h => by simp [rd] at h
  | d :: bs, j, u, v, r, h => by
    rw [rd] at h
    split at h
    · cases h
    · split at h
      · simp at h; obtain ⟨_, rfl⟩ := h; simp
      · have := rd_len bs _ _ _ _ h; simp; omega

theorem readNum_len {bs r : List UInt8} {v : Nat} (h : readNum bs = some (v, r)) : r.length < bs.length := rd_len bs 0 0 v r h

theorem decN_len {f : List UInt8 → Option (V × List UInt8)} (hf : ∀ bs x r, f bs = some (x, r) → r.length < bs.length) : ∀ (n : Nat) (bs : List UInt8) (l : List V) (r : List UInt8), decN f n bs = some (l, r) → l.length = n ∧ n + r.length ≤ bs.length
  | 0, bs, l, r, h => by simp [decN] at h; obtain ⟨rfl, rfl⟩ := h; simp
  | n + 1, bs, l, r, h => by
    rw [decN] at h
    cases hfb : f bs with
    | none => rw [hfb] at h; cases h
    | some p =>
      obtain ⟨x, r1⟩ := p
      rw [hfb] at h
      simp only at h
      cases hn : decN f n r1 with
      | none => rw [hn] at h; cases h
      | some q =>
        obtain ⟨l2, r2⟩ := q
        rw [hn] at h
        simp at h
        obtain ⟨rfl, rfl⟩ := h
        have h1 := hf _ _ _ hfb
        have h2 := decN_len hf n r1 l2 r2 hn
        simp; omega

theorem decHead_len {lst : List UInt8 → Option (List V × List UInt8)} (hl : ∀ bs x r, lst bs = some (x, r) → r.length < bs.length) {bs r : List UInt8} {x : V} (h : decHead lst bs = some (x, r)) : r.length < bs.length := by
  cases bs with
  | nil => simp [decHead] at h
  | cons d bs =>
    rw [decHead] at h
    split at h
    · cases hn : readNum bs with
      | none => rw [hn] at h; cases h
      | some p =>
        obtain ⟨u, r1⟩ := p
        rw [hn] at h
        simp at h
        obtain ⟨_, rfl⟩ := h
        have := readNum_len hn
        simp; omega
    · split at h
      · cases hn : readNum bs with
        | none => rw [hn] at h; cases h
        | some p =>
          obtain ⟨u, r1⟩ := p
          rw [hn] at h
          simp only at h
          split at h
          · simp at h
            obtain ⟨_, rfl⟩ := h
            have := readNum_len hn
            simp; omega
          · cases h
      · split at h
        · cases hn : lst bs with
          | none => rw [hn] at h; cases h
          | some p =>
            obtain ⟨l, r1⟩ := p
            rw [hn] at h
            simp at h
            obtain ⟨_, rfl⟩ := h
            have := hl _ _ _ hn
            simp; omega
        · cases h

theorem decL_len : ∀ (d : Nat) (bs : List UInt8) (l : List V) (r : List UInt8), decL d bs = some (l, r) → r.length < bs.length
  | 0, _, _, _, h => by simp [decL] at h
  | d + 1, bs, l, r, h => by
    rw [decL] at h
    cases hn : readNum bs with
    | none => rw [hn] at h; cases h
    | some p =>
      obtain ⟨n, r1⟩ := p
      rw [hn] at h
      simp only at h
      have h1 := readNum_len hn
      have h2 := decN_len (fun bs x r h => decHead_len (decL_len d) h) n r1 l r h
      omega

theorem dec_len {d : Nat} {bs r : List UInt8} {x : V} (h : dec d bs = some (x, r)) : r.length < bs.length := decHead_len (decL_len d) h

/-- one element more -/
theorem decN_more {f : List UInt8 → Option (V × List UInt8)} {n : Nat} {bs r : List UInt8} {x : V} (h : f bs = some (x, r)) : decN f (n + 1) bs = (decN f n r).map fun p => (x :: p.1, p.2) := by
  rw [decN, h]
  simp only
  cases decN f n r with
  | none => rfl
  | some p => rfl
theorem decN_stop {f : List UInt8 → Option (V × List UInt8)} {n : Nat} {bs : List UInt8} (h : f bs = none) : decN f (n + 1) bs = none := by
  rw [decN, h]

/-- In every world that agrees with w on the blocks of which p holds, the value v reads as the tree x. -/
def Sure (p : Nat → Prop) (w : World) (x : V) (v : Value) : Prop :=
  ∀ w2 : World, (∀ k, k < w.heap.size → p k → w2.heap[k]? = w.heap[k]?) → w.heap.size ≤ w2.heap.size → IsB w.heap.size w2 x v

theorem Sure.is {p : Nat → Prop} {w : World} {x : V} {v : Value} (h : Sure p w x v) : Is w x v := h w (fun _ _ _ => rfl) (Nat.le_refl _)

theorem Sure.mono {p q : Nat → Prop} {w : World} {x : V} {v : Value} (h : Sure p w x v) (hq : ∀ k, k < w.heap.size → p k → q k) : Sure q w x v :=
  fun w2 ha hs => h w2 (fun k hk hp => ha k hk (hq k hk hp)) hs

/-- A later world in which the blocks of p are as they were. -/
theorem Sure.later {p q : Nat → Prop} {w w' : World} {x : V} {v : Value} (h : Sure p w x v) (hs : w.heap.size ≤ w'.heap.size) (hb : ∀ k, k < w.heap.size → p k → w'.heap[k]? = w.heap[k]?) (hq : ∀ k, k < w.heap.size → p k → q k) : Sure q w' x v :=
  fun w2 ha h2 => (h w2 (fun k hk hp => (ha k (by omega) (hq k hk hp)).trans (hb k hk hp)) (by omega)).mono hs
end Go.Proofs.Ytgliddedimpgaaa
