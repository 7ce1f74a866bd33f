/- The first of the best assignments: plain mathematics. -/
import Derived.Test.YthkmbbgcadfilaaMa
namespace Go.Proofs.Ythkmbbgcadfilaa

/-- an assignment that costs K -/
def Bst (n m : Nat) (c : Nat → Nat → Int) (K : Int) (t : Nat → Nat) : Prop := Asg n m c t ∧ costOf n c t = K
/-- the first of the assignments with the least cost -/
structure Lx (n m : Nat) (c : Nat → Nat → Int) (K : Int) (to : Nat → Nat) : Prop where
  bst : Bst n m c K to
  all : ∀ t, Asg n m c t → K ≤ costOf n c t
  first : ∀ i, i < n → ∀ t, Bst n m c K t → (∀ k, k < i → t k = to k) → to i ≤ t i
theorem Lx.same {n m : Nat} {c : Nat → Nat → Int} {K K' : Int} {to to' : Nat → Nat} (h : Lx n m c K to) (h' : Lx n m c K' to') : K = K' := by
  have h1 := h.all to' h'.bst.1
  have h2 := h'.all to h.bst.1
  have h3 := h.bst.2
  have h4 := h'.bst.2
  omega
theorem Lx.unique {n m : Nat} {c : Nat → Nat → Int} {K K' : Int} {to to' : Nat → Nat} (h : Lx n m c K to) (h' : Lx n m c K' to') : ∀ N, N ≤ n → ∀ i, i < N → to i = to' i := by
  have hK := h.same h'
  subst hK
  intro N
  induction N with
  | zero => intro _ i hi; omega
  | succ N ih =>
    intro hN i hi
    have ih' := ih (by omega)
    rcases Nat.lt_or_ge i N with h1 | h1
    · exact ih' i h1
    · obtain rfl : i = N := by omega
      have h2 := h.first i (by omega) to' h'.bst (fun k hk => (ih' k hk).symm)
      have h3 := h'.first i (by omega) to h.bst ih'
      omega
theorem Asg.congr {n m : Nat} {c : Nat → Nat → Int} {t p : Nat → Nat} (h : Asg n m c t) (he : ∀ i, i < n → t i = p i) : Asg n m c p :=
  ⟨⟨fun i hi => by rw [← he i hi]; exact h.inj.1 i hi, fun i k hi hk e => h.inj.2 i k hi hk (by rw [he i hi, he k hk]; exact e)⟩, fun i hi => by rw [← he i hi]; exact h.may i hi⟩
theorem costOf_congr {n : Nat} {c : Nat → Nat → Int} {t p : Nat → Nat} (he : ∀ i, i < n → t i = p i) : costOf n c t = costOf n c p := sm_congr (fun i hi => by rw [he i hi])
theorem Bst.congr {n m : Nat} {c : Nat → Nat → Int} {K : Int} {t p : Nat → Nat} (h : Bst n m c K t) (he : ∀ i, i < n → t i = p i) : Bst n m c K p := ⟨h.1.congr he, by rw [← costOf_congr he]; exact h.2⟩
/-- costs where the first k rows may have one column alone -/
structure Res (n m : Nat) (c c' : Nat → Nat → Int) (p : Nat → Nat) (k : Nat) : Prop where
  below : ∀ i j, i < k → i < n → j < m → c' i j = if j = p i then c i j else -1
  rest : ∀ i j, k ≤ i → i < n → j < m → c' i j = c i j
theorem Res.first (n m : Nat) (c : Nat → Nat → Int) (p : Nat → Nat) : Res n m c c p 0 := ⟨fun i j hi => by omega, fun _ _ _ _ _ => rfl⟩
section
variable {n m k : Nat} {c c' : Nat → Nat → Int} {p t : Nat → Nat}
theorem Res.to (h : Res n m c c' p k) (ha : Asg n m c' t) : Asg n m c t ∧ (∀ i, i < k → i < n → t i = p i) ∧ costOf n c' t = costOf n c t := by
  have h1 : ∀ i, i < k → i < n → t i = p i := fun i hk hn => by
    have h2 := ha.may i hn
    rw [h.below i (t i) hk hn (ha.inj.1 i hn)] at h2
    by_cases e : t i = p i
    · exact e
    · rw [if_neg e] at h2; exact absurd rfl h2
  have h3 : ∀ i, i < n → c' i (t i) = c i (t i) := fun i hn => by
    rcases Nat.lt_or_ge i k with hk | hk
    · rw [h.below i (t i) hk hn (ha.inj.1 i hn), if_pos (h1 i hk hn)]
    · exact h.rest i (t i) hk hn (ha.inj.1 i hn)
  exact ⟨⟨ha.inj, fun i hi => by rw [← h3 i hi]; exact ha.may i hi⟩, h1, sm_congr h3⟩
theorem Res.of (h : Res n m c c' p k) (ha : Asg n m c t) (hp : ∀ i, i < k → i < n → t i = p i) : Asg n m c' t ∧ costOf n c' t = costOf n c t := by
  have h3 : ∀ i, i < n → c' i (t i) = c i (t i) := fun i hn => by
    rcases Nat.lt_or_ge i k with hk | hk
    · rw [h.below i (t i) hk hn (ha.inj.1 i hn), if_pos (hp i hk hn)]
    · exact h.rest i (t i) hk hn (ha.inj.1 i hn)
  exact ⟨⟨ha.inj, fun i hi => by rw [h3 i hi]; exact ha.may i hi⟩, sm_congr h3⟩
def only (c : Nat → Nat → Int) (k j i' j' : Nat) : Int := if i' = k then (if j' = j then c k j else -1) else c i' j'
def upP (p : Nat → Nat) (k j i : Nat) : Nat := if i = k then j else p i
theorem Res.only (h : Res n m c c' p k) (hk : k < n) {j : Nat} (hj : j < m) : Res n m c (only c' k j) (upP p k j) (k + 1) := by
  refine ⟨fun i j' hi hn hj' => ?_, fun i j' hi hn hj' => ?_⟩
  · unfold Go.Proofs.Ythkmbbgcadfilaa.only upP
    by_cases e : i = k
    · subst e
      rw [if_pos rfl, if_pos rfl]
      by_cases e2 : j' = j
      · subst e2; rw [if_pos rfl, if_pos rfl]; exact h.rest i j' (by omega) hn hj'
      · rw [if_neg e2, if_neg e2]
    · rw [if_neg e, if_neg e]
      exact h.below i j' (by omega) hn hj'
  · unfold Go.Proofs.Ythkmbbgcadfilaa.only
    rw [if_neg (by omega)]
    exact h.rest i j' (by omega) hn hj'
end
/-- what holds when the first k rows have their columns -/
structure LI (n m : Nat) (c : Nat → Nat → Int) (K : Int) (k : Nat) (p : Nat → Nat) (c' : Nat → Nat → Int) : Prop where
  res : Res n m c c' p k
  some : ∃ t, Bst n m c K t ∧ ∀ i, i < k → t i = p i
  first : ∀ i, i < k → ∀ t, Bst n m c K t → (∀ l, l < i → t l = p l) → p i ≤ t i
theorem LI.begin {n m : Nat} {c : Nat → Nat → Int} {K : Int} {t : Nat → Nat} (h : Bst n m c K t) (p : Nat → Nat) : LI n m c K 0 p c :=
  ⟨Res.first n m c p, ⟨t, h, fun i hi => by omega⟩, fun i hi => by omega⟩
theorem LI.next {n m : Nat} {c : Nat → Nat → Int} {K : Int} {k : Nat} {p : Nat → Nat} {c' : Nat → Nat → Int} (h : LI n m c K k p c') (hk : k < n) {j : Nat} (hj : j < m)
    (hno : ∀ j', j' < j → ∀ t, Bst n m c K t → (∀ i, i < k → t i = p i) → t k ≠ j') (hyes : ∃ t, Asg n m (only c' k j) t ∧ costOf n (only c' k j) t = K) : LI n m c K (k + 1) (upP p k j) (only c' k j) := by
  have hr := h.res.only hk hj
  have hup : ∀ i, i < k → upP p k j i = p i := fun i hi => if_neg (by omega)
  refine ⟨hr, ?_, fun i hi t ht hag => ?_⟩
  · obtain ⟨t, h1, h2⟩ := hyes
    obtain ⟨h3, h4, h5⟩ := hr.to h1
    exact ⟨t, ⟨h3, by omega⟩, fun i hi => h4 i hi (by omega)⟩
  · rcases Nat.lt_or_ge i k with h1 | h1
    · rw [hup i h1]
      exact h.first i h1 t ht (fun l hl => by rw [hag l hl, hup l (by omega)])
    · obtain rfl : i = k := by omega
      have e : upP p i j i = j := if_pos rfl
      rw [e]
      rcases Nat.lt_or_ge (t i) j with h2 | h2
      · exact absurd rfl (hno (t i) h2 t ht (fun l hl => by rw [hag l hl, hup l hl]))
      · exact h2
/-- with which column the next row can go on -/
theorem LI.more {n m : Nat} {c : Nat → Nat → Int} {K : Int} {k : Nat} {p : Nat → Nat} {c' : Nat → Nat → Int} (h : LI n m c K k p c') (hk : k < n) {j : Nat} (hj : j < m) {t : Nat → Nat} (ht : Bst n m c K t) (hag : ∀ i, i < k → t i = p i) (he : t k = j) :
    ∃ t, Asg n m (only c' k j) t ∧ costOf n (only c' k j) t = K := by
  have hr := h.res.only hk hj
  have h1 := hr.of ht.1 (fun i hi _ => by
    unfold upP
    by_cases e : i = k
    · subst e; rw [if_pos rfl]; exact he
    · rw [if_neg e]; exact hag i (by omega))
  exact ⟨t, h1.1, by rw [h1.2]; exact ht.2⟩
theorem LI.done {n m : Nat} {c : Nat → Nat → Int} {K : Int} {p : Nat → Nat} {c' : Nat → Nat → Int} (h : LI n m c K n p c') (hl : ∀ t, Asg n m c t → K ≤ costOf n c t) : Lx n m c K p := by
  obtain ⟨t, h1, h2⟩ := h.some
  exact ⟨h1.congr h2, hl, h.first⟩
theorem LI.there {n m : Nat} {c : Nat → Nat → Int} {K : Int} {k : Nat} {p : Nat → Nat} {c' : Nat → Nat → Int} (h : LI n m c K k p c') (hk : k < n) (hno : ∀ j', j' < m → ∀ t, Bst n m c K t → (∀ i, i < k → t i = p i) → t k ≠ j') : False := by
  obtain ⟨t, h1, h2⟩ := h.some
  exact hno (t k) (h1.1.inj.1 k hk) t h1 h2 rfl
end Go.Proofs.Ythkmbbgcadfilaa
