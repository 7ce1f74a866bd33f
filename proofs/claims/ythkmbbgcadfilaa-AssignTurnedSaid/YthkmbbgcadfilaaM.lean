/- Plain mathematics of assignments: sums, assignments, prices that fit, and what they bound. -/
import Derived.WalkKit
namespace Go.Proofs.Ythkmbbgcadfilaa

/-- the sum of f 0 .. f (n - 1) -/
def sm : Nat → (Nat → Int) → Int
  | 0, _ => 0
  | n + 1, f => sm n f + f n
theorem sm_congr {f g : Nat → Int} : ∀ {n : Nat}, (∀ i, i < n → f i = g i) → sm n f = sm n g
  | 0, _ => rfl
  | n + 1, h => by
    show sm n f + f n = sm n g + g n
    rw [sm_congr (n := n) (fun i hi => h i (by omega)), h n (by omega)]
theorem sm_add (f g : Nat → Int) : ∀ n, sm n (fun i => f i + g i) = sm n f + sm n g
  | 0 => rfl
  | n + 1 => by
    show sm n (fun i => f i + g i) + (f n + g n) = sm n f + f n + (sm n g + g n)
    rw [sm_add f g n]; omega
theorem sm_le {f g : Nat → Int} : ∀ {n : Nat}, (∀ i, i < n → f i ≤ g i) → sm n f ≤ sm n g
  | 0, _ => Int.le_refl _
  | n + 1, h => by
    have h1 := sm_le (n := n) (fun i hi => h i (by omega))
    have h2 := h n (by omega)
    show sm n f + f n ≤ sm n g + g n
    omega
/-- equal sums of what is nowhere greater -/
theorem sm_tight {f g : Nat → Int} : ∀ {n : Nat}, (∀ i, i < n → f i ≤ g i) → sm n f = sm n g → ∀ i, i < n → f i = g i
  | 0, _, _, i, hi => by omega
  | n + 1, h, he, i, hi => by
    have h1 := sm_le (n := n) (fun i hi => h i (by omega))
    have h2 := h n (by omega)
    have he' : sm n f + f n = sm n g + g n := he
    rcases Nat.lt_or_ge i n with h3 | h3
    · exact sm_tight (n := n) (fun i hi => h i (by omega)) (by omega) i h3
    · obtain rfl : i = n := by omega
      omega
theorem sm_point (j : Nat) (x : Int) : ∀ n, sm n (fun i => if i = j then x else 0) = if j < n then x else 0
  | 0 => rfl
  | n + 1 => by
    show sm n (fun i => if i = j then x else 0) + (if n = j then x else 0) = _
    rw [sm_point j x n]
    by_cases h : n = j
    · subst h; simp
    · rw [if_neg h]
      by_cases h2 : j < n
      · rw [if_pos h2, if_pos (by omega)]; omega
      · rw [if_neg h2, if_neg (by omega)]; omega
theorem sm_zero {f : Nat → Int} : ∀ {n : Nat}, (∀ i, i < n → f i = 0) → sm n f = 0
  | 0, _ => rfl
  | n + 1, h => by
    show sm n f + f n = 0
    rw [sm_zero (n := n) (fun i hi => h i (by omega)), h n (by omega)]; rfl
theorem sm_drop (v : Nat → Int) (m j : Nat) (hj : j < m) : sm m (fun k => if k = j then 0 else v k) = sm m v - v j := by
  have h1 : sm m (fun k => (if k = j then 0 else v k) + (if k = j then v j else 0)) = sm m v := sm_congr (fun i _ => by by_cases h : i = j <;> simp [h])
  rw [sm_add, sm_point, if_pos hj] at h1
  omega
theorem sm_bound {f : Nat → Int} {b : Int} : ∀ {n : Nat}, (∀ i, i < n → f i ≤ b) → sm n f ≤ n * b
  | 0, _ => by simp [sm]
  | n + 1, h => by
    have h1 := sm_bound (n := n) (fun i hi => h i (by omega))
    have h2 := h n (by omega)
    show sm n f + f n ≤ _
    rw [Int.natCast_succ, Int.add_mul]
    omega
theorem sm_below {f : Nat → Int} {b : Int} : ∀ {n : Nat}, (∀ i, i < n → b ≤ f i) → n * b ≤ sm n f
  | 0, _ => by simp [sm]
  | n + 1, h => by
    have h1 := sm_below (n := n) (fun i hi => h i (by omega))
    have h2 := h n (by omega)
    show _ ≤ sm n f + f n
    rw [Int.natCast_succ, Int.add_mul]
    omega

/-- different columns, all below m -/
def Inj (n m : Nat) (to : Nat → Nat) : Prop := (∀ i, i < n → to i < m) ∧ ∀ i k, i < n → k < n → to i = to k → i = k
/-- what different columns cost at most -/
theorem sm_inj {m : Nat} : ∀ {n : Nat} {to : Nat → Nat} {v : Nat → Int}, Inj n m to → (∀ j, j < m → v j ≤ 0) → sm m v ≤ sm n (fun i => v (to i))
  | 0, _, v, _, hv => by
    have := sm_le (n := m) (f := v) (g := fun _ => 0) hv
    rw [sm_zero (f := fun _ => (0 : Int)) (fun _ _ => rfl)] at this
    exact this
  | n + 1, to, v, h, hv => by
    have ht := h.1 n (by omega)
    have ih := sm_inj (n := n) (to := to) (v := fun k => if k = to n then 0 else v k) ⟨fun i hi => h.1 i (by omega), fun i k hi hk => h.2 i k (by omega) (by omega)⟩ (fun j hj => by
      by_cases e : j = to n
      · simp [e]
      · simp [e]; exact hv j hj)
    rw [sm_drop v m _ ht] at ih
    have he : sm n (fun i => (fun k => if k = to n then 0 else v k) (to i)) = sm n (fun i => v (to i)) := sm_congr (fun i hi => by
      have : to i ≠ to n := fun e => by have := h.2 i n (by omega) (by omega) e; omega
      simp [this])
    rw [he] at ih
    show _ ≤ sm n (fun i => v (to i)) + v (to n)
    omega
/-- .. and just so much where the others cost nothing -/
theorem sm_onto {m : Nat} : ∀ {n : Nat} {to : Nat → Nat} {v : Nat → Int}, Inj n m to → (∀ j, j < m → (∀ i, i < n → to i ≠ j) → v j = 0) → sm n (fun i => v (to i)) = sm m v
  | 0, _, v, _, hv => (sm_zero (fun j hj => hv j hj (fun i hi => by omega))).symm
  | n + 1, to, v, h, hv => by
    have ht := h.1 n (by omega)
    have ih := sm_onto (n := n) (to := to) (v := fun k => if k = to n then 0 else v k) ⟨fun i hi => h.1 i (by omega), fun i k hi hk => h.2 i k (by omega) (by omega)⟩ (fun j hj hn => by
      by_cases e : j = to n
      · simp [e]
      · simp [e]; exact hv j hj (fun i hi => by
          rcases Nat.lt_or_ge i n with h3 | h3
          · exact hn i h3
          · obtain rfl : i = n := by omega
            exact fun h4 => e h4.symm))
    rw [sm_drop v m _ ht] at ih
    have he : sm n (fun i => (fun k => if k = to n then 0 else v k) (to i)) = sm n (fun i => v (to i)) := sm_congr (fun i hi => by
      have : to i ≠ to n := fun e => by have := h.2 i n (by omega) (by omega) e; omega
      simp [this])
    rw [he] at ih
    show sm n (fun i => v (to i)) + v (to n) = _
    omega

/-- an assignment: a permitted column of its own for each row -/
structure Asg (n m : Nat) (c : Nat → Nat → Int) (to : Nat → Nat) : Prop where
  inj : Inj n m to
  may : ∀ i, i < n → c i (to i) ≠ -1
def costOf (n : Nat) (c : Nat → Nat → Int) (to : Nat → Nat) : Int := sm n (fun i => c i (to i))
/-- prices that fit -/
structure Fit (n m : Nat) (c : Nat → Nat → Int) (u v : Nat → Int) : Prop where
  le : ∀ i j, i < n → j < m → c i j ≠ -1 → u i + v j ≤ c i j
  neg : ∀ j, j < m → v j ≤ 0
def bnd (n m : Nat) (u v : Nat → Int) : Int := sm n u + sm m v
/-- no assignment costs less than the bound of prices that fit -/
theorem Fit.weak {n m : Nat} {c : Nat → Nat → Int} {u v : Nat → Int} (h : Fit n m c u v) {to : Nat → Nat} (ha : Asg n m c to) : bnd n m u v ≤ costOf n c to := by
  have h1 := sm_inj ha.inj h.neg
  have h2 : sm n (fun i => u i + v (to i)) ≤ costOf n c to := sm_le (fun i hi => h.le i (to i) hi (ha.inj.1 i hi) (ha.may i hi))
  rw [sm_add] at h2
  unfold bnd
  omega
/-- who costs just the bound has exact pairs alone -/
theorem Fit.exact {n m : Nat} {c : Nat → Nat → Int} {u v : Nat → Int} (h : Fit n m c u v) {to : Nat → Nat} (ha : Asg n m c to) (he : costOf n c to = bnd n m u v) : ∀ i, i < n → u i + v (to i) = c i (to i) := by
  have h1 := sm_inj ha.inj h.neg
  have h2 : sm n (fun i => u i + v (to i)) ≤ costOf n c to := sm_le (fun i hi => h.le i (to i) hi (ha.inj.1 i hi) (ha.may i hi))
  have h3 := h2
  rw [sm_add] at h3
  have h4 : sm n (fun i => u i + v (to i)) = costOf n c to := by
    refine Int.le_antisymm h2 ?_
    rw [he, sm_add]; unfold bnd; omega
  exact sm_tight (fun i hi => h.le i (to i) hi (ha.inj.1 i hi) (ha.may i hi)) h4
/-- the least cost of an assignment -/
structure Least (n m : Nat) (c : Nat → Nat → Int) (k : Int) : Prop where
  some : ∃ to, Asg n m c to ∧ costOf n c to = k
  all : ∀ to, Asg n m c to → k ≤ costOf n c to
theorem Least.unique {n m : Nat} {c : Nat → Nat → Int} {a b : Int} (h : Least n m c a) (k : Least n m c b) : a = b := by
  obtain ⟨t, h1, h2⟩ := h.some
  obtain ⟨t', k1, k2⟩ := k.some
  have h3 := h.all t' k1
  have k3 := k.all t h1
  omega
/-- a deal: prices that fit, and columns of the first k rows whose pairs are exact; columns that nobody has cost nothing -/
structure Done (n m : Nat) (c : Nat → Nat → Int) (u v : Nat → Int) (to : Nat → Nat) : Prop where
  fit : Fit n m c u v
  asg : Asg n m c to
  tight : ∀ i, i < n → u i + v (to i) = c i (to i)
  free : ∀ j, j < m → (∀ i, i < n → to i ≠ j) → v j = 0
theorem Done.cost {n m : Nat} {c : Nat → Nat → Int} {u v : Nat → Int} {to : Nat → Nat} (h : Done n m c u v to) : costOf n c to = bnd n m u v := by
  unfold costOf bnd
  rw [← sm_onto h.asg.inj h.free, ← sm_add]
  exact sm_congr (fun i hi => (h.tight i hi).symm)
theorem Done.least {n m : Nat} {c : Nat → Nat → Int} {u v : Nat → Int} {to : Nat → Nat} (h : Done n m c u v to) : Least n m c (bnd n m u v) :=
  ⟨⟨to, h.asg, h.cost⟩, fun t ht => h.fit.weak ht⟩

/-- rows with too few columns -/
structure Crowd (n m : Nat) (c : Nat → Nat → Int) (R : List Nat) (S : List Nat) : Prop where
  rows : ∀ i, i ∈ R → i < n
  nodup : R.Nodup
  cols : ∀ i j, i ∈ R → j < m → c i j ≠ -1 → j ∈ S
  few : S.length < R.length
theorem nodup_map {to : Nat → Nat} : ∀ {R : List Nat}, R.Nodup → (∀ i k, i ∈ R → k ∈ R → to i = to k → i = k) → (R.map to).Nodup
  | [], _, _ => by simp
  | r :: R, h, hi => by
    simp only [List.map_cons, List.nodup_cons] at h ⊢
    refine ⟨fun hm => ?_, nodup_map h.2 (fun i k h1 h2 => hi i k (by simp [h1]) (by simp [h2]))⟩
    obtain ⟨k, hk, he⟩ := List.mem_map.1 hm
    have := hi k r (by simp [hk]) (by simp) he
    subst this
    exact h.1 hk
theorem nodup_le : ∀ {L S : List Nat}, L.Nodup → (∀ x, x ∈ L → x ∈ S) → L.length ≤ S.length
  | [], _, _, _ => by simp
  | x :: L, S, h, hs => by
    simp only [List.nodup_cons] at h
    have hx := hs x (by simp)
    have ih := nodup_le (L := L) (S := S.erase x) h.2 (fun y hy => by
      have hne : y ≠ x := fun e => h.1 (e ▸ hy)
      exact (List.mem_erase_of_ne hne).2 (hs y (by simp [hy])))
    rw [List.length_erase_of_mem hx] at ih
    have : 0 < S.length := List.length_pos_of_mem hx
    simp only [List.length_cons]
    omega
theorem Crowd.none {n m : Nat} {c : Nat → Nat → Int} {R S : List Nat} (h : Crowd n m c R S) (to : Nat → Nat) : ¬ Asg n m c to := fun ha => by
  have h1 := nodup_map (to := to) h.nodup (fun i k hi hk => ha.inj.2 i k (h.rows i hi) (h.rows k hk))
  have h2 := nodup_le h1 (S := S) (fun x hx => by
    obtain ⟨i, hi, rfl⟩ := List.mem_map.1 hx
    exact h.cols i (to i) hi (ha.inj.1 i (h.rows i hi)) (ha.may i (h.rows i hi)))
  rw [List.length_map] at h2
  have := h.few
  omega
end Go.Proofs.Ythkmbbgcadfilaa
