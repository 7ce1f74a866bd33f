/- Trees of digests, paths and climbing, as plain functions. Nothing here speaks of the program. -/
import Derived.Test.YtjibhelahagliaaDoorM
import Derived.Lib.BitFns
namespace Go.Proofs.YtjibhelahagliaaDoor

/-- the greatest power of 2 less than n (n > 1) -/
def hf (n : Nat) : Nat := if n ≤ 2 then 1 else 2 * hf ((n + 1) / 2)
termination_by n
decreasing_by omega

theorem hf_two (n : Nat) (h : n ≤ 2) : hf n = 1 := by rw [hf, if_pos h]
theorem hf_more (n : Nat) (h : 2 < n) : hf n = 2 * hf ((n + 1) / 2) := by rw [hf, if_neg (by omega)]
theorem hf_spec (n : Nat) : 2 ≤ n → hf n < n ∧ n ≤ 2 * hf n ∧ ∃ j, hf n = 2 ^ j := by
  induction n using Nat.strongRecOn with
  | ind n ih =>
    intro h
    by_cases h2 : n ≤ 2
    · rw [hf_two n h2]; exact ⟨by omega, by omega, 0, rfl⟩
    · obtain ⟨h3, h4, j, h5⟩ := ih ((n + 1) / 2) (by omega) (by omega)
      rw [hf_more n (by omega)]
      exact ⟨by omega, by omega, j + 1, by rw [h5, Nat.pow_succ]; omega⟩
theorem hf_lt {n : Nat} (h : 2 ≤ n) : hf n < n := (hf_spec n h).1
theorem hf_ge {n : Nat} (h : 2 ≤ n) : n ≤ 2 * hf n := (hf_spec n h).2.1
theorem hf_pos {n : Nat} (h : 2 ≤ n) : 0 < hf n := by have := hf_ge h; omega
theorem pow_between {i j : Nat} (h1 : 2 ^ i < 2 * 2 ^ j) (h2 : 2 ^ j < 2 * 2 ^ i) : i = j := by
  have e1 : 2 * 2 ^ j = 2 ^ (j + 1) := by rw [Nat.pow_succ]; omega
  have e2 : 2 * 2 ^ i = 2 ^ (i + 1) := by rw [Nat.pow_succ]; omega
  rw [e1] at h1
  rw [e2] at h2
  have a := (Nat.pow_lt_pow_iff_right (a := 2) (by omega)).1 h1
  have b := (Nat.pow_lt_pow_iff_right (a := 2) (by omega)).1 h2
  omega
theorem hf_unique {n k j : Nat} (hn : 2 ≤ n) (hk : k = 2 ^ j) (h1 : k < n) (h2 : n ≤ 2 * k) : k = hf n := by
  obtain ⟨a, b, i, c⟩ := hf_spec n hn
  have : j = i := pow_between (by rw [← hk, ← c]; omega) (by rw [← hk, ← c]; omega)
  rw [hk, c, this]

theorem bitLen_spec (x : Nat) : 1 ≤ x → x < 18446744073709551616 → 1 ≤ Lib.bitLen x ∧ 2 ^ (Lib.bitLen x - 1) ≤ x ∧ x < 2 ^ Lib.bitLen x := by
  induction x using Nat.strongRecOn with
  | ind x ih =>
    intro h1 h2
    rw [Lib.bitLen_half x (by omega) (by omega)]
    by_cases h3 : x = 1
    · subst h3
      have : Lib.bitLen (1 / 2) = 0 := by decide
      rw [this]; decide
    · obtain ⟨a, b, c⟩ := ih (x / 2) (by omega) (by omega) (by omega)
      refine ⟨by omega, ?_, ?_⟩
      · have e : 1 + Lib.bitLen (x / 2) - 1 = (Lib.bitLen (x / 2) - 1) + 1 := by omega
        rw [e, Nat.pow_succ]; omega
      · rw [Nat.add_comm, Nat.pow_succ]; omega
theorem hf_bits (n : Nat) (h1 : 2 ≤ n) (h2 : n < 18446744073709551616) : 2 ^ (Lib.bitLen (n - 1) - 1) = hf n := by
  obtain ⟨a, b, c⟩ := bitLen_spec (n - 1) (by omega) (by omega)
  refine hf_unique h1 rfl (by omega) ?_
  have e : Lib.bitLen (n - 1) = (Lib.bitLen (n - 1) - 1) + 1 := by omega
  rw [e, Nat.pow_succ] at c
  omega

def leafTag : List UInt8 := [108, 101, 97, 102]
def nodeTag : List UInt8 := [110, 111, 100, 101]
def emptyTag : List UInt8 := [101, 109, 112, 116, 121]
def lf (d : List UInt8) : List UInt8 := tagged leafTag d
def nd (a b : List UInt8) : List UInt8 := tagged nodeTag (a ++ b)

/-- the digest of a list -/
def tree (l : List (List UInt8)) : List UInt8 :=
  if h : l.length ≤ 1 then (if l.length = 0 then tagged emptyTag [] else lf (l.getD 0 []))
  else nd (tree (l.take (hf l.length))) (tree (l.drop (hf l.length)))
termination_by l.length
decreasing_by
  · rw [List.length_take]; have := hf_lt (n := l.length) (by omega); omega
  · rw [List.length_drop]; have := hf_pos (n := l.length) (by omega); omega
theorem tree_0 : tree [] = tagged emptyTag [] := by rw [tree]; simp
theorem tree_1 (l : List (List UInt8)) (h : l.length = 1) : tree l = lf (l.getD 0 []) := by rw [tree, dif_pos (by omega), if_neg (by omega)]
theorem tree_2 (l : List (List UInt8)) (h : 2 ≤ l.length) : tree l = nd (tree (l.take (hf l.length))) (tree (l.drop (hf l.length))) := by rw [tree, dif_neg (by omega)]
theorem tree_len (l : List (List UInt8)) : (tree l).length = 32 := by
  by_cases h : 2 ≤ l.length
  · rw [tree_2 l h]; exact tagged_len _ _
  · by_cases h1 : l.length = 1
    · rw [tree_1 l h1]; exact tagged_len _ _
    · obtain rfl : l = [] := List.eq_nil_of_length_eq_zero (by omega)
      rw [tree_0]; exact tagged_len _ _

/-- the path of the element with the index k -/
def path (l : List (List UInt8)) (k : Nat) : List (List UInt8) :=
  if h : l.length ≤ 1 then []
  else if k < hf l.length then path (l.take (hf l.length)) k ++ [tree (l.drop (hf l.length))]
  else path (l.drop (hf l.length)) (k - hf l.length) ++ [tree (l.take (hf l.length))]
termination_by l.length
decreasing_by
  · rw [List.length_take]; have := hf_lt (n := l.length) (by omega); omega
  · rw [List.length_drop]; have := hf_pos (n := l.length) (by omega); omega
theorem path_1 (l : List (List UInt8)) (k : Nat) (h : l.length ≤ 1) : path l k = [] := by rw [path, dif_pos h]
theorem path_l (l : List (List UInt8)) (k : Nat) (h : 2 ≤ l.length) (hk : k < hf l.length) : path l k = path (l.take (hf l.length)) k ++ [tree (l.drop (hf l.length))] := by rw [path, dif_neg (by omega), if_pos hk]
theorem path_r (l : List (List UInt8)) (k : Nat) (h : 2 ≤ l.length) (hk : ¬ k < hf l.length) : path l k = path (l.drop (hf l.length)) (k - hf l.length) ++ [tree (l.take (hf l.length))] := by rw [path, dif_neg (by omega), if_neg hk]

/-- the length of the path -/
def steps (k n : Nat) : Nat :=
  if h : n ≤ 1 then 0 else if k < hf n then steps k (hf n) + 1 else steps (k - hf n) (n - hf n) + 1
termination_by n
decreasing_by
  · exact hf_lt (by omega)
  · have := hf_pos (n := n) (by omega); omega
theorem steps_1 (k n : Nat) (h : n ≤ 1) : steps k n = 0 := by rw [steps, dif_pos h]
theorem steps_l (k n : Nat) (h : 2 ≤ n) (hk : k < hf n) : steps k n = steps k (hf n) + 1 := by rw [steps, dif_neg (by omega), if_pos hk]
theorem steps_r (k n : Nat) (h : 2 ≤ n) (hk : ¬ k < hf n) : steps k n = steps (k - hf n) (n - hf n) + 1 := by rw [steps, dif_neg (by omega), if_neg hk]
theorem steps_le (m : Nat) : ∀ k n, n ≤ 2 ^ m → steps k n ≤ m := by
  induction m with
  | zero => intro k n h; rw [steps_1 k n (by simpa using h)]; omega
  | succ m ih =>
    intro k n h
    by_cases h2 : n ≤ 1
    · rw [steps_1 k n h2]; omega
    · have hlt := hf_lt (n := n) (by omega)
      have hge := hf_ge (n := n) (by omega)
      obtain ⟨_, _, j, hj⟩ := hf_spec n (by omega)
      have hjm : hf n ≤ 2 ^ m := by
        rw [hj]
        have : 2 ^ j < 2 ^ (m + 1) := by rw [← hj]; omega
        have := (Nat.pow_lt_pow_iff_right (a := 2) (by omega)).1 this
        exact Nat.pow_le_pow_right (by omega) (by omega)
      by_cases hk : k < hf n
      · rw [steps_l k n (by omega) hk]; have := ih k (hf n) hjm; omega
      · rw [steps_r k n (by omega) hk]; have := ih (k - hf n) (n - hf n) (by omega); omega

theorem path_len : ∀ (n : Nat) (l : List (List UInt8)) (k : Nat), l.length = n → (path l k).length = steps k n := by
  intro n
  induction n using Nat.strongRecOn with
  | ind n ih =>
    intro l k hl
    by_cases h1 : n ≤ 1
    · rw [path_1 l k (by omega), steps_1 k n h1]; rfl
    · have hlt := hf_lt (n := n) (by omega)
      have hp := hf_pos (n := n) (by omega)
      by_cases hk : k < hf n
      · rw [path_l l k (by omega) (by rw [hl]; exact hk), steps_l k n (by omega) hk, List.length_append, hl, ih (hf n) hlt _ k (by rw [List.length_take]; omega)]; rfl
      · rw [path_r l k (by omega) (by rw [hl]; exact hk), steps_r k n (by omega) hk, List.length_append, hl, ih (n - hf n) (by omega) _ (k - hf n) (by rw [List.length_drop]; omega)]; rfl

/-- what follows for the digest of the list -/
def climb (d : List UInt8) (k n : Nat) (p : List (List UInt8)) : List UInt8 :=
  if h : n ≤ 1 then lf d
  else if k < hf n then nd (climb d k (hf n) p.dropLast) (p.getLastD [])
  else nd (p.getLastD []) (climb d (k - hf n) (n - hf n) p.dropLast)
termination_by n
decreasing_by
  · exact hf_lt (by omega)
  · have := hf_pos (n := n) (by omega); omega
theorem climb_1 (d : List UInt8) (k n : Nat) (p : List (List UInt8)) (h : n ≤ 1) : climb d k n p = lf d := by rw [climb, dif_pos h]
theorem climb_l (d : List UInt8) (k n : Nat) (p : List (List UInt8)) (h : 2 ≤ n) (hk : k < hf n) : climb d k n p = nd (climb d k (hf n) p.dropLast) (p.getLastD []) := by rw [climb, dif_neg (by omega), if_pos hk]
theorem climb_r (d : List UInt8) (k n : Nat) (p : List (List UInt8)) (h : 2 ≤ n) (hk : ¬ k < hf n) : climb d k n p = nd (p.getLastD []) (climb d (k - hf n) (n - hf n) p.dropLast) := by rw [climb, dif_neg (by omega), if_neg hk]
theorem climb_len (d : List UInt8) (k n : Nat) (p : List (List UInt8)) : (climb d k n p).length = 32 := by
  by_cases h : n ≤ 1
  · rw [climb_1 d k n p h]; exact tagged_len _ _
  · by_cases hk : k < hf n
    · rw [climb_l d k n p (by omega) hk]; exact tagged_len _ _
    · rw [climb_r d k n p (by omega) hk]; exact tagged_len _ _

theorem climb_path : ∀ (n : Nat) (l : List (List UInt8)) (k : Nat), l.length = n → k < n → climb (l.getD k []) k n (path l k) = tree l := by
  intro n
  induction n using Nat.strongRecOn with
  | ind n ih =>
    intro l k hl hkn
    by_cases h1 : n ≤ 1
    · obtain rfl : k = 0 := by omega
      rw [climb_1 _ _ _ _ h1, tree_1 l (by omega)]
    · have hlt := hf_lt (n := n) (by omega)
      have hp := hf_pos (n := n) (by omega)
      rw [tree_2 l (by omega), hl]
      by_cases hk : k < hf n
      · rw [path_l l k (by omega) (by rw [hl]; exact hk), climb_l _ k n _ (by omega) hk, hl]
        have := ih (hf n) hlt (l.take (hf n)) k (by rw [List.length_take]; omega) hk
        rw [List.dropLast_concat, List.getLastD_concat, ← this]
        congr 2
        simp [List.getElem?_take, hk]
      · rw [path_r l k (by omega) (by rw [hl]; exact hk), climb_r _ k n _ (by omega) hk, hl]
        have := ih (n - hf n) (by omega) (l.drop (hf n)) (k - hf n) (by rw [List.length_drop]; omega) (by omega)
        rw [List.dropLast_concat, List.getLastD_concat, ← this]
        congr 2
        simp [List.getElem?_drop, show hf n + (k - hf n) = k by omega]
end Go.Proofs.YtjibhelahagliaaDoor
