/- Squares modulo the prime P: Gauss's lemma, a symbol by counting, reciprocity: plain mathematics. -/
import Derived.KernelRfl
namespace Go.Proofs.YtbcfmpohempkpaaDoor
open Go

/-! ### P is prime -/
def noDiv (n : Nat) : Nat → Nat → Bool
  | 0, a => n % a != 0
  | k + 1, a => noDiv n k a && noDiv n k (a + 2 ^ k)
theorem noDiv_spec (n : Nat) : ∀ (k a : Nat), noDiv n k a = true → ∀ d, a ≤ d → d < a + 2 ^ k → n % d ≠ 0
  | 0, a, h, d, h1, h2 => by
    obtain rfl : d = a := by simp at h2; omega
    simpa [noDiv] using h
  | k + 1, a, h, d, h1, h2 => by
    rw [noDiv, Bool.and_eq_true] at h
    rcases Nat.lt_or_ge d (a + 2 ^ k) with hd | hd
    · exact noDiv_spec n k a h.1 d h1 hd
    · exact noDiv_spec n k _ h.2 d hd (by rw [Nat.pow_succ] at h2; omega)
theorem p_noDiv : noDiv 2147483579 16 2 = true := by kernel_rfl
theorem p_prime (d : Nat) (h : d ∣ 2147483579) : d = 1 ∨ d = 2147483579 := by
  obtain ⟨e, he⟩ := h
  have hlow : ∀ x y : Nat, 2147483579 = x * y → 2 ≤ x → x < 65538 → False := fun x y hxy h2 h3 =>
    noDiv_spec 2147483579 16 2 p_noDiv x h2 (by omega) (by rw [hxy]; exact Nat.mul_mod_right x y)
  have hd0 : d ≠ 0 := fun h0 => by rw [h0, Nat.zero_mul] at he; omega
  have he0 : e ≠ 0 := fun h0 => by rw [h0, Nat.mul_zero] at he; omega
  by_cases h1 : d = 1
  · exact .inl h1
  · by_cases h2 : e = 1
    · right; rw [h2, Nat.mul_one] at he; exact he.symm
    · exfalso
      rcases Nat.lt_or_ge d 65538 with h3 | h3
      · exact hlow d e he (by omega) h3
      · rcases Nat.lt_or_ge e 65538 with h4 | h4
        · exact hlow e d (by rw [he, Nat.mul_comm]) (by omega) h4
        · have := Nat.mul_le_mul h3 h4
          omega
theorem p_euclid (a b : Nat) (h : 2147483579 ∣ a * b) : 2147483579 ∣ a ∨ 2147483579 ∣ b := by
  rcases p_prime (Nat.gcd 2147483579 a) (Nat.gcd_dvd_left _ _) with h1 | h1
  · right
    exact Nat.Coprime.dvd_of_dvd_mul_left h1 h
  · left
    have := Nat.gcd_dvd_right 2147483579 a
    rw [h1] at this; exact this
theorem p_euclidI (a b : Int) (h : (2147483579 : Int) ∣ a * b) : (2147483579 : Int) ∣ a ∨ (2147483579 : Int) ∣ b := by
  have h1 : (2147483579 : Nat) ∣ a.natAbs * b.natAbs := by
    rw [← Int.natAbs_mul]; exact Int.ofNat_dvd_left.1 h
  rcases p_euclid _ _ h1 with h2 | h2
  · exact .inl (Int.ofNat_dvd_left.2 h2)
  · exact .inr (Int.ofNat_dvd_left.2 h2)
theorem p_coprime {x : Nat} (h1 : 1 ≤ x) (h2 : x < 2147483579) : Nat.Coprime x 2147483579 := by
  rcases p_prime (Nat.gcd x 2147483579) (Nat.gcd_dvd_right _ _) with h | h
  · exact h
  · have := Nat.gcd_dvd_left x 2147483579
    rw [h] at this
    have := Nat.le_of_dvd (by omega) this
    omega

/-! ### parity -/
/-- the parity of the number of k below n with f k -/
def xs (f : Nat → Bool) : Nat → Bool
  | 0 => false
  | n + 1 => xs f n ^^ f n
theorem xs_congr {f g : Nat → Bool} : ∀ {n : Nat}, (∀ k, k < n → f k = g k) → xs f n = xs g n
  | 0, _ => rfl
  | n + 1, h => by rw [xs, xs, xs_congr (fun k hk => h k (by omega)), h n (by omega)]
theorem xs_xor (f g : Nat → Bool) : ∀ n : Nat, xs (fun k => f k ^^ g k) n = (xs f n ^^ xs g n)
  | 0 => rfl
  | n + 1 => by
    rw [xs, xs, xs, xs_xor f g n]
    cases xs f n <;> cases xs g n <;> cases f n <;> cases g n <;> rfl
theorem xs_false : ∀ n : Nat, xs (fun _ => false) n = false
  | 0 => rfl
  | n + 1 => by rw [xs, xs_false n]; rfl
theorem xs_swap (f : Nat → Nat → Bool) (b : Nat) : ∀ h : Nat, xs (fun k => xs (fun y => f k y) b) h = xs (fun y => xs (fun k => f k y) h) b
  | 0 => by simp only [xs]; rw [xs_false]
  | h + 1 => by
    rw [xs, xs_swap f b h, ← xs_xor]
    rfl
theorem xs_head (f : Nat → Bool) : ∀ n : Nat, xs f (n + 1) = (f 0 ^^ xs (fun k => f (k + 1)) n)
  | 0 => by simp [xs]
  | n + 1 => by
    rw [xs, xs_head f n, xs]
    cases f 0 <;> cases xs (fun k => f (k + 1)) n <;> cases f (n + 1) <;> rfl
theorem xs_sym (n : Nat) : ∀ f : Nat → Bool, (∀ k, k < n → f (n - 1 - k) = f k) → xs f n = (decide (n % 2 = 1) && f (n / 2)) := by
  induction n using Nat.strongRecOn with
  | ind n ih =>
    intro f hf
    match n, ih, hf with
    | 0, _, _ => rfl
    | 1, _, _ => simp [xs]
    | n + 2, ih, hf =>
      rw [xs, xs_head, ih n (by omega) (fun k => f (k + 1)) (fun k hk => by
        have := hf (k + 1) (by omega)
        rw [← this]; congr 1; omega)]
      have h0 := hf 0 (by omega)
      rw [show n + 2 - 1 - 0 = n + 1 by omega] at h0
      rw [h0, show (n + 2) % 2 = n % 2 by omega, show (n + 2) / 2 = n / 2 + 1 by omega]
      cases f 0 <;> cases (decide (n % 2 = 1) && f (n / 2 + 1)) <;> rfl
theorem xs_one (y0 : Nat) : ∀ n : Nat, xs (fun y => decide (y = y0)) n = decide (y0 < n)
  | 0 => by simp [xs]
  | n + 1 => by
    rw [xs, xs_one y0 n]
    by_cases h : n = y0
    · subst h; simp
    · by_cases h2 : y0 < n
      · simp [h, h2]; omega
      · simp [h, h2]; omega
theorem perm_of_sub {α : Type} : ∀ (l' l : List α), l'.Nodup → (∀ x, x ∈ l' → x ∈ l) → l.length ≤ l'.length → l'.Perm l
  | [], l, _, _, h => by
    have : l = [] := List.eq_nil_of_length_eq_zero (by simpa using h)
    rw [this]
  | x :: t, l, hn, hs, h => by
    obtain ⟨s, r, rfl⟩ := List.append_of_mem (hs x (by simp))
    rw [List.nodup_cons] at hn
    have ih := perm_of_sub t (s ++ r) hn.2 (fun y hy => by
      have hyl := hs y (by simp [hy])
      have hne : y ≠ x := fun e => hn.1 (e ▸ hy)
      simp at hyl ⊢
      rcases hyl with h | h | h
      · exact .inl h
      · exact absurd h hne
      · exact .inr h) (by simp at h ⊢; omega)
    exact (List.Perm.cons x ih).trans List.perm_middle.symm
theorem nodup_map {f : Nat → Nat} : ∀ l : List Nat, l.Nodup → (∀ x y, x ∈ l → y ∈ l → f x = f y → x = y) → (l.map f).Nodup
  | [], _, _ => by simp
  | x :: l, hn, hi => by
    rw [List.nodup_cons] at hn
    rw [List.map_cons, List.nodup_cons]
    refine ⟨fun hm => ?_, nodup_map l hn.2 (fun a b ha hb => hi a b (by simp [ha]) (by simp [hb]))⟩
    obtain ⟨y, hy, he⟩ := List.mem_map.1 hm
    exact hn.1 (hi x y (by simp) (by simp [hy]) he.symm ▸ hy)
theorem range_perm {f : Nat → Nat} {n : Nat} (hlt : ∀ k, k < n → f k < n) (hi : ∀ x y, x < n → y < n → f x = f y → x = y) : ((List.range n).map f).Perm (List.range n) :=
  perm_of_sub _ _ (nodup_map _ List.nodup_range (fun x y hx hy => hi x y (List.mem_range.1 hx) (List.mem_range.1 hy)))
    (fun y hy => by obtain ⟨x, hx, rfl⟩ := List.mem_map.1 hy; exact List.mem_range.2 (hlt x (List.mem_range.1 hx))) (by simp)
def xorL : List Bool → Bool
  | [] => false
  | b :: l => b ^^ xorL l
theorem xorL_perm {l l' : List Bool} (h : l.Perm l') : xorL l = xorL l' := by
  induction h with
  | nil => rfl
  | cons x _ ih => simp [xorL, ih]
  | swap x y l => simp only [xorL]; cases x <;> cases y <;> cases xorL l <;> rfl
  | trans _ _ ih1 ih2 => exact ih1.trans ih2
theorem xorL_append : ∀ l m : List Bool, xorL (l ++ m) = (xorL l ^^ xorL m)
  | [], m => by simp [xorL]
  | b :: l, m => by
    rw [List.cons_append, xorL, xorL, xorL_append l m]
    cases b <;> cases xorL l <;> cases xorL m <;> rfl
theorem xs_list (f : Nat → Bool) : ∀ n : Nat, xs f n = xorL ((List.range n).map f)
  | 0 => rfl
  | n + 1 => by
    rw [xs, xs_list f n, List.range_succ, List.map_append, xorL_append]
    simp [xorL]
theorem xs_perm {f : Nat → Nat} {n : Nat} (hlt : ∀ k, k < n → f k < n) (hi : ∀ x y, x < n → y < n → f x = f y → x = y) (g : Nat → Bool) : xs (fun k => g (f k)) n = xs g n := by
  rw [xs_list, xs_list, ← xorL_perm ((range_perm hlt hi).map g), List.map_map]
  rfl
def prodL : List Nat → Nat
  | [] => 1
  | x :: l => x * prodL l
theorem prodL_perm {l l' : List Nat} (h : l.Perm l') : prodL l = prodL l' := by
  induction h with
  | nil => rfl
  | cons x _ ih => simp [prodL, ih]
  | swap x y l => simp only [prodL]; rw [← Nat.mul_assoc, ← Nat.mul_assoc, Nat.mul_comm x y]
  | trans _ _ ih1 ih2 => exact ih1.trans ih2
theorem prodL_append : ∀ l m : List Nat, prodL (l ++ m) = prodL l * prodL m
  | [], m => by simp [prodL]
  | b :: l, m => by rw [List.cons_append, prodL, prodL, prodL_append l m, Nat.mul_assoc]
/-- the product of f k for k below n -/
def pr (f : Nat → Nat) : Nat → Nat
  | 0 => 1
  | n + 1 => pr f n * f n
theorem pr_list (f : Nat → Nat) : ∀ n : Nat, pr f n = prodL ((List.range n).map f)
  | 0 => rfl
  | n + 1 => by
    rw [pr, pr_list f n, List.range_succ, List.map_append, prodL_append]
    simp [prodL]
theorem pr_perm {f : Nat → Nat} {n : Nat} (hlt : ∀ k, k < n → f k < n) (hi : ∀ x y, x < n → y < n → f x = f y → x = y) : pr (fun k => f k + 1) n = pr (fun k => k + 1) n := by
  rw [pr_list, pr_list, ← prodL_perm ((range_perm hlt hi).map (fun k => k + 1)), List.map_map]
  rfl
theorem pr_free : ∀ n : Nat, n < 2147483579 → ¬ 2147483579 ∣ pr (fun k => k + 1) n
  | 0, _ => by simp [pr]
  | n + 1, h => fun hd => by
    rcases p_euclid _ _ hd with h1 | h1
    · exact pr_free n (by omega) h1
    · have := Nat.le_of_dvd (by omega) (show 2147483579 ∣ n + 1 from h1); omega

/-! ### the symbol -/
/-- whether the multiple of k + 1 lies in the upper half -/
def sg (a n k : Nat) : Bool := decide (n / 2 < a * (k + 1) % n)
/-- where it is folded into the lower half, less 1 -/
def rd (a n k : Nat) : Nat := (if n / 2 < a * (k + 1) % n then n - a * (k + 1) % n else a * (k + 1) % n) - 1
/-- the parity of the multiples that lie in the upper half -/
def J (a n : Nat) : Bool := xs (sg a n) (n / 2)

theorem res_ne {a n k : Nat} (hc : Nat.Coprime a n) (hk : k < n / 2) : a * (k + 1) % n ≠ 0 := fun h => by
  have hd := Nat.dvd_of_mod_eq_zero h
  have := Nat.Coprime.dvd_of_dvd_mul_left hc.symm hd
  have := Nat.le_of_dvd (by omega) this
  omega
theorem rd_lt {a n k : Nat} (hn : n % 2 = 1) (hc : Nat.Coprime a n) (hk : k < n / 2) : rd a n k < n / 2 := by
  have h1 := res_ne hc hk
  have h2 := Nat.mod_lt (a * (k + 1)) (show 0 < n by omega)
  unfold rd
  split <;> omega
theorem dvd_sub_of_mod {p x y : Nat} (h : x % p = y % p) (_hxy : y ≤ x) : p ∣ x - y :=
  Nat.dvd_of_mod_eq_zero (Nat.sub_mod_eq_zero_of_mod_eq h)
theorem rd_inj {a n : Nat} (hn : n % 2 = 1) (hc : Nat.Coprime a n) (x y : Nat) (hx : x < n / 2) (hy : y < n / 2) (h : rd a n x = rd a n y) : x = y := by
  have hx1 := res_ne hc hx
  have hy1 := res_ne hc hy
  have hx2 := Nat.mod_lt (a * (x + 1)) (show 0 < n by omega)
  have hy2 := Nat.mod_lt (a * (y + 1)) (show 0 < n by omega)
  have key : ∀ u v : Nat, u < n / 2 → v ≤ u → a * (u + 1) % n = a * (v + 1) % n → u = v := fun u v hu hvu h => by
    have hd := dvd_sub_of_mod h (Nat.mul_le_mul_left a (by omega : v + 1 ≤ u + 1))
    rw [← Nat.mul_sub] at hd
    have h1 := Nat.Coprime.dvd_of_dvd_mul_left hc.symm hd
    have := Nat.eq_zero_of_dvd_of_lt h1 (by omega)
    omega
  have hsum : a * (x + 1) % n + a * (y + 1) % n ≠ n := fun hs => by
    have hd : n ∣ a * (x + 1) + a * (y + 1) := by
      refine Nat.dvd_of_mod_eq_zero ?_
      rw [Nat.add_mod, hs, Nat.mod_self]
    rw [← Nat.mul_add] at hd
    have h1 := Nat.Coprime.dvd_of_dvd_mul_left hc.symm hd
    have := Nat.le_of_dvd (by omega) h1
    omega
  have heq : a * (x + 1) % n = a * (y + 1) % n := by
    unfold rd at h
    split at h <;> split at h <;> omega
  rcases Nat.le_total y x with h | h
  · exact key x y hx h heq
  · exact (key y x hy h heq.symm).symm

theorem J_mod (a n : Nat) : J (a % n) n = J a n := by
  unfold J
  refine xs_congr fun k _ => ?_
  unfold sg
  rw [Nat.mod_mul_mod]
theorem J_mul {a b n : Nat} (hn : n % 2 = 1) (ha : Nat.Coprime a n) (hb : Nat.Coprime b n) : J (a * b) n = (J b n ^^ J a n) := by
  unfold J
  rw [← xs_perm (f := rd b n) (fun k hk => rd_lt hn hb hk) (fun x y hx hy h => rd_inj hn hb x y hx hy h) (sg a n), ← xs_xor]
  refine xs_congr fun k hk => ?_
  have h1 := res_ne hb hk
  have h2 := Nat.mod_lt (b * (k + 1)) (show 0 < n by omega)
  unfold sg rd
  rw [Nat.mul_assoc a b (k + 1), ← Nat.mul_mod_mod a (b * (k + 1)) n]
  generalize hr : b * (k + 1) % n = r at *
  by_cases hh : n / 2 < r
  · rw [if_pos hh, show n - r - 1 + 1 = n - r by omega]
    have hlt : n - r - 1 < n / 2 := by omega
    have h3 := res_ne ha hlt
    rw [show n - r - 1 + 1 = n - r by omega] at h3
    have h4 := Nat.mod_lt (a * (n - r)) (show 0 < n by omega)
    have h5 := Nat.mod_lt (a * r) (show 0 < n by omega)
    have hs : (a * (n - r) % n + a * r % n) % n = 0 := by
      rw [← Nat.add_mod, ← Nat.mul_add, show n - r + r = n by omega]
      exact Nat.mul_mod_left a n
    have hs2 : a * (n - r) % n + a * r % n = n := by
      have hd := Nat.dvd_of_mod_eq_zero hs
      obtain ⟨e, he⟩ := hd
      rcases e with _ | _ | e
      · rw [Nat.mul_zero] at he; omega
      · rw [he]; simp
      · exfalso
        rw [show e + 1 + 1 = e + 2 by omega, Nat.mul_add] at he
        have : 0 ≤ n * e := Nat.zero_le _
        omega
    by_cases h6 : n / 2 < a * r % n
    · rw [decide_eq_true h6, decide_eq_true hh, decide_eq_false (by omega)]; rfl
    · rw [decide_eq_false h6, decide_eq_true hh, decide_eq_true (by omega)]; rfl
  · rw [if_neg hh, show r - 1 + 1 = r by omega, decide_eq_false hh, Bool.false_xor]
theorem J_one (n : Nat) : J 1 n = false := by
  unfold J
  rw [xs_congr (g := fun _ => false) (fun k hk => by
    unfold sg
    rw [Nat.one_mul, Nat.mod_eq_of_lt (by omega)]
    exact decide_eq_false (by omega)), xs_false]
theorem xs_ge (t : Nat) : ∀ n : Nat, t ≤ n → xs (fun k => decide (t ≤ k)) n = decide ((n - t) % 2 = 1)
  | 0, h => by simp [xs]
  | n + 1, h => by
    rw [xs]
    rcases Nat.lt_or_ge n t with h1 | h1
    · rw [show t = n + 1 by omega, xs_congr (g := fun _ => false) (fun k hk => by simp; omega), xs_false]
      simp
    · rw [xs_ge t n h1, decide_eq_true h1]
      by_cases h2 : (n - t) % 2 = 1
      · rw [decide_eq_true h2, decide_eq_false (by omega)]; rfl
      · rw [decide_eq_false h2, decide_eq_true (by omega)]; rfl
theorem J_two {n : Nat} (hn : n % 2 = 1) : J 2 n = (decide (n % 8 = 3) || decide (n % 8 = 5)) := by
  unfold J
  rw [xs_congr (g := fun k => decide (n / 2 / 2 ≤ k)) (fun k hk => by
    unfold sg
    rw [Nat.mod_eq_of_lt (by omega)]
    congr 1
    exact propext ⟨fun h => by omega, fun h => by omega⟩), xs_ge _ _ (by omega)]
  rw [← Bool.decide_or]
  congr 1
  exact propext ⟨fun h => by omega, fun h => by omega⟩

/-! ### reciprocity -/
theorem sg_sum {a n k : Nat} (ha : a % 2 = 1) (hn : n % 2 = 1) (hk : k < n / 2) :
    sg a n k = xs (fun y => decide (a * (k + 1) < n * (y + 1) ∧ n * (y + 1) ≤ a * (k + 1) + n / 2)) (a / 2) := by
  have hd := Nat.div_add_mod (a * (k + 1)) n
  have hlt := Nat.mod_lt (a * (k + 1)) (show 0 < n by omega)
  have hle : a * (k + 1) ≤ a * (n / 2) := Nat.mul_le_mul_left a (by omega)
  have hb : a * (n / 2) = 2 * (a / 2) * (n / 2) + n / 2 := by
    conv => lhs; rw [show a = 2 * (a / 2) + 1 by omega]
    rw [Nat.add_mul, Nat.one_mul]
  have hnn : n * (a / 2) = 2 * (a / 2) * (n / 2) + a / 2 := by
    conv => lhs; rw [show n = 2 * (n / 2) + 1 by omega]
    rw [Nat.add_mul, Nat.one_mul, Nat.mul_assoc, Nat.mul_assoc, Nat.mul_comm (n / 2)]
  unfold sg
  generalize a * (k + 1) = m at *
  generalize hq : m / n = q at *
  generalize hr : m % n = r at *
  by_cases h : n / 2 < r
  · rw [decide_eq_true h, xs_congr (g := fun y => decide (y = q)) (fun y _ => by
      congr 1
      refine propext ⟨fun hy => ?_, fun hy => ?_⟩
      · rcases Nat.lt_trichotomy y q with h1 | h1 | h1
        · have := Nat.mul_le_mul_left n (show y + 1 ≤ q by omega)
          omega
        · exact h1
        · have := Nat.mul_le_mul_left n (show q + 2 ≤ y + 1 by omega)
          rw [Nat.mul_add] at this
          omega
      · subst hy
        rw [Nat.mul_add, Nat.mul_one]
        omega), xs_one]
    symm
    rw [decide_eq_true_eq]
    have h5 : n * q < n * (a / 2) := by omega
    exact Nat.lt_of_mul_lt_mul_left h5
  · rw [decide_eq_false h, xs_congr (g := fun _ => false) (fun y _ => by
      refine decide_eq_false fun hy => ?_
      rcases Nat.lt_or_ge y q with h1 | h1
      · have := Nat.mul_le_mul_left n (show y + 1 ≤ q by omega)
        omega
      · have := Nat.mul_le_mul_left n (show q + 1 ≤ y + 1 by omega)
        rw [Nat.mul_add] at this
        omega), xs_false]
theorem J_recip {a n : Nat} (ha : a % 2 = 1) (hn : n % 2 = 1) (hc : Nat.Coprime a n) : (J a n ^^ J n a) = (decide (a % 4 = 3) && decide (n % 4 = 3)) := by
  have h1 : J a n = xs (fun k => xs (fun y => decide (a * (k + 1) < n * (y + 1) ∧ n * (y + 1) ≤ a * (k + 1) + n / 2)) (a / 2)) (n / 2) :=
    xs_congr fun k hk => sg_sum ha hn hk
  have h2 : J n a = xs (fun k => xs (fun y => decide (n * (y + 1) < a * (k + 1) ∧ a * (k + 1) ≤ n * (y + 1) + a / 2)) (a / 2)) (n / 2) := by
    rw [xs_swap]
    exact xs_congr fun k hk => sg_sum hn ha hk
  rw [h1, h2, ← xs_xor]
  have h3 : ∀ k, k < n / 2 → (xs (fun y => decide (a * (k + 1) < n * (y + 1) ∧ n * (y + 1) ≤ a * (k + 1) + n / 2)) (a / 2) ^^ xs (fun y => decide (n * (y + 1) < a * (k + 1) ∧ a * (k + 1) ≤ n * (y + 1) + a / 2)) (a / 2)) =
      xs (fun y => decide (a * (k + 1) ≤ n * (y + 1) + a / 2 ∧ n * (y + 1) ≤ a * (k + 1) + n / 2)) (a / 2) := fun k hk => by
    rw [← xs_xor]
    refine xs_congr fun y hy => ?_
    have hne : a * (k + 1) ≠ n * (y + 1) := fun h => by
      have hd : n ∣ a * (k + 1) := ⟨_, h⟩
      have := Nat.Coprime.dvd_of_dvd_mul_left hc.symm hd
      have := Nat.le_of_dvd (by omega) this
      omega
    generalize a * (k + 1) = u at *
    generalize n * (y + 1) = v at *
    by_cases h : u < v
    · rw [decide_eq_false (show ¬ (v < u ∧ u ≤ v + a / 2) by omega), Bool.xor_false]
      congr 1
      exact propext ⟨fun h => by omega, fun h => by omega⟩
    · rw [decide_eq_false (show ¬ (u < v ∧ v ≤ u + n / 2) by omega), Bool.false_xor]
      congr 1
      exact propext ⟨fun h => by omega, fun h => by omega⟩
  rw [xs_congr h3]
  generalize hh : n / 2 = h at *
  generalize hb : a / 2 = b at *
  have ea : a = 2 * b + 1 := by omega
  have en : n = 2 * h + 1 := by omega
  have hrev : ∀ k y, k < h → y < b → (decide (a * (h - 1 - k + 1) ≤ n * (b - 1 - y + 1) + b ∧ n * (b - 1 - y + 1) ≤ a * (h - 1 - k + 1) + h)) = decide (a * (k + 1) ≤ n * (y + 1) + b ∧ n * (y + 1) ≤ a * (k + 1) + h) := fun k y hk hy => by
    have e1 : a * (h - 1 - k + 1) + a * (k + 1) = a * (h + 1) := by rw [← Nat.mul_add]; congr 1; omega
    have e2 : n * (b - 1 - y + 1) + n * (y + 1) = n * (b + 1) := by rw [← Nat.mul_add]; congr 1; omega
    have e3 : a * (h + 1) + h = n * (b + 1) + b := by
      rw [ea, en]; grind
    generalize a * (h - 1 - k + 1) = u' at *
    generalize a * (k + 1) = u at *
    generalize n * (b - 1 - y + 1) = v' at *
    generalize n * (y + 1) = v at *
    congr 1
    exact propext ⟨fun h => by omega, fun h => by omega⟩
  have hsymy : ∀ k, k < h → xs (fun y => decide (a * (h - 1 - k + 1) ≤ n * (y + 1) + b ∧ n * (y + 1) ≤ a * (h - 1 - k + 1) + h)) b = xs (fun y => decide (a * (k + 1) ≤ n * (y + 1) + b ∧ n * (y + 1) ≤ a * (k + 1) + h)) b := fun k hk => by
    rw [← xs_perm (f := fun y => b - 1 - y) (fun y hy => by omega) (fun x y hx hy h => by omega) (fun y => decide (a * (h - 1 - k + 1) ≤ n * (y + 1) + b ∧ n * (y + 1) ≤ a * (h - 1 - k + 1) + h))]
    exact xs_congr fun y hy => hrev k y hk hy
  rw [xs_sym h _ hsymy]
  by_cases ho : h % 2 = 1
  · rw [decide_eq_true ho, Bool.true_and, xs_sym b _ (fun y hy => by
      have := hrev (h / 2) y (by omega) hy
      rw [show h - 1 - h / 2 = h / 2 by omega] at this
      exact this)]
    by_cases hbo : b % 2 = 1
    · rw [decide_eq_true hbo, Bool.true_and, decide_eq_true (show a % 4 = 3 by omega), decide_eq_true (show n % 4 = 3 by omega)]
      rw [Bool.and_true, decide_eq_true_eq]
      obtain ⟨s, hs⟩ : ∃ s, h = 2 * s + 1 := ⟨h / 2, by omega⟩
      obtain ⟨t, ht⟩ : ∃ t, b = 2 * t + 1 := ⟨b / 2, by omega⟩
      rw [show h / 2 = s by omega, show b / 2 = t by omega, ea, en, hs, ht]
      constructor <;> grind
    · rw [decide_eq_false hbo, Bool.false_and, decide_eq_false (show ¬ a % 4 = 3 by omega), Bool.false_and]
  · rw [decide_eq_false ho, Bool.false_and, decide_eq_false (show ¬ n % 4 = 3 by omega), Bool.and_false]

/-! ### Gauss's lemma, for P -/
/-- two numbers are congruent modulo P -/
def Cp (a b : Int) : Prop := (2147483579 : Int) ∣ a - b
theorem Cp.refl (a : Int) : Cp a a := ⟨0, by omega⟩
theorem Cp.symm {a b : Int} (h : Cp a b) : Cp b a := by obtain ⟨c, hc⟩ := h; exact ⟨-c, by omega⟩
theorem Cp.trans {a b c : Int} (h : Cp a b) (k : Cp b c) : Cp a c := by obtain ⟨x, hx⟩ := h; obtain ⟨y, hy⟩ := k; exact ⟨x + y, by omega⟩
theorem Cp.add {a b c d : Int} (h : Cp a b) (k : Cp c d) : Cp (a + c) (b + d) := by obtain ⟨x, hx⟩ := h; obtain ⟨y, hy⟩ := k; exact ⟨x + y, by omega⟩
theorem Cp.sub {a b c d : Int} (h : Cp a b) (k : Cp c d) : Cp (a - c) (b - d) := by obtain ⟨x, hx⟩ := h; obtain ⟨y, hy⟩ := k; exact ⟨x - y, by omega⟩
theorem Cp.mul {a b c d : Int} (h : Cp a b) (k : Cp c d) : Cp (a * c) (b * d) := by
  obtain ⟨x, hx⟩ := h; obtain ⟨y, hy⟩ := k
  exact ⟨x * c + b * y, by grind⟩
theorem cp_mod (a : Int) : Cp (a % 2147483579) a := ⟨-(a / 2147483579), by omega⟩
theorem cp_iff (a b : Int) : Cp a b ↔ a % 2147483579 = b % 2147483579 := by
  constructor
  · rintro ⟨c, hc⟩; omega
  · intro h; exact ((cp_mod a).symm.trans (by rw [h]; exact Cp.refl _)).trans (cp_mod b)
theorem Cp.eq {a b : Int} (h : Cp a b) : a % 2147483579 = b % 2147483579 := (cp_iff a b).1 h
theorem Cp.pow {a b : Int} (h : Cp a b) : ∀ n : Nat, Cp (a ^ n) (b ^ n)
  | 0 => by rw [Int.pow_zero, Int.pow_zero]; exact Cp.refl _
  | n + 1 => by rw [Int.pow_succ, Int.pow_succ]; exact (h.pow n).mul h
def sgI (b : Bool) : Int := if b then -1 else 1
theorem sgI_xor (a b : Bool) : sgI (a ^^ b) = sgI a * sgI b := by cases a <;> cases b <;> rfl
theorem gauss_step {a k : Nat} (hc : Nat.Coprime a 2147483579) (hk : k < 2147483579 / 2) : Cp ((a : Int) * ((k + 1 : Nat) : Int)) (sgI (sg a 2147483579 k) * ((rd a 2147483579 k + 1 : Nat) : Int)) := by
  have h1 := res_ne hc hk
  have h2 := Nat.mod_lt (a * (k + 1)) (show 0 < 2147483579 by omega)
  have h3 : Cp ((a : Int) * ((k + 1 : Nat) : Int)) ((a * (k + 1) % 2147483579 : Nat) : Int) := by
    rw [← Int.natCast_mul, Int.natCast_emod]
    exact (cp_mod _).symm
  refine h3.trans ?_
  unfold sg rd
  generalize a * (k + 1) % 2147483579 = r at *
  by_cases h : 2147483579 / 2 < r
  · rw [if_pos h, decide_eq_true h]
    exact ⟨1, by rw [sgI, if_pos rfl]; omega⟩
  · rw [if_neg h, decide_eq_false h]
    exact ⟨0, by rw [sgI, if_neg (by simp)]; omega⟩
theorem gauss_upto {a : Nat} (hc : Nat.Coprime a 2147483579) : ∀ h : Nat, h ≤ 2147483579 / 2 → Cp ((a : Int) ^ h * ((pr (fun k => k + 1) h : Nat) : Int)) (sgI (xs (sg a 2147483579) h) * ((pr (fun k => rd a 2147483579 k + 1) h : Nat) : Int))
  | 0, _ => by rw [Int.pow_zero]; exact Cp.refl _
  | h + 1, hh => by
    rw [xs, sgI_xor, Int.pow_succ, pr, pr, Int.natCast_mul, Int.natCast_mul]
    have h1 := (gauss_upto hc h (by omega)).mul (gauss_step hc (show h < 2147483579 / 2 by omega))
    refine Cp.trans (Cp.trans ?_ h1) ?_
    · rw [show ∀ x y z w : Int, x * y * (z * w) = x * z * (y * w) from fun x y z w => by grind]
      exact Cp.refl _
    · rw [show ∀ x y z w : Int, x * y * (z * w) = x * z * (y * w) from fun x y z w => by grind]
      exact Cp.refl _
theorem euler_cp {a h : Nat} (hh : h = 1073741789) (hc : Nat.Coprime a 2147483579) : Cp ((a : Int) ^ h) (sgI (J a 2147483579)) := by
  have h1 := gauss_upto hc h (by omega)
  have he : 2147483579 / 2 = h := by omega
  rw [pr_perm (f := rd a 2147483579) (fun k hk => by rw [← he] at hk ⊢; exact rd_lt (by omega) hc hk) (fun x y hx hy h => by
    rw [← he] at hx hy; exact rd_inj (by omega) hc x y hx hy h)] at h1
  have hf := pr_free h (by omega)
  unfold J
  rw [he]
  generalize pr (fun k => k + 1) h = F at *
  have h2 : (2147483579 : Int) ∣ ((a : Int) ^ h - sgI (xs (sg a 2147483579) h)) * (F : Int) := by
    rw [Int.sub_mul]; exact h1
  rcases p_euclidI _ _ h2 with h3 | h3
  · exact h3
  · exact absurd (Int.natCast_dvd_natCast.1 h3) hf
theorem euler_iff {a h : Nat} (hh : h = 1073741789) (hc : Nat.Coprime a 2147483579) : a ^ h % 2147483579 = 1 ↔ J a 2147483579 = false := by
  have h1 := (euler_cp hh hc).eq
  have h2 : ((a ^ h % 2147483579 : Nat) : Int) = (sgI (J a 2147483579)) % 2147483579 := by
    rw [← h1, Int.natCast_emod, Int.natCast_pow]
    rfl
  cases hj : J a 2147483579
  · rw [hj] at h2
    have : (sgI false) % 2147483579 = 1 := rfl
    rw [this] at h2
    exact ⟨fun _ => rfl, fun _ => by omega⟩
  · rw [hj] at h2
    have : (sgI true) % 2147483579 = 2147483578 := rfl
    rw [this] at h2
    exact ⟨fun _ => by omega, fun h => by cases h⟩

/-! ### the loop -/
theorem j_even {x y m : Nat} (hx : x = 2 * y) (hm : m % 2 = 1) (hc : Nat.Coprime x m) (s : Bool) : ((s == (decide (m % 8 = 1) || decide (m % 8 = 7))) ^^ J y m) = (s ^^ J x m) := by
  have h2 : Nat.Coprime 2 m := Nat.Coprime.coprime_dvd_left ⟨y, hx⟩ hc
  have hy : Nat.Coprime y m := Nat.Coprime.coprime_dvd_left ⟨2, by omega⟩ hc
  rw [hx, J_mul hm h2 hy, J_two hm]
  have h8 : m % 8 = 1 ∨ m % 8 = 3 ∨ m % 8 = 5 ∨ m % 8 = 7 := by omega
  rcases h8 with h | h | h | h <;> rw [h] <;> cases s <;> cases J y m <;> rfl
theorem j_odd {x m : Nat} (hx : x % 2 = 1) (hm : m % 2 = 1) (hc : Nat.Coprime x m) (s : Bool) : ((s == (decide (x % 4 = 1) || decide (m % 4 = 1))) ^^ J (m % x) x) = (s ^^ J x m) := by
  have h1 := J_recip hx hm hc
  rw [J_mod]
  have hx4 : x % 4 = 1 ∨ x % 4 = 3 := by omega
  have hm4 : m % 4 = 1 ∨ m % 4 = 3 := by omega
  generalize J m x = u at *
  generalize J x m = v at *
  rcases hx4 with h | h <;> rcases hm4 with k | k <;> rw [h, k] at h1 ⊢ <;> cases s <;> cases u <;> cases v <;> first | rfl | exact absurd h1 (by decide)
theorem j_end {x m : Nat} (hx : x ≤ 1) (hc : Nat.Coprime x m) : J x m = false := by
  rcases Nat.lt_or_ge x 1 with h | h
  · have : x = 0 := by omega
    subst this
    have : m = 1 := by simpa [Nat.Coprime] using hc
    subst this
    rfl
  · have : x = 1 := by omega
    subst this
    exact J_one m

end Go.Proofs.YtbcfmpohempkpaaDoor
