/- Numbers modulo the prime Q, and polynomials through points: plain mathematics. -/
import Derived.KernelRfl
namespace Go.Proofs.Ytbigkcemcdokaaa
open Go

/-! ### Q is prime -/
def noDiv (n : Nat) : Nat → Nat → Bool
  | 0, a => n % a != 0
  | k + 1, a => noDiv n k a && noDiv n k (a + 2 ^ k)
theorem noDiv_spec (n : Nat) : ∀ (k a : Nat), noDiv n k a = true → ∀ d, a ≤ d → d < a + 2 ^ k → n % d ≠ 0
  | 0, a, h, d, h1, h2 => by
    obtain rfl : d = a := by simp at h2; omega
    simpa [noDiv] using h
  | k + 1, a, h, d, h1, h2 => by
    rw [noDiv, Bool.and_eq_true] at h
    rcases Nat.lt_or_ge d (a + 2 ^ k) with hd | hd
    · exact noDiv_spec n k a h.1 d h1 hd
    · exact noDiv_spec n k _ h.2 d hd (by rw [Nat.pow_succ] at h2; omega)
theorem q_noDiv : noDiv 1073741789 15 2 = true := by kernel_rfl
theorem q_prime (d : Nat) (h : d ∣ 1073741789) : d = 1 ∨ d = 1073741789 := by
  obtain ⟨e, he⟩ := h
  have hlow : ∀ x y : Nat, 1073741789 = x * y → 2 ≤ x → x < 32770 → False := fun x y hxy h2 h3 =>
    noDiv_spec 1073741789 15 2 q_noDiv x h2 (by omega) (by rw [hxy]; exact Nat.mul_mod_right x y)
  have hd0 : d ≠ 0 := fun h0 => by rw [h0, Nat.zero_mul] at he; omega
  have he0 : e ≠ 0 := fun h0 => by rw [h0, Nat.mul_zero] at he; omega
  by_cases h1 : d = 1
  · exact .inl h1
  · by_cases h2 : e = 1
    · right; rw [h2, Nat.mul_one] at he; exact he.symm
    · exfalso
      rcases Nat.lt_or_ge d 32770 with h3 | h3
      · exact hlow d e he (by omega) h3
      · rcases Nat.lt_or_ge e 32770 with h4 | h4
        · exact hlow e d (by rw [he, Nat.mul_comm]) (by omega) h4
        · have := Nat.mul_le_mul h3 h4
          omega
theorem q_euclid (a b : Nat) (h : 1073741789 ∣ a * b) : 1073741789 ∣ a ∨ 1073741789 ∣ b := by
  rcases q_prime (Nat.gcd 1073741789 a) (Nat.gcd_dvd_left _ _) with h1 | h1
  · right
    exact Nat.Coprime.dvd_of_dvd_mul_left h1 h
  · left
    have := Nat.gcd_dvd_right 1073741789 a
    rw [h1] at this; exact this
theorem q_euclidI (a b : Int) (h : (1073741789 : Int) ∣ a * b) : (1073741789 : Int) ∣ a ∨ (1073741789 : Int) ∣ b := by
  have h1 : (1073741789 : Nat) ∣ a.natAbs * b.natAbs := by
    rw [← Int.natAbs_mul]; exact Int.ofNat_dvd_left.1 h
  rcases q_euclid _ _ h1 with h2 | h2
  · exact .inl (Int.ofNat_dvd_left.2 h2)
  · exact .inr (Int.ofNat_dvd_left.2 h2)

/-! ### Fermat -/
theorem perm_of_sub {α : Type} : ∀ (l' l : List α), l'.Nodup → (∀ x, x ∈ l' → x ∈ l) → l.length ≤ l'.length → l'.Perm l
  | [], l, _, _, h => by
    have : l = [] := List.eq_nil_of_length_eq_zero (by simpa using h)
    rw [this]
  | x :: t, l, hn, hs, h => by
    obtain ⟨s, r, rfl⟩ := List.append_of_mem (hs x (by simp))
    rw [List.nodup_cons] at hn
    have ih := perm_of_sub t (s ++ r) hn.2 (fun y hy => by
      have hyl := hs y (by simp [hy])
      have hne : y ≠ x := fun e => hn.1 (e ▸ hy)
      simp at hyl ⊢
      rcases hyl with h | h | h
      · exact .inl h
      · exact absurd h hne
      · exact .inr h) (by simp at h ⊢; omega)
    exact (List.Perm.cons x ih).trans List.perm_middle.symm
def prodL : List Nat → Nat
  | [] => 1
  | x :: l => x * prodL l
theorem prodL_perm {l l' : List Nat} (h : l.Perm l') : prodL l = prodL l' := by
  induction h with
  | nil => rfl
  | cons x _ ih => simp [prodL, ih]
  | swap x y l => simp only [prodL]; rw [← Nat.mul_assoc, ← Nat.mul_assoc, Nat.mul_comm x y]
  | trans _ _ ih1 ih2 => exact ih1.trans ih2
theorem prodL_map (a p : Nat) : ∀ l : List Nat, prodL (l.map fun x => a * x % p) % p = a ^ l.length * prodL l % p
  | [] => by simp [prodL]
  | x :: l => by
    simp only [List.map_cons, prodL, List.length_cons]
    rw [Nat.mul_mod, prodL_map a p l, ← Nat.mul_mod, Nat.mod_mul_mod]
    congr 1
    rw [Nat.pow_succ]
    grind
theorem prodL_free : ∀ l : List Nat, (∀ x, x ∈ l → ¬ 1073741789 ∣ x) → ¬ 1073741789 ∣ prodL l
  | [], _ => by simp [prodL]
  | x :: l, h => fun hd => by
    rcases q_euclid _ _ hd with h1 | h1
    · exact h x (by simp) h1
    · exact prodL_free l (fun y hy => h y (by simp [hy])) h1
theorem dvd_sub_of_mod {p x y : Nat} (h : x % p = y % p) (_hxy : y ≤ x) : p ∣ x - y := by
  exact Nat.dvd_of_mod_eq_zero (Nat.sub_mod_eq_zero_of_mod_eq h)
theorem nodup_mul (a : Nat) (ha : ¬ 1073741789 ∣ a) : ∀ l : List Nat, l.Nodup → (∀ x, x ∈ l → x < 1073741789) → (l.map fun x => a * x % 1073741789).Nodup
  | [], _, _ => by simp
  | x :: l, hn, hl => by
    rw [List.nodup_cons] at hn
    rw [List.map_cons, List.nodup_cons]
    refine ⟨fun hm => ?_, nodup_mul a ha l hn.2 (fun y hy => hl y (by simp [hy]))⟩
    obtain ⟨y, hy, he⟩ := List.mem_map.1 hm
    have hx := hl x (by simp)
    have hy2 := hl y (by simp [hy])
    have key : ∀ u v : Nat, u < 1073741789 → v ≤ u → a * u % 1073741789 = a * v % 1073741789 → u = v := fun u v hu hvu h => by
      have hd := dvd_sub_of_mod h (Nat.mul_le_mul_left a hvu)
      rw [← Nat.mul_sub] at hd
      rcases q_euclid _ _ hd with h1 | h1
      · exact absurd h1 ha
      · have := Nat.eq_zero_of_dvd_of_lt h1 (by omega); omega
    have : x = y := by
      rcases Nat.le_total y x with h | h
      · exact key x y hx h he.symm
      · exact (key y x hy2 h he).symm
    exact hn.1 (this ▸ hy)
theorem fermat_len (a n : Nat) (hn : n = 1073741788) (ha : ¬ 1073741789 ∣ a) : a ^ n % 1073741789 = 1 := by
  have hlen : (List.range' 1 n).length = n := by simp
  have hmem : ∀ x, x ∈ List.range' 1 n → 1 ≤ x ∧ x < 1073741789 := fun x hx => by
    have := List.mem_range'_1.1 hx; omega
  have hperm := perm_of_sub ((List.range' 1 n).map fun x => a * x % 1073741789) (List.range' 1 n) (nodup_mul a ha _ List.nodup_range' (fun x hx => (hmem x hx).2)) (fun y hy => by
    obtain ⟨x, hx, rfl⟩ := List.mem_map.1 hy
    have hm := hmem x hx
    have hlt := Nat.mod_lt (a * x) (show 0 < 1073741789 by omega)
    have hne : a * x % 1073741789 ≠ 0 := fun h0 => by
      rcases q_euclid _ _ (Nat.dvd_of_mod_eq_zero h0) with h1 | h1
      · exact ha h1
      · have := Nat.eq_zero_of_dvd_of_lt h1 hm.2; omega
    exact List.mem_range'_1.2 ⟨by omega, by omega⟩) (by simp)
  have h1 := prodL_map a 1073741789 (List.range' 1 n)
  rw [prodL_perm hperm, hlen] at h1
  have hfree := prodL_free (List.range' 1 n) (fun x hx hd => by
    have hm := hmem x hx
    have := Nat.eq_zero_of_dvd_of_lt hd hm.2; omega)
  generalize prodL (List.range' 1 n) = R at *
  have hap : 1 ≤ a ^ n := Nat.pow_pos (Nat.pos_of_ne_zero fun h => ha (h ▸ Nat.dvd_zero _))
  have hd := dvd_sub_of_mod h1.symm (Nat.le_mul_of_pos_left R hap)
  rw [show a ^ n * R - R = (a ^ n - 1) * R by rw [Nat.sub_mul, Nat.one_mul]] at hd
  rcases q_euclid _ _ hd with h2 | h2
  · obtain ⟨e, he⟩ := h2
    rw [show a ^ n = 1073741789 * e + 1 by omega, Nat.mul_add_mod]
  · exact absurd h2 hfree

/-! ### numbers of the field -/
/-- two numbers stand for the same number of the field -/
def Cg (a b : Int) : Prop := (1073741789 : Int) ∣ a - b
theorem Cg.refl (a : Int) : Cg a a := ⟨0, by omega⟩
theorem Cg.symm {a b : Int} (h : Cg a b) : Cg b a := by obtain ⟨c, hc⟩ := h; exact ⟨-c, by omega⟩
theorem Cg.trans {a b c : Int} (h : Cg a b) (k : Cg b c) : Cg a c := by obtain ⟨x, hx⟩ := h; obtain ⟨y, hy⟩ := k; exact ⟨x + y, by omega⟩
theorem Cg.add {a b c d : Int} (h : Cg a b) (k : Cg c d) : Cg (a + c) (b + d) := by obtain ⟨x, hx⟩ := h; obtain ⟨y, hy⟩ := k; exact ⟨x + y, by omega⟩
theorem Cg.sub {a b c d : Int} (h : Cg a b) (k : Cg c d) : Cg (a - c) (b - d) := by obtain ⟨x, hx⟩ := h; obtain ⟨y, hy⟩ := k; exact ⟨x - y, by omega⟩
theorem Cg.mul {a b c d : Int} (h : Cg a b) (k : Cg c d) : Cg (a * c) (b * d) := by
  obtain ⟨x, hx⟩ := h; obtain ⟨y, hy⟩ := k
  exact ⟨x * c + b * y, by grind⟩
theorem cg_mod (a : Int) : Cg (a % 1073741789) a := ⟨-(a / 1073741789), by omega⟩
theorem cg_iff (a b : Int) : Cg a b ↔ a % 1073741789 = b % 1073741789 := by
  constructor
  · rintro ⟨c, hc⟩; omega
  · intro h; exact ((cg_mod a).symm.trans (by rw [h]; exact Cg.refl _)).trans (cg_mod b)
theorem Cg.eq {a b : Int} (h : Cg a b) : a % 1073741789 = b % 1073741789 := (cg_iff a b).1 h
theorem cg_zero {a : Int} : Cg a 0 ↔ a % 1073741789 = 0 := by rw [cg_iff]; simp
theorem cg_dvd {a : Int} : Cg a 0 ↔ (1073741789 : Int) ∣ a := by unfold Cg; rw [Int.sub_zero]
theorem cg_sub_zero {a b : Int} : Cg (a - b) 0 ↔ Cg a b := by unfold Cg; rw [Int.sub_zero]
theorem cg_mul_zero {a b : Int} (h : Cg (a * b) 0) : Cg a 0 ∨ Cg b 0 := by
  rcases q_euclidI a b (cg_dvd.1 h) with h | h
  · exact .inl (cg_dvd.2 h)
  · exact .inr (cg_dvd.2 h)
theorem Cg.pow {a b : Int} (h : Cg a b) : ∀ n : Nat, Cg (a ^ n) (b ^ n)
  | 0 => by rw [Int.pow_zero, Int.pow_zero]; exact Cg.refl _
  | n + 1 => by rw [Int.pow_succ, Int.pow_succ]; exact (h.pow n).mul h

/-- powers -/
def fpow (a : Int) (n : Nat) : Int := a ^ n % 1073741789
theorem fpow_rng (a : Int) (n : Nat) : 0 ≤ fpow a n ∧ fpow a n < 1073741789 := ⟨Int.emod_nonneg _ (by omega), Int.emod_lt_of_pos _ (by omega)⟩
/-- the inverse, by Fermat -/
def finv (a : Int) : Int := fpow a (1073741788 - 1)
theorem finv_rng (a : Int) : 0 ≤ finv a ∧ finv a < 1073741789 := fpow_rng _ _
theorem fermat_int (a : Int) (n : Nat) (hn : n = 1073741788) (h : ¬ Cg a 0) : Cg (a ^ n) 1 := by
  have hr : 0 ≤ a % 1073741789 := Int.emod_nonneg _ (by omega)
  obtain ⟨m, hm⟩ : ∃ m : Nat, a % 1073741789 = (m : Int) := ⟨_, (Int.toNat_of_nonneg hr).symm⟩
  have hf : ¬ 1073741789 ∣ m := fun hd => h (cg_zero.2 (by obtain ⟨e, he⟩ := hd; have := Int.emod_lt_of_pos a (show (0 : Int) < 1073741789 by omega); omega))
  have h1 := fermat_len m n hn hf
  have h2 : Cg ((m : Int) ^ n) 1 := by
    rw [← Int.natCast_pow, cg_iff]; omega
  exact (((cg_mod a).symm.pow n).trans (by rw [hm]; exact Cg.refl _)).trans h2
theorem finv_len (a : Int) (n : Nat) (hn : n + 1 = 1073741788) (h : ¬ Cg a 0) : Cg (a * fpow a n) 1 := by
  have h1 := fermat_int a (n + 1) hn h
  rw [Int.pow_succ, Int.mul_comm] at h1
  exact (Cg.mul (Cg.refl a) (cg_mod (a ^ n))).trans h1
theorem finv_mul (a : Int) (h : ¬ Cg a 0) : Cg (a * finv a) 1 := by
  unfold finv
  obtain ⟨n, hn⟩ : ∃ n : Nat, n = 1073741788 - 1 := ⟨_, rfl⟩
  rw [← hn]
  exact finv_len a n (by omega) h
theorem cg_cancel {a b c : Int} (ha : ¬ Cg a 0) (h : Cg (a * b) (a * c)) : Cg b c := by
  have h1 : Cg (a * (b - c)) 0 := by rw [show a * (b - c) = a * b - a * c by grind]; exact cg_sub_zero.2 h
  rcases cg_mul_zero h1 with h2 | h2
  · exact absurd h2 ha
  · exact cg_sub_zero.1 h2
theorem finv_eq {a b : Int} (hb : 0 ≤ b ∧ b < 1073741789) (h : a * b % 1073741789 = 1) : finv a = b := by
  have ha : ¬ Cg a 0 := fun h0 => by
    have h1 := (h0.mul (Cg.refl b)).eq
    rw [h, Int.zero_mul] at h1; omega
  have h1 := cg_cancel ha ((finv_mul a ha).trans ((cg_iff 1 (a * b)).2 (by rw [h]; rfl)))
  have h2 := h1.eq
  have h3 := finv_rng a
  omega

/-! ### polynomials -/
/-- the value of a polynomial, as an integer -/
def evalP : List Int → Int → Int
  | [], _ => 0
  | c :: l, t => c + t * evalP l t
theorem evalP_cg {t u : Int} (h : Cg t u) : ∀ l : List Int, Cg (evalP l t) (evalP l u)
  | [] => Cg.refl _
  | c :: l => (Cg.refl c).add (h.mul (evalP_cg h l))
/-- a function that is a polynomial with n coefficients -/
def IsPoly (n : Nat) (f : Int → Int) : Prop := ∃ l : List Int, l.length = n ∧ ∀ t, f t = evalP l t
theorem isPoly_zero : ∀ n, IsPoly n (fun _ => 0)
  | 0 => ⟨[], rfl, fun _ => rfl⟩
  | n + 1 => by
    obtain ⟨l, h1, h2⟩ := isPoly_zero n
    exact ⟨0 :: l, by simp [h1], fun t => by rw [evalP, ← h2]; simp⟩
theorem IsPoly.more {n : Nat} {f : Int → Int} (h : IsPoly n f) : ∀ {m : Nat}, n ≤ m → IsPoly m f := by
  obtain ⟨l, rfl, h2⟩ := h
  intro m hm
  induction l generalizing f m with
  | nil =>
    obtain ⟨l', h3, h4⟩ := isPoly_zero m
    exact ⟨l', h3, fun t => by rw [h2, ← h4]; rfl⟩
  | cons c l ih =>
    obtain ⟨m, rfl⟩ : ∃ k, m = k + 1 := ⟨m - 1, by simp at hm; omega⟩
    obtain ⟨l', h3, h4⟩ := ih (f := evalP l) (fun _ => rfl) (m := m) (by simpa using hm)
    exact ⟨c :: l', by simp [h3], fun t => by rw [h2, evalP, evalP, h4]⟩
theorem isPoly_eval (l : List Int) : IsPoly l.length (evalP l) := ⟨l, rfl, fun _ => rfl⟩
theorem IsPoly.add : ∀ {n : Nat} {f g : Int → Int}, IsPoly n f → IsPoly n g → IsPoly n (fun t => f t + g t)
  | 0, f, g, h, k => by
    obtain ⟨l, h1, h2⟩ := h; obtain ⟨l', k1, k2⟩ := k
    obtain rfl := List.eq_nil_of_length_eq_zero h1
    obtain rfl := List.eq_nil_of_length_eq_zero k1
    exact ⟨[], rfl, fun t => by show f t + g t = _; rw [h2, k2]; rfl⟩
  | n + 1, f, g, h, k => by
    obtain ⟨l, h1, h2⟩ := h; obtain ⟨l', k1, k2⟩ := k
    obtain ⟨c, l, rfl⟩ := List.exists_cons_of_length_eq_add_one h1
    obtain ⟨c', l', rfl⟩ := List.exists_cons_of_length_eq_add_one k1
    obtain ⟨r, h3, h4⟩ := IsPoly.add (n := n) ⟨l, by simpa using h1, fun _ => rfl⟩ ⟨l', by simpa using k1, fun _ => rfl⟩
    exact ⟨(c + c') :: r, by simp [h3], fun t => by show f t + g t = _; rw [h2, k2, evalP, evalP, evalP, ← h4]; grind⟩
theorem IsPoly.scale (a : Int) {n : Nat} {f : Int → Int} (h : IsPoly n f) : IsPoly n (fun t => f t * a) := by
  obtain ⟨l, rfl, h2⟩ := h
  have : ∀ l : List Int, ∀ t, evalP l t * a = evalP (l.map (· * a)) t := fun l t => by
    induction l with
    | nil => simp [evalP]
    | cons c l ih => rw [List.map_cons, evalP, evalP, ← ih]; grind
  exact ⟨l.map (· * a), by simp, fun t => by show f t * a = _; rw [h2]; exact this l t⟩
theorem IsPoly.shift {n : Nat} {f : Int → Int} (h : IsPoly n f) : IsPoly (n + 1) (fun t => f t * t) := by
  obtain ⟨l, rfl, h2⟩ := h
  exact ⟨0 :: l, rfl, fun t => by show f t * t = _; rw [evalP, h2]; grind⟩
theorem IsPoly.linear {n : Nat} {f : Int → Int} (h : IsPoly n f) (c : Int) : IsPoly (n + 1) (fun t => f t * (t - c)) := by
  obtain ⟨l, h1, h2⟩ := (h.shift).add ((h.scale (-c)).more (Nat.le_succ n))
  exact ⟨l, h1, fun t => by rw [← h2]; grind⟩
theorem isPoly_const (a : Int) : IsPoly 1 (fun _ => a) := ⟨[a], rfl, fun t => by simp [evalP]⟩
/-- what is left when a root's factor is taken out -/
theorem factor (a : Int) : ∀ l : List Int, ∃ q : List Int, q.length = l.length - 1 ∧ ∀ t, evalP l t = (t - a) * evalP q t + evalP l a
  | [] => ⟨[], rfl, fun t => by simp [evalP]⟩
  | [c] => ⟨[], rfl, fun t => by simp [evalP]⟩
  | c :: d :: l => by
    obtain ⟨q, h1, h2⟩ := factor a (d :: l)
    refine ⟨evalP (d :: l) a :: q, by simp at h1 ⊢; omega, fun t => ?_⟩
    have h3 := h2 t
    have e1 : evalP (c :: d :: l) t = c + t * evalP (d :: l) t := rfl
    have e2 : evalP (c :: d :: l) a = c + a * evalP (d :: l) a := rfl
    have e3 : evalP (evalP (d :: l) a :: q) t = evalP (d :: l) a + t * evalP q t := rfl
    rw [e1, e2, e3, h3]
    grind
/-- the numbers stand for pairwise different numbers -/
def Dif (xs : List Int) : Prop := ∀ i j, i < j → j < xs.length → xs.getD i 0 % 1073741789 ≠ xs.getD j 0 % 1073741789
theorem dif_cons {x : Int} {xs : List Int} (h : Dif (x :: xs)) : Dif xs ∧ ∀ j, j < xs.length → ¬ Cg (xs.getD j 0) x := by
  refine ⟨fun i j h1 h2 => by simpa using h (i + 1) (j + 1) (by omega) (by simpa using h2), fun j hj hc => ?_⟩
  exact h 0 (j + 1) (by omega) (by simpa using hj) (by simpa using hc.eq.symm)
theorem roots_all : ∀ (xs l : List Int), Dif xs → l.length ≤ xs.length → (∀ j, j < xs.length → Cg (evalP l (xs.getD j 0)) 0) → ∀ t, Cg (evalP l t) 0
  | _, [], _, _, _, t => Cg.refl _
  | [], c :: l, _, h, _, _ => by simp at h
  | x :: xs, c :: l, hd, hl, hr, t => by
    obtain ⟨q, h1, h2⟩ := factor x (c :: l)
    obtain ⟨d1, d2⟩ := dif_cons hd
    have h0 : Cg (evalP (c :: l) x) 0 := by simpa using hr 0 (by simp)
    have hq := roots_all xs q d1 (by simp at h1 hl; omega) (fun j hj => by
      have h3 : Cg (evalP (c :: l) (xs.getD j 0)) 0 := by simpa using hr (j + 1) (by simpa using hj)
      rw [h2] at h3
      have h4 : Cg ((xs.getD j 0 - x) * evalP q (xs.getD j 0)) 0 := by
        have := h3.sub h0
        rwa [Int.add_sub_cancel, Int.sub_zero] at this
      rcases cg_mul_zero h4 with h5 | h5
      · exact absurd (cg_sub_zero.1 h5) (d2 j hj)
      · exact h5)
    rw [h2]
    exact ((Cg.refl (t - x)).mul (hq t)).add h0 |>.trans (by rw [Int.mul_zero]; exact Cg.refl _)
/-- polynomials that agree at enough places agree everywhere -/
theorem agree_all {n : Nat} {f g : Int → Int} (hf : IsPoly n f) (hg : IsPoly n g) (xs : List Int) (hd : Dif xs) (hl : n ≤ xs.length) (h : ∀ j, j < xs.length → Cg (f (xs.getD j 0)) (g (xs.getD j 0))) (t : Int) : Cg (f t) (g t) := by
  obtain ⟨l, h1, h2⟩ := hf.add (hg.scale (-1))
  have h2' : ∀ t, f t - g t = evalP l t := fun t => by rw [← h2]; show _ = f t + g t * -1; omega
  have h3 := roots_all xs l hd (by omega) (fun j hj => by rw [← h2']; exact cg_sub_zero.2 (h j hj)) t
  rw [← h2'] at h3
  exact cg_sub_zero.1 h3

/-! ### through points -/
/-- the product of t - x over the first k of the numbers but the one at i -/
def prodN (xs : List Int) (i : Nat) (t : Int) : Nat → Int
  | 0 => 1
  | k + 1 => if k = i then prodN xs i t k else prodN xs i t k * (t - xs.getD k 0)
theorem prodN_poly (xs : List Int) (i : Nat) : ∀ k, IsPoly (if i < k then k else k + 1) (fun t => prodN xs i t k)
  | 0 => by simpa [prodN] using isPoly_const 1
  | k + 1 => by
    have ih := prodN_poly xs i k
    by_cases h : k = i
    · subst h
      simpa [prodN] using ih
    · rcases Nat.lt_or_ge i k with hik | hik
      · rw [if_pos hik] at ih
        rw [if_pos (by omega)]
        simpa [prodN, h] using ih.linear (xs.getD k 0)
      · rw [if_neg (by omega)] at ih
        rw [if_neg (by omega)]
        simpa [prodN, h] using ih.linear (xs.getD k 0)
theorem prodN_cg {t u : Int} (h : Cg t u) (xs : List Int) (i : Nat) : ∀ k, Cg (prodN xs i t k) (prodN xs i u k)
  | 0 => Cg.refl _
  | k + 1 => by
    rw [prodN, prodN]
    split
    · exact prodN_cg h xs i k
    · exact (prodN_cg h xs i k).mul (h.sub (Cg.refl _))
theorem prodN_root (xs : List Int) (i j : Nat) (hij : i ≠ j) {t : Int} (ht : Cg t (xs.getD j 0)) : ∀ k, j < k → Cg (prodN xs i t k) 0
  | 0, h => by omega
  | k + 1, h => by
    rw [prodN]
    by_cases hk : j = k
    · subst hk
      rw [if_neg (by omega)]
      have := (Cg.refl (prodN xs i t j)).mul (cg_sub_zero.2 ht)
      rwa [Int.mul_zero] at this
    · have ih := prodN_root xs i j hij ht k (by omega)
      split
      · exact ih
      · have := ih.mul (Cg.refl (t - xs.getD k 0))
        rwa [Int.zero_mul] at this
theorem prodN_free (xs : List Int) (hd : Dif xs) (i : Nat) (hi : i < xs.length) : ∀ k, k ≤ xs.length → ¬ Cg (prodN xs i (xs.getD i 0) k) 0
  | 0, _ => by rw [prodN, cg_zero]; omega
  | k + 1, hk => by
    rw [prodN]
    have ih := prodN_free xs hd i hi k (by omega)
    split
    · exact ih
    · rename_i hne
      intro h0
      rcases cg_mul_zero h0 with h1 | h1
      · exact ih h1
      · have h2 := (cg_sub_zero.1 h1).eq
        rcases Nat.lt_or_ge i k with h3 | h3
        · exact hd i k h3 (by omega) h2
        · exact hd k i (by omega) hi h2.symm
/-- the value at t of the polynomial that is 1 at the point i and 0 at the others -/
def wgt (xs : List Int) (i : Nat) (t : Int) : Int := prodN xs i t xs.length * finv (prodN xs i (xs.getD i 0) xs.length)
/-- the sum over the first k points -/
def lagN (xs ys : List Int) (t : Int) : Nat → Int
  | 0 => 0
  | k + 1 => lagN xs ys t k + ys.getD k 0 * wgt xs k t
def lag (xs ys : List Int) (t : Int) : Int := lagN xs ys t xs.length
theorem wgt_poly (xs : List Int) (i : Nat) (hi : i < xs.length) : IsPoly xs.length (wgt xs i) := by
  have h := prodN_poly xs i xs.length
  rw [if_pos hi] at h
  exact h.scale _
theorem lagN_poly (xs ys : List Int) : ∀ k, k ≤ xs.length → IsPoly xs.length (fun t => lagN xs ys t k)
  | 0, _ => isPoly_zero _
  | k + 1, hk => by
    obtain ⟨l, h1, h2⟩ := (lagN_poly xs ys k (by omega)).add ((wgt_poly xs k (by omega)).scale (ys.getD k 0))
    exact ⟨l, h1, fun t => by rw [← h2]; show lagN xs ys t k + ys.getD k 0 * wgt xs k t = lagN xs ys t k + wgt xs k t * ys.getD k 0; grind⟩
theorem lag_poly (xs ys : List Int) : IsPoly xs.length (lag xs ys) := lagN_poly xs ys _ (Nat.le_refl _)
theorem wgt_other (xs : List Int) (i j : Nat) (hij : i ≠ j) (hj : j < xs.length) {t : Int} (ht : Cg t (xs.getD j 0)) : Cg (wgt xs i t) 0 := by
  have := (prodN_root xs i j hij ht xs.length hj).mul (Cg.refl (finv (prodN xs i (xs.getD i 0) xs.length)))
  rwa [Int.zero_mul] at this
theorem wgt_own (xs : List Int) (hd : Dif xs) (i : Nat) (hi : i < xs.length) {t : Int} (ht : Cg t (xs.getD i 0)) : Cg (wgt xs i t) 1 :=
  ((prodN_cg ht xs i _).mul (Cg.refl _)).trans (finv_mul _ (prodN_free xs hd i hi _ (Nat.le_refl _)))
theorem lagN_at (xs ys : List Int) (hd : Dif xs) (j : Nat) (hj : j < xs.length) {t : Int} (ht : Cg t (xs.getD j 0)) : ∀ k, k ≤ xs.length → Cg (lagN xs ys t k) (if j < k then ys.getD j 0 else 0)
  | 0, _ => Cg.refl _
  | k + 1, hk => by
    have ih := lagN_at xs ys hd j hj ht k (by omega)
    rw [lagN]
    by_cases h : k = j
    · subst h
      rw [if_neg (Nat.lt_irrefl _)] at ih
      rw [if_pos (Nat.lt_succ_self _)]
      have := ih.add ((Cg.refl (ys.getD k 0)).mul (wgt_own xs hd k hj ht))
      rwa [Int.mul_one, Int.zero_add] at this
    · have h1 := ih.add ((Cg.refl (ys.getD k 0)).mul (wgt_other xs k j h hj ht))
      rw [Int.mul_zero, Int.add_zero] at h1
      rcases Nat.lt_or_ge j k with h2 | h2
      · rw [if_pos h2] at h1; rw [if_pos (by omega)]; exact h1
      · rw [if_neg (by omega)] at h1; rw [if_neg (by omega)]; exact h1
/-- at the X of a point, its Y -/
theorem lag_at (xs ys : List Int) (hd : Dif xs) (j : Nat) (hj : j < xs.length) {t : Int} (ht : Cg t (xs.getD j 0)) : Cg (lag xs ys t) (ys.getD j 0) := by
  have := lagN_at xs ys hd j hj ht xs.length (Nat.le_refl _)
  rwa [if_pos hj] at this
/-- the polynomial through points is the only one -/
theorem lag_only (xs ys : List Int) (hd : Dif xs) {f : Int → Int} (hf : IsPoly xs.length f) (h : ∀ j, j < xs.length → Cg (ys.getD j 0) (f (xs.getD j 0))) (t : Int) : Cg (lag xs ys t) (f t) :=
  agree_all (lag_poly xs ys) hf xs hd (Nat.le_refl _) (fun j hj => (lag_at xs ys hd j hj (Cg.refl _)).trans (h j hj)) t
end Go.Proofs.Ytbigkcemcdokaaa
