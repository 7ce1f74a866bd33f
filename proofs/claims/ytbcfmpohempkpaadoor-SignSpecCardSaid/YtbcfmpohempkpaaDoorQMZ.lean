/- Numbers modulo the prime Q, and polynomials through points: plain mathematics. -/
import Derived.KernelRfl
namespace Go.Proofs.YtbcfmpohempkpaaDoor.Fld
open Go

/-! ### Q is prime -/
def noDiv (n : Nat) : Nat → Nat → Bool
  | 0, a => n % a != 0
  | k + 1, a => noDiv n k a && noDiv n k (a + 2 ^ k)
theorem noDiv_spec (n : Nat) : ∀ (k a : Nat), noDiv n k a = true → ∀ d, a ≤ d → d < a + 2 ^ k → n % d ≠ 0
  | 0, a, h, d, h1, h2 => by
    obtain rfl : d = a := by simp at h2; omega
    simpa [noDiv] using h
  | k + 1, a, h, d, h1, h2 => by
    rw [noDiv, Bool.and_eq_true] at h
    rcases Nat.lt_or_ge d (a + 2 ^ k) with hd | hd
    · exact noDiv_spec n k a h.1 d h1 hd
    · exact noDiv_spec n k _ h.2 d hd (by rw [Nat.pow_succ] at h2; omega)
theorem q_noDiv : noDiv 1073741789 15 2 = true := by kernel_rfl
theorem q_prime (d : Nat) (h : d ∣ 1073741789) : d = 1 ∨ d = 1073741789 := by
  obtain ⟨e, he⟩ := h
  have hlow : ∀ x y : Nat, 1073741789 = x * y → 2 ≤ x → x < 32770 → False := fun x y hxy h2 h3 =>
    noDiv_spec 1073741789 15 2 q_noDiv x h2 (by omega) (by rw [hxy]; exact Nat.mul_mod_right x y)
  have hd0 : d ≠ 0 := fun h0 => by rw [h0, Nat.zero_mul] at he; omega
  have he0 : e ≠ 0 := fun h0 => by rw [h0, Nat.mul_zero] at he; omega
  by_cases h1 : d = 1
  · exact .inl h1
  · by_cases h2 : e = 1
    · right; rw [h2, Nat.mul_one] at he; exact he.symm
    · exfalso
      rcases Nat.lt_or_ge d 32770 with h3 | h3
      · exact hlow d e he (by omega) h3
      · rcases Nat.lt_or_ge e 32770 with h4 | h4
        · exact hlow e d (by rw [he, Nat.mul_comm]) (by omega) h4
        · have := Nat.mul_le_mul h3 h4
          omega
theorem q_euclid (a b : Nat) (h : 1073741789 ∣ a * b) : 1073741789 ∣ a ∨ 1073741789 ∣ b := by
  rcases q_prime (Nat.gcd 1073741789 a) (Nat.gcd_dvd_left _ _) with h1 | h1
  · right
    exact Nat.Coprime.dvd_of_dvd_mul_left h1 h
  · left
    have := Nat.gcd_dvd_right 1073741789 a
    rw [h1] at this; exact this
/-! ### Fermat -/
theorem perm_of_sub {α : Type} : ∀ (l' l : List α), l'.Nodup → (∀ x, x ∈ l' → x ∈ l) → l.length ≤ l'.length → l'.Perm l
  | [], l, _, _, h => by
    have : l = [] := List.eq_nil_of_length_eq_zero (by simpa using h)
    rw [this]
  | x :: t, l, hn, hs, h => by
    obtain ⟨s, r, rfl⟩ := List.append_of_mem (hs x (by simp))
    rw [List.nodup_cons] at hn
    have ih := perm_of_sub t (s ++ r) hn.2 (fun y hy => by
      have hyl := hs y (by simp [hy])
      have hne : y ≠ x := fun e => hn.1 (e ▸ hy)
      simp at hyl ⊢
      rcases hyl with h | h | h
      · exact .inl h
      · exact absurd h hne
      · exact .inr h) (by simp at h ⊢; omega)
    exact (List.Perm.cons x ih).trans List.perm_middle.symm
def prodL : List Nat → Nat
  | [] => 1
  | x :: l => x * prodL l
theorem prodL_perm {l l' : List Nat} (h : l.Perm l') : prodL l = prodL l' := by
  induction h with
  | nil => rfl
  | cons x _ ih => simp [prodL, ih]
  | swap x y l => simp only [prodL]; rw [← Nat.mul_assoc, ← Nat.mul_assoc, Nat.mul_comm x y]
  | trans _ _ ih1 ih2 => exact ih1.trans ih2
theorem prodL_map (a p : Nat) : ∀ l : List Nat, prodL (l.map fun x => a * x % p) % p = a ^ l.length * prodL l % p
  | [] => by simp [prodL]
  | x :: l => by
    simp only [List.map_cons, prodL, List.length_cons]
    rw [Nat.mul_mod, prodL_map a p l, ← Nat.mul_mod, Nat.mod_mul_mod]
    congr 1
    rw [Nat.pow_succ]
    grind
theorem prodL_free : ∀ l : List Nat, (∀ x, x ∈ l → ¬ 1073741789 ∣ x) → ¬ 1073741789 ∣ prodL l
  | [], _ => by simp [prodL]
  | x :: l, h => fun hd => by
    rcases q_euclid _ _ hd with h1 | h1
    · exact h x (by simp) h1
    · exact prodL_free l (fun y hy => h y (by simp [hy])) h1
theorem dvd_sub_of_mod {p x y : Nat} (h : x % p = y % p) (_hxy : y ≤ x) : p ∣ x - y := by
  exact Nat.dvd_of_mod_eq_zero (Nat.sub_mod_eq_zero_of_mod_eq h)
theorem nodup_mul (a : Nat) (ha : ¬ 1073741789 ∣ a) : ∀ l : List Nat, l.Nodup → (∀ x, x ∈ l → x < 1073741789) → (l.map fun x => a * x % 1073741789).Nodup
  | [], _, _ => by simp
  | x :: l, hn, hl => by
    rw [List.nodup_cons] at hn
    rw [List.map_cons, List.nodup_cons]
    refine ⟨fun hm => ?_, nodup_mul a ha l hn.2 (fun y hy => hl y (by simp [hy]))⟩
    obtain ⟨y, hy, he⟩ := List.mem_map.1 hm
    have hx := hl x (by simp)
    have hy2 := hl y (by simp [hy])
    have key : ∀ u v : Nat, u < 1073741789 → v ≤ u → a * u % 1073741789 = a * v % 1073741789 → u = v := fun u v hu hvu h => by
      have hd := dvd_sub_of_mod h (Nat.mul_le_mul_left a hvu)
      rw [← Nat.mul_sub] at hd
      rcases q_euclid _ _ hd with h1 | h1
      · exact absurd h1 ha
      · have := Nat.eq_zero_of_dvd_of_lt h1 (by omega); omega
    have : x = y := by
      rcases Nat.le_total y x with h | h
      · exact key x y hx h he.symm
      · exact (key y x hy2 h he).symm
    exact hn.1 (this ▸ hy)
theorem fermat_len (a n : Nat) (hn : n = 1073741788) (ha : ¬ 1073741789 ∣ a) : a ^ n % 1073741789 = 1 := by
  have hlen : (List.range' 1 n).length = n := by simp
  have hmem : ∀ x, x ∈ List.range' 1 n → 1 ≤ x ∧ x < 1073741789 := fun x hx => by
    have := List.mem_range'_1.1 hx; omega
  have hperm := perm_of_sub ((List.range' 1 n).map fun x => a * x % 1073741789) (List.range' 1 n) (nodup_mul a ha _ List.nodup_range' (fun x hx => (hmem x hx).2)) (fun y hy => by
    obtain ⟨x, hx, rfl⟩ := List.mem_map.1 hy
    have hm := hmem x hx
    have hlt := Nat.mod_lt (a * x) (show 0 < 1073741789 by omega)
    have hne : a * x % 1073741789 ≠ 0 := fun h0 => by
      rcases q_euclid _ _ (Nat.dvd_of_mod_eq_zero h0) with h1 | h1
      · exact ha h1
      · have := Nat.eq_zero_of_dvd_of_lt h1 hm.2; omega
    exact List.mem_range'_1.2 ⟨by omega, by omega⟩) (by simp)
  have h1 := prodL_map a 1073741789 (List.range' 1 n)
  rw [prodL_perm hperm, hlen] at h1
  have hfree := prodL_free (List.range' 1 n) (fun x hx hd => by
    have hm := hmem x hx
    have := Nat.eq_zero_of_dvd_of_lt hd hm.2; omega)
  generalize prodL (List.range' 1 n) = R at *
  have hap : 1 ≤ a ^ n := Nat.pow_pos (Nat.pos_of_ne_zero fun h => ha (h ▸ Nat.dvd_zero _))
  have hd := dvd_sub_of_mod h1.symm (Nat.le_mul_of_pos_left R hap)
  rw [show a ^ n * R - R = (a ^ n - 1) * R by rw [Nat.sub_mul, Nat.one_mul]] at hd
  rcases q_euclid _ _ hd with h2 | h2
  · obtain ⟨e, he⟩ := h2
    rw [show a ^ n = 1073741789 * e + 1 by omega, Nat.mul_add_mod]
  · exact absurd h2 hfree

/-! ### numbers of the field -/
/-- two numbers stand for the same number of the field -/
def Cg (a b : Int) : Prop := (1073741789 : Int) ∣ a - b
theorem Cg.refl (a : Int) : Cg a a := ⟨0, by omega⟩
theorem Cg.symm {a b : Int} (h : Cg a b) : Cg b a := by obtain ⟨c, hc⟩ := h; exact ⟨-c, by omega⟩
theorem Cg.trans {a b c : Int} (h : Cg a b) (k : Cg b c) : Cg a c := by obtain ⟨x, hx⟩ := h; obtain ⟨y, hy⟩ := k; exact ⟨x + y, by omega⟩
theorem Cg.add {a b c d : Int} (h : Cg a b) (k : Cg c d) : Cg (a + c) (b + d) := by obtain ⟨x, hx⟩ := h; obtain ⟨y, hy⟩ := k; exact ⟨x + y, by omega⟩
theorem Cg.sub {a b c d : Int} (h : Cg a b) (k : Cg c d) : Cg (a - c) (b - d) := by obtain ⟨x, hx⟩ := h; obtain ⟨y, hy⟩ := k; exact ⟨x - y, by omega⟩
theorem Cg.mul {a b c d : Int} (h : Cg a b) (k : Cg c d) : Cg (a * c) (b * d) := by
  obtain ⟨x, hx⟩ := h; obtain ⟨y, hy⟩ := k
  exact ⟨x * c + b * y, by grind⟩
theorem cg_mod (a : Int) : Cg (a % 1073741789) a := ⟨-(a / 1073741789), by omega⟩
theorem cg_iff (a b : Int) : Cg a b ↔ a % 1073741789 = b % 1073741789 := by
  constructor
  · rintro ⟨c, hc⟩; omega
  · intro h; exact ((cg_mod a).symm.trans (by rw [h]; exact Cg.refl _)).trans (cg_mod b)
theorem Cg.eq {a b : Int} (h : Cg a b) : a % 1073741789 = b % 1073741789 := (cg_iff a b).1 h
theorem cg_zero {a : Int} : Cg a 0 ↔ a % 1073741789 = 0 := by rw [cg_iff]; simp
theorem cg_dvd {a : Int} : Cg a 0 ↔ (1073741789 : Int) ∣ a := by unfold Cg; rw [Int.sub_zero]
theorem Cg.pow {a b : Int} (h : Cg a b) : ∀ n : Nat, Cg (a ^ n) (b ^ n)
  | 0 => by rw [Int.pow_zero, Int.pow_zero]; exact Cg.refl _
  | n + 1 => by rw [Int.pow_succ, Int.pow_succ]; exact (h.pow n).mul h

/-- powers -/
def fpow (a : Int) (n : Nat) : Int := a ^ n % 1073741789
theorem fpow_rng (a : Int) (n : Nat) : 0 ≤ fpow a n ∧ fpow a n < 1073741789 := ⟨Int.emod_nonneg _ (by omega), Int.emod_lt_of_pos _ (by omega)⟩
/-- the inverse, by Fermat -/
def finv (a : Int) : Int := fpow a (1073741788 - 1)
theorem fermat_int (a : Int) (n : Nat) (hn : n = 1073741788) (h : ¬ Cg a 0) : Cg (a ^ n) 1 := by
  have hr : 0 ≤ a % 1073741789 := Int.emod_nonneg _ (by omega)
  obtain ⟨m, hm⟩ : ∃ m : Nat, a % 1073741789 = (m : Int) := ⟨_, (Int.toNat_of_nonneg hr).symm⟩
  have hf : ¬ 1073741789 ∣ m := fun hd => h (cg_zero.2 (by obtain ⟨e, he⟩ := hd; have := Int.emod_lt_of_pos a (show (0 : Int) < 1073741789 by omega); omega))
  have h1 := fermat_len m n hn hf
  have h2 : Cg ((m : Int) ^ n) 1 := by
    rw [← Int.natCast_pow, cg_iff]; omega
  exact (((cg_mod a).symm.pow n).trans (by rw [hm]; exact Cg.refl _)).trans h2
theorem finv_len (a : Int) (n : Nat) (hn : n + 1 = 1073741788) (h : ¬ Cg a 0) : Cg (a * fpow a n) 1 := by
  have h1 := fermat_int a (n + 1) hn h
  rw [Int.pow_succ, Int.mul_comm] at h1
  exact (Cg.mul (Cg.refl a) (cg_mod (a ^ n))).trans h1
theorem finv_mul (a : Int) (h : ¬ Cg a 0) : Cg (a * finv a) 1 := by
  unfold finv
  obtain ⟨n, hn⟩ : ∃ n : Nat, n = 1073741788 - 1 := ⟨_, rfl⟩
  rw [← hn]
  exact finv_len a n (by omega) h
/-! ### polynomials -/
/-- the value of a polynomial, as an integer -/
def evalP : List Int → Int → Int
  | [], _ => 0
  | c :: l, t => c + t * evalP l t
/-- a function that is a polynomial with n coefficients -/
def IsPoly (n : Nat) (f : Int → Int) : Prop := ∃ l : List Int, l.length = n ∧ ∀ t, f t = evalP l t
theorem IsPoly.add : ∀ {n : Nat} {f g : Int → Int}, IsPoly n f → IsPoly n g → IsPoly n (fun t => f t + g t)
  | 0, f, g, h, k => by
    obtain ⟨l, h1, h2⟩ := h; obtain ⟨l', k1, k2⟩ := k
    obtain rfl := List.eq_nil_of_length_eq_zero h1
    obtain rfl := List.eq_nil_of_length_eq_zero k1
    exact ⟨[], rfl, fun t => by show f t + g t = _; rw [h2, k2]; rfl⟩
  | n + 1, f, g, h, k => by
    obtain ⟨l, h1, h2⟩ := h; obtain ⟨l', k1, k2⟩ := k
    obtain ⟨c, l, rfl⟩ := List.exists_cons_of_length_eq_add_one h1
    obtain ⟨c', l', rfl⟩ := List.exists_cons_of_length_eq_add_one k1
    obtain ⟨r, h3, h4⟩ := IsPoly.add (n := n) ⟨l, by simpa using h1, fun _ => rfl⟩ ⟨l', by simpa using k1, fun _ => rfl⟩
    exact ⟨(c + c') :: r, by simp [h3], fun t => by show f t + g t = _; rw [h2, k2, evalP, evalP, evalP, ← h4]; grind⟩
/-! ### through points -/
end Go.Proofs.YtbcfmpohempkpaaDoor.Fld
