/- Days and dates: plain mathematics. -/
import Derived.Lib.Hide
namespace Go.Proofs.YtiicjmbnkjociaaDoor

def leap (y : Int) : Bool := decide (y % 4 = 0) && decide (y ≠ 2100)
/-- the days of a month, 1 to 12, of a leap year or another one -/
def lnB (lp : Bool) (m : Nat) : Int := if m = 2 ∧ lp = true then 29 else [31, 28, 31, 30, 31, 30, 31, 31, 30, 31, 30, 31].getD (m - 1) 0
/-- the days of the first k months -/
def cumB (lp : Bool) : Nat → Int
  | 0 => 0
  | k + 1 => cumB lp k + lnB lp (k + 1)
def foy (y : Int) : Int := 365 * (y - 2000) + (y - 2000 + 3) / 4 - (if y > 2100 then 1 else 0)
structure Dt where
  y : Int
  m : Int
  d : Int
def Dt.ok (x : Dt) : Prop := 2000 ≤ x.y ∧ x.y ≤ 2199 ∧ 1 ≤ x.m ∧ x.m ≤ 12 ∧ 1 ≤ x.d ∧ x.d ≤ lnB (leap x.y) x.m.toNat
instance (x : Dt) : Decidable x.ok := by unfold Dt.ok; infer_instance
def Dt.num (x : Dt) : Int := foy x.y + cumB (leap x.y) (x.m.toNat - 1) + x.d - 1
def Dt.less (a b : Dt) : Bool := if a.y = b.y then if a.m = b.m then decide (a.d < b.d) else decide (a.m < b.m) else decide (a.y < b.y)

theorem lnB_rng (lp : Bool) (m : Nat) (h : 1 ≤ m ∧ m ≤ 12) : 28 ≤ lnB lp m ∧ lnB lp m ≤ 31 := by
  obtain ⟨h1, h2⟩ := h
  have : ∀ b : Bool, ∀ k : Fin 13, 1 ≤ k.val → 28 ≤ lnB b k.val ∧ lnB b k.val ≤ 31 := by decide
  exact this lp ⟨m, by omega⟩ h1
theorem cumB_12 (lp : Bool) : cumB lp 12 = if lp then 366 else 365 := by cases lp <;> decide
theorem cumB_le (lp : Bool) {i j : Nat} (h : i ≤ j) (hj : j ≤ 12) : cumB lp i ≤ cumB lp j := by
  induction j with
  | zero => rw [show i = 0 by omega]; exact Int.le_refl _
  | succ j ih =>
    rcases Nat.lt_or_ge i (j + 1) with h1 | h1
    · have := ih (by omega) (by omega)
      have := lnB_rng lp (j + 1) (by omega)
      show _ ≤ cumB lp j + lnB lp (j + 1)
      omega
    · rw [show i = j + 1 by omega]; exact Int.le_refl _
theorem cumB_rng (lp : Bool) (k : Nat) (h : k ≤ 12) : 0 ≤ cumB lp k ∧ cumB lp k ≤ 366 := by
  have h1 := cumB_le lp (Nat.zero_le k) h
  have h2 := cumB_le lp h (Nat.le_refl 12)
  rw [cumB_12] at h2
  refine ⟨h1, ?_⟩
  cases lp <;> simp at h2 <;> omega
theorem foy_step (y : Int) (h : 2000 ≤ y) : foy (y + 1) = foy y + cumB (leap y) 12 := by
  rw [cumB_12]
  unfold foy leap
  by_cases h1 : y % 4 = 0 <;> by_cases h2 : y = 2100 <;> simp [h1, h2] <;> (try split) <;> (try split) <;> omega
theorem foy_le {y z : Int} (h : y ≤ z) : foy y ≤ foy z := by
  unfold foy
  split <;> split <;> omega
theorem foy_rng (y : Int) (h : 2000 ≤ y ∧ y ≤ 2200) : 0 ≤ foy y ∧ foy y ≤ 73049 := by
  have h1 := foy_le h.1
  have h2 := foy_le h.2
  have e1 : foy 2000 = 0 := by decide
  have e2 : foy 2200 = 73049 := by decide
  omega
theorem Dt.lo {x : Dt} (h : x.ok) : foy x.y + cumB (leap x.y) (x.m.toNat - 1) ≤ x.num := by
  unfold Dt.num; have := h.2.2.2.2.1; omega
theorem Dt.hi {x : Dt} (h : x.ok) : x.num < foy x.y + cumB (leap x.y) x.m.toNat := by
  obtain ⟨_, _, h3, h4, _, h6⟩ := h
  obtain ⟨k, hk⟩ : ∃ k, x.m.toNat = k + 1 := ⟨x.m.toNat - 1, by omega⟩
  unfold Dt.num
  rw [hk] at h6 ⊢
  show _ < _ + (cumB _ k + lnB _ (k + 1))
  simp only [Nat.add_sub_cancel]
  omega
theorem Dt.rng {x : Dt} (h : x.ok) : 0 ≤ x.num ∧ x.num ≤ 73048 := by
  have h1 := Dt.lo h
  have h2 := Dt.hi h
  have h3 := foy_rng x.y ⟨h.1, by have := h.2.1; omega⟩
  have h4 := foy_rng (x.y + 1) ⟨by have := h.1; omega, by have := h.2.1; omega⟩
  have h5 := cumB_rng (leap x.y) (x.m.toNat - 1) (by have := h.2.2.2.1; omega)
  have h6 := cumB_le (leap x.y) (show x.m.toNat ≤ 12 by have := h.2.2.2.1; omega) (Nat.le_refl 12)
  have h7 := foy_step x.y h.1
  omega
theorem Dt.lt_of_less {a b : Dt} (ha : a.ok) (hb : b.ok) (h : a.less b = true) : a.num < b.num := by
  have h1 := Dt.hi ha
  have h2 := Dt.lo hb
  unfold Dt.less at h
  have m1 := ha.2.2.1
  have m2 := ha.2.2.2.1
  have m3 := hb.2.2.1
  have m4 := hb.2.2.2.1
  split at h
  · rename_i hy
    split at h
    · rename_i hm
      unfold Dt.num
      rw [hy, hm]
      simp at h
      omega
    · simp at h
      have := cumB_le (leap a.y) (show a.m.toNat ≤ b.m.toNat - 1 by omega) (show b.m.toNat - 1 ≤ 12 by omega)
      rw [hy] at h1 this
      omega
  · simp at h
    have h3 := cumB_le (leap a.y) (show a.m.toNat ≤ 12 by omega) (Nat.le_refl 12)
    have h4 := foy_step a.y ha.1
    have h5 := foy_le (show a.y + 1 ≤ b.y by omega)
    have h6 := cumB_rng (leap b.y) (b.m.toNat - 1) (by omega)
    omega
theorem Dt.tri (a b : Dt) : a.less b = true ∨ b.less a = true ∨ a = b := by
  obtain ⟨y, m, d⟩ := a
  obtain ⟨y2, m2, d2⟩ := b
  simp only [Dt.less, Dt.mk.injEq]
  by_cases h1 : y = y2
  · subst h1
    by_cases h2 : m = m2
    · subst h2
      simp; omega
    · simp [h2, Ne.symm h2]; omega
  · simp [h1, Ne.symm h1]; omega
theorem Dt.inj {a b : Dt} (ha : a.ok) (hb : b.ok) (h : a.num = b.num) : a = b := by
  rcases Dt.tri a b with h1 | h1 | h1
  · have := Dt.lt_of_less ha hb h1; omega
  · have := Dt.lt_of_less hb ha h1; omega
  · exact h1
theorem Dt.less_num {a b : Dt} (ha : a.ok) (hb : b.ok) : a.less b = decide (a.num < b.num) := by
  by_cases h : a.less b = true
  · rw [h]; have := Dt.lt_of_less ha hb h; simp [this]
  · simp only [Bool.not_eq_true] at h
    rw [h]
    symm
    rw [decide_eq_false_iff_not]
    intro h2
    rcases Dt.tri a b with h1 | h1 | h1
    · rw [h1] at h; cases h
    · have := Dt.lt_of_less hb ha h1; omega
    · subst h1; omega
/-- the date of the next day -/
theorem Dt.next {a b : Dt} (ha : a.ok) (hb : b.ok) (h : b.num = a.num + 1) :
    (b.d ≠ 1 ∧ b.y = a.y ∧ b.m = a.m ∧ b.d = a.d + 1) ∨ (b.d = 1 ∧ a.m < 12 ∧ b.y = a.y ∧ b.m = a.m + 1 ∧ 28 ≤ a.d) ∨ (b.d = 1 ∧ a.m = 12 ∧ b.y = a.y + 1 ∧ b.m = 1 ∧ a.d = 31) := by
  by_cases hd : b.d = 1
  · right
    have hlast : a.d = lnB (leap a.y) a.m.toNat := by
      have h9 : a.d ≤ _ := ha.2.2.2.2.2
      rcases Int.lt_or_eq_of_le h9 with h1 | h1
      · have he : (⟨a.y, a.m, a.d + 1⟩ : Dt) = b := Dt.inj ⟨ha.1, ha.2.1, ha.2.2.1, ha.2.2.2.1, by have := ha.2.2.2.2.1; show 1 ≤ a.d + 1; omega, by show a.d + 1 ≤ lnB (leap a.y) a.m.toNat; omega⟩ hb (by rw [h]; simp only [Dt.num]; omega)
        have := ha.2.2.2.2.1
        rw [← he] at hd
        simp at hd
        omega
      · exact h1
    have m1 := ha.2.2.1
    have m2 := ha.2.2.2.1
    have hr := lnB_rng (leap a.y) a.m.toNat (by omega)
    have hnum : a.num + 1 = foy a.y + cumB (leap a.y) a.m.toNat := by
      obtain ⟨k, hk⟩ : ∃ k, a.m.toNat = k + 1 := ⟨a.m.toNat - 1, by omega⟩
      unfold Dt.num
      rw [hlast, hk]
      show _ = _ + (cumB _ k + lnB _ (k + 1))
      simp only [Nat.add_sub_cancel]
      omega
    by_cases hm : a.m < 12
    · left
      have he : (⟨a.y, a.m + 1, 1⟩ : Dt) = b := Dt.inj ⟨ha.1, ha.2.1, by show 1 ≤ a.m + 1; omega, by show a.m + 1 ≤ 12; omega, Int.le_refl 1, by have := lnB_rng (leap a.y) (a.m + 1).toNat (by omega); show 1 ≤ lnB (leap a.y) (a.m + 1).toNat; omega⟩ hb (by
        rw [h, hnum]; simp only [Dt.num]; rw [show (a.m + 1).toNat - 1 = a.m.toNat by omega]; omega)
      rw [← he]
      exact ⟨rfl, hm, rfl, rfl, by omega⟩
    · right
      have hm12 : a.m = 12 := by omega
      have h12 : a.m.toNat = 12 := by omega
      rw [h12] at hnum hlast
      have h31 : lnB (leap a.y) 12 = 31 := by cases leap a.y <;> decide
      have hst := foy_step a.y ha.1
      have hy : a.y + 1 ≤ 2199 := by
        have hbr := Dt.rng hb
        have := ha.2.1
        rcases Int.lt_or_le (a.y + 1) 2200 with h1 | h1
        · omega
        · have e : a.y + 1 = 2200 := by omega
          have e2 : foy 2200 = 73049 := by decide
          rw [e] at hst
          omega
      have he : (⟨a.y + 1, 1, 1⟩ : Dt) = b := Dt.inj ⟨by have := ha.1; show 2000 ≤ a.y + 1; omega, hy, Int.le_refl 1, (by decide : (1 : Int) ≤ 12), Int.le_refl 1, by have := lnB_rng (leap (a.y + 1)) 1 (by omega); show 1 ≤ lnB (leap (a.y + 1)) 1; omega⟩ hb (by
        rw [h, hnum]
        show foy (a.y + 1) + 0 + 1 - 1 = _
        omega)
      rw [← he]
      exact ⟨rfl, hm12, rfl, rfl, by omega⟩
  · left
    have h1 : 1 ≤ b.d := hb.2.2.2.2.1
    have he : (⟨b.y, b.m, b.d - 1⟩ : Dt) = a := Dt.inj ⟨hb.1, hb.2.1, hb.2.2.1, hb.2.2.2.1, by show 1 ≤ b.d - 1; omega, by have := hb.2.2.2.2.2; show b.d - 1 ≤ lnB (leap b.y) b.m.toNat; omega⟩ ha (by
      unfold Dt.num at h ⊢
      simp only
      omega)
    rw [← he]
    exact ⟨hd, rfl, rfl, by simp⟩
/-- a day, found by its year, month and what is left -/
theorem Dt.found {y : Int} {k : Nat} {r : Int} (hy : 2000 ≤ y ∧ y ≤ 2199) (hk : k < 12) (hr : 0 ≤ r ∧ r < lnB (leap y) (k + 1)) : Dt.ok ⟨y, (k : Int) + 1, r + 1⟩ ∧ Dt.num ⟨y, (k : Int) + 1, r + 1⟩ = foy y + cumB (leap y) k + r := by
  have e : ((k : Int) + 1).toNat = k + 1 := by omega
  refine ⟨⟨hy.1, hy.2, by show (1 : Int) ≤ (k : Int) + 1; omega, by show (k : Int) + 1 ≤ 12; omega, by show 1 ≤ r + 1; omega, ?_⟩, ?_⟩
  · show r + 1 ≤ lnB (leap y) ((k : Int) + 1).toNat
    rw [e]; omega
  · simp only [Dt.num, e, Nat.add_sub_cancel]; omega
end Go.Proofs.YtiicjmbnkjociaaDoor
