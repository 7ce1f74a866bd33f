/- Flows and cuts: plain mathematics. -/
namespace Go.Proofs.Ytbmbddapbgnioaa

/-- an arc: from, to, and what it takes at most -/
abbrev Ar := Int × Int × Int
/-- what a flow takes away from a vertex, less what it brings there -/
def surp : List Ar → List Int → Int → Int
  | a :: A, x :: X, v => (if a.1 = v then x else 0) - (if a.2.1 = v then x else 0) + surp A X v
  | _, _, _ => 0
/-- the cut of a side -/
def cutF : List Ar → (Int → Bool) → Int
  | [], _ => 0
  | a :: A, S => (if S a.1 = true ∧ S a.2.1 = false then a.2.2 else 0) + cutF A S
/-- what goes out of a side, less what comes in -/
def netF : List Ar → List Int → (Int → Bool) → Int
  | a :: A, x :: X, S => (if S a.1 = true ∧ S a.2.1 = false then x else 0) - (if S a.1 = false ∧ S a.2.1 = true then x else 0) + netF A X S
  | _, _, _ => 0
def sumS (f : Int → Int) (S : Int → Bool) : Nat → Int
  | 0 => 0
  | n + 1 => (if S (n : Int) = true then f n else 0) + sumS f S n
/-- each number is from 0 to its arc's Cap -/
def okF : List Ar → List Int → Prop
  | a :: A, x :: X => (0 ≤ x ∧ x ≤ a.2.2) ∧ okF A X
  | [], [] => True
  | _, _ => False
theorem sumS_add (f g : Int → Int) (S : Int → Bool) : ∀ n, sumS (fun v => f v + g v) S n = sumS f S n + sumS g S n
  | 0 => rfl
  | n + 1 => by
    have := sumS_add f g S n
    unfold sumS
    rw [this]
    split <;> omega
theorem sumS_zero (S : Int → Bool) : ∀ n, sumS (fun _ => 0) S n = 0
  | 0 => rfl
  | n + 1 => by
    have := sumS_zero S n
    unfold sumS
    rw [this]
    split <;> rfl
theorem sumS_sub (f g : Int → Int) (S : Int → Bool) : ∀ n, sumS (fun v => f v - g v) S n = sumS f S n - sumS g S n
  | 0 => rfl
  | n + 1 => by
    have := sumS_sub f g S n
    unfold sumS
    rw [this]
    split <;> omega
theorem sumS_out (S : Int → Bool) (a x : Int) : ∀ n : Nat, (n : Int) ≤ a → sumS (fun v => if a = v then x else 0) S n = 0
  | 0, _ => rfl
  | n + 1, h => by
    have := sumS_out S a x n (by omega)
    unfold sumS
    rw [this, if_neg (show ¬ a = (n : Int) by omega)]
    split <;> rfl
theorem sumS_point (S : Int → Bool) (a x : Int) (h0 : 0 ≤ a) : ∀ n : Nat, a < n → sumS (fun v => if a = v then x else 0) S n = if S a = true then x else 0
  | 0, h => by omega
  | n + 1, h => by
    unfold sumS
    by_cases h1 : a = (n : Int)
    · rw [sumS_out S a x n (by omega), if_pos h1, ← h1, Int.add_zero]
    · rw [sumS_point S a x h0 n (by omega), if_neg h1]
      split <;> simp
/-- arcs lead from vertices to vertices -/
def Inn (N : Nat) (A : List Ar) : Prop := ∀ a, a ∈ A → (0 ≤ a.1 ∧ a.1 < N) ∧ (0 ≤ a.2.1 ∧ a.2.1 < N)
theorem sum_net (N : Nat) (S : Int → Bool) : ∀ (A : List Ar) (X : List Int), Inn N A → sumS (surp A X) S N = netF A X S
  | [], X, _ => by
    have h : surp [] X = fun _ => 0 := by funext v; cases X <;> rfl
    rw [h, sumS_zero]; cases X <;> rfl
  | a :: A, [], _ => by
    have h : surp (a :: A) [] = fun _ => 0 := by funext v; rfl
    rw [h, sumS_zero]; rfl
  | a :: A, x :: X, h => by
    have ih := sum_net N S A X (fun b hb => h b (by simp [hb]))
    obtain ⟨⟨h1, h2⟩, h3, h4⟩ := h a (by simp)
    have e : surp (a :: A) (x :: X) = fun v => ((if a.1 = v then x else 0) - (if a.2.1 = v then x else 0)) + surp A X v := by funext v; rfl
    rw [e, sumS_add, sumS_sub, sumS_point S _ _ h1 N h2, sumS_point S _ _ h3 N h4, ih]
    show _ = (if S a.1 = true ∧ S a.2.1 = false then x else 0) - (if S a.1 = false ∧ S a.2.1 = true then x else 0) + netF A X S
    cases S a.1 <;> cases S a.2.1 <;> simp
theorem sumS_only (f : Int → Int) (S : Int → Bool) (s : Int) (h0 : 0 ≤ s) (hs : S s = true) : ∀ n : Nat, (∀ v : Int, 0 ≤ v → v < n → S v = true → v ≠ s → f v = 0) → sumS f S n = if s < n then f s else 0
  | 0, _ => by rw [if_neg (by omega)]; rfl
  | n + 1, h => by
    have ih := sumS_only f S s h0 hs n (fun v h1 h2 => h v h1 (by omega))
    unfold sumS
    rw [ih]
    by_cases h1 : s = (n : Int)
    · subst h1
      rw [if_pos hs, if_neg (by omega), if_pos (by omega), Int.add_zero]
    · have e : (if S (n : Int) = true then f n else 0) = 0 := by
        split
        · exact h _ (by omega) (by omega) (by assumption) (fun e => h1 e.symm)
        · rfl
      rw [e, Int.zero_add]
      by_cases h2 : s < (n : Int)
      · rw [if_pos h2, if_pos (by omega)]
      · rw [if_neg h2, if_neg (by omega)]
/-- a flow -/
structure Flo (N : Nat) (s t : Int) (A : List Ar) (X : List Int) : Prop where
  ok : okF A X
  bal : ∀ v : Int, 0 ≤ v → v < N → v ≠ s → v ≠ t → surp A X v = 0
/-- a network -/
structure Netw (N : Nat) (s t : Int) (A : List Ar) : Prop where
  inn : Inn N A
  src : 0 ≤ s ∧ s < N
  snk : 0 ≤ t ∧ t < N
  ne : s ≠ t
structure Sid (s t : Int) (S : Int → Bool) : Prop where
  src : S s = true
  snk : S t = false
theorem Flo.value {N : Nat} {s t : Int} {A : List Ar} {X : List Int} (hn : Netw N s t A) (h : Flo N s t A X) {S : Int → Bool} (hS : Sid s t S) : surp A X s = netF A X S := by
  rw [← sum_net N S A X hn.inn, sumS_only (surp A X) S s hn.src.1 hS.src N, if_pos hn.src.2]
  intro v h1 h2 h3 h4
  exact h.bal v h1 h2 h4 (fun e => by rw [e, hS.snk] at h3; cases h3)
theorem weak {S : Int → Bool} : ∀ {A : List Ar} {X : List Int}, okF A X → netF A X S ≤ cutF A S
  | [], [], _ => Int.le_refl _
  | a :: A, x :: X, h => by
    have ih := weak (S := S) h.2
    have := h.1
    unfold netF cutF
    split <;> split <;> omega
theorem tight {S : Int → Bool} : ∀ {A : List Ar} {X : List Int}, okF A X → netF A X S = cutF A S → ∀ p, p ∈ A.zip X → (S p.1.1 = true → S p.1.2.1 = false → p.2 = p.1.2.2) ∧ (S p.1.1 = false → S p.1.2.1 = true → p.2 = 0)
  | [], [], _, _, p, hp => by simp at hp
  | a :: A, x :: X, h, he, p, hp => by
    have hw := weak (S := S) h.2
    have h1 := h.1
    unfold netF cutF at he
    have hrest : netF A X S = cutF A S := by revert he; split <;> split <;> intro he <;> omega
    rw [List.zip_cons_cons] at hp
    rcases List.mem_cons.1 hp with rfl | hp
    · refine ⟨fun q1 q2 => ?_, fun q1 q2 => ?_⟩
      · simp only at q1 q2
        simp [q1, q2] at he
        show x = a.2.2
        omega
      · simp only at q1 q2
        simp [q1, q2] at he
        show x = 0
        omega
    · exact tight h.2 hrest p hp
theorem full {S : Int → Bool} : ∀ {A : List Ar} {X : List Int}, okF A X → (∀ p, p ∈ A.zip X → (S p.1.1 = true → S p.1.2.1 = false → p.2 = p.1.2.2) ∧ (S p.1.1 = false → S p.1.2.1 = true → p.2 = 0)) → netF A X S = cutF A S
  | [], [], _, _ => rfl
  | a :: A, x :: X, h, hp => by
    have ih := full h.2 (fun p hq => hp p (by rw [List.zip_cons_cons]; simp [hq]))
    have h1 := hp (a, x) (by rw [List.zip_cons_cons]; simp)
    simp only at h1
    unfold netF cutF
    rw [ih]
    cases e1 : S a.1 <;> cases e2 : S a.2.1
    · simp
    · have := h1.2 e1 e2; simp [this]
    · have := h1.1 e1 e2; simp [this]
    · simp
/-- what an arc still takes, or takes back -/
def Res (p : Ar × Int) (u v : Int) : Prop := (p.1.1 = u ∧ p.1.2.1 = v ∧ p.2 < p.1.2.2) ∨ (p.1.2.1 = u ∧ p.1.1 = v ∧ 0 < p.2)
inductive Reach (A : List Ar) (X : List Int) (s : Int) : Int → Prop
  | here : Reach A X s s
  | step {u v : Int} {p : Ar × Int} (h : Reach A X s u) (hp : p ∈ A.zip X) (hr : Res p u v) : Reach A X s v
theorem Reach.inside {N : Nat} {A : List Ar} {X : List Int} {s : Int} (hA : Inn N A) (hs : 0 ≤ s ∧ s < N) {v : Int} (h : Reach A X s v) : 0 ≤ v ∧ v < N := by
  cases h with
  | here => exact hs
  | step _ hp hr =>
    have := hA _ (List.of_mem_zip hp).1
    rcases hr with ⟨_, h2, _⟩ | ⟨_, h2, _⟩ <;> omega
/-- a side whose cut is the value contains what is reached -/
theorem reach_in {A : List Ar} {X : List Int} {s : Int} {S : Int → Bool} (hs : S s = true) (hok : okF A X) (he : netF A X S = cutF A S) {v : Int} (h : Reach A X s v) : S v = true := by
  have ht := tight hok he
  induction h with
  | here => exact hs
  | @step u v p h hp hr ih =>
    have h1 := ht p hp
    cases hv : S v with
    | true => rfl
    | false =>
      exfalso
      rcases hr with ⟨rfl, rfl, h2⟩ | ⟨rfl, rfl, h2⟩
      · have := h1.1 ih hv; omega
      · have := h1.2 hv ih; omega
theorem okF_mem : ∀ {A : List Ar} {X : List Int}, okF A X → ∀ p, p ∈ A.zip X → 0 ≤ p.2 ∧ p.2 ≤ p.1.2.2
  | [], [], _, p, hp => by simp at hp
  | a :: A, x :: X, h, p, hp => by
    rw [List.zip_cons_cons] at hp
    rcases List.mem_cons.1 hp with rfl | hp
    · exact h.1
    · exact okF_mem h.2 p hp
/-- a flow and the vertices that it still reaches, the sink not among them -/
structure IsMax (N : Nat) (s t : Int) (A : List Ar) (X : List Int) (R : Int → Bool) : Prop where
  flo : Flo N s t A X
  sid : Sid s t R
  says : ∀ v : Int, 0 ≤ v → v < N → (R v = true ↔ Reach A X s v)
theorem IsMax.val {N : Nat} {s t : Int} {A : List Ar} {X : List Int} {R : Int → Bool} (hn : Netw N s t A) (h : IsMax N s t A X R) : surp A X s = cutF A R := by
  rw [h.flo.value hn h.sid]
  refine full h.flo.ok fun p hp => ?_
  have hi := hn.inn p.1 (List.of_mem_zip hp).1
  have hb := okF_mem h.flo.ok p hp
  refine ⟨fun q1 q2 => ?_, fun q1 q2 => ?_⟩
  · refine Classical.byContradiction fun hne => ?_
    have h1 := (h.says _ hi.1.1 hi.1.2).1 q1
    have h2 := (h.says _ hi.2.1 hi.2.2).2 (h1.step hp (.inl ⟨rfl, rfl, by omega⟩))
    rw [q2] at h2; cases h2
  · refine Classical.byContradiction fun hne => ?_
    have h1 := (h.says _ hi.2.1 hi.2.2).1 q2
    have h2 := (h.says _ hi.1.1 hi.1.2).2 (h1.step hp (.inr ⟨rfl, rfl, by omega⟩))
    rw [q1] at h2; cases h2
theorem Flo.le_cut {N : Nat} {s t : Int} {A : List Ar} {X : List Int} (hn : Netw N s t A) (h : Flo N s t A X) {S : Int → Bool} (hS : Sid s t S) : surp A X s ≤ cutF A S := by
  rw [h.value hn hS]; exact weak h.ok
theorem IsMax.most {N : Nat} {s t : Int} {A : List Ar} {X Y : List Int} {R : Int → Bool} (hn : Netw N s t A) (h : IsMax N s t A X R) (hY : Flo N s t A Y) : surp A Y s ≤ surp A X s := by
  rw [h.val hn]; exact hY.le_cut hn h.sid
theorem IsMax.least {N : Nat} {s t : Int} {A : List Ar} {X : List Int} {R S : Int → Bool} (hn : Netw N s t A) (h : IsMax N s t A X R) (hS : Sid s t S) (he : cutF A S = surp A X s) {v : Int} (h0 : 0 ≤ v) (hv : v < N) (hR : R v = true) : S v = true :=
  reach_in hS.src h.flo.ok (by rw [← h.flo.value hn hS, he]) ((h.says v h0 hv).1 hR)
theorem IsMax.unique {N : Nat} {s t : Int} {A : List Ar} {X Y : List Int} {R Q : Int → Bool} (hn : Netw N s t A) (h : IsMax N s t A X R) (k : IsMax N s t A Y Q) : surp A X s = surp A Y s ∧ ∀ v : Int, 0 ≤ v → v < N → R v = Q v := by
  have e : surp A X s = surp A Y s := Int.le_antisymm (k.most hn h.flo) (h.most hn k.flo)
  refine ⟨e, fun v h0 hv => ?_⟩
  have h1 := h.least hn k.sid (by rw [e]; exact (k.val hn).symm) h0 hv
  have h2 := k.least hn h.sid (by rw [← e]; exact (h.val hn).symm) h0 hv
  cases e1 : R v <;> cases e2 : Q v <;> simp_all
/-- all Caps multiplied -/
def scA (k : Int) (A : List Ar) : List Ar := A.map fun a => (a.1, a.2.1, a.2.2 * k)
theorem surp_sc (k : Int) : ∀ (A : List Ar) (X : List Int) (v : Int), surp (scA k A) (X.map (· * k)) v = surp A X v * k
  | [], X, v => by cases X <;> simp [scA, surp]
  | a :: A, [], v => by simp [scA, surp]
  | a :: A, x :: X, v => by
    have ih := surp_sc k A X v
    show (if a.1 = v then x * k else 0) - (if a.2.1 = v then x * k else 0) + surp (scA k A) (X.map (· * k)) v = ((if a.1 = v then x else 0) - (if a.2.1 = v then x else 0) + surp A X v) * k
    rw [ih, Int.add_mul, Int.sub_mul]
    split <;> split <;> simp
theorem cut_sc (k : Int) (S : Int → Bool) : ∀ A : List Ar, cutF (scA k A) S = cutF A S * k
  | [] => by simp [scA, cutF]
  | a :: A => by
    have ih := cut_sc k S A
    show (if S a.1 = true ∧ S a.2.1 = false then a.2.2 * k else 0) + cutF (scA k A) S = ((if S a.1 = true ∧ S a.2.1 = false then a.2.2 else 0) + cutF A S) * k
    rw [ih, Int.add_mul]
    split <;> simp
theorem ok_sc (k : Int) (hk : 0 ≤ k) : ∀ {A : List Ar} {X : List Int}, okF A X → okF (scA k A) (X.map (· * k))
  | [], [], _ => trivial
  | a :: A, x :: X, h => ⟨⟨Int.mul_nonneg h.1.1 hk, Int.mul_le_mul_of_nonneg_right h.1.2 hk⟩, ok_sc k hk h.2⟩
theorem Netw.sc {N : Nat} {s t : Int} {A : List Ar} (hn : Netw N s t A) (k : Int) : Netw N s t (scA k A) := by
  refine ⟨fun a ha => ?_, hn.src, hn.snk, hn.ne⟩
  obtain ⟨b, hb, rfl⟩ := List.mem_map.1 ha
  exact hn.inn b hb
theorem scaled {N : Nat} {s t : Int} {A : List Ar} {X Y : List Int} {R Q : Int → Bool} {k : Int} (hk : 0 < k) (hn : Netw N s t A) (h : IsMax N s t A X R) (g : IsMax N s t (scA k A) Y Q) : surp (scA k A) Y s = surp A X s * k ∧ ∀ v : Int, 0 ≤ v → v < N → R v = Q v := by
  have hm := hn.sc k
  have hf : Flo N s t (scA k A) (X.map (· * k)) := ⟨ok_sc k (by omega) h.flo.ok, fun v h0 h1 h2 h3 => by rw [surp_sc, h.flo.bal v h0 h1 h2 h3]; simp⟩
  have h1 := g.most hm hf
  have h2 := g.flo.le_cut hm h.sid
  rw [surp_sc] at h1
  rw [cut_sc, ← h.val hn] at h2
  have e : surp (scA k A) Y s = surp A X s * k := Int.le_antisymm h2 h1
  refine ⟨e, fun v h0 hv => ?_⟩
  have q1 := g.least hm h.sid (by rw [cut_sc, ← h.val hn, e]) h0 hv
  have q2 := h.least hn g.sid (by
    have h3 := g.val hm
    rw [e, cut_sc] at h3
    exact (Int.eq_of_mul_eq_mul_right (by omega) h3).symm) h0 hv
  cases e1 : R v <;> cases e2 : Q v <;> simp_all
/-- all arcs turned round -/
def tuA (A : List Ar) : List Ar := A.map fun a => (a.2.1, a.1, a.2.2)
theorem surp_tu : ∀ (A : List Ar) (X : List Int) (v : Int), surp (tuA A) X v = - surp A X v
  | [], X, v => by cases X <;> simp [tuA, surp]
  | a :: A, [], v => by simp [tuA, surp]
  | a :: A, x :: X, v => by
    have ih := surp_tu A X v
    show (if a.2.1 = v then x else 0) - (if a.1 = v then x else 0) + surp (tuA A) X v = -((if a.1 = v then x else 0) - (if a.2.1 = v then x else 0) + surp A X v)
    rw [ih]; omega
theorem cut_tu (S : Int → Bool) : ∀ A : List Ar, cutF (tuA A) (fun v => !S v) = cutF A S
  | [] => rfl
  | a :: A => by
    have ih := cut_tu S A
    show (if (!S a.2.1) = true ∧ (!S a.1) = false then a.2.2 else 0) + cutF (tuA A) (fun v => !S v) = (if S a.1 = true ∧ S a.2.1 = false then a.2.2 else 0) + cutF A S
    rw [ih]
    cases S a.1 <;> cases S a.2.1 <;> simp
theorem ok_tu : ∀ {A : List Ar} {X : List Int}, okF A X → okF (tuA A) X
  | [], [], _ => trivial
  | a :: A, x :: X, h => ⟨h.1, ok_tu h.2⟩
theorem Netw.tu {N : Nat} {s t : Int} {A : List Ar} (hn : Netw N s t A) : Netw N t s (tuA A) := by
  refine ⟨fun a ha => ?_, hn.snk, hn.src, fun e => hn.ne e.symm⟩
  obtain ⟨b, hb, rfl⟩ := List.mem_map.1 ha
  exact ⟨(hn.inn b hb).2, (hn.inn b hb).1⟩
/-- what leaves the source enters the sink -/
theorem Flo.ends {N : Nat} {s t : Int} {A : List Ar} {X : List Int} (hn : Netw N s t A) (h : Flo N s t A X) : surp A X t = - surp A X s := by
  have h1 := h.value hn (S := fun v => !decide (v = t)) ⟨by simpa using hn.ne, by simp⟩
  have h2 := sum_net N (fun v => decide (v = t)) A X hn.inn
  rw [sumS_only (surp A X) _ t hn.snk.1 (by simp) N (fun v _ _ h3 h4 => absurd (by simpa using h3) h4), if_pos hn.snk.2] at h2
  rw [h1, h2]
  have neg : ∀ (A : List Ar) (X : List Int) (S : Int → Bool), netF A X (fun v => !S v) = - netF A X S := by
    intro A
    induction A with
    | nil => intro X S; cases X <;> rfl
    | cons a A ih =>
      intro X S
      cases X with
      | nil => rfl
      | cons x X =>
        have := ih X S
        show (if (!S a.1) = true ∧ (!S a.2.1) = false then x else 0) - (if (!S a.1) = false ∧ (!S a.2.1) = true then x else 0) + netF A X (fun v => !S v) = -((if S a.1 = true ∧ S a.2.1 = false then x else 0) - (if S a.1 = false ∧ S a.2.1 = true then x else 0) + netF A X S)
        rw [this]
        cases S a.1 <;> cases S a.2.1 <;> simp <;> omega
  rw [neg A X (fun v => decide (v = t))]
  omega
theorem Flo.tu {N : Nat} {s t : Int} {A : List Ar} {X : List Int} (h : Flo N s t A X) : Flo N t s (tuA A) X :=
  ⟨ok_tu h.ok, fun v h0 h1 h2 h3 => by rw [surp_tu, h.bal v h0 h1 h3 h2]; rfl⟩
theorem turned {N : Nat} {s t : Int} {A : List Ar} {X Y : List Int} {R Q : Int → Bool} (hn : Netw N s t A) (h : IsMax N s t A X R) (g : IsMax N t s (tuA A) Y Q) : surp (tuA A) Y t = surp A X s ∧ ∀ v : Int, 0 ≤ v → v < N → ¬ (R v = true ∧ Q v = true) := by
  have hm := hn.tu
  have h1 := g.most hm h.flo.tu
  rw [surp_tu, h.flo.ends hn, Int.neg_neg] at h1
  have hS : Sid t s (fun v => !R v) := ⟨by simp [h.sid.snk], by simp [h.sid.src]⟩
  have h2 := g.flo.le_cut hm hS
  rw [cut_tu, ← h.val hn] at h2
  have e := Int.le_antisymm h2 h1
  refine ⟨e, fun v h0 hv hc => ?_⟩
  have := g.least hm hS (by rw [cut_tu, ← h.val hn, e]) h0 hv hc.2
  simp [hc.1] at this
/-- a greater Cap of one arc -/
def moA : List Ar → Nat → Int → List Ar
  | [], _, _ => []
  | a :: A, 0, d => (a.1, a.2.1, a.2.2 + d) :: A
  | a :: A, j + 1, d => a :: moA A j d
theorem surp_mo (d : Int) : ∀ (A : List Ar) (j : Nat) (X : List Int) (v : Int), surp (moA A j d) X v = surp A X v
  | [], _, _, _ => rfl
  | _ :: _, 0, [], _ => rfl
  | a :: A, 0, x :: X, v => rfl
  | _ :: _, _ + 1, [], _ => rfl
  | a :: A, j + 1, x :: X, v => by
    have := surp_mo d A j X v
    show _ - _ + surp (moA A j d) X v = _ - _ + surp A X v
    rw [this]
theorem cut_mo (d : Int) (S : Int → Bool) : ∀ (A : List Ar) (j : Nat), j < A.length → cutF (moA A j d) S = cutF A S + if S (A.getD j (0, 0, 0)).1 = true ∧ S (A.getD j (0, 0, 0)).2.1 = false then d else 0
  | [], j, h => by simp at h
  | a :: A, 0, _ => by
    show (if S a.1 = true ∧ S a.2.1 = false then a.2.2 + d else 0) + cutF A S = (if S a.1 = true ∧ S a.2.1 = false then a.2.2 else 0) + cutF A S + (if S a.1 = true ∧ S a.2.1 = false then d else 0)
    split <;> omega
  | a :: A, j + 1, h => by
    have ih := cut_mo d S A j (by simpa using h)
    show (if S a.1 = true ∧ S a.2.1 = false then a.2.2 else 0) + cutF (moA A j d) S = (if S a.1 = true ∧ S a.2.1 = false then a.2.2 else 0) + cutF A S + _
    rw [ih, List.getD_cons_succ]
    omega
theorem ok_mo (d : Int) (hd : 0 ≤ d) : ∀ {A : List Ar} {X : List Int} (j : Nat), okF A X → okF (moA A j d) X
  | [], [], _, _ => trivial
  | a :: A, x :: X, 0, h => ⟨⟨h.1.1, by have := h.1.2; show x ≤ a.2.2 + d; omega⟩, h.2⟩
  | a :: A, x :: X, j + 1, h => ⟨h.1, ok_mo d hd j h.2⟩
theorem inn_mo (N : Nat) (d : Int) : ∀ {A : List Ar} (j : Nat), Inn N A → Inn N (moA A j d)
  | [], _, h => h
  | a :: A, 0, h => fun b hb => by
    rcases List.mem_cons.1 hb with rfl | hb
    · exact h a (by simp)
    · exact h b (by simp [hb])
  | a :: A, j + 1, h => fun b hb => by
    rcases List.mem_cons.1 hb with rfl | hb
    · exact h _ (by simp)
    · exact inn_mo N d j (fun c hc => h c (by simp [hc])) b hb
theorem increased {N : Nat} {s t : Int} {A : List Ar} {X Y : List Int} {R Q : Int → Bool} {d : Int} (hd : 0 ≤ d) (j : Nat) (hj : j < A.length) (hn : Netw N s t A) (h : IsMax N s t A X R) (g : IsMax N s t (moA A j d) Y Q) :
    surp A X s ≤ surp (moA A j d) Y s ∧ surp (moA A j d) Y s ≤ surp A X s + d ∧ (¬ (R (A.getD j (0, 0, 0)).1 = true ∧ R (A.getD j (0, 0, 0)).2.1 = false) → surp (moA A j d) Y s = surp A X s) := by
  have hm : Netw N s t (moA A j d) := ⟨inn_mo N d j hn.inn, hn.src, hn.snk, hn.ne⟩
  have h1 := g.most hm ⟨ok_mo d hd j h.flo.ok, fun v h0 h1 h2 h3 => by rw [surp_mo]; exact h.flo.bal v h0 h1 h2 h3⟩
  rw [surp_mo] at h1
  have h2 := g.flo.le_cut hm h.sid
  rw [cut_mo d R A j hj, ← h.val hn] at h2
  refine ⟨h1, ?_, fun hc => ?_⟩
  · split at h2 <;> omega
  · rw [if_neg hc] at h2; omega
end Go.Proofs.Ytbmbddapbgnioaa
