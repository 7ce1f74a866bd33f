/- Prices improved, and columns exchanged: plain mathematics. -/
import Derived.Test.YthkmbbgcadfilaaMa
namespace Go.Proofs.Ythkmbbgcadfilaa

def impU (to len : Nat → Int) (sure : Nat → Bool) (r : Nat) (L : Int) (u : Nat → Int) (i : Nat) : Int := if i = r then u i + L else if to i ≠ -1 ∧ sure (to i).toNat = true then u i + (L - len (to i).toNat) else u i
def impV (len : Nat → Int) (sure : Nat → Bool) (L : Int) (v : Nat → Int) (j : Nat) : Int := if sure j = true then v j - (L - len j) else v j
/-- the prices after a path was found -/
structure Imp (n m : Nat) (c : Nat → Nat → Int) (to row frm : Nat → Int) (r : Nat) (S : List Nat) (e : Nat) (u v : Nat → Int) : Prop where
  fit : Fit n m c u v
  old : ∀ i j : Nat, i < n → j < m → to i = (j : Int) → u i + v j = c i j
  path : ∀ j, j = e ∨ j ∈ S → ∀ i : Nat, frm j = (i : Int) → c i j ≠ -1 ∧ u i + v j = c i j
  free : ∀ j, j < m → row j = -1 → v j = 0
  rest : ∀ i, r < i → i < n → u i = 0
  ub : ∀ i, i < n → 0 ≤ u i ∧ u i ≤ ((r : Int) + 1) * 34359738368
  vb : ∀ j, j < m → -(((r : Int) + 1) * 34359738368) ≤ v j
theorem Tree.improve {n m : Nat} {c : Nat → Nat → Int} {u v to row : Nat → Int} {r : Nat} {S : List Nat} {len frm : Nat → Int} {sure : Nat → Bool} {D q : Int} (t : Tree n m c u v to row r S len frm sure (fun _ => False) D q) (h : Deal n m c u v to row r) (hrn : r < n) (hq : q ≤ 32) {e : Nat} (he : e < m) (hrow : row e = -1) (hl : len e < farI) (hmin : ∀ j, j < m → sure j = false → len e ≤ len j) :
    Imp n m c to row frm r S e (impU to len sure r (len e) u) (impV len sure (len e) v) := by
  obtain ⟨hr, hur⟩ := h.rest r (Nat.le_refl _) hrn
  have hes : ¬ e ∈ S := fun h9 => (t.sin e h9).2 hrow
  have hDe := t.ge e he hes
  have hve := h.free e he hrow
  have hbe := t.bd e he hl
  have hdn := t.dn
  have hU : ∀ i, i < n → (inT row r S i → impU to len sure r (len e) u i = u i + (len e - dst to len r i)) ∧ (¬ inT row r S i → impU to len sure r (len e) u i = u i) := fun i hi => by
    refine ⟨fun hT => ?_, fun hT => ?_⟩
    · rcases hT with rfl | ⟨j, hj, hx⟩
      · unfold impU dst; rw [if_pos rfl, if_pos rfl]; omega
      · obtain ⟨h1, h2⟩ := t.dst_row h hr hj hx
        have h3 := (h.row_in (t.sin j hj).1 hx).2
        rw [h1]
        unfold impU
        rw [if_neg h2, if_pos ⟨by omega, by rw [h3, Int.toNat_natCast]; exact (t.sm j).2 hj⟩, h3, Int.toNat_natCast]
    · unfold impU
      rw [if_neg (fun e9 => hT (.inl e9)), if_neg]
      rintro ⟨h1, h2⟩
      obtain ⟨j, k1, k2, k3, -⟩ := h.to1 i hi h1
      rw [k2, Int.toNat_natCast] at h2
      exact hT (.inr ⟨j, (t.sm j).1 h2, k3⟩)
  have hV : ∀ j, (j ∈ S → impV len sure (len e) v j = v j - (len e - len j)) ∧ (¬ j ∈ S → impV len sure (len e) v j = v j) := fun j => by
    unfold impV
    refine ⟨fun hj => by rw [if_pos ((t.sm j).2 hj)], fun hj => by rw [if_neg (fun h9 => hj ((t.sm j).1 h9))]⟩
  have hge : ∀ j, j ∈ S → len j ≤ len e := fun j hj => by have := t.le j hj; omega
  have hms : ∀ j, j < m → ¬ j ∈ S → len e ≤ len j := fun j hj hn => hmin j hj (by
    cases hs : sure j with
    | false => rfl
    | true => exact absurd ((t.sm j).1 hs) hn)
  have hpath : ∀ j, j = e ∨ j ∈ S → ∀ i : Nat, frm j = (i : Int) → c i j ≠ -1 ∧ impU to len sure r (len e) u i + impV len sure (len e) v j = c i j := fun j hj i hf => by
    have hjm : j < m := by rcases hj with rfl | hj; exact he; exact (t.sin j hj).1
    have hjl : len j < farI := by rcases hj with rfl | hj; exact hl; exact t.lt j hj
    obtain ⟨i2, h1, h2, h3, h4⟩ := t.src j hjm hjl
    have hii : i = i2 := by omega
    subst hii
    have hin := t.in_lt h hrn h1
    refine ⟨h3, ?_⟩
    rw [(hU i hin).1 h1]
    rcases hj with rfl | hj
    · rw [(hV j).2 hes]; omega
    · rw [(hV j).1 hj]; omega
  refine ⟨⟨fun i j hi hj hc => ?_, fun j hj => ?_⟩, fun i j hi hj hto => ?_, hpath, fun j hj h9 => ?_, fun i h1 h2 => ?_, fun i hi => ?_, fun j hj => ?_⟩
  · have h1 := h.fit.le i j hi hj hc
    by_cases hT : inT row r S i
    · rw [(hU i hi).1 hT]
      have h2 := t.relax i hT (fun h9 => h9) j hj hc
      by_cases hS : j ∈ S
      · rw [(hV j).1 hS]; omega
      · rw [(hV j).2 hS]
        have := hms j hj hS
        omega
    · rw [(hU i hi).2 hT]
      by_cases hS : j ∈ S
      · rw [(hV j).1 hS]
        have := hge j hS
        omega
      · rw [(hV j).2 hS]; omega
  · have h1 := h.fit.neg j hj
    by_cases hS : j ∈ S
    · rw [(hV j).1 hS]; have := hge j hS; omega
    · rw [(hV j).2 hS]; exact h1
  · obtain ⟨j2, h1, h2, h3, h4, h5⟩ := h.to1 i hi (by omega)
    have : j = j2 := by omega
    subst this
    by_cases hS : j ∈ S
    · have hT : inT row r S i := .inr ⟨j, hS, h3⟩
      rw [(hU i hi).1 hT, (hV j).1 hS, (t.dst_row h hr hS h3).1]; omega
    · have hT : ¬ inT row r S i := fun h9 => by
        rcases h9 with rfl | ⟨j3, hj3, hx⟩
        · omega
        · have h8 := (h.row_in (t.sin j3 hj3).1 hx).2
          have : j = j3 := by omega
          exact hS (this ▸ hj3)
      rw [(hU i hi).2 hT, (hV j).2 hS]; exact h5
  · have hS : ¬ j ∈ S := fun h8 => (t.sin j h8).2 h9
    rw [(hV j).2 hS]; exact h.free j hj h9
  · obtain ⟨h3, h4⟩ := h.rest i (by omega) h2
    have hT : ¬ inT row r S i := fun h9 => by
      rcases h9 with rfl | ⟨j3, hj3, hx⟩
      · omega
      · have h8 := (h.row_in (t.sin j3 hj3).1 hx).2
        omega
    rw [(hU i h2).2 hT]; exact h4
  · have h1 := h.ub i hi
    by_cases hT : inT row r S i
    · rw [(hU i hi).1 hT]
      have := t.dst_nn h hr hT
      omega
    · rw [(hU i hi).2 hT]; omega
  · have h1 := h.vb j hj
    by_cases hS : j ∈ S
    · rw [(hV j).1 hS]; have := t.nn j hS; omega
    · rw [(hV j).2 hS]; omega

def updN (f : Nat → Int) (k : Nat) (x : Int) (j : Nat) : Int := if j = k then x else f j
theorem updN_same (f : Nat → Int) (k : Nat) (x : Int) : updN f k x k = x := if_pos rfl
theorem updN_other (f : Nat → Int) {k j : Nat} (x : Int) (h : j ≠ k) : updN f k x j = f j := if_neg h
/-- columns and rows belong together -/
structure Fin' (n m : Nat) (c : Nat → Nat → Int) (u v row0 : Nat → Int) (r : Nat) (to row : Nat → Int) : Prop where
  row1 : ∀ j, j < m → row j ≠ -1 → ∃ i : Nat, i < n ∧ row j = (i : Int) ∧ to i = (j : Int)
  to1 : ∀ i, i < n → to i ≠ -1 → ∃ j : Nat, j < m ∧ to i = (j : Int) ∧ row j = (i : Int) ∧ c i j ≠ -1 ∧ u i + v j = c i j
  dn : ∀ i, i < r + 1 → to i ≠ -1
  rs : ∀ i, r < i → i < n → to i = -1
  oc : ∀ j, j < m → row j = -1 → row0 j = -1
/-- the way back along a path: the column j is to be given to the row before it -/
structure Exc (n m : Nat) (c : Nat → Nat → Int) (u v frm row0 : Nat → Int) (r : Nat) (S : List Nat) (j : Nat) (to row : Nat → Int) : Prop where
  jm : j < m
  rn : r < n
  row1 : ∀ j2, j2 < m → j2 ≠ j → row j2 ≠ -1 → ∃ i : Nat, i < n ∧ row j2 = (i : Int) ∧ to i = (j2 : Int)
  to1 : ∀ i, i < n → to i ≠ -1 → ∃ j2 : Nat, j2 < m ∧ to i = (j2 : Int) ∧ row j2 = (i : Int) ∧ c i j2 ≠ -1 ∧ u i + v j2 = c i j2 ∧ j2 ≠ j
  nj : ¬ j ∈ S
  nd : S.Nodup
  src : ∃ i : Nat, frm j = (i : Int) ∧ inT row0 r S i
  ord : ∀ S1 j2 S2, S = S1 ++ j2 :: S2 → ∃ i : Nat, frm j2 = (i : Int) ∧ inT row0 r S2 i
  tight : ∀ j2, j2 = j ∨ j2 ∈ S → ∀ i : Nat, frm j2 = (i : Int) → c i j2 ≠ -1 ∧ u i + v j2 = c i j2
  keep : ∀ j2, j2 ∈ S → j2 < m ∧ ∃ i : Nat, i < n ∧ row0 j2 = (i : Int) ∧ row j2 = (i : Int) ∧ to i = (j2 : Int)
  root : to r = -1
  dn : ∀ i, i < r → to i ≠ -1
  rs : ∀ i, r < i → i < n → to i = -1
  oc : ∀ j2, j2 < m → row j2 = -1 → row0 j2 = -1
theorem Exc.step {n m : Nat} {c : Nat → Nat → Int} {u v frm row0 : Nat → Int} {r : Nat} {S : List Nat} {j : Nat} {to row : Nat → Int} (h : Exc n m c u v frm row0 r S j to row) :
    ∃ i : Nat, frm j = (i : Int) ∧ i < n ∧ ((to i = -1 ∧ Fin' n m c u v row0 r (updN to i j) (updN row j i)) ∨ ∃ (j1 : Nat) (B : List Nat), to i = (j1 : Int) ∧ B.length < S.length ∧ Exc n m c u v frm row0 r B j1 (updN to i j) (updN row j i)) := by
  obtain ⟨i, hf, hT⟩ := h.src
  obtain ⟨ht1, ht2⟩ := h.tight j (.inl rfl) i hf
  have hrow : ∀ j2, j2 < m → ∀ (j1 : Int), to i = j1 → (j2 : Int) ≠ j1 → updN row j i j2 ≠ -1 → ∃ i2 : Nat, i2 < n ∧ updN row j i j2 = (i2 : Int) ∧ updN to i j i2 = (j2 : Int) := fun j2 hj2 j1 hj1 hne hx => by
    by_cases e : j2 = j
    · subst e
      have hin : i < n := by
        rcases hT with rfl | ⟨j3, hj3, he⟩
        · exact h.rn
        · obtain ⟨-, i3, k1, k2, -⟩ := h.keep j3 hj3; have : i = i3 := by omega
          subst this; exact k1
      exact ⟨i, hin, updN_same _ _ _, updN_same _ _ _⟩
    · rw [updN_other _ _ e] at hx ⊢
      obtain ⟨i2, k1, k2, k3⟩ := h.row1 j2 hj2 e hx
      have hi2 : i2 ≠ i := fun e9 => by subst e9; omega
      exact ⟨i2, k1, k2, by rw [updN_other _ _ hi2]; exact k3⟩
  rcases hT with rfl | ⟨j1, hj1, he⟩
  · refine ⟨i, hf, h.rn, .inl ⟨h.root, ⟨fun j2 hj2 hx => hrow j2 hj2 (-1) h.root (by omega) hx, fun i2 hi2 hx => ?_, fun i2 hi2 => ?_, fun i2 h1 h2 => ?_, fun j2 hj2 hx => ?_⟩⟩⟩
    · by_cases e : i2 = i
      · subst e
        exact ⟨j, h.jm, updN_same _ _ _, updN_same _ _ _, ht1, ht2⟩
      · rw [updN_other _ _ e] at hx ⊢
        obtain ⟨j2, k1, k2, k3, k4, k5, k6⟩ := h.to1 i2 hi2 hx
        exact ⟨j2, k1, k2, by rw [updN_other _ _ k6]; exact k3, k4, k5⟩
    · by_cases e : i2 = i
      · subst e; rw [updN_same]; omega
      · rw [updN_other _ _ e]; exact h.dn i2 (by omega)
    · rw [updN_other _ _ (by omega)]; exact h.rs i2 h1 h2
    · by_cases e : j2 = j
      · subst e; rw [updN_same] at hx; omega
      · rw [updN_other _ _ e] at hx; exact h.oc j2 hj2 hx
  · obtain ⟨hj1m, i3, k1, k2, k3, k4⟩ := h.keep j1 hj1
    have hi3 : i = i3 := by omega
    subst hi3
    obtain ⟨A, B, hAB⟩ := List.append_of_mem hj1
    have hnd := h.nd
    rw [hAB] at hnd
    have hB1 : ¬ j1 ∈ B := by
      have := (List.nodup_append.1 hnd).2.1
      exact (List.nodup_cons.1 this).1
    have hBS : ∀ x, x ∈ B → x ∈ S := fun x hx => by rw [hAB]; simp [hx]
    have hjj1 : j1 ≠ j := fun e => h.nj (e ▸ hj1)
    have hir : i ≠ r := fun e => by rw [e, h.root] at k4; omega
    refine ⟨i, hf, k1, .inr ⟨j1, B, k4, by rw [hAB]; simp; omega, ⟨hj1m, h.rn, fun j2 hj2 hne hx => hrow j2 hj2 (j1 : Int) k4 (by omega) hx, fun i2 hi2 hx => ?_, hB1, (List.nodup_cons.1 (List.nodup_append.1 hnd).2.1).2, ?_, fun S1 j2 S2 e => ?_, fun j2 hj2 => ?_, fun j2 hj2 => ?_, ?_, fun i2 hi2 => ?_, fun i2 h1 h2 => ?_, fun j2 hj2 hx => ?_⟩⟩⟩
    · by_cases e : i2 = i
      · subst e
        exact ⟨j, h.jm, updN_same _ _ _, updN_same _ _ _, ht1, ht2, fun e9 => hjj1 e9.symm⟩
      · rw [updN_other _ _ e] at hx ⊢
        obtain ⟨j2, q1, q2, q3, q4, q5, q6⟩ := h.to1 i2 hi2 hx
        refine ⟨j2, q1, q2, by rw [updN_other _ _ q6]; exact q3, q4, q5, fun e9 => ?_⟩
        subst e9
        omega
    · exact h.ord A j1 B hAB
    · exact h.ord (A ++ j1 :: S1) j2 S2 (by rw [hAB, e]; simp)
    · rcases hj2 with rfl | hj2
      · exact h.tight j2 (.inr hj1)
      · exact h.tight j2 (.inr (hBS j2 hj2))
    · obtain ⟨q1, i2, q2, q3, q4, q5⟩ := h.keep j2 (hBS j2 hj2)
      have hne : i2 ≠ i := fun e9 => by
        subst e9
        have : j2 = j1 := by omega
        exact hB1 (this ▸ hj2)
      have hnj : j2 ≠ j := fun e9 => h.nj (e9 ▸ hBS j2 hj2)
      exact ⟨q1, i2, q2, q3, by rw [updN_other _ _ hnj]; exact q4, by rw [updN_other _ _ hne]; exact q5⟩
    · rw [updN_other _ _ (fun e9 => hir e9.symm)]; exact h.root
    · by_cases e : i2 = i
      · subst e; rw [updN_same]; omega
      · rw [updN_other _ _ e]; exact h.dn i2 hi2
    · have : i2 ≠ i := fun e9 => by subst e9; have := h.rs i2 h1 h2; omega
      rw [updN_other _ _ this]; exact h.rs i2 h1 h2
    · by_cases e : j2 = j
      · subst e; rw [updN_same] at hx; omega
      · rw [updN_other _ _ e] at hx; exact h.oc j2 hj2 hx
/-- the exchange begins -/
theorem Tree.exchange {n m : Nat} {c : Nat → Nat → Int} {u v u' v' to row : Nat → Int} {r : Nat} {S : List Nat} {len frm : Nat → Int} {sure : Nat → Bool} {D q : Int} (t : Tree n m c u v to row r S len frm sure (fun _ => False) D q) (h : Deal n m c u v to row r) (hrn : r < n) {e : Nat} (he : e < m) (hrow : row e = -1) (hl : len e < farI) (hp : Imp n m c to row frm r S e u' v') :
    Exc n m c u' v' frm row r S e to row := by
  obtain ⟨hr, hur⟩ := h.rest r (Nat.le_refl _) hrn
  have hes : ¬ e ∈ S := fun h9 => (t.sin e h9).2 hrow
  refine ⟨he, hrn, fun j2 hj2 _ hx => h.row1 j2 hj2 hx, fun i hi hx => ?_, hes, t.nd, ?_, t.ord, hp.path, fun j2 hj2 => ?_, hr, fun i hi => h.done i hi, fun i h1 h2 => (h.rest i (by omega) h2).1, fun j2 _ h9 => h9⟩
  · obtain ⟨j2, h1, h2, h3, h4, h5⟩ := h.to1 i hi hx
    exact ⟨j2, h1, h2, h3, h4, hp.old i j2 hi h1 h2, fun e9 => by subst e9; omega⟩
  · obtain ⟨i, h1, h2, -⟩ := t.src e he hl
    exact ⟨i, h2, h1⟩
  · obtain ⟨i, h1, h2, h3⟩ := h.row1 j2 (t.sin j2 hj2).1 (t.sin j2 hj2).2
    exact ⟨(t.sin j2 hj2).1, i, h1, h2, h2, h3⟩
/-- a row more has a column -/
theorem Imp.deal {n m : Nat} {c : Nat → Nat → Int} {u v u' v' to row to' row' frm : Nat → Int} {r : Nat} {S : List Nat} {e : Nat} (h : Deal n m c u v to row r) (hp : Imp n m c to row frm r S e u' v') (hf : Fin' n m c u' v' row r to' row') : Deal n m c u' v' to' row' (r + 1) :=
  ⟨hp.fit, h.cst, h.n16, h.m16, hf.row1, hf.to1, fun j hj hx => hp.free j hj (hf.oc j hj hx), hf.dn, fun i h1 h2 => ⟨hf.rs i (by omega) h2, hp.rest i (by omega) h2⟩, fun i hi => by have := hp.ub i hi; exact ⟨this.1, by rw [Int.natCast_succ]; exact this.2⟩, fun j hj => by have := hp.vb j hj; rw [Int.natCast_succ]; exact this⟩
/-- all rows have columns -/
theorem Deal.all {n m : Nat} {c : Nat → Nat → Int} {u v to row : Nat → Int} (h : Deal n m c u v to row n) : Done n m c u v (fun i => (to i).toNat) := by
  have hto : ∀ i, i < n → ∃ j : Nat, j < m ∧ to i = (j : Int) ∧ row j = (i : Int) ∧ c i j ≠ -1 ∧ u i + v j = c i j := fun i hi => h.to1 i hi (h.done i hi)
  refine ⟨h.fit, ⟨⟨fun i hi => ?_, fun i k hi hk e => ?_⟩, fun i hi => ?_⟩, fun i hi => ?_, fun j hj hn => ?_⟩
  · obtain ⟨j, h1, h2, -⟩ := hto i hi
    show (to i).toNat < m
    omega
  · obtain ⟨j, h1, h2, h3, -⟩ := hto i hi
    obtain ⟨j2, k1, k2, k3, -⟩ := hto k hk
    have e' : (to i).toNat = (to k).toNat := e
    have : j = j2 := by omega
    subst this
    omega
  · obtain ⟨j, h1, h2, h3, h4, -⟩ := hto i hi
    show c i (to i).toNat ≠ -1
    rw [h2, Int.toNat_natCast]; exact h4
  · obtain ⟨j, h1, h2, h3, h4, h5⟩ := hto i hi
    show u i + v (to i).toNat = c i (to i).toNat
    rw [h2, Int.toNat_natCast]; exact h5
  · by_cases hx : row j = -1
    · exact h.free j hj hx
    · obtain ⟨i, h1, h2, h3⟩ := h.row1 j hj hx
      exact absurd (show (to i).toNat = j by rw [h3]; simp) (hn i h1)
/-- no row has a column yet -/
theorem Deal.none {n m : Nat} {c : Nat → Nat → Int} (hc : ∀ i j, c i j ≠ -1 → 0 ≤ c i j ∧ c i j ≤ 1073741824) (hn : n ≤ 16) (hm : m ≤ 16) : Deal n m c (fun _ => 0) (fun _ => 0) (fun _ => -1) (fun _ => -1) 0 :=
  ⟨⟨fun i j _ _ h => by have := hc i j h; omega, fun _ _ => Int.le_refl _⟩, hc, hn, hm, fun _ _ h => absurd rfl h, fun _ _ h => absurd rfl h, fun _ _ _ => rfl, fun i h => by omega, fun _ _ _ => ⟨rfl, rfl⟩, fun i hi => by simp, fun j hj => by simp⟩
end Go.Proofs.Ythkmbbgcadfilaa
