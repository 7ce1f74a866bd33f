/- Flows made greater along a way: plain mathematics. -/
import Derived.Test.YtbmbddapbgnioaaM
namespace Go.Proofs.Ytbmbddapbgnioaa

theorem ite_swap (p z m : Int) : (if p = z then m else 0) = (if z = p then m else 0) := by
  by_cases h : p = z
  · rw [if_pos h, if_pos h.symm]
  · rw [if_neg h, if_neg (fun e => h e.symm)]
theorem ite_swapn (p z m : Int) : (if p = z then -m else 0) = -(if z = p then m else 0) := by
  by_cases h : p = z
  · rw [if_pos h, if_pos h.symm]
  · rw [if_neg h, if_neg (fun e => h e.symm)]; rfl
theorem okF_iff : ∀ (A : List Ar) (X : List Int), okF A X ↔ X.length = A.length ∧ ∀ i, i < A.length → 0 ≤ X.getD i 0 ∧ X.getD i 0 ≤ (A.getD i (0, 0, 0)).2.2
  | [], [] => by simp [okF]
  | [], _ :: _ => by simp [okF]
  | _ :: _, [] => by simp [okF]
  | a :: A, x :: X => by
    have ih := okF_iff A X
    show (0 ≤ x ∧ x ≤ a.2.2) ∧ okF A X ↔ _
    rw [ih]
    constructor
    · rintro ⟨h1, h2, h3⟩
      refine ⟨by simp [h2], fun i hi => ?_⟩
      cases i with
      | zero => exact h1
      | succ i => exact h3 i (by simpa using hi)
    · rintro ⟨h1, h2⟩
      exact ⟨h2 0 (by simp), by simpa using h1, fun i hi => h2 (i + 1) (by simpa using hi)⟩
theorem surp_set (d : Int) (v : Int) : ∀ (A : List Ar) (X : List Int) (i : Nat), X.length = A.length → i < A.length →
    surp A (X.set i (X.getD i 0 + d)) v = surp A X v + ((if (A.getD i (0, 0, 0)).1 = v then d else 0) - (if (A.getD i (0, 0, 0)).2.1 = v then d else 0))
  | [], _, i, _, h => by simp at h
  | a :: A, [], i, h, _ => by simp at h
  | a :: A, x :: X, 0, _, _ => by
    show (if a.1 = v then x + d else 0) - (if a.2.1 = v then x + d else 0) + surp A X v = (if a.1 = v then x else 0) - (if a.2.1 = v then x else 0) + surp A X v + ((if a.1 = v then d else 0) - (if a.2.1 = v then d else 0))
    split <;> split <;> omega
  | a :: A, x :: X, i + 1, h, hi => by
    have ih := surp_set d v A X i (by simpa using h) (by simpa using hi)
    show (if a.1 = v then x else 0) - (if a.2.1 = v then x else 0) + surp A (X.set i (X.getD i 0 + d)) v = (if a.1 = v then x else 0) - (if a.2.1 = v then x else 0) + surp A X v + _
    rw [ih]
    simp only [List.getD_cons_succ]
    omega
/-- the step by which a vertex is reached: an arc, taken or taken back, from a vertex that was reached before -/
structure Stp (A : List Ar) (X : List Int) (pos : Int → Nat) (idx : Int → Nat) (fw : Int → Bool) (par : Int → Int) (v : Int) : Prop where
  lt : idx v < A.length
  arc : if fw v = true then (A.getD (idx v) (0, 0, 0)).1 = par v ∧ (A.getD (idx v) (0, 0, 0)).2.1 = v ∧ X.getD (idx v) 0 < (A.getD (idx v) (0, 0, 0)).2.2 else (A.getD (idx v) (0, 0, 0)).1 = v ∧ (A.getD (idx v) (0, 0, 0)).2.1 = par v ∧ 0 < X.getD (idx v) 0
  pos : pos (par v) < pos v
/-- the way back from a vertex -/
def Chn (s : Int) (par : Int → Int) : Int → List Int → Prop
  | v, [] => v = s
  | v, u :: L => u = v ∧ v ≠ s ∧ Chn s par (par v) L
/-- how much more a step takes -/
def slk (A : List Ar) (X : List Int) (idx : Int → Nat) (fw : Int → Bool) (v : Int) : Int := if fw v = true then (A.getD (idx v) (0, 0, 0)).2.2 - X.getD (idx v) 0 else X.getD (idx v) 0
def sendL (idx : Int → Nat) (fw : Int → Bool) (m : Int) : List Int → List Int → List Int
  | [], X => X
  | v :: L, X => sendL idx fw m L (X.set (idx v) (X.getD (idx v) 0 + if fw v = true then m else -m))
theorem chn_pos {A : List Ar} {X : List Int} {s : Int} {pos : Int → Nat} {idx : Int → Nat} {fw : Int → Bool} {par : Int → Int} : ∀ {v : Int} {L : List Int}, Chn s par v L → (∀ u, u ∈ L → Stp A X pos idx fw par u) → ∀ u, u ∈ L → pos u ≤ pos v
  | v, [], _, _, u, hu => by simp at hu
  | v, w :: L, h, hs, u, hu => by
    obtain ⟨rfl, h2, h3⟩ := h
    rcases List.mem_cons.1 hu with rfl | hu
    · exact Nat.le_refl _
    · have := chn_pos h3 (fun x hx => hs x (by simp [hx])) u hu
      have := (hs w (by simp)).pos
      omega
theorem sent {A : List Ar} {X0 : List Int} {s t m : Int} {pos : Int → Nat} {idx : Int → Nat} {fw : Int → Bool} {par : Int → Int} (hm : 0 ≤ m) :
    ∀ {v : Int} {L : List Int} {X : List Int}, Chn s par v L → (∀ u, u ∈ L → Stp A X0 pos idx fw par u ∧ m ≤ slk A X0 idx fw u) → (∀ u, u ∈ L → X.getD (idx u) 0 = X0.getD (idx u) 0) → okF A X → (∀ w, surp A X w = surp A X0 w + ((if w = v then m else 0) - (if w = t then m else 0))) →
    okF A (sendL idx fw m L X) ∧ ∀ w, surp A (sendL idx fw m L X) w = surp A X0 w + ((if w = s then m else 0) - (if w = t then m else 0))
  | v, [], X, h, _, _, hok, hs => by
    have h' : v = s := h
    subst h'
    exact ⟨hok, hs⟩
  | v, w :: L, X, h, hst, heq, hok, hs => by
    obtain ⟨rfl, h2, h3⟩ := h
    obtain ⟨hst1, hsl⟩ := hst w (by simp)
    have hx := heq w (by simp)
    obtain ⟨hlen, hb⟩ := (okF_iff A X).1 hok
    have hi := hst1.lt
    have harc := hst1.arc
    refine sent hm (v := par w) (L := L) (X := X.set (idx w) (X.getD (idx w) 0 + if fw w = true then m else -m)) h3 (fun u hu => hst u (by simp [hu])) (fun u hu => ?_) ((okF_iff _ _).2 ⟨by simp [hlen], fun i hii => ?_⟩) (fun z => ?_)
    · have hu1 := (hst u (by simp [hu])).1
      have hp := chn_pos h3 (fun x hx => (hst x (by simp [hx])).1) u hu
      have hne : idx w ≠ idx u := fun e => by
        have ha2 := hu1.arc
        rw [← e] at ha2
        have hp2 := hu1.pos
        have hp1 := hst1.pos
        split at harc <;> split at ha2
        · have : w = u := harc.2.1.symm.trans ha2.2.1; subst this; omega
        · have e1 : par w = u := harc.1.symm.trans ha2.1
          have e2 : w = par u := harc.2.1.symm.trans ha2.2.1
          rw [← e2] at hp2; rw [e1] at hp1; omega
        · have e1 : w = par u := harc.1.symm.trans ha2.1
          have e2 : par w = u := harc.2.1.symm.trans ha2.2.1
          rw [← e1] at hp2; rw [e2] at hp1; omega
        · have : w = u := harc.1.symm.trans ha2.1; subst this; omega
      rw [List.getD_eq_getElem?_getD, List.getElem?_set_ne hne, ← List.getD_eq_getElem?_getD]
      exact heq u (by simp [hu])
    · by_cases h4 : idx w = i
      · subst h4
        have h5 := hb _ hi
        rw [List.getD_eq_getElem?_getD, List.getElem?_set_self (by rw [hlen]; exact hi), Option.getD_some]
        unfold slk at hsl
        rw [hx] at h5 ⊢
        split at hsl
        · rename_i h6; rw [if_pos h6]; omega
        · rename_i h6; rw [if_neg h6]; omega
      · rw [List.getD_eq_getElem?_getD, List.getElem?_set_ne h4, ← List.getD_eq_getElem?_getD]
        exact hb i hii
    · rw [surp_set _ z A X (idx w) hlen hi, hs z]
      split at harc
      · rename_i h6
        rw [if_pos h6, harc.1, harc.2.1]
        have e1 : (if par w = z then m else 0) = (if z = par w then m else 0) := ite_swap _ _ _
        have e2 : (if w = z then m else 0) = (if z = w then m else 0) := ite_swap _ _ _
        rw [e1, e2]; omega
      · rename_i h6
        rw [if_neg h6, harc.1, harc.2.1]
        have e1 : (if par w = z then -m else 0) = -(if z = par w then m else 0) := ite_swapn _ _ _
        have e2 : (if w = z then -m else 0) = -(if z = w then m else 0) := ite_swapn _ _ _
        rw [e1, e2]; omega
/-- a flow made greater along a way that leads from the sink back to the source -/
theorem more_flow {N : Nat} {A : List Ar} {X : List Int} {s t m : Int} {pos : Int → Nat} {idx : Int → Nat} {fw : Int → Bool} {par : Int → Int} {L : List Int} (hm : 0 ≤ m) (hst : s ≠ t) (h : Flo N s t A X) (hc : Chn s par t L) (hL : ∀ u, u ∈ L → Stp A X pos idx fw par u ∧ m ≤ slk A X idx fw u) :
    Flo N s t A (sendL idx fw m L X) ∧ surp A (sendL idx fw m L X) s = surp A X s + m := by
  obtain ⟨h1, h2⟩ := sent hm (t := t) hc hL (fun _ _ => rfl) h.ok (fun w => by split <;> omega)
  refine ⟨⟨h1, fun v q0 q1 q2 q3 => ?_⟩, ?_⟩
  · rw [h2, h.bal v q0 q1 q2 q3, if_neg q2, if_neg q3]; rfl
  · rw [h2, if_pos rfl, if_neg hst]; omega
/-- a value is never greater than all Caps together -/
theorem cut_le {S : Int → Bool} : ∀ {A : List Ar} {M : Int}, (∀ a, a ∈ A → 0 ≤ a.2.2 ∧ a.2.2 ≤ M) → cutF A S ≤ A.length * M
  | [], M, _ => by simp [cutF]
  | a :: A, M, h => by
    have ih := cut_le (S := S) (A := A) (M := M) (fun b hb => h b (by simp [hb]))
    have := h a (by simp)
    have e : ((a :: A).length : Int) * M = A.length * M + M := by rw [List.length_cons, Int.natCast_succ, Int.add_mul, Int.one_mul]
    rw [e]
    unfold cutF
    split <;> omega
end Go.Proofs.Ytbmbddapbgnioaa
