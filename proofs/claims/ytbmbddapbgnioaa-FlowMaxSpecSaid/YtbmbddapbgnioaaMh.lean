/- Levels found row by row: plain mathematics. -/
import Derived.Test.YtbmbddapbgnioaaMg
namespace Go.Proofs.Ytbmbddapbgnioaa

def cntL (L : List Int) : Nat := (L.map fun x => decide (x ≠ 0)).count true
theorem cntL_le (L : List Int) : cntL L ≤ L.length := by unfold cntL; have := List.count_le_length (a := true) (l := L.map fun x => decide (x ≠ 0)); simpa using this
theorem cntL_set {L : List Int} {u : Nat} {x : Int} (hu : u < L.length) (h0 : L.getD u 0 = 0) (hx : x ≠ 0) : cntL (L.set u x) = cntL L + 1 := by
  unfold cntL
  have hlt : u < (L.map fun x => decide (x ≠ 0)).length := by simpa using hu
  have hf : (L.map fun x => decide (x ≠ 0))[u] = false := by
    have : L[u] = 0 := by rw [List.getD_eq_getElem?_getD, List.getElem?_eq_getElem hu] at h0; exact h0
    simp [this]
  rw [List.map_set, List.count_set hlt, hf]
  simp [hx]
structure BV (N s : Nat) (A : List Ar) (X L : List Int) (Q : List Nat) : Prop where
  len : L.length = N
  src : L.getD s 0 = 1
  rng : ∀ u, u < N → 0 ≤ L.getD u 0 ∧ L.getD u 0 ≤ cntL L
  prd : ∀ u, u < N → u ≠ s → L.getD u 0 ≠ 0 → ∃ x, x < N ∧ L.getD x 0 ≠ 0 ∧ L.getD u 0 = L.getD x 0 + 1 ∧ ∃ e, e ∈ stA A x ∧ e.2.2 = u ∧ 0 < lft A X e.1 e.2.1
  pend : ∀ x, x < N → L.getD x 0 ≠ 0 → x ∈ Q ∨ ∀ e, e ∈ stA A x → 0 < lft A X e.1 e.2.1 → L.getD e.2.2 0 ≠ 0
  inn : ∀ x, x ∈ Q → x < N ∧ L.getD x 0 ≠ 0
theorem BV.start {N s : Nat} {A : List Ar} {X : List Int} (hs : s < N) : BV N s A X ((List.replicate N 0).set s 1) [s] := by
  have hz : ∀ u, u ≠ s → ((List.replicate N (0 : Int)).set s 1).getD u 0 = 0 := fun u hu => by
    rw [getD_set_ne _ _ _ _ _ (fun e => hu e.symm), List.getD_eq_getElem?_getD, List.getElem?_replicate]; split <;> rfl
  have h1 : ((List.replicate N (0 : Int)).set s 1).getD s 0 = 1 := getD_set_self _ _ _ _ (by simpa using hs)
  have hc : 1 ≤ cntL ((List.replicate N (0 : Int)).set s 1) := by
    rw [cntL_set (by simpa using hs) (by rw [List.getD_eq_getElem?_getD, List.getElem?_replicate]; split <;> rfl) (by omega)]; omega
  refine ⟨by simp, h1, fun u hu => ?_, fun u hu hne h0 => absurd (hz u hne) h0, fun x hx h0 => ?_, fun x hx => ?_⟩
  · by_cases e : u = s
    · subst e; rw [h1]; omega
    · rw [hz u e]; omega
  · by_cases e : x = s
    · subst e; exact .inl (by simp)
    · exact absurd (hz x e) h0
  · simp at hx; subst hx; exact ⟨hs, by rw [h1]; omega⟩
/-- the first i steps from v lead to vertices that have levels -/
def DnB (A : List Ar) (X L : List Int) (v i : Nat) : Prop := ∀ j, j < i → ∀ e, (stA A v)[j]? = some e → 0 < lft A X e.1 e.2.1 → L.getD e.2.2 0 ≠ 0
theorem DnB.zero (A : List Ar) (X L : List Int) (v : Nat) : DnB A X L v 0 := fun j hj => by omega
section
variable {N s v i : Nat} {A : List Ar} {X L : List Int} {Q : List Nat} {e : St}
theorem DnB.next (h : DnB A X L v i) (he : (stA A v)[i]? = some e) (h0 : 0 < lft A X e.1 e.2.1 → L.getD e.2.2 0 ≠ 0) : DnB A X L v (i + 1) := fun j hj e' he' ho => by
  by_cases ej : j = i
  · subst ej
    obtain rfl : e = e' := by (rw [he] at he'; exact Option.some.inj he')
    exact h0 ho
  · exact h j (by omega) e' he' ho
theorem set_more {u : Nat} {x : Int} (hu : L.getD u 0 = 0) (hul : u < L.length) (hx : x ≠ 0) : ∀ z, L.getD z 0 ≠ 0 → (L.set u x).getD z 0 = L.getD z 0 := fun z hz => getD_set_ne _ _ _ _ _ (fun e => hz (e ▸ hu))
theorem set_ne {u : Nat} {x : Int} (hul : u < L.length) (hx : x ≠ 0) : ∀ z, L.getD z 0 ≠ 0 → (L.set u x).getD z 0 ≠ 0 := fun z hz => by
  by_cases e : u = z
  · subst e; rw [getD_set_self _ _ _ _ hul]; exact hx
  · rw [getD_set_ne _ _ _ _ _ e]; exact hz
/-- a vertex more -/
theorem BV.add (hA : Inn N A) (h : BV N s A X L Q) (hv : v < N) (hv0 : L.getD v 0 ≠ 0) (he : (stA A v)[i]? = some e) (ho : 0 < lft A X e.1 e.2.1) (h0 : L.getD e.2.2 0 = 0) (hd : DnB A X L v i) :
    BV N s A X (L.set e.2.2 (L.getD v 0 + 1)) (Q ++ [e.2.2]) ∧ DnB A X (L.set e.2.2 (L.getD v 0 + 1)) v (i + 1) ∧ cntL (L.set e.2.2 (L.getD v 0 + 1)) = cntL L + 1 := by
  have hmem : e ∈ stA A v := List.mem_of_getElem? he
  have hto := (st_ok hA hmem).to
  have hl : e.2.2 < L.length := by rw [h.len]; exact hto
  have hvr := h.rng v hv
  have hx : L.getD v 0 + 1 ≠ 0 := by omega
  have hc := cntL_set hl h0 hx
  have hsame := set_more h0 hl hx
  have hnz := set_ne (L := L) hl hx
  have hself : (L.set e.2.2 (L.getD v 0 + 1)).getD e.2.2 0 = L.getD v 0 + 1 := getD_set_self _ _ _ _ hl
  have hone : ∀ z, (L.set e.2.2 (L.getD v 0 + 1)).getD z 0 ≠ 0 → z = e.2.2 ∨ L.getD z 0 ≠ 0 := fun z hz => by
    by_cases ez : z = e.2.2
    · exact .inl ez
    · rw [getD_set_ne _ _ _ _ _ (fun h => ez h.symm)] at hz; exact .inr hz
  refine ⟨⟨by simp [h.len], by rw [hsame s (by rw [h.src]; omega)]; exact h.src, fun u hu => ?_, fun u hu hus hu0 => ?_, fun x hx hx0 => ?_, fun x hx => ?_⟩, fun j hj e' he' ho' => ?_, hc⟩
  · rw [hc]
    have := h.rng u hu
    by_cases eu : e.2.2 = u
    · subst eu; rw [hself]; omega
    · rw [getD_set_ne _ _ _ _ _ eu]; omega
  · rcases hone u hu0 with rfl | hu1
    · exact ⟨v, hv, hnz v hv0, by rw [hself, hsame v hv0], e, hmem, rfl, ho⟩
    · obtain ⟨x, k1, k2, k3, k4⟩ := h.prd u hu hus hu1
      exact ⟨x, k1, hnz x k2, by rw [hsame u hu1, hsame x k2]; exact k3, k4⟩
  · rcases hone x hx0 with rfl | hx1
    · exact .inl (by simp)
    · rcases h.pend x hx hx1 with k | k
      · exact .inl (by simp [k])
      · exact .inr fun e' he' ho' => hnz _ (k e' he' ho')
  · rcases List.mem_append.1 hx with hx | hx
    · exact ⟨(h.inn x hx).1, hnz x (h.inn x hx).2⟩
    · simp at hx; subst hx; exact ⟨hto, by rw [hself]; omega⟩
  · by_cases ej : j = i
    · subst ej
      obtain rfl : e = e' := by (rw [he] at he'; exact Option.some.inj he')
      rw [hself]; omega
    · exact hnz _ (hd j (by omega) e' he' ho')
/-- a vertex is done -/
theorem BV.drop (h : BV N s A X L (v :: Q)) (hd : DnB A X L v i) (hi : (stA A v).length ≤ i) : BV N s A X L Q :=
  { h with
    pend := fun x hx hx0 => by
      rcases h.pend x hx hx0 with k | k
      · rcases List.mem_cons.1 k with rfl | k
        · right
          intro e he ho
          obtain ⟨j, hj⟩ := List.getElem?_of_mem he
          exact hd j (by have := (List.getElem?_eq_some_iff.1 hj).1; omega) e hj ho
        · exact .inl k
      · exact .inr k
    inn := fun x hx => h.inn x (by simp [hx]) }
theorem BV.lv {t : Nat} (h : BV N s A X L Q) (hN : N ≤ 64) (hq : Q = [] ∨ L.getD t 0 ≠ 0) : Lv N s t A X L := by
  have hc := cntL_le L
  rw [h.len] at hc
  refine ⟨h.len, h.src, fun u hu => ?_, h.prd, fun ht x hx hx0 => ?_⟩
  · have := h.rng u hu; omega
  · rcases hq with rfl | hq
    · rcases h.pend x hx hx0 with k | k
      · simp at k
      · exact k
    · exact absurd ht hq
end
end Go.Proofs.Ytbmbddapbgnioaa
