/- Roots of rows of digests, paths, climbs, and where two ways meet: plain mathematics, for any hash. -/
import Derived.KernelRfl
namespace Go.Proofs.YtbceimbcjijfgaaDoor
open Go

abbrev Byt := List UInt8
section
variable (H : Byt → Byt) (Lf Nd : Byt)

def nodeX (a b : Byt) : Byt := Nd ++ a ++ b
/-- the row after a row -/
def nx : List Byt → List Byt
  | a :: b :: r => H (nodeX Nd a b) :: nx r
  | l => l
theorem nx_nil : nx H Nd [] = [] := by rw [nx]; intro a b r h; cases h
theorem nx_one (a : Byt) : nx H Nd [a] = [a] := by rw [nx]; intro a b r h; cases h
theorem nx_two (a b : Byt) (r : List Byt) : nx H Nd (a :: b :: r) = H (nodeX Nd a b) :: nx H Nd r := by rw [nx]
theorem nx_len : ∀ l : List Byt, (nx H Nd l).length = (l.length + 1) / 2
  | [] => by rw [nx_nil]; rfl
  | [a] => by rw [nx_one]; simp
  | a :: b :: r => by rw [nx_two, List.length_cons, nx_len r]; simp; omega
/-- the place beside a place -/
def bs (i : Nat) : Nat := if i % 2 = 1 then i - 1 else i + 1
def joinX (i : Nat) (d o : Byt) : Byt := if i % 2 = 0 then nodeX Nd d o else nodeX Nd o d
theorem nx_get : ∀ (l : List Byt) (i : Nat), i < l.length → (nx H Nd l).getD (i / 2) [] = if bs i < l.length then H (joinX Nd i (l.getD i []) (l.getD (bs i) [])) else l.getD i []
  | [], i, h => by simp at h
  | [a], i, h => by
    have : i = 0 := by simpa using h
    subst this
    rw [nx_one]; rfl
  | a :: b :: r, i, h => by
    rw [nx_two]
    match i, h with
    | 0, _ => simp [bs, joinX]
    | 1, _ => simp [bs, joinX]
    | i + 2, h =>
      have ih := nx_get r i (by simpa using h)
      have e1 : bs (i + 2) = bs i + 2 := by unfold bs; split <;> split <;> omega
      have e2 : (i + 2) / 2 = i / 2 + 1 := by omega
      have e3 : (i + 2) % 2 = i % 2 := by omega
      rw [e1, e2]
      have e4 : joinX Nd (i + 2) = joinX Nd i := by unfold joinX; rw [e3]
      rw [e4]
      simp only [List.getD_cons_succ, List.length_cons]
      rw [ih]
      by_cases hb : bs i < r.length
      · rw [if_pos hb, if_pos (by omega)]
      · rw [if_neg hb, if_neg (by omega)]
theorem nx_append : ∀ a b : List Byt, a.length % 2 = 0 → nx H Nd (a ++ b) = nx H Nd a ++ nx H Nd b
  | [], b, _ => by rw [nx_nil]; rfl
  | [x], b, h => by simp at h
  | x :: y :: a, b, h => by
    rw [List.cons_append, List.cons_append, nx_two, nx_two, nx_append a b (by simp only [List.length_cons] at h; omega), List.cons_append]
/-- rows later -/
def upN : Nat → List Byt → List Byt
  | 0, l => l
  | f + 1, l => upN f (nx H Nd l)
theorem up_fix : ∀ (f : Nat) (l : List Byt), l.length ≤ 1 → upN H Nd f l = l
  | 0, _, _ => rfl
  | f + 1, [], _ => by rw [upN, nx_nil, up_fix f [] (by simp)]
  | f + 1, [a], _ => by rw [upN, nx_one, up_fix f [a] (by simp)]
  | _ + 1, _ :: _ :: _, h => by simp at h
theorem up_add : ∀ (f g : Nat) (l : List Byt), upN H Nd (f + g) l = upN H Nd g (upN H Nd f l)
  | 0, g, l => by rw [Nat.zero_add]; rfl
  | f + 1, g, l => by rw [show f + 1 + g = (f + g) + 1 by omega, upN, upN, up_add f g]
theorem up_len : ∀ (f : Nat) (l : List Byt), (upN H Nd f l).length = (l.length + 2 ^ f - 1) / 2 ^ f
  | 0, l => by simp [upN]
  | f + 1, l => by
    rw [upN, up_len f, nx_len, Nat.pow_succ]
    have hp : 0 < 2 ^ f := Nat.pow_pos (by omega)
    generalize 2 ^ f = q at *
    rw [Nat.mul_comm q 2, ← Nat.div_div_eq_div_mul]
    congr 1
    omega
theorem len_lt (n : Nat) : n < 2 ^ n := Nat.lt_two_pow_self
theorem up_done (l : List Byt) (f : Nat) (hf : l.length ≤ 2 ^ f) : (upN H Nd f l).length ≤ 1 := by
  rw [up_len]
  have hp : 0 < 2 ^ f := Nat.pow_pos (by omega)
  generalize 2 ^ f = q at *
  have : l.length + q - 1 < 2 * q := by omega
  have := (Nat.div_lt_iff_lt_mul hp).2 this
  omega
/-- the root of a row -/
def rootR (l : List Byt) : Byt := (upN H Nd l.length l).headD []
theorem up_same (l : List Byt) (f g : Nat) (hf : l.length ≤ 2 ^ f) (hfg : f ≤ g) : upN H Nd g l = upN H Nd f l := by
  obtain ⟨k, rfl⟩ : ∃ k, g = f + k := ⟨g - f, by omega⟩
  rw [up_add, up_fix _ _ _ _ (up_done H Nd l f hf)]
theorem root_up (l : List Byt) (f : Nat) (hf : l.length ≤ 2 ^ f) : rootR H Nd l = (upN H Nd f l).headD [] := by
  unfold rootR
  have hl : l.length ≤ 2 ^ l.length := Nat.le_of_lt (len_lt _)
  rcases Nat.le_total f l.length with h | h
  · rw [up_same H Nd l f l.length hf h]
  · rw [up_same H Nd l l.length f hl h]
theorem root_one (a : Byt) : rootR H Nd [a] = a := rfl
theorem root_nx (l : List Byt) : rootR H Nd (nx H Nd l) = rootR H Nd l := by
  have hl : l.length ≤ 2 ^ l.length := Nat.le_of_lt (len_lt _)
  have hn : (nx H Nd l).length ≤ 2 ^ l.length := by rw [nx_len]; omega
  rw [root_up H Nd l (l.length + 1) (by rw [Nat.pow_succ]; omega), root_up H Nd (nx H Nd l) l.length hn]
  rfl
theorem up_append : ∀ (f : Nat) (a b : List Byt), a.length = 2 ^ f → upN H Nd f (a ++ b) = upN H Nd f a ++ upN H Nd f b
  | 0, a, b, _ => rfl
  | f + 1, a, b, h => by
    have hp : 2 ^ (f + 1) = 2 ^ f * 2 := Nat.pow_succ _ _
    rw [upN, upN, upN, nx_append H Nd a b (by omega), up_append f _ _ (by rw [nx_len]; omega)]
theorem len_one {l : List Byt} (h : l.length = 1) : ∃ a, l = [a] := by
  match l, h with
  | [a], _ => exact ⟨a, rfl⟩
/-- the root of more than one digest is made of two roots -/
theorem root_split (a b : List Byt) (f : Nat) (ha : a.length = 2 ^ f) (hb : 1 ≤ b.length) (hb2 : b.length ≤ 2 ^ f) : rootR H Nd (a ++ b) = H (nodeX Nd (rootR H Nd a) (rootR H Nd b)) := by
  have hp : 0 < 2 ^ f := Nat.pow_pos (by omega)
  have h1 : (upN H Nd f a).length = 1 := by
    rw [up_len, ha]
    refine Nat.div_eq_of_lt_le ?_ ?_ <;> omega
  have h2 : (upN H Nd f b).length = 1 := by
    rw [up_len]
    refine Nat.div_eq_of_lt_le ?_ ?_ <;> omega
  obtain ⟨ra, h3⟩ := len_one h1
  obtain ⟨rb, h4⟩ := len_one h2
  rw [root_up H Nd (a ++ b) (f + 1) (by rw [List.length_append, Nat.pow_succ]; omega), up_add, up_append H Nd f a b ha, h3, h4, root_up H Nd a f (by omega), root_up H Nd b f hb2, h3, h4]
  show (upN H Nd 1 [ra, rb]).headD [] = _
  rw [upN, nx_two]
  rfl

/-- the path of a place -/
def pth : Nat → List Byt → Nat → List Byt
  | 0, _, _ => []
  | f + 1, l, i => if l.length ≤ 1 then [] else (if bs i < l.length then [l.getD (bs i) []] else []) ++ pth f (nx H Nd l) (i / 2)
/-- where a path leads -/
def clm : Nat → Nat → Nat → Byt → List Byt → Byt
  | 0, _, _, d, _ => d
  | f + 1, n, i, d, p => if n ≤ 1 then d else if bs i < n then clm f ((n + 1) / 2) (i / 2) (H (joinX Nd i d (p.headD []))) p.tail else clm f ((n + 1) / 2) (i / 2) d p
/-- how long paths are -/
def plen : Nat → Nat → Nat → Nat
  | 0, _, _ => 0
  | f + 1, n, i => if n ≤ 1 then 0 else (if bs i < n then 1 else 0) + plen f ((n + 1) / 2) (i / 2)
theorem pth_len : ∀ (f : Nat) (l : List Byt) (i : Nat), (pth H Nd f l i).length = plen f l.length i
  | 0, _, _ => rfl
  | f + 1, l, i => by
    rw [pth, plen]
    by_cases h : l.length ≤ 1
    · rw [if_pos h, if_pos h]; rfl
    · rw [if_neg h, if_neg h, List.length_append, pth_len f, nx_len]
      by_cases h2 : bs i < l.length
      · rw [if_pos h2, if_pos h2]; rfl
      · rw [if_neg h2, if_neg h2]; rfl
theorem clm_pth : ∀ (f : Nat) (l : List Byt) (i : Nat), i < l.length → l.length ≤ 2 ^ f → clm H Nd f l.length i (l.getD i []) (pth H Nd f l i) = rootR H Nd l
  | 0, l, i, hi, hl => by
    have h1 : l.length = 1 := by simp at hl; omega
    obtain ⟨a, rfl⟩ := len_one h1
    have : i = 0 := by simpa using hi
    subst this
    rfl
  | f + 1, l, i, hi, hl => by
    rw [clm, pth]
    by_cases h : l.length ≤ 1
    · obtain ⟨a, rfl⟩ := len_one (show l.length = 1 by omega)
      have : i = 0 := by simpa using hi
      subst this
      rw [if_pos h]; rfl
    · rw [if_neg h, if_neg h]
      have hp : 2 ^ (f + 1) = 2 ^ f * 2 := Nat.pow_succ _ _
      have ih := clm_pth f (nx H Nd l) (i / 2) (by rw [nx_len]; omega) (by rw [nx_len]; omega)
      rw [nx_len, nx_get H Nd l i hi, root_nx] at ih
      by_cases h2 : bs i < l.length
      · rw [if_pos h2, if_pos h2]
        rw [if_pos h2] at ih
        simpa using ih
      · rw [if_neg h2, if_neg h2]
        rw [if_neg h2] at ih
        simpa using ih

/-- the texts at which two ways meet -/
def meetX : Nat → Nat → Nat → Byt → Byt → List Byt → List Byt → Byt × Byt
  | 0, _, _, x, y, _, _ => (x, y)
  | f + 1, n, i, x, y, p, q => if n ≤ 1 then (x, y) else if H x = H y then (x, y) else if bs i < n then meetX f ((n + 1) / 2) (i / 2) (joinX Nd i (H x) (p.headD [])) (joinX Nd i (H y) (q.headD [])) p.tail q.tail else meetX f ((n + 1) / 2) (i / 2) x y p q
end
theorem join_ne {Nd : Byt} {i : Nat} {c d o u : Byt} (hc : c.length = d.length) (ho : o.length = u.length) (h : c ≠ d) : joinX Nd i c o ≠ joinX Nd i d u := by
  unfold joinX nodeX
  split
  · intro e
    have e1 := List.append_inj e (by rw [List.length_append, List.length_append, hc])
    exact h (List.append_cancel_left e1.1)
  · intro e
    have e1 := List.append_inj e (by rw [List.length_append, List.length_append, ho])
    exact h e1.2
theorem meet_spec {H : Byt → Byt} {Nd : Byt} (hH : ∀ x, (H x).length = 32) : ∀ (f n i : Nat) (x y : Byt) (p q : List Byt), (∀ o, o ∈ p → o.length = 32) → (∀ o, o ∈ q → o.length = 32) → plen f n i ≤ p.length → plen f n i ≤ q.length → n ≤ 2 ^ f → x ≠ y →
    clm H Nd f n i (H x) p = clm H Nd f n i (H y) q → (meetX H Nd f n i x y p q).1 ≠ (meetX H Nd f n i x y p q).2 ∧ H (meetX H Nd f n i x y p q).1 = H (meetX H Nd f n i x y p q).2
  | 0, n, i, x, y, p, q, _, _, _, _, _, hxy, h => ⟨hxy, h⟩
  | f + 1, n, i, x, y, p, q, hp, hq, lp, lq, hn, hxy, h => by
    rw [meetX]
    rw [clm, clm] at h
    rw [plen] at lp lq
    by_cases h1 : n ≤ 1
    · rw [if_pos h1, if_pos h1] at h
      rw [if_pos h1]
      exact ⟨hxy, h⟩
    · rw [if_neg h1, if_neg h1] at h
      rw [if_neg h1] at lp lq ⊢
      have h2n : 2 ^ (f + 1) = 2 ^ f * 2 := Nat.pow_succ _ _
      by_cases h2 : H x = H y
      · rw [if_pos h2]
        exact ⟨hxy, h2⟩
      · rw [if_neg h2]
        by_cases h3 : bs i < n
        · rw [if_pos h3, if_pos h3] at h
          rw [if_pos h3] at lp lq ⊢
          match p, q, hp, hq, lp, lq, h with
          | [], _, _, _, lp, _, _ => simp at lp
          | _ :: _, [], _, _, _, lq, _ => simp at lq
          | o :: p, u :: q, hp, hq, lp, lq, h =>
            refine meet_spec hH f _ _ _ _ _ _ (fun z hz => hp z (List.mem_cons_of_mem _ hz)) (fun z hz => hq z (List.mem_cons_of_mem _ hz)) (by simp at lp ⊢; omega) (by simp at lq ⊢; omega) (by omega) (join_ne (by rw [hH, hH]) ?_ h2) h
            show o.length = u.length
            rw [hp o (by simp), hq u (by simp)]
        · rw [if_neg h3, if_neg h3] at h
          rw [if_neg h3] at lp lq ⊢
          exact meet_spec hH f _ _ _ _ _ _ hp hq (by omega) (by omega) (by omega) hxy h
end Go.Proofs.YtbceimbcjijfgaaDoor
