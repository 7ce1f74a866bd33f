/- Sources as lists of bytes: classes of bytes, numbers, one token, all tokens with their places, and the place of the first error. -/
namespace Go.Proofs.YtilpcchcccbfcaaDoor

def isSpace (c : UInt8) : Bool := c == 32 || c == 9 || c == 10 || c == 13
def isLetter (c : UInt8) : Bool := (97 ≤ c && c ≤ 122) || (65 ≤ c && c ≤ 90)
def isDigit (c : UInt8) : Bool := 48 ≤ c && c ≤ 57
def signs : List UInt8 := [123, 125, 40, 41, 59, 44, 61, 58, 46, 60, 62, 33, 43, 45, 42, 47]
def isSign (c : UInt8) : Bool := signs.contains c
def isPart (c : UInt8) : Bool := isLetter c || isDigit c || c == 95
/-- the class of a byte, as the program numbers them -/
def cls (c : UInt8) : Nat := if isSpace c then 4 else if isLetter c then 1 else if isDigit c then 2 else if isSign c then 3 else if c == 95 then 5 else 0
def clsTab : List Nat := (List.range 128).map fun i => cls (UInt8.ofNat i)

/-- the number of digits -/
def num (l : List UInt8) : Nat := l.foldl (fun a c => 10 * a + (c.toNat - 48)) 0
def numOk (l : List UInt8) : Bool := (l.length == 1 || l.head? != some 48) && decide (num l ≤ 1099511627776)
/-- is it a name? -/
def isName (l : List UInt8) : Bool := (match l with | [] => false | c :: _ => isLetter c) && decide (l.length ≤ 32) && l.all isPart

structure Tok where
  kind : Int
  text : List UInt8
  n : Int
  at' : Int
  deriving DecidableEq

/-- the token at the beginning, and how many bytes it has -/
def step (l : List UInt8) : Option (Nat × List UInt8 × Nat × Nat) :=
  match l with
  | [] => none
  | c :: r =>
    if isLetter c then (if ((c :: r).takeWhile isPart).length ≤ 32 then some (1, (c :: r).takeWhile isPart, 0, ((c :: r).takeWhile isPart).length) else none)
    else if isDigit c then (if numOk ((c :: r).takeWhile isDigit) then some (2, [], num ((c :: r).takeWhile isDigit), ((c :: r).takeWhile isDigit).length) else none)
    else if isSign c then some (3, [c], 0, 1) else none
/-- does a comment begin? -/
def isNote (l : List UInt8) : Bool := match l with | 47 :: 47 :: _ => true | _ => false
def notLine (c : UInt8) : Bool := c != 10
def lineLen (l : List UInt8) : Nat := (l.takeWhile notLine).length

def lexF : Nat → Nat → List UInt8 → List Tok × Option Nat
  | 0, _, _ => ([], none)
  | _ + 1, _, [] => ([], none)
  | n + 1, p, c :: r =>
    if isSpace c then lexF n (p + 1) r
    else if isNote (c :: r) then lexF n (p + lineLen (c :: r)) ((c :: r).drop (lineLen (c :: r)))
    else match step (c :: r) with
      | none => ([], some p)
      | some (k, w, x, m) => (⟨k, w, x, p⟩ :: (lexF n (p + m) ((c :: r).drop m)).1, (lexF n (p + m) ((c :: r).drop m)).2)
/-- the tokens of the bytes l that stand at the place p, up to the first error, and its place -/
def lexL (p : Nat) (l : List UInt8) : List Tok × Option Nat := lexF l.length p l

theorem lineLen_le (l : List UInt8) : lineLen l ≤ l.length := by unfold lineLen; exact (List.takeWhile_sublist _).length_le
theorem lineLen_pos {l : List UInt8} (h : isNote l = true) : 2 ≤ lineLen l := by
  unfold isNote at h
  split at h
  · simp [lineLen, notLine, List.takeWhile_cons]
  · cases h
theorem step_pos {l : List UInt8} {k w x m} (h : step l = some (k, w, x, m)) : 0 < m ∧ m ≤ l.length := by
  cases l with
  | nil => simp [step] at h
  | cons c r =>
    unfold step at h
    simp only at h
    split at h
    · rename_i hc
      split at h
      · simp only [Option.some.injEq, Prod.mk.injEq] at h
        obtain ⟨_, _, _, rfl⟩ := h
        have hp : isPart c = true := by simp [isPart, hc]
        refine ⟨by simp [hp], (List.takeWhile_sublist _).length_le⟩
      · cases h
    · split at h
      · rename_i hc
        split at h
        · simp only [Option.some.injEq, Prod.mk.injEq] at h
          obtain ⟨_, _, _, rfl⟩ := h
          refine ⟨by simp [hc], (List.takeWhile_sublist _).length_le⟩
        · cases h
      · split at h
        · simp only [Option.some.injEq, Prod.mk.injEq] at h
          obtain ⟨_, _, _, rfl⟩ := h
          exact ⟨by decide, by simp⟩
        · cases h

theorem lexF_fuel : ∀ (n m p : Nat) (l : List UInt8), l.length ≤ n → l.length ≤ m → lexF n p l = lexF m p l
  | 0, m, p, l, h, _ => by
    obtain rfl : l = [] := List.eq_nil_of_length_eq_zero (by omega)
    cases m <;> rfl
  | n + 1, 0, p, l, _, h => by
    obtain rfl : l = [] := List.eq_nil_of_length_eq_zero (by omega)
    rfl
  | n + 1, m + 1, p, [], _, _ => rfl
  | n + 1, m + 1, p, c :: r, h, k => by
    simp only [List.length_cons] at h k
    unfold lexF
    split
    · exact lexF_fuel n m _ _ (by omega) (by omega)
    · split
      · rename_i hn
        have h2 := lineLen_pos hn
        exact lexF_fuel n m _ _ (by rw [List.length_drop, List.length_cons]; omega) (by rw [List.length_drop, List.length_cons]; omega)
      · split
        · rfl
        · rename_i k1 w x q hs
          have h2 := step_pos hs
          rw [lexF_fuel n m (p + q) _ (by rw [List.length_drop, List.length_cons]; omega) (by rw [List.length_drop, List.length_cons]; omega)]

theorem lexL_nil (p : Nat) : lexL p [] = ([], none) := rfl
theorem lexL_cons (p : Nat) (c : UInt8) (r : List UInt8) : lexL p (c :: r) =
    if isSpace c then lexL (p + 1) r
    else if isNote (c :: r) then lexL (p + lineLen (c :: r)) ((c :: r).drop (lineLen (c :: r)))
    else match step (c :: r) with
      | none => ([], some p)
      | some (k, w, x, m) => (⟨k, w, x, p⟩ :: (lexL (p + m) ((c :: r).drop m)).1, (lexL (p + m) ((c :: r).drop m)).2) := by
  unfold lexL
  rw [List.length_cons, lexF]
  split
  · rfl
  · split
    · rename_i hn
      have h2 := lineLen_pos hn
      exact lexF_fuel _ _ _ _ (by rw [List.length_drop, List.length_cons]; omega) (Nat.le_refl _)
    · split
      · rfl
      · rename_i k1 w x q hs
        have h2 := step_pos hs
        rw [lexF_fuel r.length _ (p + q) _ (by rw [List.length_drop, List.length_cons]; omega) (Nat.le_refl _)]
theorem lexL_space {p : Nat} {c : UInt8} {r : List UInt8} (h : isSpace c = true) : lexL p (c :: r) = lexL (p + 1) r := by rw [lexL_cons, if_pos h]
theorem isNote_not_space {l : List UInt8} (h : isNote l = true) : ∃ r, l = 47 :: 47 :: r := by
  unfold isNote at h
  split at h
  · exact ⟨_, rfl⟩
  · cases h
theorem lexL_note {p : Nat} {l : List UInt8} (h : isNote l = true) : lexL p l = lexL (p + lineLen l) (l.drop (lineLen l)) := by
  obtain ⟨r, rfl⟩ := isNote_not_space h
  rw [lexL_cons, if_neg (by decide), if_pos h]
/-- a token, or an error, begins here -/
def Begins (l : List UInt8) : Prop := ∃ c r, l = c :: r ∧ isSpace c = false ∧ isNote l = false
theorem lexL_bad {p : Nat} {l : List UInt8} (h : Begins l) (hs : step l = none) : lexL p l = ([], some p) := by
  obtain ⟨c, r, rfl, h1, h2⟩ := h
  rw [lexL_cons, if_neg (by simp [h1]), if_neg (by simp [h2]), hs]
theorem lexL_tok {p : Nat} {l : List UInt8} {k w x m} (h : Begins l) (hs : step l = some (k, w, x, m)) : lexL p l = (⟨k, w, x, p⟩ :: (lexL (p + m) (l.drop m)).1, (lexL (p + m) (l.drop m)).2) := by
  obtain ⟨c, r, rfl, h1, h2⟩ := h
  rw [lexL_cons, if_neg (by simp [h1]), if_neg (by simp [h2]), hs]
/-- a run of white space is passed over -/
theorem lexL_spaces (p : Nat) : ∀ (l : List UInt8), lexL p l = lexL (p + (l.takeWhile isSpace).length) (l.drop (l.takeWhile isSpace).length)
  | [] => rfl
  | c :: r => by
    cases h : isSpace c with
    | false => simp [h]
    | true =>
      rw [lexL_space h, lexL_spaces (p + 1) r]
      simp only [List.takeWhile_cons, h, if_true, List.length_cons, List.drop_succ_cons]
      congr 1; omega

theorem lexL_at_le : ∀ (n p : Nat) (l : List UInt8), l.length ≤ n → ∀ q, (lexL p l).2 = some q → p ≤ q ∧ q < p + l.length
  | n, p, [], _, q, h => by simp [lexL_nil] at h
  | 0, p, c :: r, hl, q, h => by simp at hl
  | n + 1, p, c :: r, hl, q, h => by
    simp only [List.length_cons] at hl ⊢
    rw [lexL_cons] at h
    split at h
    · have := lexL_at_le n (p + 1) r (by omega) q h; omega
    · split at h
      · rename_i hn
        have h2 := lineLen_pos hn
        have h3 := lineLen_le (c :: r)
        have := lexL_at_le n _ _ (by rw [List.length_drop, List.length_cons]; omega) q h
        rw [List.length_drop, List.length_cons] at this
        simp only [List.length_cons] at h3
        omega
      · split at h
        · simp at h; omega
        · rename_i k1 w x m hs
          have h2 := step_pos hs
          simp only [List.length_cons] at h2
          have := lexL_at_le n _ _ (by rw [List.length_drop, List.length_cons]; omega) q h
          rw [List.length_drop, List.length_cons] at this
          omega
end Go.Proofs.YtilpcchcccbfcaaDoor
