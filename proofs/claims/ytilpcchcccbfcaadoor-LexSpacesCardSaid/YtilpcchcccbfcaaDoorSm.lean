/- Tokens written with white space and comments between them: lists of bytes. -/
import Derived.Test.YtilpcchcccbfcaaDoorBb
import Derived.Test.YtilpcchcccbfcaaDoorPm
namespace Go.Proofs.YtilpcchcccbfcaaDoor

/-- what is passed over -/
def Blank (g : List UInt8) : Prop := ∀ p m, ∃ q, lexL p (g ++ m) = lexL q m
theorem blank_nil : Blank [] := fun p _ => ⟨p, rfl⟩
theorem blank_space {c : UInt8} {g : List UInt8} (hc : isSpace c = true) (h : Blank g) : Blank (c :: g) := fun p m => by
  obtain ⟨q, hq⟩ := h (p + 1) m
  exact ⟨q, by rw [List.cons_append, lexL_space hc, hq]⟩
theorem lineLen_words : ∀ (ws m : List UInt8), ws.all notLine = true → lineLen (ws ++ 10 :: m) = ws.length
  | [], m, _ => by simp [lineLen, notLine]
  | c :: r, m, h => by
    rw [List.all_cons, Bool.and_eq_true] at h
    have := lineLen_words r m h.2
    unfold lineLen at this ⊢
    rw [List.cons_append, List.takeWhile_cons, if_pos h.1, List.length_cons, this, List.length_cons]
theorem blank_note (ws : List UInt8) (h : ws.all notLine = true) : Blank (47 :: 47 :: (ws ++ [10])) := fun p m => by
  have h2 : lineLen (47 :: 47 :: ws ++ 10 :: m) = (47 :: 47 :: ws).length := lineLen_words (47 :: 47 :: ws) m (by simp [notLine]; simpa [notLine] using h)
  have h1 : (47 :: 47 :: (ws ++ [10])) ++ m = 47 :: 47 :: ws ++ 10 :: m := by simp
  rw [h1, lexL_note (p := p) (l := 47 :: 47 :: ws ++ 10 :: m) rfl, h2, List.drop_left, lexL_space (by decide)]
  exact ⟨_, rfl⟩
def gaps (ws : List UInt8) : List (List UInt8) := [[32], [9], [10], [13, 10], [32, 32], 47 :: 47 :: (ws ++ [10]), [32, 47, 47, 32, 10], [10, 47, 47, 10]]
theorem gaps_blank {ws : List UInt8} (h : ws.all notLine = true) : ∀ g ∈ gaps ws, Blank g ∧ g.length ≤ ws.length + 5 := by
  intro g hg
  simp only [gaps, List.mem_cons, List.not_mem_nil, or_false] at hg
  rcases hg with rfl | rfl | rfl | rfl | rfl | rfl | rfl | rfl
  · exact ⟨blank_space (by decide) blank_nil, by simp⟩
  · exact ⟨blank_space (by decide) blank_nil, by simp⟩
  · exact ⟨blank_space (by decide) blank_nil, by simp⟩
  · exact ⟨blank_space (by decide) (blank_space (by decide) blank_nil), by simp⟩
  · exact ⟨blank_space (by decide) (blank_space (by decide) blank_nil), by simp⟩
  · exact ⟨blank_note ws h, by simp⟩
  · exact ⟨blank_space (by decide) (blank_note [32] (by decide)), by simp⟩
  · exact ⟨blank_space (by decide) (blank_note [] (by decide)), by simp⟩

inductive Spread (N : Nat) : List Tok → List UInt8 → Prop
  | nil : Spread N [] []
  | snoc (ts : List Tok) (X : List UInt8) (t : Tok) (g : List UInt8) : Spread N ts X → Blank g → g.length ≤ N → Spread N (ts ++ [t]) (X ++ (wordT t ++ 32 :: g))
theorem sameL_snoc {t u : Tok} (h : alikeT t u = true) : ∀ (ts zs : List Tok), sameL ts zs = true → sameL (ts ++ [t]) (zs ++ [u]) = true
  | [], [], _ => by simp [sameL, h]
  | a :: l, b :: m, k => by
    simp only [sameL, Bool.and_eq_true] at k
    simp [sameL, k.1, sameL_snoc h l m k.2]
  | [], _ :: _, k => by cases k
  | _ :: _, [], k => by cases k
theorem spread_lex {N : Nat} {ts : List Tok} {X : List UInt8} (h : Spread N ts X) (hv : ts.all validT = true) : ∀ p m, ∃ q zs, lexL p (X ++ m) = (zs ++ (lexL q m).1, (lexL q m).2) ∧ sameL ts zs = true := by
  induction h with
  | nil => intro p m; exact ⟨p, [], rfl, rfl⟩
  | snoc ts X t g _ hg _ ih =>
    intro p m
    rw [List.all_append, Bool.and_eq_true] at hv
    have ht : validT t = true := by simpa using hv.2
    obtain ⟨q, zs, h1, h2⟩ := ih hv.1 p (wordT t ++ 32 :: g ++ m)
    obtain ⟨kd, x, k1, k2, hb, hs⟩ := step_word ht
    have e1 : lexL q (wordT t ++ 32 :: g ++ m) = (⟨kd, t.text, x, q⟩ :: (lexL (q + (wordT t).length) (32 :: (g ++ m))).1, (lexL (q + (wordT t).length) (32 :: (g ++ m))).2) := by
      have hsp : isSpace 32 = true := by decide
      rw [List.append_assoc, List.cons_append, lexL_tok (begins_sep hsp _ hb) (by rw [step_sep hsp _ (begins_ne hb)]; exact hs), List.drop_left]
    rw [lexL_space (by decide)] at e1
    obtain ⟨q2, hq2⟩ := hg (q + (wordT t).length + 1) m
    rw [hq2] at e1
    refine ⟨q2, zs ++ [⟨kd, t.text, x, q⟩], ?_, sameL_snoc (alike_of k1 k2) _ _ h2⟩
    rw [List.append_assoc, h1, e1]
    simp
theorem sumText_snoc (t : Tok) : ∀ (ts : List Tok), sumText (ts ++ [t]) = sumText ts + t.text.length
  | [] => by simp [sumText]
  | a :: r => by
    have := sumText_snoc t r
    simp only [sumText, List.cons_append, List.map_cons, List.foldr_cons] at this ⊢
    omega
theorem spread_len {N : Nat} {ts : List Tok} {X : List UInt8} (h : Spread N ts X) (hok : ∀ t ∈ ts, TokOk t) : X.length ≤ sumText ts + (N + 22) * ts.length := by
  induction h with
  | nil => simp
  | snoc ts X t g _ _ hg ih =>
    have h1 := ih fun t ht => hok t (by simp [ht])
    have h2 := words_le [t] fun u hu => hok u (by simp at hu; simp [hu])
    have h3 := sumText_snoc t ts
    simp [Lib.lens, sumText] at h2
    simp only [List.length_append, List.length_cons, List.length_nil, h3, Nat.mul_add]
    omega
end Go.Proofs.YtilpcchcccbfcaaDoor
