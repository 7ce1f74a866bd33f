/- What is encoded is decoded as itself, for every well-formed value that is not too deep; so no encoding is the beginning of another one. -/
import Derived.Test.YtgliddedimpgaaaX
import Derived.Test.YtgliddedimpgaaaF
namespace Go.Proofs.Ytgliddedimpgaaa
open Go.RowKit

theorem decN_enc {f : List UInt8 → Option (V × List UInt8)} : ∀ (l : List V) (r : List UInt8), (∀ x ∈ l, ∀ r, f (enc x ++ r) = some (x, r)) → decN f l.length (encL l ++ r) = some (l, r)
  | [], r, _ => by rw [encL]; rfl
  | x :: l, r, h => by
    rw [encL, List.length_cons, List.append_assoc, decN_more (h x (by simp) _), decN_enc l r (fun y hy => h y (by simp [hy]))]
    rfl

theorem str_take (s : ByteArray) (r : List UInt8) : (⟨((s.data.toList ++ r).take s.size).toArray⟩ : ByteArray) = s := by
  have hs : s.data.toList.length = s.size := by rw [Array.length_toList]; rfl
  rw [← hs, List.take_left]
theorem str_drop (s : ByteArray) (r : List UInt8) : (s.data.toList ++ r).drop s.size = r := by
  have hs : s.data.toList.length = s.size := by rw [Array.length_toList]; rfl
  rw [← hs, List.drop_left]

theorem dec_enc : ∀ (d : Nat) {B : Nat} {w : World} {x : V} {v : Value} (r : List UInt8), IsB B w x v → formed x = true → depth x ≤ d → (enc x).length ≤ 35184372088832 → dec d (enc x ++ r) = some (x, r) := by
  intro d
  induction d with
  | zero =>
    intro B w x v r hi hf hd hl
    obtain ⟨k, n, s, l, a, cap, fk, fn, fs, fa, fl, fc, hk, hn, hs, hll, hc, he⟩ := hi
    rcases formed_cases hf with ⟨rfl, rfl, rfl⟩ | ⟨rfl, rfl, rfl⟩ | ⟨rfl, rfl, rfl, hel⟩
    · rw [enc_1, dec, List.cons_append, decHead, if_pos (show UInt8.toNat 1 = 1 from rfl), readNum_digits _ _ (uns_lt n hn.1 hn.2)]
      simp only
      rw [sgn_uns]
    · rw [enc_2, List.length_cons, List.length_append] at hl
      have hsl : s.data.toList.length = s.size := by rw [Array.length_toList]; rfl
      rw [enc_2, dec, List.cons_append, decHead, if_neg (show ¬ UInt8.toNat 2 = 1 by decide), if_pos (show UInt8.toNat 2 = 2 from rfl), List.append_assoc, readNum_digits _ _ (by omega)]
      simp only
      rw [if_pos (by rw [List.length_append, hsl]; omega), str_take, str_drop]
    · rw [depth, if_pos rfl] at hd; omega
  | succ d ih =>
    intro B w x v r hi hf hd hl
    obtain ⟨k, n, s, l, a, cap, fk, fn, fs, fa, fl, fc, hk, hn, hs, hll, hc, he⟩ := hi
    rcases formed_cases hf with ⟨rfl, rfl, rfl⟩ | ⟨rfl, rfl, rfl⟩ | ⟨rfl, rfl, rfl, hel⟩
    · rw [enc_1, dec, List.cons_append, decHead, if_pos (show UInt8.toNat 1 = 1 from rfl), readNum_digits _ _ (uns_lt n hn.1 hn.2)]
      simp only
      rw [sgn_uns]
    · rw [enc_2, List.length_cons, List.length_append] at hl
      have hsl : s.data.toList.length = s.size := by rw [Array.length_toList]; rfl
      rw [enc_2, dec, List.cons_append, decHead, if_neg (show ¬ UInt8.toNat 2 = 1 by decide), if_pos (show UInt8.toNat 2 = 2 from rfl), List.append_assoc, readNum_digits _ _ (by omega)]
      simp only
      rw [if_pos (by rw [List.length_append, hsl]; omega), str_take, str_drop]
    · rw [depth, if_pos rfl] at hd
      have hdl := (depthL_le l d).1 (by omega)
      rw [enc_3, List.length_cons, List.length_append] at hl
      have hlen := encL_len l
      rw [enc_3, dec, List.cons_append, decHead, if_neg (show ¬ UInt8.toNat 3 = 1 by decide), if_neg (show ¬ UInt8.toNat 3 = 2 by decide), if_pos (show UInt8.toNat 3 = 3 from rfl), decL, List.append_assoc, readNum_digits _ _ (by omega)]
      simp only
      rw [decN_enc l r (fun x hx r => by
        obtain ⟨i, hi, rfl⟩ := List.getElem_of_mem hx
        have h2 := encL_le l i hi
        exact ih r (he i hi) (hel _ (List.getElem_mem hi)) (hdl _ (List.getElem_mem hi)) (by omega))]

theorem code_ok {x : V} (h : code x = 0) : formed x = true ∧ depth x ≤ 16 := by
  unfold code at h
  cases hf : formed x with
  | false => rw [hf] at h; simp at h
  | true =>
    rw [hf, if_pos rfl] at h
    refine ⟨rfl, ?_⟩
    rcases Nat.lt_or_ge 16 (depth x) with h1 | h1
    · rw [if_pos h1] at h; cases h
    · exact h1

theorem decode_enc {B : Nat} {w : World} {x : V} {v : Value} (hi : IsB B w x v) (hc : code x = 0) (hl : (enc x).length ≤ 35184372088832) : decode (enc x) = some x := by
  obtain ⟨hf, hd⟩ := code_ok hc
  have h := dec_enc 16 [] hi hf hd hl
  rw [List.append_nil] at h
  rw [decode, h]

/-- no encoding is the beginning of another one -/
theorem enc_prefix {B B' : Nat} {w w' : World} {x y : V} {v u : Value} (hx : IsB B w x v) (hy : IsB B' w' y u) (cx : code x = 0) (cy : code y = 0) (lx : (enc x).length ≤ 35184372088832) (ly : (enc y).length ≤ 35184372088832) (hle : (enc x).length ≤ (enc y).length) (h : (enc y).take (enc x).length = enc x) : x = y := by
  obtain ⟨fx, dx⟩ := code_ok cx
  obtain ⟨fy, dy⟩ := code_ok cy
  have h1 := dec_enc 16 ((enc y).drop (enc x).length) hx fx dx lx
  have h2 := dec_enc 16 [] hy fy dy ly
  have e : enc x ++ (enc y).drop (enc x).length = enc y := by
    have := List.take_append_drop (enc x).length (enc y)
    rw [h] at this; exact this
  rw [e] at h1
  rw [List.append_nil, h1] at h2
  injection h2 with h2
  injection h2

end Go.Proofs.Ytgliddedimpgaaa
