/- What is decoded is encoded as the same bytes: plain mathematics over the functions of the other files; and an argument that is a row of bytes, opened. -/
import Derived.Test.YtgliddedimpgaaaY
import Derived.Test.YtgliddedimpgaaaOp
namespace Go.Proofs.Ytgliddedimpgaaa
open Go.RowKit Go.ChangeShapes Go.WideShapes Go.ChangeAt

theorem byte_back (d : UInt8) : UInt8.ofNat d.toNat = d := by simp

theorem pow128_le (j : Nat) (h : j ≤ 8) : 128 ^ (j + 1) ≤ 9223372036854775808 := by
  have h1 : 128 ^ (j + 1) ≤ 128 ^ 9 := Nat.pow_le_pow_right (by omega) (by omega)
  omega

theorem digits_rd : ∀ (bs : List UInt8) (j a v : Nat) (r : List UInt8), j ≤ 9 → rd j a bs = some (v, r) →
    ∃ u, v = a + u * 128 ^ j ∧ bs = digits u ++ r ∧ (0 < j → 0 < u) ∧ (u + 1) * 128 ^ j ≤ 18446744073709551616
  | [], _, _, _, _, _, h => by simp [rd] at h
  | d :: bs, j, a, v, r, hj, h => by
    rw [rd] at h
    by_cases hbad : (j = 9 ∧ 1 < d.toNat) ∨ (0 < j ∧ d.toNat = 0)
    · rw [if_pos hbad] at h; cases h
    · rw [if_neg hbad] at h
      have hd := d.toNat_lt
      by_cases h128 : d.toNat < 128
      · rw [if_pos h128] at h
        injection h with h
        injection h with h1 h2
        subst h2
        refine ⟨d.toNat, by rw [← h1, show d.toNat % 128 = d.toNat by omega], by rw [digits_lo _ h128, byte_back]; rfl, fun _ => by omega, ?_⟩
        rcases Nat.lt_or_ge j 9 with h9 | h9
        · have h2 := pow128_le j (by omega)
          have h3 : (d.toNat + 1) * 128 ^ j ≤ 128 * 128 ^ j := Nat.mul_le_mul_right _ (by omega)
          rw [Nat.pow_succ] at h2; omega
        · obtain rfl : j = 9 := by omega
          omega
      · rw [if_neg h128] at h
        have hj9 : j < 9 := by omega
        obtain ⟨u, hv, hb, hu, hle⟩ := digits_rd bs (j + 1) _ v r (by omega) h
        have hu0 := hu (by omega)
        have hp : 128 ^ (j + 1) = 128 * 128 ^ j := by rw [Nat.pow_succ, Nat.mul_comm]
        refine ⟨u * 128 + d.toNat % 128, ?_, ?_, fun _ => by omega, ?_⟩
        · rw [hv, hp, Nat.add_mul, Nat.mul_assoc]; omega
        · rw [digits_hi _ (by omega), show (u * 128 + d.toNat % 128) % 128 + 128 = d.toNat by omega, show (u * 128 + d.toNat % 128) / 128 = u by omega, byte_back, hb]; rfl
        · have h3 : (u * 128 + d.toNat % 128 + 1) * 128 ^ j ≤ (u + 1) * 128 * 128 ^ j := Nat.mul_le_mul_right _ (by omega)
          rw [hp, ← Nat.mul_assoc] at hle; omega

theorem digits_readNum {bs r : List UInt8} {v : Nat} (h : readNum bs = some (v, r)) : bs = digits v ++ r ∧ v < 18446744073709551616 := by
  obtain ⟨u, hv, hb, _, hle⟩ := digits_rd bs 0 0 v r (by omega) h
  simp at hv hle
  subst hv
  exact ⟨hb, by omega⟩

theorem encL_decN {f : List UInt8 → Option (V × List UInt8)} {d : Nat} (hf : ∀ bs x r, f bs = some (x, r) → bs = enc x ++ r ∧ formed x = true ∧ depth x ≤ d) :
    ∀ (n : Nat) (bs : List UInt8) (l : List V) (r : List UInt8), decN f n bs = some (l, r) → l.length = n ∧ bs = encL l ++ r ∧ (∀ x ∈ l, formed x = true) ∧ (∀ x ∈ l, depth x ≤ d)
  | 0, bs, l, r, h => by simp [decN] at h; obtain ⟨rfl, rfl⟩ := h; simp [encL]
  | n + 1, bs, l, r, h => by
    rw [decN] at h
    cases hfb : f bs with
    | none => rw [hfb] at h; cases h
    | some p =>
      obtain ⟨x, r1⟩ := p
      rw [hfb] at h
      simp only at h
      cases hn : decN f n r1 with
      | none => rw [hn] at h; cases h
      | some q =>
        obtain ⟨l2, r2⟩ := q
        rw [hn] at h
        simp at h
        obtain ⟨rfl, rfl⟩ := h
        obtain ⟨e1, e2, e3⟩ := hf _ _ _ hfb
        obtain ⟨g1, g2, g3, g4⟩ := encL_decN hf n r1 l2 r2 hn
        refine ⟨by simp [g1], by rw [encL, List.append_assoc, ← g2, ← e1], ?_, ?_⟩
        · intro y hy
          rcases List.mem_cons.1 hy with rfl | hy
          · exact e2
          · exact g3 y hy
        · intro y hy
          rcases List.mem_cons.1 hy with rfl | hy
          · exact e3
          · exact g4 y hy

theorem byte_of {d : UInt8} {n : Nat} (h : d.toNat = n) : d = UInt8.ofNat n := by rw [← h, byte_back]

theorem formed_list {l : List V} (h : ∀ x ∈ l, formed x = true) : formed (.mk 3 0 ⟨#[]⟩ l) = true := by
  rw [formed, (formedL_mem l).2 h]; rfl

theorem enc_decHead {lst : List UInt8 → Option (List V × List UInt8)} {d : Nat} (hl : ∀ bs l r, lst bs = some (l, r) → bs = digits l.length ++ encL l ++ r ∧ (∀ x ∈ l, formed x = true) ∧ depthL l + 1 ≤ d)
    {bs r : List UInt8} {x : V} (h : decHead lst bs = some (x, r)) : bs = enc x ++ r ∧ formed x = true ∧ depth x ≤ d := by
  cases bs with
  | nil => simp [decHead] at h
  | cons c bs =>
    rw [decHead] at h
    split at h
    · rename_i h1
      cases hn : readNum bs with
      | none => rw [hn] at h; cases h
      | some p =>
        obtain ⟨u, r1⟩ := p
        rw [hn] at h
        simp at h
        obtain ⟨rfl, rfl⟩ := h
        obtain ⟨hb, hu⟩ := digits_readNum hn
        refine ⟨by rw [enc_1, uns_sgn, byte_of h1, hb]; rfl, by rw [formed]; rfl, by rw [depth]; simp⟩
    · split at h
      · rename_i h0 h1
        cases hn : readNum bs with
        | none => rw [hn] at h; cases h
        | some p =>
          obtain ⟨u, r1⟩ := p
          rw [hn] at h
          simp only at h
          split at h
          · rename_i hle
            simp at h
            obtain ⟨rfl, rfl⟩ := h
            obtain ⟨hb, hu⟩ := digits_readNum hn
            have hs : (⟨(r1.take u).toArray⟩ : ByteArray).size = u := by
              show (r1.take u).toArray.size = u
              simp; omega
            refine ⟨?_, ?_, by rw [depth]; simp⟩
            · have hs2 : (⟨(List.take u r1).toArray⟩ : ByteArray).data.toList = r1.take u := by simp
              rw [enc_2, hs, hs2, byte_of h1, hb, List.cons_append, List.append_assoc, List.take_append_drop]; rfl
            · rw [formed]; rfl
          · cases h
      · split at h
        · rename_i h0 h00 h1
          cases hn : lst bs with
          | none => rw [hn] at h; cases h
          | some p =>
            obtain ⟨l, r1⟩ := p
            rw [hn] at h
            simp at h
            obtain ⟨rfl, rfl⟩ := h
            obtain ⟨hb, hf, hd⟩ := hl _ _ _ hn
            refine ⟨by rw [enc_3, byte_of h1, hb]; rfl, formed_list hf, by rw [depth, if_pos rfl]; exact hd⟩
        · cases h

theorem enc_decL : ∀ (d : Nat) (bs : List UInt8) (l : List V) (r : List UInt8), decL d bs = some (l, r) → bs = digits l.length ++ encL l ++ r ∧ (∀ x ∈ l, formed x = true) ∧ depthL l + 1 ≤ d
  | 0, _, _, _, h => by simp [decL] at h
  | d + 1, bs, l, r, h => by
    rw [decL] at h
    cases hn : readNum bs with
    | none => rw [hn] at h; cases h
    | some p =>
      obtain ⟨n, r1⟩ := p
      rw [hn] at h
      simp only at h
      obtain ⟨hb, hu⟩ := digits_readNum hn
      obtain ⟨g1, g2, g3, g4⟩ := encL_decN (fun bs x r h => enc_decHead (enc_decL d) h) n r1 l r h
      refine ⟨by rw [g1, List.append_assoc, ← g2, ← hb], g3, ?_⟩
      have := (depthL_le l d).2 g4
      omega

theorem enc_dec {d : Nat} {bs r : List UInt8} {x : V} (h : dec d bs = some (x, r)) : bs = enc x ++ r ∧ formed x = true ∧ depth x ≤ d := enc_decHead (enc_decL d) h

/-- what is decoded can be encoded, and its encoding are the bytes -/
theorem enc_decode {bs : List UInt8} {x : V} (h : decode bs = some x) : enc x = bs ∧ code x = 0 := by
  rw [decode] at h
  split at h
  · rename_i y hd
    injection h with h
    subst h
    obtain ⟨hb, hf, hdp⟩ := enc_dec hd
    rw [List.append_nil] at hb
    refine ⟨hb.symm, ?_⟩
    unfold code
    rw [hf, if_pos rfl, if_neg (by omega)]
  · cases h

theorem Try.cells5 : Try.prog.cellsOf 5 = 1 := by kernel_rfl

theorem rest_nil (B : Nat) (w : World) : Rest B w [] (.slice none 0 0) := ⟨none, 0, rfl, by simp, by simp [maxLen], fun _ => ⟨rfl, rfl⟩, .inl rfl⟩

section
variable {H : Type} {enc : TypeId × Value → H} {W : World}
theorem open_bytes {base : Nat} {v : Value} {d : DataW H} {p : List MemPlace} (hv : Value.okWide Try.prog W .any base 27 v) (h : DataW.Trod enc Try.prog W 0 (fun _ => true) true 27 v d p) :
    ∃ (bs : List UInt8) (a : Option Addr) (cap : Nat), v = .slice a bs.length cap ∧ Rest W.heap.size W bs (.slice a bs.length cap) := by
  obtain ⟨a, len, cap, rfl⟩ := okWide_slice Try.underlying27 hv
  obtain ⟨fuel, hf⟩ := h
  rcases DataW.trod_slice Try.underlying27 hf with ⟨e3, _⟩ | ⟨a2, len2, cap2, elems, rest, n2, rfl, e3, _, _, hl, hcm, hel, hbind, _, _⟩
  · simp [Value.cells] at e3
    obtain ⟨rfl, rfl, rfl⟩ := e3
    exact ⟨[], none, 0, rfl, rest_nil _ _⟩
  · simp [Value.cells] at e3
    obtain ⟨rfl, rfl, rfl⟩ := e3
    have hex : ∀ i, ∃ n : Nat, i < len → n < 256 ∧ W.cell? (a2.add i) = some (.int .u8 (n : Int)) := by
      intro i
      by_cases hi : i < len
      · have hb := hbind i hi
        rw [Try.cells5] at hb
        have hsome : elems[i]? = some (elems[i]'(by omega)) := List.getElem?_eq_getElem (by omega)
        rw [hsome] at hb
        cases hcs : W.cells? 0 (a2.add (i * 1)) 1 with
        | none => rw [hcs] at hb; cases hb
        | some cs2 =>
          rw [hcs] at hb
          obtain ⟨k, e0, _, wk⟩ := DataW.trod_int Try.underlying5 hb
          have hk := bounds_u8 wk
          obtain ⟨_, _, hat⟩ := World.cells?_some hcs
          have h0 := hat 0 (by omega)
          refine ⟨k.toNat, fun _ => ⟨by omega, ?_⟩⟩
          rw [Go.Deep.add_add] at h0
          rw [show a2.add i = a2.add (i * 1 + 0) by rw [Nat.mul_one, Nat.add_zero], h0, e0, Int.toNat_of_nonneg hk.1]; rfl
      · exact ⟨0, fun h => absurd h hi⟩
    obtain ⟨f, hf2⟩ := Classical.skolem.1 hex
    have hlen : ((List.range len).map fun i => UInt8.ofNat (f i)).length = len := by simp
    refine ⟨(List.range len).map fun i => UInt8.ofNat (f i), some a2, cap, by rw [hlen], some a2, cap, rfl, by rw [hlen]; omega, hcm, (fun h => by cases h), ?_⟩
    rcases Nat.eq_zero_or_pos len with h0 | h0
    · exact .inl (by rw [hlen, h0])
    · right
      have hc0 := (hf2 0 h0).2
      have hsp2 : a2.spot = none := by have := spot_none hc0; simpa [Addr.add] using this
      have ha := addr_eta hsp2
      have hblt : a2.block < W.heap.size := by
        rw [ha, Addr.add_lit] at hc0
        exact World.block_lt_of_cell? W ⟨a2.block, a2.off + 0, none⟩ hc0
      refine ⟨a2.block, a2.off, by rw [← ha], hblt, fun i hi => ?_⟩
      rw [hlen] at hi
      have h1 := (hf2 i hi).2
      rw [ha, Addr.add_lit] at h1
      rw [h1]
      simp [Nat.mod_eq_of_lt (hf2 i hi).1]
end

theorem rest_mono {B B' : Nat} {w : World} {bs : List UInt8} {v : Value} (h : Rest B w bs v) (hb : B ≤ B') : Rest B' w bs v := by
  obtain ⟨a, cap, h1, h2, h3, h4, h5⟩ := h
  refine ⟨a, cap, h1, h2, h3, h4, ?_⟩
  rcases h5 with h0 | ⟨b, off, ha, hl, hc⟩
  · exact .inl h0
  · exact .inr ⟨b, off, ha, by omega, hc⟩
end Go.Proofs.Ytgliddedimpgaaa
