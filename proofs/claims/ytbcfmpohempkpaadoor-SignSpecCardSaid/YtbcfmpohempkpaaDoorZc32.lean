/- Signatures as plain functions, and the smallest functions of the program. -/
import Derived.Test.YtbcfmpohempkpaaDoorZc22
import Derived.Test.YtbcfmpohempkpaaDoorZc31
namespace Go.Proofs.YtbcfmpohempkpaaDoor
open Go.RowKit Go.Shelf

theorem powT_ok {a n r : Int} (h : valid a = true) (hr : powQ a n = r) : powT a n = .tuple #[.int .i64 r, .int .i64 0] := by unfold powT; rw [if_pos h, hr]
theorem powT_no {a n : Int} (h : valid a = false) : powT a n = .tuple #[.int .i64 0, .int .i64 100] := by unfold powT; rw [if_neg (by rw [h]; exact Bool.false_ne_true)]
theorem mulT_ok {a b r : Int} (ha : valid a = true) (hb : valid b = true) (hr : a * b % 2147483579 = r) : mulT a b = .tuple #[.int .i64 r, .int .i64 0] := by unfold mulT; rw [ha, hb, ← hr]; rfl
/-- a number from 0 to Q - 1 -/
def inE (n : Int) : Bool := decide (0 ≤ n) && decide (n < 1073741789)
theorem inE_rng {n : Int} (h : inE n = true) : 0 ≤ n ∧ n < 1073741789 := by unfold inE at h; simp at h; exact h
theorem inE_out {n : Int} (h : inE n = false) : ¬ (0 ≤ n ∧ n < 1073741789) := by unfold inE at h; simp at h; omega
theorem inE_of {n : Int} (h : 0 ≤ n ∧ n < 1073741789) : inE n = true := by unfold inE; simp; exact h
theorem inE_not {n : Int} (h : ¬ (0 ≤ n ∧ n < 1073741789)) : inE n = false := by unfold inE; simp; omega
set_option maxHeartbeats 400000 in
set_option maxRecDepth 100000 in
theorem isExponent_call (n : Int) (w : World) :
    Calls Tryd.prog 19 #[.int .i64 n] w fun e w' => e = .returned (.bool (inE n)) ∧ w' = w := by
  rcases Int.lt_or_le n 0 with h | h
  · rw [inE_not (by omega)]
    go_enter Tryd.func19, Tryd.ntmps19
    go_wp2_with fail
    go_ret
    exact ⟨rfl, rfl⟩
  · rcases Int.lt_or_le n 1073741789 with k | k
    · rw [inE_of ⟨h, k⟩]
      go_enter Tryd.func19, Tryd.ntmps19
      go_wp2_with fail
      go_ret
      exact ⟨rfl, rfl⟩
    · rw [inE_not (by omega)]
      have hk : (n < 1073741789) = False := by simp; omega
      go_enter Tryd.func19, Tryd.ntmps19
      go_wp2_with fail
      go_ret
      exact ⟨rfl, rfl⟩
set_option maxHeartbeats 400000 in
set_option maxRecDepth 100000 in
theorem pow_call (a n : Int) (w : World) (ha : valid a = true) (hn : I64 n) :
    Calls Tryd.prog 21 #[.int .i64 a, .int .i64 n] w fun e w' => e = .returned (.int .i64 (powQ a n)) ∧ Below w.heap.size w w' := by
  have HC := Lib.hid (Pow_call a n w (valid_rp ha).i64 hn)
  rw [powT_ok ha rfl] at HC
  obtain ⟨r, hr⟩ : ∃ r, r = powQ a n := ⟨_, rfl⟩
  rw [← hr] at HC ⊢
  clear hr ha hn
  go_enter Tryd.func21, Tryd.ntmps21
  go_wp2_with fail
  refine HC.out.mono ?_
  rintro e w1 ⟨rfl, hb⟩
  go_wp2_with fail
  go_ret
  exact ⟨rfl, hb⟩
set_option maxHeartbeats 400000 in
set_option maxRecDepth 100000 in
theorem plus_call (x n : Int) (w : World) (hx : 0 ≤ x ∧ x < 1073741789) (hn : 0 ≤ n ∧ n < 1152921504606846976) :
    Calls Tryd.prog 22 #[.int .i64 x, .int .i64 n] w fun e w' => e = .returned (.int .i64 ((x + n) % 1073741789)) ∧ w' = w := by
  have HM := Lib.hid (Int.tmod_eq_emod_of_nonneg (a := x + n) (b := 1073741789) (by omega))
  have hw : wrap64 (x + n) = x + n := by unfold wrap64; omega
  go_enter Tryd.func22, Tryd.ntmps22
  go_wp2_with fail
  go_ret
  exact ⟨ret_i64 (by rw [← HM.out]), rfl⟩
theorem below_drew {B : Nat} {a w : World} (h : Below B a w) : Below B a w.drew := h.drew
/-- the point of a signature for a key -/
def pt (key E S : Int) : Int := powQ 4 S * powQ key (-E) % 2147483579
theorem pt_rng (key E S : Int) : Rp (pt key E S) := rp_mod _
set_option maxHeartbeats 1000000 in
set_option maxRecDepth 100000 in
theorem point_call (key E S : Int) (w : World) (hk : valid key = true) (hE : 0 ≤ E ∧ E < 1073741789) (hS : 0 ≤ S ∧ S < 1073741789) :
    Calls Tryd.prog 31 #[.int .i64 key, .agg #[.int .i64 E, .int .i64 S]] w fun e w' => e = .returned (.int .i64 (pt key E S)) ∧ Below w.heap.size w w' := by
  have HA := Lib.hid (fun W => pow_call 4 S W valid_4 ⟨by omega, by omega⟩)
  have HB := Lib.hid (fun W => pow_call key (-E) W hk ⟨by omega, by omega⟩)
  have HM := Lib.hid (fun W => Mul_call (powQ 4 S) (powQ key (-E)) W (powQ_rng _ _).i64 (powQ_rng _ _).i64)
  rw [mulT_ok (powQ_valid valid_4 _) (powQ_valid hk _) rfl] at HM
  unfold pt
  obtain ⟨x, hx⟩ : ∃ x, x = powQ 4 S := ⟨_, rfl⟩
  obtain ⟨y, hy⟩ : ∃ y, y = powQ key (-E) := ⟨_, rfl⟩
  rw [← hx] at HA HM ⊢
  rw [← hy] at HB HM ⊢
  obtain ⟨z, hz⟩ : ∃ z, z = x * y % 2147483579 := ⟨_, rfl⟩
  rw [← hz] at HM ⊢
  have hw : wrap64 (-E) = -E := by unfold wrap64; omega
  have hwi : IntKind.i64.wrap (-E) = -E := by rw [IntKind.wrap_i64]; omega
  clear hx hy hz hk hS
  go_enter Tryd.func31, Tryd.ntmps31
  go_wp2_with fail
  generalize hW0 : w.alloc (.cells #[.int .i64 E, .int .i64 S] 24) = W0
  have HB0 : Hid (Below w.heap.size w W0) := Lib.hid (by rw [← hW0]; exact Joins.below_alloc1 _ _)
  have R0 : Row W0 w.heap.size 24 [.int .i64 E, .int .i64 S] := by rw [← hW0]; exact row_new w _ _
  have c0 : ∀ W, Below W0.heap.size W0 W → W.cell? ⟨w.heap.size, 0, none⟩ = some (.int .i64 E) := fun W hW => (R0.keep hW).cell (i := 0) rfl
  have c1 : ∀ W, Below W0.heap.size W0 W → W.cell? ⟨w.heap.size, 1, none⟩ = some (.int .i64 S) := fun W hW => (R0.keep hW).cell (i := 1) rfl
  clear R0 hW0
  go_region_held3 (fun W => Below W0.heap.size W0 W) (first | assumption | exact below_drew (Below.refl _ _)) (first
    | (go_at_call 37; refine (HM.out _).mono ?_; rintro e w4 ⟨rfl, rfl⟩)
    | (go_at_call 21; (first | with_reducible refine (HA.out _).mono ?_ | with_reducible refine (HB.out _).mono ?_); rintro e w4 ⟨rfl, hb4⟩; have hB4 : Below W0.heap.size W0 w4 := below_next (by assumption) hb4))
  all_goals
    go_wp2_with fail
    go_ret
    exact ⟨rfl, below_next HB0.out (by assumption)⟩
end Go.Proofs.YtbcfmpohempkpaaDoor

/- What is hashed: a list of numbers and a text, put together by the program. -/
namespace Go.Proofs.YtbcfmpohempkpaaDoor.Dig
open Go.RowKit

theorem conv_rest {B : Nat} {w : World} {bs : List UInt8} {v : Value} (h : Rest B w bs v) : (convert 22 9 v).run Tryd.prog w = .ok (.string ⟨bs.toArray⟩) w := by
  obtain ⟨a, cap, rfl, hl, hm, ha, hc⟩ := h
  rcases hc with h0 | ⟨b, off, rfl, hb, hc⟩
  · obtain rfl : bs = [] := List.eq_nil_of_length_eq_zero h0
    rcases a with _ | a
    · show (convert 22 9 (.slice none 0 cap)).run Tryd.prog w = .ok (.string ⟨#[]⟩) w
      rw [run_convert_bytes_string w 22 9 5 none 0 cap Tryd.underlying22 Tryd.underlying5 Tryd.underlying9]
      simp [Conv.bytesToString]
      rfl
    · exact run_convert_bytes_back w 22 9 5 a cap [] Tryd.underlying22 Tryd.underlying5 Tryd.underlying9 (fun j hj => by simp at hj)
  · refine run_convert_bytes_back w 22 9 5 ⟨b, off, none⟩ cap bs Tryd.underlying22 Tryd.underlying5 Tryd.underlying9 (fun j hj => ?_)
    rw [Addr.add_lit]; exact hc j hj
/-- the value of the codec for a number -/
def intV (n : Int) : Cod.V := .mk 1 n ⟨#[]⟩ []
/-- the value of the codec for a text -/
def textV (b : List UInt8) : Cod.V := .mk 2 0 ⟨b.toArray⟩ []
abbrev intA (n : Int) : Value := .agg #[.int .i64 1, .int .i64 n, .string ⟨#[]⟩, .slice none 0 0]
abbrev textA (b : List UInt8) : Value := .agg #[.int .i64 2, .int .i64 0, .string ⟨b.toArray⟩, .slice none 0 0]
theorem size41 : (Tryd.prog.info? 41).map (·.size) = some 4 := by kernel_rfl
theorem as_int (W : World) (v : Value) : (Instr.typeAssert (.iface 3 v) 20 3 true).run Tryd.prog W = .ok (.tuple #[v, .bool true]) W := by kernel_rfl
theorem as_text (W : World) (v : Value) : (Instr.typeAssert (.iface 22 v) 20 22 true).run Tryd.prog W = .ok (.tuple #[v, .bool true]) W := by kernel_rfl
theorem as_int_no (W : World) (v : Value) : (Instr.typeAssert (.iface 22 v) 20 3 true).run Tryd.prog W = .ok (.tuple #[.int .i64 0, .bool false]) W := by kernel_rfl
set_option maxHeartbeats 1000000 in
set_option maxRecDepth 100000 in
theorem value_int (n : Int) (w : World) : Calls Tryd.prog 43 #[.iface 3 (.int .i64 n)] w fun e w' => e = .returned (intA n) ∧ Below w.heap.size w w' := by
  have h1 := as_int
  go_enter Tryd.func43, Tryd.ntmps43
  go_wp2_with fail
  exact bodyPost_ret (results_cell_row rfl _ _ w.heap.size 41 _ (0, 0) _ rfl (heap_alloc_new w _) Tryd.underlying41 rfl size41) rfl ⟨rfl, Joins.below_alloc1 _ _⟩
set_option maxHeartbeats 1000000 in
set_option maxRecDepth 100000 in
theorem value_text (b : List UInt8) (v : Value) (w : World) (h : Rest w.heap.size w b v) : Calls Tryd.prog 43 #[.iface 22 v] w fun e w' => e = .returned (textA b) ∧ Below w.heap.size w w' := by
  have h1 := as_text
  have h2 := as_int_no
  have h3 : ∀ W, Below w.heap.size w W → (convert 22 9 v).run Tryd.prog W = .ok (.string ⟨b.toArray⟩) W := fun W hW => conv_rest (h.stays hW)
  have h4 := h3 _ (Joins.below_alloc1 w (.cells #[.int .i64 0, .int .i64 0, .string ⟨#[]⟩, .slice none 0 0] 41))
  clear h h3
  go_enter Tryd.func43, Tryd.ntmps43
  go_wp2_with fail
  exact bodyPost_ret (results_cell_row rfl _ _ w.heap.size 41 _ (0, 0) _ rfl (heap_alloc_new w _) Tryd.underlying41 rfl size41) rfl ⟨rfl, Joins.below_alloc1 _ _⟩
end Go.Proofs.YtbcfmpohempkpaaDoor.Dig

/- The program's hash of a list of numbers and a text. -/
namespace Go.Proofs.YtbcfmpohempkpaaDoor.Dig
open Go.RowKit

/-- the list of some numbers and a text -/
def lst (ns : List Int) (b : List UInt8) : Cod.V := .mk 3 0 ⟨#[]⟩ (ns.map intV ++ [textV b])
/-- an exponent for a tag, some numbers and a text -/
def hsg (tag : ByteArray) (ns : List Int) (b : List UInt8) : Int := hsh (tagged tag.data.toList (Cod.enc (lst ns b))) 8
theorem make2 (W : World) : (Instr.makeSlice 39 (.int .i64 2) (.int .i64 2)).run Tryd.prog W = .ok (.slice (some ⟨W.heap.size, 0, none⟩) 2 2) (W.alloc (.cells #[.int .i64 0, .int .i64 0, .string ⟨#[]⟩, .slice none 0 0, .int .i64 0, .int .i64 0, .string ⟨#[]⟩, .slice none 0 0] 41)) := by kernel_rfl
theorem make3 (W : World) : (Instr.makeSlice 39 (.int .i64 3) (.int .i64 3)).run Tryd.prog W = .ok (.slice (some ⟨W.heap.size, 0, none⟩) 3 3) (W.alloc (.cells #[.int .i64 0, .int .i64 0, .string ⟨#[]⟩, .slice none 0 0, .int .i64 0, .int .i64 0, .string ⟨#[]⟩, .slice none 0 0, .int .i64 0, .int .i64 0, .string ⟨#[]⟩, .slice none 0 0] 41)) := by kernel_rfl
abbrev zA : List Value := [.int .i64 0, .int .i64 0, .string ⟨#[]⟩, .slice none 0 0]
abbrev iA (n : Int) : List Value := [.int .i64 1, .int .i64 n, .string ⟨#[]⟩, .slice none 0 0]
abbrev tA (b : List UInt8) : List Value := [.int .i64 2, .int .i64 0, .string ⟨b.toArray⟩, .slice none 0 0]
theorem is_int (w : World) (B : Nat) (n : Int) (hn : I64 n) : Cod.IsB B w (intV n) (Cod.val 1 n ⟨#[]⟩ none 0 0) :=
  .mk 1 n ⟨#[]⟩ [] none 0 (fun _ => 0) (fun _ => 0) (fun _ => ⟨#[]⟩) (fun _ => none) (fun _ => 0) (fun _ => 0) (by omega) hn (Nat.zero_le _) (by simp) (.inl rfl) (fun i h => by simp at h)
theorem is_text (w : World) (B : Nat) (b : List UInt8) (hb : b.length ≤ 600) : Cod.IsB B w (textV b) (Cod.val 2 0 ⟨b.toArray⟩ none 0 0) :=
  .mk 2 0 ⟨b.toArray⟩ [] none 0 (fun _ => 0) (fun _ => 0) (fun _ => ⟨#[]⟩) (fun _ => none) (fun _ => 0) (fun _ => 0) (by omega) (by omega) (by show b.toArray.size ≤ maxLen; simp; unfold maxLen; omega) (by simp) (.inl rfl) (fun i h => by simp at h)
theorem is_two {w : World} {g : Nat} {a : Int} {b : List UInt8} (h : Row w g 41 (iA a ++ tA b)) (ha : I64 a) (hb : b.length ≤ 600) : Cod.Is w (lst [a] b) (Cod.val 3 0 ⟨#[]⟩ (some ⟨g, 0, none⟩) 2 2) :=
  .mk 3 0 ⟨#[]⟩ [intV a, textV b] (some ⟨g, 0, none⟩) 2 (fun i => if i = 0 then 1 else 2) (fun i => if i = 0 then a else 0) (fun i => if i = 0 then ⟨#[]⟩ else ⟨b.toArray⟩) (fun _ => none) (fun _ => 0) (fun _ => 0) (by omega) (by omega) (Nat.zero_le _) (by simp)
    (.inr ⟨g, 0, rfl, h.lt, fun i hi => by
      obtain rfl | rfl : i = 0 ∨ i = 1 := by simp at hi; omega
      · exact ⟨h.cell (i := 0) rfl, h.cell (i := 1) rfl, h.cell (i := 2) rfl, h.cell (i := 3) rfl⟩
      · exact ⟨h.cell (i := 4) rfl, h.cell (i := 5) rfl, h.cell (i := 6) rfl, h.cell (i := 7) rfl⟩⟩)
    (fun i hi => by
      obtain rfl | rfl : i = 0 ∨ i = 1 := by simp at hi; omega
      · exact is_int w _ a ha
      · exact is_text w _ b hb)
theorem is_three {w : World} {g : Nat} {a c : Int} {b : List UInt8} (h : Row w g 41 (iA a ++ iA c ++ tA b)) (ha : I64 a) (hc : I64 c) (hb : b.length ≤ 600) : Cod.Is w (lst [a, c] b) (Cod.val 3 0 ⟨#[]⟩ (some ⟨g, 0, none⟩) 3 3) :=
  .mk 3 0 ⟨#[]⟩ [intV a, intV c, textV b] (some ⟨g, 0, none⟩) 3 (fun i => if i = 2 then 2 else 1) (fun i => if i = 0 then a else if i = 1 then c else 0) (fun i => if i = 2 then ⟨b.toArray⟩ else ⟨#[]⟩) (fun _ => none) (fun _ => 0) (fun _ => 0) (by omega) (by omega) (Nat.zero_le _) (by simp)
    (.inr ⟨g, 0, rfl, h.lt, fun i hi => by
      obtain rfl | rfl | rfl : i = 0 ∨ i = 1 ∨ i = 2 := by simp at hi; omega
      · exact ⟨h.cell (i := 0) rfl, h.cell (i := 1) rfl, h.cell (i := 2) rfl, h.cell (i := 3) rfl⟩
      · exact ⟨h.cell (i := 4) rfl, h.cell (i := 5) rfl, h.cell (i := 6) rfl, h.cell (i := 7) rfl⟩
      · exact ⟨h.cell (i := 8) rfl, h.cell (i := 9) rfl, h.cell (i := 10) rfl, h.cell (i := 11) rfl⟩⟩)
    (fun i hi => by
      obtain rfl | rfl | rfl : i = 0 ∨ i = 1 ∨ i = 2 := by simp at hi; omega
      · exact is_int w _ a ha
      · exact is_int w _ c hc
      · exact is_text w _ b hb)
theorem num10 {u : Nat} (h : u < 18446744073709551616) : (Cod.digits u).length ≤ 10 := by rw [Cod.digits_len]; exact Cod.num_len u h
theorem enc_int_len {n : Int} (hn : I64 n) : (Cod.enc (intV n)).length ≤ 11 := by
  unfold intV
  rw [Cod.enc_1, List.length_cons]
  have := num10 (Cod.uns_lt n hn.1 hn.2)
  omega
theorem enc_text_len {b : List UInt8} (hb : b.length ≤ 600) : (Cod.enc (textV b)).length ≤ 611 := by
  unfold textV
  have hs : (⟨b.toArray⟩ : ByteArray).size = b.length := by show b.toArray.size = _; simp
  rw [Cod.enc_2, List.length_cons, List.length_append, hs]
  have := num10 (u := b.length) (by omega)
  simp
  omega
theorem enc_two {a : Int} {b : List UInt8} (ha : I64 a) (hb : b.length ≤ 600) : (Cod.enc (lst [a] b)).length ≤ 800 := by
  have h1 := enc_int_len ha
  have h2 := enc_text_len hb
  have h3 : (Cod.digits (0 + 1 + 1)).length ≤ 10 := num10 (by omega)
  show (Cod.enc (.mk 3 0 ⟨#[]⟩ [intV a, textV b])).length ≤ 800
  rw [Cod.enc_3, Cod.encL, Cod.encL, Cod.encL]
  simp only [List.length_cons, List.length_append, List.length_nil]
  omega
theorem enc_three {a c : Int} {b : List UInt8} (ha : I64 a) (hc : I64 c) (hb : b.length ≤ 600) : (Cod.enc (lst [a, c] b)).length ≤ 800 := by
  have h1 := enc_int_len ha
  have h1' := enc_int_len hc
  have h2 := enc_text_len hb
  have h3 : (Cod.digits (0 + 1 + 1 + 1)).length ≤ 10 := num10 (by omega)
  show (Cod.enc (.mk 3 0 ⟨#[]⟩ [intV a, intV c, textV b])).length ≤ 800
  rw [Cod.enc_3, Cod.encL, Cod.encL, Cod.encL, Cod.encL]
  simp only [List.length_cons, List.length_append, List.length_nil]
  omega
theorem formed_two (a : Int) (b : List UInt8) : Cod.formed (lst [a] b) = true := by
  show Cod.formed (.mk 3 0 ⟨#[]⟩ [intV a, textV b]) = true
  simp [Cod.formed, Cod.formedL, intV, textV]
  rfl
theorem formed_three (a c : Int) (b : List UInt8) : Cod.formed (lst [a, c] b) = true := by
  show Cod.formed (.mk 3 0 ⟨#[]⟩ [intV a, intV c, textV b]) = true
  simp [Cod.formed, Cod.formedL, intV, textV]
  rfl
theorem depth_two (a : Int) (b : List UInt8) : Cod.depth (lst [a] b) = 1 := by
  show Cod.depth (.mk 3 0 ⟨#[]⟩ [intV a, textV b]) = 1
  simp [Cod.depth, Cod.depthL, intV, textV]
theorem depth_three (a c : Int) (b : List UInt8) : Cod.depth (lst [a, c] b) = 1 := by
  show Cod.depth (.mk 3 0 ⟨#[]⟩ [intV a, intV c, textV b]) = 1
  simp [Cod.depth, Cod.depthL, intV, textV]
theorem code_two (a : Int) (b : List UInt8) : Cod.code (lst [a] b) = 0 := by
  unfold Cod.code; rw [if_pos (formed_two a b), depth_two]; rfl
theorem code_three (a c : Int) (b : List UInt8) : Cod.code (lst [a, c] b) = 0 := by
  unfold Cod.code; rw [if_pos (formed_three a c b), depth_three]; rfl
def cs2 (a : Int) (b : List UInt8) (k : Nat) : List Value := (if 0 < k then iA a else zA) ++ (if 1 < k then tA b else zA)
def Head2 (a : Int) (b : List UInt8) (w : World) (s15 : Value) (wr : World) : Prop := ∃ k : Nat, k ≤ 2 ∧ s15 = .int .i64 (k : Int) ∧ Row wr w.heap.size 41 (cs2 a b k) ∧ Below w.heap.size w wr
set_option maxHeartbeats 1000000 in
set_option maxRecDepth 100000 in
theorem hash_two (tag : ByteArray) (a : Int) (b : List UInt8) (v : Value) (g : Nat) (w : World) (ht : tag.size ≤ 549755813888) (ha : I64 a) (hl : b.length ≤ 600) (hr : Rest w.heap.size w b v) (hT : Tab w)
    (h0 : w.cell? ⟨g, 0, none⟩ = some (.iface 3 (.int .i64 a))) (h1 : w.cell? ⟨g, 1, none⟩ = some (.iface 22 v)) :
    Calls Tryd.prog 20 #[.string tag, .slice (some ⟨g, 0, none⟩) 2 2] w fun e w' => e = .returned (.int .i64 (hsg tag [a] b)) ∧ Below w.heap.size w w' := by
  have hm := make2
  have HG := Lib.hid (block_lt_of_cell h0)
  have HR := Lib.hid hr
  have HT := Lib.hid hT
  have C0 := Lib.hid h0
  have C1 := Lib.hid h1
  clear hr hT h0 h1
  go_enter Tryd.func20, Tryd.ntmps20
  go_wp2_with fail
  go_loopw [15] (fun s15 wr => Head2 a b w s15 wr) (fun s15 _ => 2 - (intOf s15).toNat)
  case atStart => exact ⟨0, by omega, rfl, row_new w _ _, Joins.below_alloc1 w _⟩
  case round =>
    obtain ⟨k, hk, rfl, hrow, hb⟩ := hrel
    have HROW := Lib.hid hrow
    have HB := Lib.hid hb
    obtain rfl | rfl | rfl : k = 0 ∨ k = 1 ∨ k = 2 := by omega
    · have c0 : wr.cell? ⟨g, 0, none⟩ = some (.iface 3 (.int .i64 a)) := (hb.cell (p := ⟨g, 0, none⟩) HG.out).trans C0.out
      clear hb hrow hk
      go_wp2_with fail
      refine (value_int a wr).mono ?_
      rintro e w2 ⟨rfl, hb2⟩
      have HROW2 := Lib.hid (HROW.out.keep hb2)
      have HB2 := Lib.hid (below_next HB.out hb2)
      have q0 := HROW2.out.cell (i := 0) rfl
      have q1 := HROW2.out.cell (i := 1) rfl
      have q2 := HROW2.out.cell (i := 2) rfl
      have q3 := HROW2.out.cell (i := 3) rfl
      have f0 := HROW2.out.free 0
      have f1 := HROW2.out.free 1
      have f2 := HROW2.out.free 2
      have f3 := HROW2.out.free 3
      clear hb2
      go_wp2_with fail
      exact ⟨⟨1, by omega, rfl, (((HROW2.out.set 0 _ rfl).set 1 _ rfl).set 2 _ rfl).set 3 _ rfl, below_setCell (below_setCell (below_setCell (below_setCell HB2.out _ _ _ (Nat.le_refl _)) _ _ _ (Nat.le_refl _)) _ _ _ (Nat.le_refl _)) _ _ _ (Nat.le_refl _)⟩, by simp [intOf]⟩
    · have c0 : wr.cell? ⟨g, 1, none⟩ = some (.iface 22 v) := (hb.cell (p := ⟨g, 1, none⟩) HG.out).trans C1.out
      clear hb hrow hk
      go_wp2_with fail
      refine (value_text b v wr (rest_keep HR.out HB.out)).mono ?_
      rintro e w2 ⟨rfl, hb2⟩
      have HROW2 := Lib.hid (HROW.out.keep hb2)
      have HB2 := Lib.hid (below_next HB.out hb2)
      have q0 := HROW2.out.cell (i := 4) rfl
      have q1 := HROW2.out.cell (i := 5) rfl
      have q2 := HROW2.out.cell (i := 6) rfl
      have q3 := HROW2.out.cell (i := 7) rfl
      have f0 := HROW2.out.free 4
      have f1 := HROW2.out.free 5
      have f2 := HROW2.out.free 6
      have f3 := HROW2.out.free 7
      clear hb2
      go_wp2_with fail
      exact ⟨⟨2, by omega, rfl, (((HROW2.out.set 4 _ rfl).set 5 _ rfl).set 6 _ rfl).set 7 _ rfl, below_setCell (below_setCell (below_setCell (below_setCell HB2.out _ _ _ (Nat.le_refl _)) _ _ _ (Nat.le_refl _)) _ _ _ (Nat.le_refl _)) _ _ _ (Nat.le_refl _)⟩, by simp [intOf]⟩
    · have HC := Lib.hid (Cod.encode_call (lst [a] b) _ wr (is_two HROW.out ha hl) (fun _ => by have := enc_two ha hl; omega))
      have HL := Lib.hid (enc_two ha hl)
      clear hb hrow hk
      go_wp2_with fail
      refine HC.out.mono ?_
      rintro e w2 ⟨v2, rfl, hb2, hbuf, -⟩
      rw [code_two] at hbuf ⊢
      obtain ⟨va2, vc2, rfl, hr2⟩ := buf_rest (hbuf rfl).1
      have HB2 := Lib.hid (below_next HB.out hb2)
      have HH := Lib.hid (Hash_call tag (Cod.enc (lst [a] b)) _ w2 ht (by have := HL.out; omega) hr2 (HT.out.keep HB2.out))
      have HDF : Hid (hsg tag [a] b = hsh (tagged tag.data.toList (Cod.enc (lst [a] b))) 8) := Lib.hid rfl
      obtain ⟨ln, hln⟩ : ∃ ln, ln = (Cod.enc (lst [a] b)).length := ⟨_, rfl⟩
      rw [← hln] at HH ⊢
      clear hb2 hbuf HC hr2 hln
      go_wp2_with fail
      refine HH.out.mono ?_
      rintro e w3 ⟨rfl, hb3⟩
      go_wp2_with fail
      go_ret
      exact ⟨ret_i64 HDF.out.symm, below_next HB2.out hb3⟩
def cs3 (a c : Int) (b : List UInt8) (k : Nat) : List Value := (if 0 < k then iA a else zA) ++ (if 1 < k then iA c else zA) ++ (if 2 < k then tA b else zA)
def Head3 (a c : Int) (b : List UInt8) (w : World) (s15 : Value) (wr : World) : Prop := ∃ k : Nat, k ≤ 3 ∧ s15 = .int .i64 (k : Int) ∧ Row wr w.heap.size 41 (cs3 a c b k) ∧ Below w.heap.size w wr
set_option maxHeartbeats 1000000 in
set_option maxRecDepth 100000 in
theorem hash_three (tag : ByteArray) (a c : Int) (b : List UInt8) (v : Value) (g : Nat) (w : World) (ht : tag.size ≤ 549755813888) (ha : I64 a) (hc : I64 c) (hl : b.length ≤ 600) (hr : Rest w.heap.size w b v) (hT : Tab w)
    (h0 : w.cell? ⟨g, 0, none⟩ = some (.iface 3 (.int .i64 a))) (h1 : w.cell? ⟨g, 1, none⟩ = some (.iface 3 (.int .i64 c))) (h2 : w.cell? ⟨g, 2, none⟩ = some (.iface 22 v)) :
    Calls Tryd.prog 20 #[.string tag, .slice (some ⟨g, 0, none⟩) 3 3] w fun e w' => e = .returned (.int .i64 (hsg tag [a, c] b)) ∧ Below w.heap.size w w' := by
  have hm := make3
  have HG := Lib.hid (block_lt_of_cell h0)
  have HR := Lib.hid hr
  have HT := Lib.hid hT
  have C0 := Lib.hid h0
  have C1 := Lib.hid h1
  have C2 := Lib.hid h2
  clear hr hT h0 h1 h2
  go_enter Tryd.func20, Tryd.ntmps20
  go_wp2_with fail
  go_loopw [15] (fun s15 wr => Head3 a c b w s15 wr) (fun s15 _ => 3 - (intOf s15).toNat)
  case atStart => exact ⟨0, by omega, rfl, row_new w _ _, Joins.below_alloc1 w _⟩
  case round =>
    obtain ⟨k, hk, rfl, hrow, hb⟩ := hrel
    have HROW := Lib.hid hrow
    have HB := Lib.hid hb
    obtain rfl | rfl | rfl | rfl : k = 0 ∨ k = 1 ∨ k = 2 ∨ k = 3 := by omega
    · have c0 : wr.cell? ⟨g, 0, none⟩ = some (.iface 3 (.int .i64 a)) := (hb.cell (p := ⟨g, 0, none⟩) HG.out).trans C0.out
      clear hb hrow hk
      go_wp2_with fail
      refine (value_int a wr).mono ?_
      rintro e w2 ⟨rfl, hb2⟩
      have HROW2 := Lib.hid (HROW.out.keep hb2)
      have HB2 := Lib.hid (below_next HB.out hb2)
      have q0 := HROW2.out.cell (i := 0) rfl
      have q1 := HROW2.out.cell (i := 1) rfl
      have q2 := HROW2.out.cell (i := 2) rfl
      have q3 := HROW2.out.cell (i := 3) rfl
      have f0 := HROW2.out.free 0
      have f1 := HROW2.out.free 1
      have f2 := HROW2.out.free 2
      have f3 := HROW2.out.free 3
      clear hb2
      go_wp2_with fail
      exact ⟨⟨1, by omega, rfl, (((HROW2.out.set 0 _ rfl).set 1 _ rfl).set 2 _ rfl).set 3 _ rfl, below_setCell (below_setCell (below_setCell (below_setCell HB2.out _ _ _ (Nat.le_refl _)) _ _ _ (Nat.le_refl _)) _ _ _ (Nat.le_refl _)) _ _ _ (Nat.le_refl _)⟩, by simp [intOf]⟩
    · have c0 : wr.cell? ⟨g, 1, none⟩ = some (.iface 3 (.int .i64 c)) := (hb.cell (p := ⟨g, 1, none⟩) HG.out).trans C1.out
      clear hb hrow hk
      go_wp2_with fail
      refine (value_int c wr).mono ?_
      rintro e w2 ⟨rfl, hb2⟩
      have HROW2 := Lib.hid (HROW.out.keep hb2)
      have HB2 := Lib.hid (below_next HB.out hb2)
      have q0 := HROW2.out.cell (i := 4) rfl
      have q1 := HROW2.out.cell (i := 5) rfl
      have q2 := HROW2.out.cell (i := 6) rfl
      have q3 := HROW2.out.cell (i := 7) rfl
      have f0 := HROW2.out.free 4
      have f1 := HROW2.out.free 5
      have f2 := HROW2.out.free 6
      have f3 := HROW2.out.free 7
      clear hb2
      go_wp2_with fail
      exact ⟨⟨2, by omega, rfl, (((HROW2.out.set 4 _ rfl).set 5 _ rfl).set 6 _ rfl).set 7 _ rfl, below_setCell (below_setCell (below_setCell (below_setCell HB2.out _ _ _ (Nat.le_refl _)) _ _ _ (Nat.le_refl _)) _ _ _ (Nat.le_refl _)) _ _ _ (Nat.le_refl _)⟩, by simp [intOf]⟩
    · have c0 : wr.cell? ⟨g, 2, none⟩ = some (.iface 22 v) := (hb.cell (p := ⟨g, 2, none⟩) HG.out).trans C2.out
      clear hb hrow hk
      go_wp2_with fail
      refine (value_text b v wr (rest_keep HR.out HB.out)).mono ?_
      rintro e w2 ⟨rfl, hb2⟩
      have HROW2 := Lib.hid (HROW.out.keep hb2)
      have HB2 := Lib.hid (below_next HB.out hb2)
      have q0 := HROW2.out.cell (i := 8) rfl
      have q1 := HROW2.out.cell (i := 9) rfl
      have q2 := HROW2.out.cell (i := 10) rfl
      have q3 := HROW2.out.cell (i := 11) rfl
      have f0 := HROW2.out.free 8
      have f1 := HROW2.out.free 9
      have f2 := HROW2.out.free 10
      have f3 := HROW2.out.free 11
      clear hb2
      go_wp2_with fail
      exact ⟨⟨3, by omega, rfl, (((HROW2.out.set 8 _ rfl).set 9 _ rfl).set 10 _ rfl).set 11 _ rfl, below_setCell (below_setCell (below_setCell (below_setCell HB2.out _ _ _ (Nat.le_refl _)) _ _ _ (Nat.le_refl _)) _ _ _ (Nat.le_refl _)) _ _ _ (Nat.le_refl _)⟩, by simp [intOf]⟩
    · have HC := Lib.hid (Cod.encode_call (lst [a, c] b) _ wr (is_three HROW.out ha hc hl) (fun _ => by have := enc_three ha hc hl; omega))
      have HL := Lib.hid (enc_three ha hc hl)
      clear hb hrow hk
      go_wp2_with fail
      refine HC.out.mono ?_
      rintro e w2 ⟨v2, rfl, hb2, hbuf, -⟩
      rw [code_three] at hbuf ⊢
      obtain ⟨va2, vc2, rfl, hr2⟩ := buf_rest (hbuf rfl).1
      have HB2 := Lib.hid (below_next HB.out hb2)
      have HH := Lib.hid (Hash_call tag (Cod.enc (lst [a, c] b)) _ w2 ht (by have := HL.out; omega) hr2 (HT.out.keep HB2.out))
      have HDF : Hid (hsg tag [a, c] b = hsh (tagged tag.data.toList (Cod.enc (lst [a, c] b))) 8) := Lib.hid rfl
      obtain ⟨ln, hln⟩ : ∃ ln, ln = (Cod.enc (lst [a, c] b)).length := ⟨_, rfl⟩
      rw [← hln] at HH ⊢
      clear hb2 hbuf HC hr2 hln
      go_wp2_with fail
      refine HH.out.mono ?_
      rintro e w3 ⟨rfl, hb3⟩
      go_wp2_with fail
      go_ret
      exact ⟨ret_i64 HDF.out.symm, below_next HB2.out hb3⟩
end Go.Proofs.YtbcfmpohempkpaaDoor.Dig

/- Signing: the program's function. -/
namespace Go.Proofs.YtbcfmpohempkpaaDoor.Dig
open Go.RowKit

def tagN : ByteArray := ⟨#[110, 111, 110, 99, 101]⟩
def tagS : ByteArray := ⟨#[115, 105, 103, 110]⟩
theorem hsg_rng (tag : ByteArray) (ns : List Int) (b : List UInt8) : 0 ≤ hsg tag ns b ∧ hsg tag ns b < 1073741789 := hsh_rng _ 8
/-- the nonce -/
def nonce (secret : Int) (b : List UInt8) : Int := if hsg tagN [secret] b = 0 then 1 else hsg tagN [secret] b
theorem nonce_rng (secret : Int) (b : List UInt8) : 1 ≤ nonce secret b ∧ nonce secret b < 1073741789 := by
  have := hsg_rng tagN [secret] b
  unfold nonce
  split <;> omega
def sgE (secret : Int) (b : List UInt8) : Int := hsg tagS [powQ 4 (nonce secret b), powQ 4 secret] b
def sgS (secret : Int) (b : List UInt8) : Int := (nonce secret b + sgE secret b * secret) % 1073741789
abbrev sgV (E S : Int) : Value := .agg #[.int .i64 E, .int .i64 S]
/-- what Sign returns -/
def signT (secret : Int) (b : List UInt8) : Value :=
  if 1 ≤ secret ∧ secret < 1073741789 then .tuple #[sgV (sgE secret b) (sgS secret b), .int .i64 0] else .tuple #[sgV 0 0, .int .i64 110]
theorem size24 : (Tryd.prog.info? 24).map (·.size) = some 2 := by kernel_rfl
theorem results_sig {fn : Func} {p q : Tmp} (h : fn.results = #[.cell p 24, .tmp q]) (tmps : Array Value) (w : World) (g : Nat) (cs : List Value) (hl : cs.length = 2)
    (hp : tmps.getD p undef = .pointer (some ⟨g, 0, none⟩)) (x : Value) (hx : tmps.getD q undef = x) (hg : Row w g 24 cs) :
    (results fn tmps).run Tryd.prog w = .ok (.tuple #[.agg cs.toArray, x]) w := by
  have hr : (loadVar 24 ⟨g, 0, none⟩).run Tryd.prog w = .ok (.agg cs.toArray) w := run_loadVar_row (P := Tryd.prog) w g 24 24 cs.toArray (0, 0) _ hg Tryd.underlying24 rfl (by rw [size24]; simp [hl])
  have hp' : tmps[p]?.getD undef = .pointer (some ⟨g, 0, none⟩) := by simpa using hp
  have hx' : tmps[q]?.getD undef = x := by simpa using hx
  simp [results, h, hp', hx', asAddr, hr]
theorem hash2_new (tag : ByteArray) (a : Int) (b : List UInt8) (v : Value) (g : Nat) (W : World) (hg : g = W.heap.size) (ht : tag.size ≤ 549755813888) (ha : I64 a) (hl : b.length ≤ 600) (hr : Rest W.heap.size W b v) (hT : Tab W) :
    Calls Tryd.prog 20 #[.string tag, .slice (some ⟨g, 0, none⟩) 2 2] (W.alloc (.cells #[.iface 3 (.int .i64 a), .iface 22 v] 20)) fun e w' => e = .returned (.int .i64 (hsg tag [a] b)) ∧ Below W.heap.size W w' := by
  have hb := Joins.below_alloc1 W (.cells #[.iface 3 (.int .i64 a), .iface 22 v] 20)
  have hrow := row_at (w := W) 20 [.iface 3 (.int .i64 a), .iface 22 v] g hg
  exact (hash_two tag a b v g _ ht ha hl (rest_keep hr hb) (hT.keep hb) (hrow.cell (i := 0) rfl) (hrow.cell (i := 1) rfl)).mono fun e w' ⟨h, k⟩ => ⟨h, below_next hb k⟩
theorem hash3_new (tag : ByteArray) (a c : Int) (b : List UInt8) (v : Value) (g : Nat) (W : World) (hg : g = W.heap.size) (ht : tag.size ≤ 549755813888) (ha : I64 a) (hc : I64 c) (hl : b.length ≤ 600) (hr : Rest W.heap.size W b v) (hT : Tab W) :
    Calls Tryd.prog 20 #[.string tag, .slice (some ⟨g, 0, none⟩) 3 3] (W.alloc (.cells #[.iface 3 (.int .i64 a), .iface 3 (.int .i64 c), .iface 22 v] 20)) fun e w' => e = .returned (.int .i64 (hsg tag [a, c] b)) ∧ Below W.heap.size W w' := by
  have hb := Joins.below_alloc1 W (.cells #[.iface 3 (.int .i64 a), .iface 3 (.int .i64 c), .iface 22 v] 20)
  have hrow := row_at (w := W) 20 [.iface 3 (.int .i64 a), .iface 3 (.int .i64 c), .iface 22 v] g hg
  exact (hash_three tag a c b v g _ ht ha hc hl (rest_keep hr hb) (hT.keep hb) (hrow.cell (i := 0) rfl) (hrow.cell (i := 1) rfl) (hrow.cell (i := 2) rfl)).mono fun e w' ⟨h, k⟩ => ⟨h, below_next hb k⟩
set_option maxHeartbeats 2000000 in
set_option maxRecDepth 100000 in
theorem sign_bad (secret : Int) (b : List UInt8) (v : Value) (w : World) (hs : I64 secret) (hn : ¬ (1 ≤ secret ∧ secret < 1073741789)) :
    Calls Tryd.prog 8 #[.int .i64 secret, v] w fun e w' => e = .returned (signT secret b) ∧ Below w.heap.size w w' := by
  unfold signT
  rw [if_neg hn]
  rcases Int.lt_or_le secret 1 with h | h
  · go_enter Tryd.func8, Tryd.ntmps8
    go_wp2_with fail
    exact bodyPost_ret (results_sig rfl _ _ w.heap.size _ rfl rfl _ rfl (heap_alloc_new w _)) rfl ⟨rfl, Joins.below_alloc1 _ _⟩
  · have HE := Lib.hid (fun W => isExponent_call secret W)
    rw [inE_not (by omega)] at HE
    have hk : (secret < 1) = False := by simp; omega
    go_enter Tryd.func8, Tryd.ntmps8
    go_wp2_with fail
    refine (HE.out _).mono ?_
    rintro e w1 ⟨rfl, rfl⟩
    go_wp2_with fail
    exact bodyPost_ret (results_sig rfl _ _ w.heap.size _ rfl rfl _ rfl (heap_alloc_new w _)) rfl ⟨rfl, Joins.below_alloc1 _ _⟩
set_option maxHeartbeats 2000000 in
set_option maxRecDepth 100000 in
theorem sign_ok (secret : Int) (b : List UInt8) (v : Value) (w : World) (hn : 1 ≤ secret ∧ secret < 1073741789) (hl : b.length ≤ 600) (hr : Rest w.heap.size w b v) (hT : Tab w) :
    Calls Tryd.prog 8 #[.int .i64 secret, v] w fun e w' => e = .returned (signT secret b) ∧ Below w.heap.size w w' := by
  unfold signT
  rw [if_pos hn]
  have HE := Lib.hid (fun W => isExponent_call secret W)
  rw [inE_of ⟨by omega, hn.2⟩] at HE
  have hk : ¬ secret < 1 := by omega
  have HR := Lib.hid hr
  have HT := Lib.hid hT
  have HX := Lib.hid (hsg_rng tagN [secret] b)
  have HK : Hid (nonce secret b = if hsg tagN [secret] b = 0 then 1 else hsg tagN [secret] b) := Lib.hid rfl
  have HKR := Lib.hid (nonce_rng secret b)
  have HER : Hid (0 ≤ sgE secret b ∧ sgE secret b < 1073741789) := Lib.hid (hsg_rng _ _ _)
  have HSR : Hid (sgS secret b = (nonce secret b + sgE secret b * secret) % 1073741789) := Lib.hid rfl
  have HB1 := Lib.hid (Joins.below_alloc1 w (.cells #[.int .i64 0, .int .i64 0] 24))
  have HR1 := Lib.hid (row_new w 24 [.int .i64 0, .int .i64 0])
  have HC1 := Lib.hid (hash2_new tagN secret b v (w.heap.size + 1) _ (by simp) (by decide) ⟨by omega, by omega⟩ hl (rest_keep HR.out HB1.out) (HT.out.keep HB1.out))
  have HC2 : Hid (∀ W g, g = W.heap.size → Below w.heap.size w W → Calls Tryd.prog 20 #[.string tagS, .slice (some ⟨g, 0, none⟩) 3 3] (W.alloc (.cells #[.iface 3 (.int .i64 (powQ 4 (nonce secret b))), .iface 3 (.int .i64 (powQ 4 secret)), .iface 22 v] 20)) fun e w' => e = .returned (.int .i64 (sgE secret b)) ∧ Below W.heap.size W w') :=
    Lib.hid (fun W g hg hW => hash3_new tagS _ _ b v g W hg (by decide) (powQ_rng _ _).i64 (powQ_rng _ _).i64 hl (rest_keep HR.out hW) (HT.out.keep hW))
  have HP1 : Hid (∀ W, Calls Tryd.prog 21 #[.int .i64 4, .int .i64 (nonce secret b)] W fun e w' => e = .returned (.int .i64 (powQ 4 (nonce secret b))) ∧ Below W.heap.size W w') := Lib.hid (fun W => pow_call 4 _ W valid_4 ⟨by have := HKR.out; omega, by have := HKR.out; omega⟩)
  have HP2 : Hid (∀ W, Calls Tryd.prog 21 #[.int .i64 4, .int .i64 secret] W fun e w' => e = .returned (.int .i64 (powQ 4 secret)) ∧ Below W.heap.size W w') := Lib.hid (fun W => pow_call 4 _ W valid_4 ⟨by omega, by omega⟩)
  obtain ⟨x, hx⟩ : ∃ x, x = hsg tagN [secret] b := ⟨_, rfl⟩
  rw [← hx] at HC1 HX HK
  clear hx
  obtain ⟨k, hkn⟩ : ∃ k, k = nonce secret b := ⟨_, rfl⟩
  rw [← hkn] at HK HKR HSR HC2 HP1
  have hmx : max x 1 = k := by have := HX.out; rw [HK.out]; split <;> omega
  obtain ⟨E, hEn⟩ : ∃ E, E = sgE secret b := ⟨_, rfl⟩
  rw [← hEn] at HER HSR HC2 ⊢
  obtain ⟨S, hSn⟩ : ∃ S, S = sgS secret b := ⟨_, rfl⟩
  rw [← hSn] at HSR ⊢
  obtain ⟨p, hp⟩ : ∃ p, p = powQ 4 k := ⟨_, rfl⟩
  rw [← hp] at HP1 HC2
  obtain ⟨y, hy⟩ : ∃ y, y = powQ 4 secret := ⟨_, rfl⟩
  rw [← hy] at HP2 HC2
  have HN0 : Hid (0 ≤ E * secret ∧ E * secret < 1152921504606846976) := Lib.hid (by
    obtain ⟨e1, e2⟩ := HER.out
    refine ⟨Int.mul_nonneg e1 (by omega), ?_⟩
    have h1 := Int.mul_le_mul_of_nonneg_right (show E ≤ 1073741788 by omega) (show 0 ≤ secret by omega)
    omega)
  have HPL := Lib.hid (fun W => plus_call k (E * secret) W ⟨by have := HKR.out; omega, HKR.out.2⟩ HN0.out)
  rw [← HSR.out] at HPL
  have hw : wrap64 (E * secret) = E * secret := by have := HN0.out; unfold wrap64; omega
  clear hr hT hkn hEn hSn hp hy
  go_enter Tryd.func8, Tryd.ntmps8
  go_wp2_with fail
  refine (HE.out _).mono ?_
  rintro e w1 ⟨rfl, rfl⟩
  go_wp2_with fail
  refine HC1.out.mono ?_
  rintro e w2 ⟨rfl, hb2⟩
  have HB2 := Lib.hid (below_next HB1.out hb2)
  have HR2 := Lib.hid (HR1.out.keep hb2)
  clear hb2 HC1
  go_wp2_with fail
  refine (HP1.out _).mono ?_
  rintro e w3 ⟨rfl, hb3⟩
  have HB3 := Lib.hid (below_next HB2.out hb3)
  have HR3 := Lib.hid (HR2.out.keep hb3)
  clear hb3 HP1
  go_wp2_with fail
  refine (HP2.out _).mono ?_
  rintro e w4 ⟨rfl, hb4⟩
  have HB4 := Lib.hid (below_next HB3.out hb4)
  have HR4 := Lib.hid (HR3.out.keep hb4)
  clear hb4 HP2
  go_wp2_with fail
  refine (HC2.out _ _ rfl HB4.out).mono ?_
  rintro e w5 ⟨rfl, hb5⟩
  have HB5 := Lib.hid (below_next HB4.out hb5)
  have HR5 := Lib.hid (HR4.out.keep hb5)
  have c0 := HR5.out.cell (i := 0) rfl
  have c1 := HR5.out.cell (i := 1) rfl
  have f0 := HR5.out.free 0
  have f1 := HR5.out.free 1
  clear hb5 HC2
  go_wp2_with fail
  refine (HPL.out _).mono ?_
  rintro e w6 ⟨rfl, rfl⟩
  go_wp2_with fail
  exact bodyPost_ret (results_sig rfl _ _ w.heap.size [.int .i64 E, .int .i64 S] rfl rfl _ rfl ((((HR5.out.set 0 _ rfl).set 1 _ rfl).set 0 _ rfl).set 1 _ rfl)) rfl
    ⟨rfl, below_setCell (below_setCell (below_setCell (below_setCell HB5.out _ _ _ (Nat.le_refl _)) _ _ _ (Nat.le_refl _)) _ _ _ (Nat.le_refl _)) _ _ _ (Nat.le_refl _)⟩
theorem Sign_call (secret : Int) (b : List UInt8) (v : Value) (w : World) (hs : I64 secret) (hl : b.length ≤ 600) (hr : Rest w.heap.size w b v) (hT : Tab w) :
    Calls Tryd.prog 8 #[.int .i64 secret, v] w fun e w' => e = .returned (signT secret b) ∧ Below w.heap.size w w' := by
  by_cases hn : 1 ≤ secret ∧ secret < 1073741789
  · exact sign_ok secret b v w hn hl hr hT
  · exact sign_bad secret b v w hs hn
end Go.Proofs.YtbcfmpohempkpaaDoor.Dig

/- Whether a signature is right: the program's function. -/
namespace Go.Proofs.YtbcfmpohempkpaaDoor.Dig
open Go.RowKit

/-- whether a signature is right -/
def verR (key : Int) (b : List UInt8) (E S : Int) : Bool := valid key && (inE E && (inE S && (E == hsg tagS [pt key E S, key] b)))
set_option maxHeartbeats 2000000 in
set_option maxRecDepth 100000 in
theorem Verify_bad (key : Int) (b : List UInt8) (v : Value) (E S : Int) (w : World) (hk : I64 key) (hn : (valid key && (inE E && inE S)) = false) :
    Calls Tryd.prog 10 #[.int .i64 key, v, sgV E S] w fun e w' => e = .returned (.bool (verR key b E S)) ∧ Below w.heap.size w w' := by
  have HV : Hid (verR key b E S = false) := Lib.hid (by
    unfold verR
    revert hn
    cases valid key <;> cases inE E <;> cases inE S <;> simp)
  rw [HV.out]
  have HVC := Lib.hid (fun W => Valid_call key W hk)
  have HE1 := Lib.hid (fun W => isExponent_call E W)
  have HE2 := Lib.hid (fun W => isExponent_call S W)
  obtain ⟨c1, hc1⟩ : ∃ c, c = valid key := ⟨_, rfl⟩
  obtain ⟨c2, hc2⟩ : ∃ c, c = inE E := ⟨_, rfl⟩
  obtain ⟨c3, hc3⟩ : ∃ c, c = inE S := ⟨_, rfl⟩
  rw [← hc1] at HVC hn
  rw [← hc2] at HE1 hn
  rw [← hc3] at HE2 hn
  clear hc1 hc2 hc3 HV
  rcases c1 with _ | _
  · clear hn
    go_enter Tryd.func10, Tryd.ntmps10
    go_wp2_with fail
    refine (HVC.out _).mono ?_
    rintro e w1 ⟨rfl, rfl⟩
    go_wp2_with fail
    go_ret
    exact ⟨rfl, Joins.below_alloc1 _ _⟩
  · rcases c2 with _ | _
    · clear hn
      go_enter Tryd.func10, Tryd.ntmps10
      go_wp2_with fail
      refine (HVC.out _).mono ?_
      rintro e w1 ⟨rfl, rfl⟩
      go_wp2_with fail
      refine (HE1.out _).mono ?_
      rintro e w1 ⟨rfl, rfl⟩
      go_wp2_with fail
      go_ret
      exact ⟨rfl, Joins.below_alloc1 _ _⟩
    · rcases c3 with _ | _
      · clear hn
        go_enter Tryd.func10, Tryd.ntmps10
        go_wp2_with fail
        refine (HVC.out _).mono ?_
        rintro e w1 ⟨rfl, rfl⟩
        go_wp2_with fail
        refine (HE1.out _).mono ?_
        rintro e w1 ⟨rfl, rfl⟩
        go_wp2_with fail
        refine (HE2.out _).mono ?_
        rintro e w2 ⟨rfl, rfl⟩
        go_wp2_with fail
        go_ret
        exact ⟨rfl, Joins.below_alloc1 _ _⟩
      · cases hn
set_option maxHeartbeats 2000000 in
set_option maxRecDepth 100000 in
theorem Verify_ok (key : Int) (b : List UInt8) (v : Value) (E S : Int) (w : World) (hv : valid key = true) (hE : inE E = true) (hS : inE S = true) (hl : b.length ≤ 600) (hr : Rest w.heap.size w b v) (hT : Tab w) :
    Calls Tryd.prog 10 #[.int .i64 key, v, sgV E S] w fun e w' => e = .returned (.bool (verR key b E S)) ∧ Below w.heap.size w w' := by
  have HV : Hid (verR key b E S = (E == hsg tagS [pt key E S, key] b)) := Lib.hid (by unfold verR; rw [hv, hE, hS]; simp)
  rw [HV.out]
  have HVC := Lib.hid (fun W => Valid_call key W (valid_rp hv).i64)
  have HE1 := Lib.hid (fun W => isExponent_call E W)
  have HE2 := Lib.hid (fun W => isExponent_call S W)
  have HR := Lib.hid hr
  have HT := Lib.hid hT
  have HPT := Lib.hid (fun W => point_call key E S W hv (inE_rng hE) (inE_rng hS))
  have HH : Hid (∀ W g, g = W.heap.size → Below w.heap.size w W → Calls Tryd.prog 20 #[.string tagS, .slice (some ⟨g, 0, none⟩) 3 3] (W.alloc (.cells #[.iface 3 (.int .i64 (pt key E S)), .iface 3 (.int .i64 key), .iface 22 v] 20)) fun e w' => e = .returned (.int .i64 (hsg tagS [pt key E S, key] b)) ∧ Below W.heap.size W w') :=
    Lib.hid (fun W g hg hW => hash3_new tagS _ _ b v g W hg (by decide) (pt_rng _ _ _).i64 (valid_rp hv).i64 hl (rest_keep HR.out hW) (HT.out.keep hW))
  rw [hv] at HVC
  rw [hE] at HE1
  rw [hS] at HE2
  obtain ⟨p, hp⟩ : ∃ p, p = pt key E S := ⟨_, rfl⟩
  rw [← hp] at HPT HH ⊢
  obtain ⟨h, hh⟩ : ∃ h, h = hsg tagS [p, key] b := ⟨_, rfl⟩
  rw [← hh] at HH ⊢
  clear hr hT hp hh hv hE hS HV
  go_enter Tryd.func10, Tryd.ntmps10
  go_wp2_with fail
  refine (HVC.out _).mono ?_
  rintro e w1 ⟨rfl, rfl⟩
  go_wp2_with fail
  refine (HE1.out _).mono ?_
  rintro e w1 ⟨rfl, rfl⟩
  go_wp2_with fail
  refine (HE2.out _).mono ?_
  rintro e w2 ⟨rfl, rfl⟩
  go_wp2_with fail
  generalize hW0 : w.alloc (.cells #[.int .i64 E, .int .i64 S] 24) = W0
  have HB0 : Hid (Below w.heap.size w W0) := Lib.hid (by rw [← hW0]; exact Joins.below_alloc1 _ _)
  have R0 : Row W0 w.heap.size 24 [.int .i64 E, .int .i64 S] := by rw [← hW0]; exact row_new w _ _
  have c0 : ∀ W, Below W0.heap.size W0 W → W.cell? ⟨w.heap.size, 0, none⟩ = some (.int .i64 E) := fun W hW => (R0.keep hW).cell (i := 0) rfl
  have c1 : ∀ W, Below W0.heap.size W0 W → W.cell? ⟨w.heap.size, 1, none⟩ = some (.int .i64 S) := fun W hW => (R0.keep hW).cell (i := 1) rfl
  clear R0 hW0
  go_region_held3 (fun W => Below W0.heap.size W0 W) (first | assumption | exact below_drew (Below.refl _ _) | exact below_next (by assumption) (Joins.below_alloc1 _ _)) (first
    | (go_at_call 31; refine (HPT.out _).mono ?_; rintro e w4 ⟨rfl, hb4⟩; have hB4 : Below W0.heap.size W0 w4 := below_next (by assumption) hb4)
    | (go_at_call 20; refine (HH.out _ _ (by rfl) (below_next HB0.out (by assumption))).mono ?_; rintro e w5 ⟨rfl, hb5⟩; have hB5 : Below W0.heap.size W0 w5 := below_next (by assumption) hb5))
  all_goals
    go_wp2_with fail
    go_ret
    exact ⟨rfl, below_next HB0.out (by assumption)⟩
theorem Verify_call (key : Int) (b : List UInt8) (v : Value) (E S : Int) (w : World) (hk : I64 key) (hl : b.length ≤ 600) (hr : Rest w.heap.size w b v) (hT : Tab w) :
    Calls Tryd.prog 10 #[.int .i64 key, v, sgV E S] w fun e w' => e = .returned (.bool (verR key b E S)) ∧ Below w.heap.size w w' := by
  by_cases hn : (valid key && (inE E && inE S)) = false
  · exact Verify_bad key b v E S w hk hn
  · have h1 : (valid key && (inE E && inE S)) = true := by simpa using hn
    rw [Bool.and_eq_true, Bool.and_eq_true] at h1
    exact Verify_ok key b v E S w h1.1 h1.2.1 h1.2.2 hl hr hT
end Go.Proofs.YtbcfmpohempkpaaDoor.Dig
