/- The examples that every statement checks first: what the program's functions return for them. -/
import Derived.Test.YtgliddedimpgaaaT
import Derived.Test.YtgliddedimpgaaaK
import Derived.Test.YtgliddedimpgaaaN
namespace Go.Proofs.Ytgliddedimpgaaa
open Go.RowKit

theorem is_int (w : World) (n : Int) (hn : -9223372036854775808 ≤ n ∧ n ≤ 9223372036854775807) : Is w (.mk 1 n ⟨#[]⟩ []) (val 1 n ⟨#[]⟩ none 0 0) := (sure_int (fun _ => True) w n hn).is
theorem is_text (w : World) (s : ByteArray) (hs : s.size ≤ maxLen) : Is w (.mk 2 0 s []) (val 2 0 s none 0 0) := (sure_text (fun _ => True) w s hs).is
theorem is_zero (w : World) (k : Int) (hk : -9223372036854775808 ≤ k ∧ k ≤ 9223372036854775807) : Is w (.mk k 0 ⟨#[]⟩ []) (val k 0 ⟨#[]⟩ none 0 0) :=
  .mk k 0 ⟨#[]⟩ [] none 0 (fun _ => 0) (fun _ => 0) (fun _ => ⟨#[]⟩) (fun _ => none) (fun _ => 0) (fun _ => 0) hk (by omega) (Nat.zero_le _) (by simp) (.inl rfl) (fun i h => by simp at h)

/-- string(b) of a buffer -/
theorem conv_buf {w : World} {v : Value} {xs : List UInt8} (h : Buf w v xs) : (convert 27 9 v).run Try.prog w = .ok (.string ⟨xs.toArray⟩) w := by
  rcases h.2 with ⟨rfl, h0⟩ | ⟨g, cap, cur, rfl, _, hg, hnc, hcm, hcs, htake⟩
  · obtain rfl : xs = [] := List.eq_nil_of_length_eq_zero h0
    rw [run_convert_bytes_string w 27 9 5 none 0 0 Try.underlying27 Try.underlying5 Try.underlying9]
    simp [Conv.bytesToString]
    rfl
  · refine run_convert_bytes_back w 27 9 5 ⟨g, 0, none⟩ cap xs Try.underlying27 Try.underlying5 Try.underlying9 (fun j hj => ?_)
    have hc := World.ownsRow.cells h (g := g) rfl j (.int .u8 (xs[j].toNat : Int)) (by simp [cellsOf, hj])
    exact hc

theorem buf_rest {w : World} {v : Value} {xs : List UInt8} (h : Buf w v xs) : ∃ (a : Option Addr) (cap : Nat), v = .slice a xs.length cap ∧ Rest w.heap.size w xs (.slice a xs.length cap) := by
  rcases h.2 with ⟨rfl, h0⟩ | ⟨g, cap, cur, rfl, _, hg, hnc, hcm, hcs, htake⟩
  · exact ⟨none, 0, by rw [h0], none, 0, rfl, by omega, by simp [maxLen], fun _ => ⟨h0, rfl⟩, .inl h0⟩
  · refine ⟨some ⟨g, 0, none⟩, cap, rfl, some ⟨g, 0, none⟩, cap, rfl, hnc, hcm, (fun h => by cases h), .inr ⟨g, 0, rfl, (Array.getElem?_eq_some_iff.1 hg).1, fun i hi => ?_⟩⟩
    have hc := World.ownsRow.cells h (g := g) rfl i (.int .u8 (xs[i].toNat : Int)) (by simp [cellsOf, hi])
    rw [Addr.add_lit] at hc
    exact hc

theorem cells4_kept {w w' : World} {a b c d : Value} {T : TypeId} (h : Below (w.alloc (.cells #[a, b, c, d] T)).heap.size (w.alloc (.cells #[a, b, c, d] T)) w') :
    w'.cell? ⟨w.heap.size, 0, none⟩ = some a ∧ w'.cell? ⟨w.heap.size, 1, none⟩ = some b ∧ w'.cell? ⟨w.heap.size, 2, none⟩ = some c ∧ w'.cell? ⟨w.heap.size, 3, none⟩ = some d := by
  have hb : w'.heap[w.heap.size]? = some (.cells #[a, b, c, d] T) := (h.block w.heap.size (by simp)).trans (heap_alloc_new w _)
  exact ⟨by rw [Joins.cell_of_block hb]; rfl, by rw [Joins.cell_of_block hb]; rfl, by rw [Joins.cell_of_block hb]; rfl, by rw [Joins.cell_of_block hb]; rfl⟩

/-- the list of two values in one new block -/
def pair : V := .mk 3 0 ⟨#[]⟩ [.mk 1 100 ⟨#[]⟩ [], .mk 2 0 ⟨#[97, 98]⟩ []]
def pairCells : Obj := .cells #[.int .i64 1, .int .i64 100, .string ⟨#[]⟩, .slice none 0 0, .int .i64 2, .int .i64 0, .string ⟨#[97, 98]⟩, .slice none 0 0] 24
theorem is_pair {w : World} {g : Nat} (h : w.heap[g]? = some pairCells) : Is w pair (val 3 0 ⟨#[]⟩ (some ⟨g, 0, none⟩) 2 2) := by
  have hlt : g < w.heap.size := (Array.getElem?_eq_some_iff.1 h).1
  refine .mk 3 0 ⟨#[]⟩ [.mk 1 100 ⟨#[]⟩ [], .mk 2 0 ⟨#[97, 98]⟩ []] (some ⟨g, 0, none⟩) 2 (fun i => if i = 0 then 1 else 2) (fun i => if i = 0 then 100 else 0) (fun i => if i = 0 then ⟨#[]⟩ else ⟨#[97, 98]⟩) (fun _ => none) (fun _ => 0) (fun _ => 0)
    (by omega) (by omega) (Nat.zero_le _) (by simp) (.inr ⟨g, 0, rfl, hlt, fun i hi => ?_⟩) (fun i hi => ?_)
  · match i, hi with
    | 0, _ => exact ⟨by rw [Joins.cell_of_block h]; rfl, by rw [Joins.cell_of_block h]; rfl, by rw [Joins.cell_of_block h]; rfl, by rw [Joins.cell_of_block h]; rfl⟩
    | 1, _ => exact ⟨by rw [Joins.cell_of_block h]; rfl, by rw [Joins.cell_of_block h]; rfl, by rw [Joins.cell_of_block h]; rfl, by rw [Joins.cell_of_block h]; rfl⟩
  · match i, hi with
    | 0, _ => exact is_int w 100 (by omega)
    | 1, _ => exact is_text w ⟨#[97, 98]⟩ (by show (2 : Nat) ≤ maxLen; simp [maxLen])

theorem enc_m3 : enc (.mk 1 (-3) ⟨#[]⟩ []) = [1, 5] := by rw [enc_1, show uns (-3) = 5 from rfl, digits_lo 5 (by omega)]; rfl
theorem digits_200 : digits 200 = [200, 1] := by rw [digits_hi 200 (by omega), digits_lo (200 / 128) (by omega)]; rfl
theorem enc_pair : enc pair = [3, 2, 1, 200, 1, 2, 2, 97, 98] := by
  rw [pair, enc_3, encL, encL, encL, enc_1, enc_2, show uns 100 = 200 from rfl, digits_200, digits_lo _ (show ([V.mk 1 100 ⟨#[]⟩ [], V.mk 2 0 ⟨#[97, 98]⟩ []] : List V).length < 128 by simp), digits_lo _ (show (⟨#[97, 98]⟩ : ByteArray).size < 128 from (show 2 < 128 by omega))]
  rfl
theorem code_m3 : code (.mk 1 (-3) ⟨#[]⟩ []) = 0 := by decide +kernel
theorem code_pair : code pair = 0 := by decide +kernel
theorem code_none : code (.mk 0 0 ⟨#[]⟩ []) = 1 := by decide +kernel
theorem decode_pair : decode [3, 2, 1, 200, 1, 2, 2, 97, 98] = some pair := by rfl
theorem decode_bad0 : decode [] = none := by rfl
theorem decode_bad1 : decode [1, 128, 0] = none := by rfl
theorem decode_bad2 : decode [1, 5, 0] = none := by rfl
theorem decode_bad3 : decode [2, 3, 97] = none := by rfl

/-- four texts that are no encodings -/
def badStr (i : Nat) : ByteArray := if i = 0 then ⟨#[]⟩ else if i = 1 then ⟨#[1, 128, 0]⟩ else if i = 2 then ⟨#[1, 5, 0]⟩ else ⟨#[2, 3, 97]⟩
abbrev badBlock : Obj := .cells #[.string ⟨#[]⟩, .string ⟨#[1, 128, 0]⟩, .string ⟨#[1, 5, 0]⟩, .string ⟨#[2, 3, 97]⟩] 9
def BadHead (w : World) (s79 : Value) (wr : World) : Prop := ∃ i : Nat, i ≤ 4 ∧ s79 = .int .i64 (i : Int) ∧ Below (w.alloc badBlock).heap.size (w.alloc badBlock) wr
theorem bad_cell {w wr : World} {i : Nat} (h : Below (w.alloc badBlock).heap.size (w.alloc badBlock) wr) (hi : i < 4) : wr.cell? ⟨w.heap.size, i, none⟩ = some (.string (badStr i)) := by
  have hb : wr.heap[w.heap.size]? = some badBlock := (h.block w.heap.size (by simp)).trans (heap_alloc_new w _)
  rw [Joins.cell_of_block hb]
  match i, hi with
  | 0, _ => rfl
  | 1, _ => rfl
  | 2, _ => rfl
  | 3, _ => rfl
theorem bad_decode {i : Nat} (hi : i < 4) : decode (badStr i).data.toList = none := by
  match i, hi with
  | 0, _ => rfl
  | 1, _ => rfl
  | 2, _ => rfl
  | 3, _ => rfl
theorem bad_len {i : Nat} (hi : i < 4) : (badStr i).data.toList.length ≤ 1099511627776 := by
  match i, hi with
  | 0, _ => simp [badStr]
  | 1, _ => simp [badStr]
  | 2, _ => simp [badStr]
  | 3, _ => simp [badStr]

theorem bad_size {i : Nat} (hi : i < 4) : (badStr i).size ≤ maxLen := by
  have h := bad_len hi
  rw [Array.length_toList] at h
  have e : (badStr i).data.size = (badStr i).size := rfl
  simp only [maxLen]; omega

/-- '[]byte(s)' -/
theorem conv_str (W : World) (s : ByteArray) (hs : s.size ≤ maxLen) : ∃ (cap : Nat) (W' : World), (convert 9 27 (.string s)).run Try.prog W = .ok (.slice (some ⟨W.heap.size, 0, none⟩) s.data.toList.length cap) W' ∧ Below W.heap.size W W' ∧
    Rest W'.heap.size W' s.data.toList (.slice (some ⟨W.heap.size, 0, none⟩) s.data.toList.length cap) := by
  have hl : s.data.toList.length = s.size := by rw [Array.length_toList]; rfl
  have hr := run_bytes_of_string (P := Try.prog) W 9 27 5 s Try.underlying9 Try.underlying27 Try.underlying5
  refine ⟨_, _, by rw [hl]; exact hr, ((Below.refl _ _).drew).alloc (Nat.le_refl _) _, some ⟨W.heap.size, 0, none⟩, _, rfl, by rw [hl]; exact grownCap_ge W s.size 0 5, grownCap_le_maxLen W s.size 0 5 hs, (fun h => by cases h), ?_⟩
  refine .inr ⟨W.heap.size, 0, rfl, by simp, fun i hi => ?_⟩
  rw [show (0 + i) = i by omega]
  have hb : ∀ (C : Array Value) (fr : Nat × Nat), (W.drew.alloc (.cells C 5 fr)).cell? ⟨W.heap.size, i, none⟩ = C[i]? := fun C fr => World.cell?_alloc_mark W.drew C 5 fr i
  rw [hb]
  have hi2 : i < s.data.size := by simpa using hi
  rw [bytesRow, Array.getElem?_append_left (by simpa using hi2)]
  simp
  exact ⟨_, Array.getElem?_eq_getElem hi2, rfl⟩

set_option maxHeartbeats 4000000 in
set_option maxRecDepth 100000 in
theorem sane_call (w : World) : Calls Try.prog 10 #[] w fun e w' => e = .returned (.bool true) ∧ Below w.heap.size w w' := by
  go_enter Try.func10, Try.ntmps10
  go_wp2_with fail
  refine (int_call (-3) _).mono ?_
  rintro e w1 ⟨rfl, hb1⟩
  go_wp2_with fail
  refine (encode_call (.mk 1 (-3) ⟨#[]⟩ []) _ _ (is_int w1 (-3) (by omega)) (fun _ => by rw [enc_m3]; simp)).mono ?_
  rintro e w2 ⟨va, he, hb2, hA, _⟩
  rw [code_m3] at he hA
  subst he
  have HA := Lib.hid (hA rfl).1
  rw [enc_m3] at HA
  have HB2 := Lib.hid (below_next hb1 hb2)
  clear hA hb1 hb2
  go_wp2_with fail
  refine (int_call 100 _).mono ?_
  rintro e w3 ⟨rfl, hb3⟩
  go_wp2_with fail
  refine (text_call ⟨#[97, 98]⟩ _).mono ?_
  rintro e w4 ⟨rfl, hb4⟩
  have HB4 := Lib.hid (below_next (below_next (Below.refl _ w2) hb3) hb4)
  clear hb3 hb4
  go_wp2_with fail
  refine (list_call (some ⟨w4.heap.size, 0, none⟩) 2 2 _).mono ?_
  rintro e w5 ⟨rfl, hb5⟩
  have HP5 : Hid (w5.heap[w4.heap.size]? = some pairCells) := (hb5.block w4.heap.size (by simp)).trans (heap_alloc_new w4 _)
  have HB5 := Lib.hid (below_next (HB4.out.alloc HB4.out.size pairCells) hb5)
  clear hb5
  go_wp2_with fail
  have HP6 : Hid ((w5.alloc (.cells #[.int .i64 3, .int .i64 0, .string ⟨#[]⟩, .slice (some ⟨w4.heap.size, 0, none⟩) 2 2] 24)).heap[w4.heap.size]? = some pairCells) :=
    (Below.heap_alloc w5 _ w4.heap.size ((Array.getElem?_eq_some_iff.1 HP5.out).1)).trans HP5.out
  refine (encode_call pair _ _ (is_pair HP6.out) (fun _ => by rw [enc_pair]; simp)).mono ?_
  rintro e w6 ⟨vb, he, hb6, hB, _⟩
  rw [code_pair] at he hB
  subst he
  have hBb := (hB rfl).1
  rw [enc_pair] at hBb
  obtain ⟨ab, cb, rfl, hRb⟩ := buf_rest hBb
  have HBb := Lib.hid hBb
  have HR := Lib.hid hRb
  have HB6 := Lib.hid hb6
  clear hB hBb hRb hb6
  go_wp2_with fail
  refine (decode_call [3, 2, 1, 200, 1, 2, 2, 97, 98] ab cb _ HR.out (by simp)).mono ?_
  rintro e w7 hq
  rw [decode_pair] at hq
  obtain ⟨pk, pn, ps, pa, pl, pc, rfl, hs7, hb7⟩ := hq
  have HS7 := Lib.hid hs7.is
  have HB7 := Lib.hid hb7
  clear hs7 hb7
  have HB67 := Lib.hid (below_next HB6.out HB7.out)
  obtain ⟨t0, t1, t2, t3⟩ := cells4_kept HB67.out
  have l57 : w5.heap.size < w7.heap.size := by have := HB67.out.size; simp at this; omega
  have HB8 := Lib.hid (HB67.out.alloc HB67.out.size (.cells #[.int .i64 pk, .int .i64 pn, .string ps, .slice pa pl pc] 24))
  have HP8 : Hid ((w7.alloc (.cells #[.int .i64 pk, .int .i64 pn, .string ps, .slice pa pl pc] 24)).heap[w4.heap.size]? = some pairCells) :=
    (HB8.out.block w4.heap.size ((Array.getElem?_eq_some_iff.1 HP6.out).1)).trans HP6.out
  go_wp2_with fail
  refine (Size_call pair _ _ (is_pair HP8.out) (fun _ => by rw [enc_pair]; simp)).mono ?_
  rintro e w9 ⟨he, hb9⟩
  rw [code_pair, show sizeOfV pair = 9 by rw [sizeOfV, if_pos code_pair, enc_pair]; rfl] at he
  subst he
  have HB9 := Lib.hid (below_next HB8.out hb9)
  have HQ9 := Lib.hid hb9
  clear hb9 t0 t1 t2 t3
  obtain ⟨t0, t1, t2, t3⟩ := cells4_kept HB9.out
  obtain ⟨q0, q1, q2, q3⟩ := cells4_kept HQ9.out
  have HP9 : Hid (w9.heap[w4.heap.size]? = some pairCells) := (HB9.out.block w4.heap.size ((Array.getElem?_eq_some_iff.1 HP6.out).1)).trans HP6.out
  have HB29 : Hid (Below w2.heap.size w2 w9) := below_next (HB5.out.alloc HB5.out.size _) HB9.out
  have cva := conv_buf (buf_stays HA.out HB29.out)
  have HBb9 := Lib.hid (buf_stays HBb.out (below_next (HB7.out.alloc HB7.out.size _) HQ9.out))
  have cvb : (convert 27 9 (.slice ab 9 cb)).run Try.prog w9 = .ok (.string ⟨#[3, 2, 1, 200, 1, 2, 2, 97, 98]⟩) w9 := conv_buf HBb9.out
  go_wp2_with fail
  refine (same_call pair pair _ _ _ true (is_pair HP9.out) (Is.stays HS7.out (below_next (Joins.below_alloc1 w7 _) HQ9.out)) ⟨fun _ => rfl, fun _ => rfl⟩).mono ?_
  rintro e w10 ⟨rfl, hb10⟩
  have HB10 := Lib.hid (HB2.out.trans ((below_next HB29.out hb10).mono HB2.out.size))
  clear hb10 t0 t1 t2 t3 q0 q1 q2 q3 cva cvb
  go_wp2_with fail
  refine (text_call ⟨#[]⟩ _).mono ?_
  rintro e w11 ⟨rfl, hb11⟩
  go_wp2_with fail
  refine (list_call none 0 0 _).mono ?_
  rintro e w12 ⟨rfl, hb12⟩
  have HB12 := Lib.hid (below_next (below_next HB10.out hb11) hb12)
  clear hb11 hb12
  go_wp2_with fail
  refine (same_call (.mk 2 0 ⟨#[]⟩ []) (.mk 3 0 ⟨#[]⟩ []) _ _ _ false (is_zero w12 2 (by omega)) (is_zero w12 3 (by omega)) ⟨fun h => by (cases h), fun h => by (injection h with h; cases h)⟩).mono ?_
  rintro e w13 ⟨rfl, hb13⟩
  have HB13 := Lib.hid (below_next HB12.out hb13)
  clear hb13
  go_wp2_with fail
  go_loopw [79] (fun s79 wr => BadHead w13 s79 wr) (fun s79 _ => 4 - (intOf s79).toNat)
  case atStart => exact ⟨0, by omega, rfl, Below.refl _ _⟩
  case round =>
    obtain ⟨i, hi, rfl, hbr⟩ := hrel
    have hg13 : w13.heap.size < wr.heap.size := by have := hbr.size; simp [badBlock] at this; omega
    rcases Nat.lt_or_ge i 4 with hlt | hge
    · have hcell := bad_cell hbr hlt
      obtain ⟨cap, w14, hcv, hb14, hR14⟩ := conv_str wr (badStr i) (bad_size hlt)
      have HD := Lib.hid (bad_decode hlt)
      have HL := Lib.hid (bad_len hlt)
      have HR14 := Lib.hid hR14
      have HBR := Lib.hid hbr
      have HB14 := Lib.hid hb14
      clear hR14 hbr hb14
      go_wp2_with fail
      refine (decode_call (badStr i).data.toList (some ⟨wr.heap.size, 0, none⟩) cap _ HR14.out HL.out).mono ?_
      rintro e w15 hq
      rw [HD.out] at hq
      obtain ⟨rfl, hb15⟩ := hq
      have HB15 := Lib.hid (below_next (below_next HBR.out HB14.out) hb15)
      clear hb15
      go_wp2_with fail
      go_roundw
      case rel => exact ⟨i + 1, by omega, by simp, HB15.out.alloc HB15.out.size _⟩
      case measure => simp [intOf]; omega
    · obtain rfl : i = 4 := by omega
      have HBR := Lib.hid hbr
      clear hbr
      go_wp2_with fail
      refine (check_call (.mk 0 0 ⟨#[]⟩ []) _ _ (is_zero wr 0 (by omega))).mono ?_
      rintro e w16 ⟨he, hb16⟩
      rw [code_none] at he
      subst he
      go_wp2_with fail
      go_ret
      exact ⟨rfl, HB13.out.trans (((Joins.below_alloc1 w13 _).trans ((below_next HBR.out hb16).mono (by simp))).mono HB13.out.size)⟩
end Go.Proofs.Ytgliddedimpgaaa
