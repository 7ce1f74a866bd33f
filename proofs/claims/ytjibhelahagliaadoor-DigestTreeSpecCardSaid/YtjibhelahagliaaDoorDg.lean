/- The list of digests that bytes determine: the laws' function. -/
import Derived.Test.YtjibhelahagliaaDoorZ
import Derived.Test.YtjibhelahagliaaDoorTa
import Derived.LoopNIn
namespace Go.Proofs.YtjibhelahagliaaDoor
open Go.RowKit

def dg1 (bs : List UInt8) (i : Nat) : List UInt8 := (bs.getD i 0 % 4) :: UInt8.ofNat (i / 8) :: [0, 0, 0, 0, 0, 0, 0, 0, 0, 0, 0, 0, 0, 0, 0, 0, 0, 0, 0, 0, 0, 0, 0, 0, 0, 0, 0, 0, 0, 0]
def dgs (bs : List UInt8) : List (List UInt8) := (List.range (min bs.length 24)).map (dg1 bs)
theorem dg1_len (bs : List UInt8) (i : Nat) : (dg1 bs i).length = 32 := by simp [dg1]
theorem dgs_len (bs : List UInt8) : (dgs bs).length = min bs.length 24 := by simp [dgs]
theorem dgs_digs (bs : List UInt8) : Digs (dgs bs) := fun d hd => by
  simp only [dgs, List.mem_map] at hd
  obtain ⟨i, _, rfl⟩ := hd
  exact dg1_len bs i
theorem dgs_succ (bs : List UInt8) (i : Nat) (hi : i < min bs.length 24) : (dgs bs).take (i + 1) = (dgs bs).take i ++ [dg1 bs i] := by
  have hl : i < (dgs bs).length := by rw [dgs_len]; exact hi
  rw [List.take_succ_eq_append_getElem hl]
  simp [dgs]

theorem wpList_build_one {ops : Array Oper} {rest : List Oper} {o : Oper} {a : Act} {w : World} {Q : Exit → Act → World → Prop} (hgd : o.guard = none) (x : Operand) (ho : o.op = .buildSlice 30 1 #[(0, x)])
    (d : List UInt8) (hd : d.length = 32) (hx : a.eval x = dg d)
    (h : wpList Tryd.prog ops Q rest (a.put o.dst (.slice (some ⟨w.heap.size, 0, none⟩) 1 1)) (w.alloc (.cells (cellsOf d).toArray 26))) : wpList Tryd.prog ops Q (o :: rest) a w :=
  wpList_plain hgd fun _ hK => wp_build_one x ho d hd hx (hK _ _ h)
theorem wpList_append_dig {ops : Array Oper} {rest : List Oper} {o : Oper} {a : Act} {w : World} {Q : Exit → Act → World → Prop} (hgd : o.guard = none) (s x : Operand) (ho : o.op = .call { callee := .builtin .append, args := #[s, x], argTypes := #[30, 30] })
    (v : Value) (xs : List (List UInt8)) (hs : a.eval s = v) (hb : DBuf w v xs) (g : Nat) (d : List UInt8) (hd : d.length = 32) (hx : a.eval x = .slice (some ⟨g, 0, none⟩) 1 1) (hr : Row w g 26 (cellsOf d)) (hlen : xs.length ≤ 1099511627776)
    (h : ∀ v' w', DBuf w' v' (xs ++ [d]) → Wrote w w' v v' → wpList Tryd.prog ops Q rest (a.put o.dst v') w') : wpList Tryd.prog ops Q (o :: rest) a w :=
  wpList_plain hgd fun _ hK => wp_append_dig hgd s x ho v xs hs hb g d hd hx hr hlen fun v' w' h1 h2 => hK _ _ (h v' w' h1 h2)

theorem dg1_agg (bs : List UInt8) (i : Nat) (hi : i < 24) (x : UInt8) (hx : x = bs.getD i 0) : Value.agg #[.int .u8 ((x.toNat : Int) % 4), .int .u8 ((i : Int) / 8), .int .u8 0, .int .u8 0, .int .u8 0, .int .u8 0, .int .u8 0, .int .u8 0, .int .u8 0, .int .u8 0, .int .u8 0, .int .u8 0, .int .u8 0, .int .u8 0, .int .u8 0, .int .u8 0, .int .u8 0, .int .u8 0, .int .u8 0, .int .u8 0, .int .u8 0, .int .u8 0, .int .u8 0, .int .u8 0, .int .u8 0, .int .u8 0, .int .u8 0, .int .u8 0, .int .u8 0, .int .u8 0, .int .u8 0, .int .u8 0] = dg (dg1 bs i) := by
  have h2 : ((UInt8.ofNat (i / 8)).toNat : Int) = (i : Int) / 8 := by
    rw [UInt8.toNat_ofNat']; omega
  have h1 : ((x % 4).toNat : Int) = (x.toNat : Int) % 4 := by simp
  subst hx
  unfold dg dg1 cellsOf
  simp only [List.map_cons, List.map_nil, h1, h2]
  rfl

def DgHead (w : World) (bs : List UInt8) (s3 s4 : Value) (wr : World) : Prop := ∃ i : Nat, i ≤ min bs.length 24 ∧ s4 = .int .i64 (i : Int) ∧ DNew w wr s3 ((dgs bs).take i)
theorem DNew.shape {w0 w : World} {v : Value} {xs : List (List UInt8)} (h : DNew w0 w v xs) : ∃ a c, v = .slice a xs.length c := by
  obtain ⟨_, a, c, h1, _⟩ := dbuf_rest h.1; exact ⟨a, c, h1⟩

set_option maxHeartbeats 1000000 in
set_option maxRecDepth 100000 in
theorem digestsOf_call (bs : List UInt8) (v : Value) (w : World) (hr : Rest w.heap.size w bs v) : Calls Tryd.prog 16 #[v] w (RetL w (dgs bs)) := by
  have HR := Lib.hid hr
  obtain ⟨a, cap, rfl⟩ : ∃ a cap, v = .slice a bs.length cap := by obtain ⟨a, cap, h, _⟩ := hr; exact ⟨a, cap, h⟩
  clear hr
  go_enter Tryd.func16, Tryd.ntmps16
  go_wp2_with fail
  have HN0 := Lib.hid (dnew_none w)
  go_loopw [3, 4] (fun s3 s4 wr => DgHead w bs s3 s4 wr) (fun _ s4 _ => 24 - (intOf s4).toNat)
  case atStart => exact ⟨0, by omega, by go_num, by rw [List.take_zero]; exact HN0.out⟩
  case round =>
    obtain ⟨i, hi, rfl, hnew⟩ := hrel
    by_cases hlt : i < min bs.length 24
    · have c1 : (i : Int) < (bs.length : Int) := by omega
      have c2 : (i : Int) < 24 := by omega
      obtain ⟨b, off, hcell⟩ : ∃ b off, a = some ⟨b, off, none⟩ ∧ wr.cell? ⟨b, off + i, none⟩ = some (.int .u8 ((bs.getD i 0).toNat : Int)) := by
        obtain ⟨a2, cap2, he, _, _, _, hc⟩ := HR.out
        injection he with he1
        subst he1
        rcases hc with h0 | ⟨b, off, rfl, hb, hc⟩
        · omega
        · exact ⟨b, off, rfl, by rw [hnew.2.1.cell (p := ⟨b, off + i, none⟩) hb, hc i (by omega)]; simp [show i < bs.length by omega]⟩
      obtain ⟨rfl, hcell⟩ := hcell
      obtain ⟨a3, c3, rfl⟩ := hnew.shape
      obtain ⟨m, hm⟩ : ∃ m, m = ((dgs bs).take i).length := ⟨_, rfl⟩
      rw [← hm]
      have HN := Lib.hid hnew
      rw [← hm] at HN
      clear hnew
      obtain ⟨x, hx⟩ : ∃ x, x = bs.getD i 0 := ⟨_, rfl⟩
      rw [← hx] at hcell
      have hlen : ((dgs bs).take i).length = i := by rw [List.length_take, dgs_len]; omega
      have hi0 : (0 : Int) ≤ (i : Int) := by omega
      have HX := Lib.hid hx
      have HLT := Lib.hid hlt
      clear hx hlt
      have HAG := Lib.hid (dg1_agg bs i (by omega) x HX.out)
      have HA : Hid (DNew w (wr.alloc (.cells (cellsOf (dg1 bs i)).toArray 26)) (.slice a3 m c3) ((dgs bs).take i)) := HN.out.keep (Joins.below_alloc1 wr _)
      have HRB : Hid (Row (wr.alloc (.cells (cellsOf (dg1 bs i)).toArray 26)) wr.heap.size 26 (cellsOf (dg1 bs i))) := row_new wr 26 _
      have HLN := Lib.hid (show ((dgs bs).take i).length ≤ 1099511627776 by rw [hlen]; omega)
      clear hlen hm
      go_wp2_with (first
        | (refine wpList_build_one rfl (.tmp 25) rfl (dg1 bs i) (dg1_len _ _) HAG.out ?_)
        | (refine wpList_append_dig rfl (.tmp 16) (.tmp 26) rfl (.slice a3 m c3) ((dgs bs).take i) rfl HA.out.1 wr.heap.size (dg1 bs i) (dg1_len _ _) rfl HRB.out HLN.out ?_))
      intro v4 w4 hb4 hw4
      have HN4 := Lib.hid (HA.out.app hb4 hw4)
      clear hb4 hw4
      go_wp2_with fail
      go_roundw
      case rel => exact ⟨i + 1, by have := HLT.out; omega, by go_num, by rw [dgs_succ bs i HLT.out]; exact HN4.out⟩
      case measure => have := HLT.out; simp [intOf]; omega
    · obtain rfl : i = min bs.length 24 := by omega
      obtain ⟨n, hn⟩ : ∃ n, n = min bs.length 24 := ⟨_, rfl⟩
      rw [List.take_of_length_le (by rw [dgs_len]; exact Nat.le_refl _)] at hnew
      obtain ⟨a3, c3, rfl⟩ := hnew.shape
      obtain ⟨m, hm⟩ : ∃ m, m = (dgs bs).length := ⟨_, rfl⟩
      rw [← hm]
      have HE := Lib.hid hnew
      rw [← hm] at HE
      clear hm
      rw [← hn]
      clear hnew hlt hi
      by_cases h24 : bs.length ≤ n
      · have c1 : ¬ ((n : Int) < (bs.length : Int)) := by omega
        clear hn
        go_wp2_with fail
        go_ret
        exact ⟨_, rfl, HE.out⟩
      · have c1 : (n : Int) < (bs.length : Int) := by omega
        have c2 : ¬ ((n : Int) < 24) := by omega
        clear hn
        go_wp2_with fail
        go_ret
        exact ⟨_, rfl, HE.out⟩
end Go.Proofs.YtjibhelahagliaaDoor
