/- The history of a disk. -/
import Derived.Test.YtlaaolbdadempaaHj
namespace Go.Proofs.Ytlaaolbdadempaa
open Go.RowKit
def HiLoop (w : World) (g5 g8 g9 g10 n : Nat) (s11 s12 s13 : Value) (wr : World) : Prop := ∃ i d last first second waiting room, i ≤ n ∧ s12 = .int .i64 room ∧ s13 = .int .i64 ((i : Nat) : Int) ∧ room ≤ 255 ∧ waiting.length ≤ i ∧ HiX w g5 g8 g9 g10 d last first second waiting room s11 wr
def sD4 : Dsk := ⟨List.replicate 4 zeros, [], -1, false⟩
theorem wpList_load_a4 {ops : Array Oper} {rest : List Oper} {o : Oper} {a : Act} {w : World} {Q : Exit → Act → World → Prop} (hgd : o.guard = none) (x : Operand) (ho : o.op = .load 44 x)
    (g : Nat) (cs : List Value) (hl : cs.length = 4) (hx : a.eval x = .pointer (some ⟨g, 0, none⟩)) (hg : Row w g 44 cs)
    (h : wpList Try.prog ops Q rest (a.put o.dst (.agg cs.toArray)) w) : wpList Try.prog ops Q (o :: rest) a w :=
  wpList_load_row hgd 44 x ho g hx 44 cs.toArray (0, 0) _ hg Try.underlying44 rfl (by rw [size44]; simp [hl]) h
def HiIn (w : World) (g5 g8 g9 g10 : Nat) (d : Dsk) (last first second : List UInt8) (waiting : List Act3) (R : Nat) (x : Dsk) (g17 : Nat) (tw : Value) (s20 : Value) (wx : World) : Prop :=
  ∃ k : Nat, k ≤ waiting.length ∧ k ≤ R + 1 ∧ s20 = .int .i64 ((k : Nat) : Int) ∧ HiM w g5 g8 g9 g10 d last (bytesAt (waiting.take k) first) (bytesAt (waiting.take (min k R)) second) waiting tw wx ∧ OBox (HiS g5 g8 g9 g10 tw) wx g17 x
theorem wcell_at {w : World} {B tc : Nat} {ta : Option Addr} {l : List Act3} (h : w.ownsRow B 46 3 (.slice ta l.length tc) l.length (wcells l)) {k : Nat} {a : Act3} (hk : l[k]? = some a) :
    ∃ gw, ta = some ⟨gw, 0, none⟩ ∧ w.cell? ⟨gw, k * 3 + 1, none⟩ = some (.int .u8 (a.at'.toNat : Int)) ∧ w.cell? ⟨gw, k * 3 + 2, none⟩ = some (.int .u8 (a.byte.toNat : Int)) := by
  have hlt := (List.getElem?_eq_some_iff.1 hk).1
  obtain ⟨_, h1, h2⟩ := wcells_get hk
  have hsh : ∃ gw, ta = some ⟨gw, 0, none⟩ := by
    rcases h.2 with ⟨_, h0⟩ | ⟨g, cap, cur, he, _⟩
    · omega
    · exact ⟨g, by injection he⟩
  obtain ⟨gw, rfl⟩ := hsh
  have e : ∀ j, (⟨gw, j, none⟩ : Addr) = (⟨gw, 0, none⟩ : Addr).add j := fun j => by rw [Addr.add_lit, Nat.zero_add]
  exact ⟨gw, rfl, by rw [e]; exact h.cells rfl _ _ h1, by rw [e]; exact h.cells rfl _ _ h2⟩
theorem four_of {l : List UInt8} (h : l.length = 4) : ∃ a b c d, l = [a, b, c, d] := by
  match l, h with
  | [a, b, c, d], _ => exact ⟨a, b, c, d, rfl⟩
theorem new4 : newD 4 = (sD4, 0) := by kernel_rfl
theorem runs4 : runsB sD4 = true := by kernel_rfl
theorem stop4 (L : Nat) (hL : L ≤ 255) : stopD sD4 (L : Int) = (⟨List.replicate 4 zeros, [], (L : Int), false⟩, 0) := by
  unfold stopD
  rw [if_pos runs4, if_neg (by omega)]; rfl

set_option maxHeartbeats 8000000 in
set_option maxRecDepth 100000 in
theorem history_walk (xs : List Act3) (av : Value) (L : Nat) (hL : L ≤ 255) (w : World) (ha : ARest w.heap.size w xs av) :
    Calls Try.prog 6 #[av, .int .u8 (L : Int)] w fun e w' => e = .returned (.bool true) ∧ Below w.heap.size w w' := by
  have HAV := Lib.hid ha
  obtain ⟨aa, ac, rfl, ha1, ha2⟩ := ha.shape
  clear ha
  obtain ⟨ns, hns⟩ : ∃ n, n = xs.length := ⟨_, rfl⟩
  have HNS := Lib.hid hns
  rw [← hns] at HAV ha2 ⊢
  clear hns
  have HB := Lib.hid (Below.refl w.heap.size w)
  have hL0 : (0 : Int) ≤ (L : Int) := by omega
  have hL1 : (L : Int) ≤ 255 := by omega
  go_enter Try.func6, Try.ntmps6
  go_wp2_with fail
  refine (sane_call _).mono ?_
  rintro e wS ⟨rfl, hb⟩
  replace HB := Lib.hid (below_next HB.out hb)
  clear hb
  by_cases hlen : (40 : Int) < (ns : Int)
  · go_wp2_with fail
    go_ret
    exact ⟨rfl, HB.out⟩
  go_wp2_with fail
  refine (new_law 4 new4).mono ?_
  rintro e w5 ⟨s5, p5, l5, b5, rfl, hd, hb⟩
  replace HB := Lib.hid (below_next HB.out hb)
  have HD5 := Lib.hid hd
  clear hd hb
  unfold dv at *
  have hge5 := HB.out.size
  go_wp2_with (first
    | (refine wpList_store_ags rfl _ _ _ rfl w5.heap.size [s5, p5, .int .i64 l5, .bool b5] _ size25 (by rfl) rfl rfl (row_new w5 25 _) (one_all HD5.out) (Joins.below_alloc1 w5 _) (Nat.le_refl _) ?_; intro v5 hr hb _; replace HB := Lib.hid (below_next HB.out hb); have HX5 := Lib.hid (Box.new HD5.out hr hb); clear hr hb)
    | (refine wpList_load_dsk rfl _ rfl _ _ (by rfl) rfl HX5.out.row ?_))
  refine (stops_call (fun b => b < w5.heap.size) sD4 _ (L : Int) v5 HX5.out.rest).mono ?_
  intro e w7 hA
  obtain ⟨s7, p7, l7, b7, rfl, hd, hb⟩ := hA.newS (stop4 L hL)
  have HX57 := Lib.hid (HX5.out.keep hb)
  have hlt5 := HX5.out.lt
  have HB7 := Lib.hid (below_next HB.out hb)
  have HD7 := Lib.hid hd
  have hs7 := hb.size
  clear hA hd hb
  unfold dv at *
  go_wp2_with (refine wpList_store_ags rfl _ _ _ rfl w5.heap.size [s7, p7, .int .i64 l7, .bool b7] _ size25 (by rfl) rfl rfl HX57.out.row (one_all HD7.out.rest) HB7.out (by omega) ?_; intro v7 hr hb hf; have HR7 := Lib.hid hr; have HB8 := Lib.hid hb; have HF7 := Lib.hid hf; clear hr hb hf)
  go_wp2_with fail
  have hlt7 := HR7.out.lt
  obtain ⟨W1, hW1⟩ : ∃ W1, W1 = (((v7.alloc (.cells #[.int .u8 0, .int .u8 0, .int .u8 0, .int .u8 0] 44)).alloc (.cells #[.int .u8 0, .int .u8 0, .int .u8 0, .int .u8 0] 44)).alloc (.cells #[.int .u8 0, .int .u8 0, .int .u8 0, .int .u8 0] 44)).alloc (.cells #[] 46) := ⟨_, rfl⟩
  have HSTART : Hid (HiX w w5.heap.size v7.heap.size (v7.heap.size + 1) (v7.heap.size + 1 + 1) ⟨List.replicate 4 zeros, [], (L : Int), false⟩ [0, 0, 0, 0] [0, 0, 0, 0] [0, 0, 0, 0] [] (L : Int) (.slice (some ⟨v7.heap.size + 1 + 1 + 1, 0, none⟩) 0 0) W1) := Lib.hid (by
    have b1 := Joins.below_alloc1 v7 (.cells #[.int .u8 0, .int .u8 0, .int .u8 0, .int .u8 0] 44)
    have b2 := Joins.below_alloc1 (v7.alloc (.cells #[.int .u8 0, .int .u8 0, .int .u8 0, .int .u8 0] 44)) (.cells #[.int .u8 0, .int .u8 0, .int .u8 0, .int .u8 0] 44)
    have b3 := Joins.below_alloc1 ((v7.alloc (.cells #[.int .u8 0, .int .u8 0, .int .u8 0, .int .u8 0] 44)).alloc (.cells #[.int .u8 0, .int .u8 0, .int .u8 0, .int .u8 0] 44)) (.cells #[.int .u8 0, .int .u8 0, .int .u8 0, .int .u8 0] 44)
    have b4 := Joins.below_alloc1 (((v7.alloc (.cells #[.int .u8 0, .int .u8 0, .int .u8 0, .int .u8 0] 44)).alloc (.cells #[.int .u8 0, .int .u8 0, .int .u8 0, .int .u8 0] 44)).alloc (.cells #[.int .u8 0, .int .u8 0, .int .u8 0, .int .u8 0] 44)) (.cells #[] 46)
    have ball : Below v7.heap.size v7 W1 := by rw [hW1]; exact below_next (below_next (below_next b1 b2) b3) b4
    have hn0 : (HB8.out).size = (HB8.out).size := rfl
    have hge := HB8.out.size
    refine ⟨.start L hL, ⟨s7, p7, l7, b7, HR7.out.keep ball, ?_⟩, ?_, ?_, ?_, ?_, below_next HB8.out ball, ⟨hge5, by omega, by omega, by omega⟩, ⟨by omega, by omega, by omega, by omega, by omega, by omega⟩⟩
    · have h1 := (HD7.out.keep (.far w5.heap.size (fun h => by rcases h with h | h <;> omega) HF7.out)).weak (S' := Cut (fun b => b ≠ w5.heap.size) v7.heap.size) (fun b h h2 => ⟨by rcases h with h | h; exact Nat.ne_of_lt h; omega, h2⟩)
      exact (h1.keep (fun b hb _ => ball.block b hb.2)).weak (fun b hb _ => ⟨hb.1, by have := hb.2; omega, by have := hb.2; omega, by have := hb.2; omega, fun e => by have h2 := hb.2; have e2 : b = v7.heap.size + 1 + 1 + 1 := Option.some.inj e; omega⟩)
    · rw [hW1]; exact (((row_new v7 44 (cellsOf [0, 0, 0, 0])).keep b2).keep b3).keep b4
    · have h := ((row_new (v7.alloc (.cells #[.int .u8 0, .int .u8 0, .int .u8 0, .int .u8 0] 44)) 44 (cellsOf [0, 0, 0, 0])).keep b3).keep b4
      rw [World.size_alloc] at h; rw [hW1]; exact h
    · have h := (row_new ((v7.alloc (.cells #[.int .u8 0, .int .u8 0, .int .u8 0, .int .u8 0] 44)).alloc (.cells #[.int .u8 0, .int .u8 0, .int .u8 0, .int .u8 0] 44)) 44 (cellsOf [0, 0, 0, 0])).keep b4
      rw [World.size_alloc, World.size_alloc] at h; rw [hW1]; exact h
    · have h := World.ownsRow_made (base := w.heap.size) (e := 46) (size := 3) (((v7.alloc (.cells #[.int .u8 0, .int .u8 0, .int .u8 0, .int .u8 0] 44)).alloc (.cells #[.int .u8 0, .int .u8 0, .int .u8 0, .int .u8 0] 44)).alloc (.cells #[.int .u8 0, .int .u8 0, .int .u8 0, .int .u8 0] 44)) #[] 0 (by simp; omega) (by unfold maxLen; omega) rfl
      rw [World.size_alloc, World.size_alloc, World.size_alloc] at h; rw [hW1]; exact h)
  rw [← hW1]
  clear hW1
  go_loopw [11, 12, 13] (fun s11 s12 s13 wr => HiLoop w w5.heap.size v7.heap.size (v7.heap.size + 1) (v7.heap.size + 1 + 1) ns s11 s12 s13 wr) (fun _ _ s13 _ => ns - (intOf s13).toNat)
  case atStart => exact ⟨0, _, _, _, _, _, _, Nat.zero_le _, rfl, rfl, hL1, Nat.zero_le _, HSTART.out⟩
  case round =>
    obtain ⟨i, d, last, first, second, waiting, room, hi, rfl, rfl, hroom, hwl, hx⟩ := hrel
    have HX := Lib.hid hx
    have hroom0 := hx.hist.room0
    clear hx
    obtain ⟨ta, tc, htw, htc1, htc2⟩ := own_shape HX.out.own
    subst htw
    rcases Nat.lt_or_ge i ns with hlt | hge
    · skip
      obtain ⟨y, hy⟩ : ∃ y, xs[i]? = some y := ⟨_, List.getElem?_eq_getElem (by have := HNS.out; omega)⟩
      obtain ⟨ab, aoff, rfl, hab, hac⟩ := HAV.out.at hy
      obtain ⟨a0, a1, a2⟩ := hac wr HX.out.below
      have hin : (i : Int) < (ns : Int) := by omega
      have hi0 : (0 : Int) ≤ (i : Int) := by omega
      have hm4 : y.at'.toNat % 4 < 4 := Nat.mod_lt _ (by omega)
      have hmod : ((y.at'.toNat : Int)).tmod 4 = ((y.at'.toNat % 4 : Nat) : Int) := rfl
      have hA0 : (0 : Int) ≤ (y.at'.toNat : Int) := by omega
      have hA1 : (y.at'.toNat : Int) < 256 := by have := y.at'.toNat_lt; omega
      generalize hA : y.at'.toNat = A at a1 hmod hA0 hA1 hm4
      have HA := Lib.hid hA
      generalize hK : A % 4 = K at hmod hm4
      have HK := Lib.hid hK
      have hK0 : (0 : Int) ≤ (K : Int) := by omega
      have hK4 : (K : Int) < 4 := by omega
      have hKw : IntKind.u8.wrap ((K : Nat) : Int) = ((K : Nat) : Int) := IntWalk.u8_in _ (by omega)
      generalize hBy : (y.byte.toNat : Int) = BY at a2
      have HBY := Lib.hid hBy
      have hKw2 : IntKind.i64.wrap ((K : Nat) : Int) = ((K : Nat) : Int) := IntWalk.i64_in _ (by omega)
      clear hA hK hBy hy hac
      obtain ⟨sy, hsy⟩ : ∃ b, b = y.sync := ⟨_, rfl⟩
      rw [← hsy] at a0
      have HSY := Lib.hid hsy
      clear hsy
      obtain ⟨W2, hW2⟩ : ∃ W2, W2 = wr.alloc (.cells #[.bool sy, .int .u8 (A : Int), .int .u8 BY] 46) := ⟨_, rfl⟩
      have hb2 : Below wr.heap.size wr W2 := by rw [hW2]; exact Joins.below_alloc1 wr _
      have hr2 : Row W2 wr.heap.size 46 [.bool sy, .int .u8 (A : Int), .int .u8 BY] := by rw [hW2]; exact row_new wr 46 _
      have HX2 := Lib.hid (HX.out.keep hb2)
      have HR2 := Lib.hid hr2
      have HW2 := Lib.hid hW2
      have hlt2 := hr2.lt
      clear hb2 hr2 hW2
      go_upto_region 16 with (fail)
      rw [← HW2.out]
      have m0 := HR2.out.cell (i := 0) rfl
      have m1 := HR2.out.cell (i := 1) rfl
      have m2 := HR2.out.cell (i := 2) rfl
      clear a0 a1 a2
      obtain ⟨s5, p5, l5, b5, hr5, hd5⟩ := HX2.out.box
      obtain ⟨⟨sa5, sn5, sc5, rfl⟩, ⟨pa5, pn5, pc5, rfl⟩⟩ := slices_of hd5.rest
      have HR5 := Lib.hid hr5
      have HD5 := Lib.hid hd5
      have hlt5b := hr5.lt
      clear hr5 hd5
      cases sy
      case false =>
        obtain ⟨hwr, hhist⟩ := HX2.out.hist.write (by omega) y
        have HWRD : Hid (writeD d ((K : Nat) : Int) (dbl y.byte) = (written d ((K : Nat) : Int) (dbl y.byte), 0)) := Lib.hid (by rw [← HK.out, ← HA.out]; exact hwr)
        have HHIST := Lib.hid hhist
        clear hwr hhist
        go_upto_region 17 with (fail)
        go_cut [15, 16] (fun s10 s11 wx => WrBox W2 (HiS w5.heap.size v7.heap.size (v7.heap.size + 1) (v7.heap.size + 1 + 1) (.slice ta waiting.length tc)) (written d ((K : Nat) : Int) (dbl y.byte)) s10 s11 wx)
        case first =>
          have c0 : ∀ W, Below W2.heap.size W2 W → W.cell? ⟨w5.heap.size, 0, none⟩ = some (.slice sa5 sn5 sc5) := fun W hW => HR5.out.later hW (i := 0) rfl
          have c1 : ∀ W, Below W2.heap.size W2 W → W.cell? ⟨w5.heap.size, 1, none⟩ = some (.slice pa5 pn5 pc5) := fun W hW => HR5.out.later hW (i := 1) rfl
          have c2 : ∀ W, Below W2.heap.size W2 W → W.cell? ⟨w5.heap.size, 2, none⟩ = some (.int .i64 l5) := fun W hW => HR5.out.later hW (i := 2) rfl
          have c3 : ∀ W, Below W2.heap.size W2 W → W.cell? ⟨w5.heap.size, 3, none⟩ = some (.bool b5) := fun W hW => HR5.out.later hW (i := 3) rfl
          have c4 : ∀ W, Below W2.heap.size W2 W → W.cell? ⟨wr.heap.size, 1, none⟩ = some (.int .u8 (A : Int)) := fun W hW => HR2.out.later hW (i := 1) rfl
          have c5 : ∀ W, Below W2.heap.size W2 W → W.cell? ⟨wr.heap.size, 2, none⟩ = some (.int .u8 BY) := fun W hW => HR2.out.later hW (i := 2) rfl
          clear m0 m1 m2
          have HDB : Hid (∀ W, Calls Try.prog 34 #[.int .u8 BY] W fun e w' => ∃ g, e = .returned (.slice (some ⟨g, 0, none⟩) 128 128) ∧ W.heap.size ≤ g ∧ Row w' g 5 (cellsOf (dbl y.byte)) ∧ Below W.heap.size W w') := Lib.hid (fun W => by rw [← HBY.out]; exact double_call y.byte W)
          have HWR : Hid (∀ W gz, Below W2.heap.size W2 W → Row W gz 5 (cellsOf (dbl y.byte)) → Calls Try.prog 26 #[.agg #[.slice sa5 sn5 sc5, .slice pa5 pn5 pc5, .int .i64 l5, .bool b5], .int .i64 ((K : Nat) : Int), .slice (some ⟨gz, 0, none⟩) 128 128] W (NewDS (Cut (HiS w5.heap.size v7.heap.size (v7.heap.size + 1) (v7.heap.size + 1 + 1) (.slice ta waiting.length tc)) W2.heap.size) W (written d ((K : Nat) : Int) (dbl y.byte)) 0)) :=
            Lib.hid (fun W gz hW hr => write_lawS (HD5.out.later hW) ((K : Nat) : Int) (row_rest hr (n := 128) (dbl_len _) (by omega)) HWRD.out)
          go_region_held3 (fun W => Below W2.heap.size W2 W) (first | assumption | exact below_drew (Below.refl _ _) | exact below_drew (Joins.below_alloc1 _ _) | exact below_drew (below_two _ _ _) | exact below_next (by assumption) (Joins.below_alloc1 _ _) | exact below_next (by assumption) (by assumption) | exact below4 (by assumption) _ _ _ _ _ (by omega)) (first
            | (go_at_call 34; refine (HDB.out _).mono ?_; rintro e wA ⟨gA, rfl, hgA, hrA, hbA⟩; have hBA : Below W2.heap.size W2 wA := below_next (by assumption) hbA; have hsB := hBA.size; (first | (have hsZ : W2.heap.size < wA.heap.size := (by have h9 := (below_undrew hbA).size; rw [World.size_alloc] at h9; exact h9)) | skip); (first | (have hbxA : Row wA W2.heap.size 25 [.slice none 0 0, .slice none 0 0, .int .i64 0, .bool false] := (row_new W2 25 [.slice none 0 0, .slice none 0 0, .int .i64 0, .bool false]).keep (below_undrew hbA)) | skip))
            | (go_at_call 26; refine (HWR.out _ _ (by assumption) (by first | with_reducible exact hrA | with_reducible exact hrA.keep (Joins.below_alloc1 _ _))).mono ?_; rintro e w4 ⟨s4, p4, l4, b4, rfl, hd4, hb4⟩; obtain ⟨⟨sa4, sn4, sc4, rfl⟩, ⟨pa4, pn4, pc4, rfl⟩⟩ := slices_of hd4.rest; unfold dv; have hB4 : Below W2.heap.size W2 w4 := below_next (by assumption) hb4; (first | (have hbx := hbxA.keep hb4; have q0 := hbx.cell (i := 0) rfl; have k0 := hbx.free 0; have q1 := hbx.cell (i := 1) rfl; have k1 := hbx.free 1; have q2 := hbx.cell (i := 2) rfl; have k2 := hbx.free 2; have q3 := hbx.cell (i := 3) rfl; have k3 := hbx.free 3) | (have hbx := (row_new wA 25 [.slice none 0 0, .slice none 0 0, .int .i64 0, .bool false]).keep hb4; have q0 := hbx.cell (i := 0) rfl; have k0 := hbx.free 0; have q1 := hbx.cell (i := 1) rfl; have k1 := hbx.free 1; have q2 := hbx.cell (i := 2) rfl; have k2 := hbx.free 2; have q3 := hbx.cell (i := 3) rfl; have k3 := hbx.free 3) | skip)))
          all_goals
            go_wp2_with fail
            go_meet
            case rel =>
              first
                | with_reducible exact wrbox_new hd4 HX2.out.fresh (by first | omega | (simp <;> omega)) hB4
                | with_reducible exact wrbox_old hd4 HX2.out.fresh hB4 hbx (by omega) (by first | omega | (simp <;> omega))
        case rest =>
          obtain ⟨g15, rfl, rfl, hg15, ho15, hb15⟩ := hcut
          have HM3 := Lib.hid (HX2.out.mem.keep hb15)
          have HR23 := Lib.hid (HR2.out.keep hb15)
          obtain ⟨s15, p15, l15, b15, hr15, hd15⟩ := ho15
          obtain ⟨⟨sa15, sn15, sc15, rfl⟩, ⟨pa15, pn15, pc15, rfl⟩⟩ := slices_of hd15.rest
          have HR15 := Lib.hid hr15
          have HD15 := Lib.hid hd15
          obtain ⟨q0, q1, q2, q3, hr53, _⟩ := HM3.out.box
          have HR53 := Lib.hid hr53
          obtain ⟨xl, hxl⟩ : ∃ x, last[K]? = some x := ⟨_, List.getElem?_eq_getElem (by rw [HX2.out.hist.last.1]; exact hm4)⟩
          have HXL : Hid ((cellsOf last)[K]? = some (.int .u8 (xl.toNat : Int))) := Lib.hid (by unfold cellsOf; rw [List.getElem?_map, hxl]; rfl)
          have hne14 : wr.heap.size ≠ w5.heap.size := by have := HX.out.box.lt; omega
          have hlt8 : v7.heap.size < wr.heap.size := HX.out.mem.r8.lt
          obtain ⟨i46, hi46, hz460, hz461, hz462⟩ := info_parts Try.info46
          have HI46 := Lib.hid hi46
          have HZ460 := Lib.hid hz460
          have HZ461 := Lib.hid hz461
          have HZ462 := Lib.hid hz462
          have HAC3 : Hid (([.bool false, .int .u8 (A : Int), .int .u8 BY] : List Value) = actCells y) := Lib.hid (by unfold actCells; rw [← HSY.out, HA.out, HBY.out])
          have hl8 : (cellsOf (last.set K y.byte)).length = 4 := by rw [cellsOf_len, List.length_set]; exact HX2.out.hist.last.1
          clear hb15 hr15 hd15 hr53 hxl m0 m1 m2 hi46 hz460 hz461 hz462
          go_wp2_with (first
            | (refine wpList_load_dsk rfl _ rfl _ _ (by rfl) rfl HR15.out ?_)
            | (refine wpList_store_ags rfl _ _ _ rfl w5.heap.size [.slice sa15 sn15 sc15, .slice pa15 pn15 pc15, .int .i64 l15, .bool b15] _ size25 (by rfl) rfl rfl HR53.out (by rfl) HM3.out.below hge5 ?_; intro v15 hr hb hf; have HM4 := Lib.hid (HM3.out.disk hr HD15.out hb hf); have R24 : Row v15 wr.heap.size 46 [.bool false, .int .u8 (A : Int), .int .u8 BY] := (hf wr.heap.size hne14).trans HR23.out; have m0 := R24.cell (i := 0) rfl; have m1 := R24.cell (i := 1) rfl; have m2 := R24.cell (i := 2) rfl; have z8 := HM4.out.r8.cell HXL.out; have f8 := HM4.out.r8.free K; have HR24 := Lib.hid R24; have HM5 : Hid (HiM w w5.heap.size v7.heap.size (v7.heap.size + 1) (v7.heap.size + 1 + 1) (written d ((K : Nat) : Int) (dbl y.byte)) (last.set K y.byte) first second waiting (.slice ta waiting.length tc) (v15.setCell ⟨v7.heap.size, K, none⟩ (.int .u8 BY))) := Lib.hid (by have h5 := HM4.out.set8 K y.byte; rwa [HBY.out] at h5); have HM6 := Lib.hid (HM5.out.keep (Joins.below_alloc1 (v15.setCell ⟨v7.heap.size, K, none⟩ (.int .u8 BY)) (.cells #[.bool false, .int .u8 (A : Int), .int .u8 BY] 46))); have RN := Lib.hid (row_new (v15.setCell ⟨v7.heap.size, K, none⟩ (.int .u8 BY)) 46 [.bool false, .int .u8 (A : Int), .int .u8 BY]); clear hr hb hf R24)
            | (refine wpList_append_mine _ rfl _ _ 43 rfl 46 i46 _ 3 3 Try.underlying43 HI46.out HZ460.out HZ461.out HZ462.out rfl (by decide) (.slice ta waiting.length tc) waiting.length (wcells waiting) rfl HM6.out.own0 ⟨v15.heap.size, 0, none⟩ 1 1 [.bool false, .int .u8 (A : Int), .int .u8 BY] rfl rfl (fun j u hj => by rw [Addr.add_lit, Nat.zero_add]; have h9 := RN.out.cell hj; rwa [World.size_setCell] at h9) (fun u hu => by simp at hu; rcases hu with rfl | rfl | rfl <;> rfl) (by unfold maxLen; omega) (by omega) ?_; intro tx wx hown hwr; rw [HAC3.out] at hown; have HM7 := Lib.hid (HM6.out.more0 hown hwr); obtain ⟨u0, u1, u2, u3, hru, hdu⟩ := HM7.out.box; have HRU := Lib.hid hru; have HDU := Lib.hid hdu; clear hown hwr hru hdu)
            | (refine wpList_load_dsk rfl _ rfl _ _ (by rfl) rfl HRU.out ?_)
            | (refine wpList_load_a4 rfl _ rfl _ _ hl8 rfl HM7.out.r8 ?_))
          have HHI : Hid (Hist (written d ((K : Nat) : Int) (dbl y.byte)) (last.set K y.byte) first second (waiting ++ [y]) room) := Lib.hid (by have h9 := HHIST.out; rwa [HA.out, HK.out] at h9)
          refine (holds_call HDU.out.rest HHI.out.runs HHI.out.four (last.set K y.byte) (last.set K y.byte) HHI.out.last.1 HHI.out.last.1 (fun i x z hi hj => by rw [hi] at hj; cases hj; exact HHI.out.last.2 i x hi)).mono ?_
          rintro e w9 ⟨rfl, hb9⟩
          have HM9 := Lib.hid (HM7.out.keep hb9)
          clear hb9
          go_wp2_with fail
          exact ⟨⟨i + 1, _, _, _, _, _, room, hlt, rfl, by go_num, hroom, by rw [List.length_append, List.length_singleton]; omega, ⟨HHI.out, HM9.out⟩⟩, by simp [intOf]; omega⟩
      case true =>
        obtain ⟨x, ek, hxk⟩ : ∃ x e, syncD d = (x, e) := ⟨_, _, rfl⟩
        have HXK := Lib.hid hxk
        clear hxk
        go_wp2_with (refine wpList_load_dsk rfl _ rfl _ _ (by rfl) rfl HR5.out ?_)
        refine (sync_lawS HD5.out HXK.out).mono ?_
        rintro e w4 ⟨s4, p4, l4, b4, rfl, hd4, hb4⟩
        obtain ⟨⟨sa4, sn4, sc4, rfl⟩, ⟨pa4, pn4, pc4, rfl⟩⟩ := slices_of hd4.rest
        obtain ⟨W3, hW3⟩ : ∃ W3, W3 = w4.alloc (.cells #[.slice sa4 sn4 sc4, .slice pa4 pn4 pc4, .int .i64 l4, .bool b4] 25) := ⟨_, rfl⟩
        have hb3 : Below w4.heap.size w4 W3 := by rw [hW3]; exact Joins.below_alloc1 w4 _
        have HM3 := Lib.hid ((HX2.out.mem.keep hb4).keep hb3)
        have G17 : Hid (OBox (HiS w5.heap.size v7.heap.size (v7.heap.size + 1) (v7.heap.size + 1 + 1) (.slice ta waiting.length tc)) W3 w4.heap.size x) :=
          Lib.hid ⟨_, _, _, _, by rw [hW3]; exact row_new w4 25 _, (hd4.keep (.below hb3)).weak (fun i h _ => by rcases h with h | h; exact h; exact HX2.out.fresh i h)⟩
        have HW3 := Lib.hid hW3
        have hge17 : W2.heap.size ≤ w4.heap.size := hb4.size
        clear hd4 hb4 hb3 hW3 m0 m1 m2
        unfold dv
        go_upto_region 24 with (fail)
        rw [← HW3.out]
        have hR0 : Hid (room = ((room.toNat : Nat) : Int)) := Lib.hid (by omega)
        obtain ⟨R, hR⟩ : ∃ R, R = room.toNat := ⟨_, rfl⟩
        rw [← hR] at hR0
        have hHD := Lib.hid HX2.out.hist
        have ne9 : w4.heap.size ≠ v7.heap.size + 1 := by have := HX2.out.mem.r9.lt; omega
        have ne10 : w4.heap.size ≠ v7.heap.size + 1 + 1 := by have := HX2.out.mem.r10.lt; omega
        have ne5 : w4.heap.size ≠ w5.heap.size := by have := HR5.out.lt; omega
        go_upto_region 25 with (fail)
        go_wp2_with fail
        go_loopw [20] (fun s20 wx => HiIn w w5.heap.size v7.heap.size (v7.heap.size + 1) (v7.heap.size + 1 + 1) d last first second waiting R x w4.heap.size (.slice ta waiting.length tc) s20 wx) (fun s20 _ => waiting.length - (intOf s20).toNat)
        case atStart => exact ⟨0, Nat.zero_le _, Nat.zero_le _, rfl, by simpa [bytesAt] using HM3.out, G17.out⟩
        case round =>
          obtain ⟨k, hk, hkR, rfl, hm, hg⟩ := hrel
          have HM := Lib.hid hm
          have HG := Lib.hid hg
          clear hm hg
          by_cases hin : k < waiting.length ∧ k ≤ R
          · obtain ⟨hin1, hin2⟩ := hin
            have hlk : (k : Int) < (waiting.length : Int) := by omega
            have hrk : (k : Int) ≤ room := by have := hR0.out; omega
            have hk0 : (0 : Int) ≤ (k : Int) := by omega
            obtain ⟨z, hz⟩ : ∃ z, waiting[k]? = some z := ⟨_, List.getElem?_eq_getElem hin1⟩
            obtain ⟨gw, rfl, n1, n2⟩ := wcell_at HM.out.own hz
            have hm4' : z.at'.toNat % 4 < 4 := Nat.mod_lt _ (by omega)
            have hmod' : ((z.at'.toNat : Int)).tmod 4 = ((z.at'.toNat % 4 : Nat) : Int) := rfl
            have hA0' : (0 : Int) ≤ (z.at'.toNat : Int) := by omega
            have hA1' : (z.at'.toNat : Int) < 256 := by have := z.at'.toNat_lt; omega
            generalize hA2 : z.at'.toNat = A2 at n1 hmod' hA0' hA1' hm4'
            have HA2 := Lib.hid hA2
            generalize hK2 : A2 % 4 = K2 at hmod' hm4'
            have HK2 := Lib.hid hK2
            have hK20 : (0 : Int) ≤ (K2 : Int) := by omega
            have hK24 : (K2 : Int) < 4 := by omega
            have hKw' : IntKind.u8.wrap ((K2 : Nat) : Int) = ((K2 : Nat) : Int) := IntWalk.u8_in _ (by omega)
            generalize hB2 : (z.byte.toNat : Int) = B2 at n2
            have HB2 := Lib.hid hB2
            have HZ := Lib.hid hz
            clear hA2 hK2 hB2 hz
            obtain ⟨q9, hq9⟩ : ∃ q, (cellsOf (bytesAt (waiting.take k) first))[K2]? = some q := ⟨_, List.getElem?_eq_getElem (by rw [cellsOf_len, bytesAt_len, hHD.out.secs.1]; exact hm4')⟩
            have z9 := HM.out.r9.cell hq9
            have f9 := HM.out.r9.free K2
            go_upto_region 28 with (fail)
            go_still_tail 12, (by kernel_rfl)
            obtain ⟨W9, hW9⟩ : ∃ W9, W9 = (wr.setCell ⟨v7.heap.size + 1, K2, none⟩ (.int .u8 B2)).drew := ⟨_, rfl⟩
            have hM9 : HiM w w5.heap.size v7.heap.size (v7.heap.size + 1) (v7.heap.size + 1 + 1) d last (bytesAt (waiting.take (k + 1)) first) (bytesAt (waiting.take (min k R)) second) waiting (.slice (some ⟨gw, 0, none⟩) waiting.length tc) W9 := by
              rw [bytesAt_step HZ.out, HA2.out, HK2.out, hW9, ← HB2.out]
              exact (HM.out.set9 K2 z.byte).keep (below_drew (Below.refl _ _))
            have hG9 : OBox (HiS w5.heap.size v7.heap.size (v7.heap.size + 1) (v7.heap.size + 1 + 1) (.slice (some ⟨gw, 0, none⟩) waiting.length tc)) W9 w4.heap.size x := by
              rw [hW9]
              exact (HG.out.far (fun b hb => heap_setCell_other wr ⟨v7.heap.size + 1, K2, none⟩ b _ hb) ne9 (fun h => h.2.2.1 rfl)).keep (below_drew (Below.refl _ _))
            have HM9 := Lib.hid hM9
            have HG9 := Lib.hid hG9
            clear hM9 hG9
            rcases Nat.lt_or_ge k R with hkr | hkr
            · have hkr2 : (k : Int) < room := by have := hR0.out; omega
              go_upto_region 30 with (fail)
              rw [← hW9]
              obtain ⟨_, he, n3, n4⟩ := wcell_at HM9.out.own HZ.out
              cases he
              rw [HA2.out] at n3
              rw [HB2.out] at n4
              obtain ⟨q10, hq10⟩ : ∃ q, (cellsOf (bytesAt (waiting.take (min k R)) second))[K2]? = some q := ⟨_, List.getElem?_eq_getElem (by rw [cellsOf_len, bytesAt_len, hHD.out.secs.2.1]; exact hm4')⟩
              have z10 := HM9.out.r10.cell hq10
              have f10 := HM9.out.r10.free K2
              clear hW9 n1 n2 z9 f9
              go_still_tail 12, (by kernel_rfl)
              go_wp2_with fail
              refine ⟨⟨k + 1, by omega, by omega, by go_num, ?_, ?_⟩, by simp [intOf]; omega⟩
              · rw [show min (k + 1) R = k + 1 by omega, bytesAt_step (l := waiting) (F := second) HZ.out, HA2.out, HK2.out, ← HB2.out]
                have h := (HM9.out.set10 K2 z.byte).keep (below_drew (Below.refl _ _))
                rwa [show min k R = k by omega] at h
              · exact (HG9.out.far (fun b hb => heap_setCell_other W9 ⟨v7.heap.size + 1 + 1, K2, none⟩ b _ hb) ne10 (fun h => h.2.2.2.1 rfl)).keep (below_drew (Below.refl _ _))
            · have hkr2 : ¬ (k : Int) < room := by have := hR0.out; omega
              go_wp2_with fail
              rw [← hW9]
              exact ⟨⟨k + 1, by omega, by omega, by go_num, by rw [show min (k + 1) R = min k R by omega]; exact HM9.out, HG9.out⟩, by simp [intOf]; omega⟩
          · have hgk : (¬ (k : Int) < (waiting.length : Int)) ∨ ((k : Int) < (waiting.length : Int) ∧ ¬ (k : Int) ≤ room) := by have := hR0.out; omega
            rcases Nat.lt_or_ge R waiting.length with hst | hst
            · have hke : k = R + 1 := by omega
              have hs : room < (waiting.length : Int) := by have := hR0.out; omega
              obtain ⟨x', hx', hstop, hruns, hx4, hal⟩ := Hist.halt (room := R) (by rw [← hR0.out]; exact hHD.out) hst
              rw [HXK.out] at hx'
              have hxe : x' = x := (Prod.mk.inj hx').1.symm
              have hek : ek = 40 := (Prod.mk.inj hx').2
              subst hxe hek
              clear hx'
              have hm0 := HM.out
              rw [hke, show min (R + 1) R = R by omega] at hm0
              obtain ⟨f0, f1, f2, f3, hff⟩ := four_of (l := bytesAt (waiting.take (R + 1)) first) (by rw [bytesAt_len]; exact hHD.out.secs.1)
              obtain ⟨e0, e1, e2, e3, hee⟩ := four_of (l := bytesAt (waiting.take R) second) (by rw [bytesAt_len]; exact hHD.out.secs.2.1)
              rw [hff, hee] at hm0 hal
              have HM0 := Lib.hid hm0
              obtain ⟨s17, p17, l17, b17, hr17, hd17⟩ := HG.out
              obtain ⟨⟨sa17, sn17, sc17, rfl⟩, ⟨pa17, pn17, pc17, rfl⟩⟩ := slices_of hd17.rest
              obtain rfl : b17 = true := by rw [(drest_left hd17.rest).2.1]; exact hstop
              have HD17 := Lib.hid hd17.rest
              have c0 : ∀ W, Below wr.heap.size wr W → W.cell? ⟨w4.heap.size, 0, none⟩ = some (.slice sa17 sn17 sc17) := fun W hW => hr17.later hW (i := 0) rfl
              have c1 : ∀ W, Below wr.heap.size wr W → W.cell? ⟨w4.heap.size, 1, none⟩ = some (.slice pa17 pn17 pc17) := fun W hW => hr17.later hW (i := 1) rfl
              have c2 : ∀ W, Below wr.heap.size wr W → W.cell? ⟨w4.heap.size, 2, none⟩ = some (.int .i64 l17) := fun W hW => hr17.later hW (i := 2) rfl
              have c3 : ∀ W, Below wr.heap.size wr W → W.cell? ⟨w4.heap.size, 3, none⟩ = some (.bool true) := fun W hW => hr17.later hW (i := 3) rfl
              have d0 : ∀ W, Below wr.heap.size wr W → W.cell? ⟨v7.heap.size + 1, 0, none⟩ = some (.int .u8 (f0.toNat : Int)) := fun W hW => HM0.out.r9.later hW (i := 0) rfl
              have d1 : ∀ W, Below wr.heap.size wr W → W.cell? ⟨v7.heap.size + 1, 1, none⟩ = some (.int .u8 (f1.toNat : Int)) := fun W hW => HM0.out.r9.later hW (i := 1) rfl
              have d2 : ∀ W, Below wr.heap.size wr W → W.cell? ⟨v7.heap.size + 1, 2, none⟩ = some (.int .u8 (f2.toNat : Int)) := fun W hW => HM0.out.r9.later hW (i := 2) rfl
              have d3 : ∀ W, Below wr.heap.size wr W → W.cell? ⟨v7.heap.size + 1, 3, none⟩ = some (.int .u8 (f3.toNat : Int)) := fun W hW => HM0.out.r9.later hW (i := 3) rfl
              have e0' : ∀ W, Below wr.heap.size wr W → W.cell? ⟨v7.heap.size + 1 + 1, 0, none⟩ = some (.int .u8 (e0.toNat : Int)) := fun W hW => HM0.out.r10.later hW (i := 0) rfl
              have e1' : ∀ W, Below wr.heap.size wr W → W.cell? ⟨v7.heap.size + 1 + 1, 1, none⟩ = some (.int .u8 (e1.toNat : Int)) := fun W hW => HM0.out.r10.later hW (i := 1) rfl
              have e2' : ∀ W, Below wr.heap.size wr W → W.cell? ⟨v7.heap.size + 1 + 1, 2, none⟩ = some (.int .u8 (e2.toNat : Int)) := fun W hW => HM0.out.r10.later hW (i := 2) rfl
              have e3' : ∀ W, Below wr.heap.size wr W → W.cell? ⟨v7.heap.size + 1 + 1, 3, none⟩ = some (.int .u8 (e3.toNat : Int)) := fun W hW => HM0.out.r10.later hW (i := 3) rfl
              have HRC : Hid (∀ W, Below wr.heap.size wr W → Calls Try.prog 24 #[.agg #[.slice sa17 sn17 sc17, .slice pa17 pn17 pc17, .int .i64 l17, .bool true]] W (NewR W (restartD x'))) := Lib.hid (fun W hW => restart_law (HD17.out.keep hW) rfl)
              have HHO : Hid (∀ W s p l b, DRest W.heap.size W (restartD x') (dv s p l b) → Calls Try.prog 35 #[.agg #[s, p, .int .i64 l, .bool b], .agg #[.int .u8 (f0.toNat : Int), .int .u8 (f1.toNat : Int), .int .u8 (f2.toNat : Int), .int .u8 (f3.toNat : Int)], .agg #[.int .u8 (e0.toNat : Int), .int .u8 (e1.toNat : Int), .int .u8 (e2.toNat : Int), .int .u8 (e3.toNat : Int)]] W fun e w' => e = .returned (.bool true) ∧ Below W.heap.size W w') :=
                Lib.hid (fun W s p l b h => holds_call h hruns hx4 [f0, f1, f2, f3] [e0, e1, e2, e3] rfl rfl (hal.reads rfl))
              clear hr17 hd17 hm0 hal hff hee hstop hruns hx4
              rcases hgk with hgk | ⟨hgk, hgk2⟩ <;>
              (go_upto_region 32 with (fail)
               go_region_held3 (fun W => Below wr.heap.size wr W) (first | assumption | exact below_drew (Below.refl _ _) | exact below_next (by assumption) (by assumption)) (first
                 | (go_at_call 24; refine (HRC.out _ (by assumption)).mono ?_; rintro e wA ⟨s4, p4, l4, b4, rfl, hd4, hb4⟩; unfold dv; have hB4 : Below wr.heap.size wr wA := below_next (by assumption) hb4)
                 | (go_at_call 35; refine (HHO.out _ _ _ _ _ (by assumption)).mono ?_; rintro e wB ⟨rfl, hbB⟩; have hBB : Below wr.heap.size wr wB := below_next (by assumption) hbB))
               all_goals go_wp2_with fail
               all_goals go_ret
               all_goals exact ⟨rfl, below_next HM0.out.below (by assumption)⟩)
            · have hke : k = waiting.length := by omega
              have hs : ¬ room < (waiting.length : Int) := by have := hR0.out; omega
              have hsy := hHD.out.sync (by have := hR0.out; omega)
              rw [HXK.out] at hsy
              obtain ⟨hx', hhist⟩ := hsy
              cases hx'
              have HHI := Lib.hid hhist
              clear hhist
              have hgk3 : ¬ (k : Int) < (waiting.length : Int) := by omega
              have hb6 := Joins.below_alloc1 wr (.cells #[] 46)
              have ho6 : (wr.alloc (.cells #[] 46)).ownsRow w.heap.size 46 3 (.slice (some ⟨wr.heap.size, 0, none⟩) 0 0) 0 [] :=
                World.ownsRow_made (base := w.heap.size) (e := 46) (size := 3) wr #[] 0 HM.out.below.size (by unfold maxLen; omega) rfl
              have hm6 : HiM w w5.heap.size v7.heap.size (v7.heap.size + 1) (v7.heap.size + 1 + 1) d last (bytesAt waiting first) (bytesAt waiting second) [] (.slice (some ⟨wr.heap.size, 0, none⟩) 0 0) (wr.alloc (.cells #[] 46)) := by
                have h := HM.out.none hb6 ho6 (fun j e => by have e2 : wr.heap.size = j := Option.some.inj e; omega)
                rwa [show min k R = k by omega, hke, List.take_length] at h
              obtain ⟨s17, p17, l17, b17, hr17, hd17⟩ := HG.out
              obtain ⟨⟨sa17, sn17, sc17, rfl⟩, ⟨pa17, pn17, pc17, rfl⟩⟩ := slices_of hd17.rest
              have HR17 := Lib.hid (hr17.keep hb6)
              have HD17 : Hid (DRestS (HiS w5.heap.size v7.heap.size (v7.heap.size + 1) (v7.heap.size + 1 + 1) (.slice (some ⟨wr.heap.size, 0, none⟩) 0 0)) (wr.alloc (.cells #[] 46)) (synced d) (dv (.slice sa17 sn17 sc17) (.slice pa17 pn17 pc17) l17 b17)) :=
                Lib.hid (((hd17.weak (S' := fun i => HiS w5.heap.size v7.heap.size (v7.heap.size + 1) (v7.heap.size + 1 + 1) (.slice ta waiting.length tc) i ∧ i < wr.heap.size) (fun i hi hl => ⟨hi, hl⟩)).keep (KeepS.below hb6)).weak (fun i hi _ => ⟨hi.1.1, hi.1.2.1, hi.1.2.2.1, hi.1.2.2.2.1, fun e => by have e2 : i = wr.heap.size := Option.some.inj e; have := hi.2; omega⟩))
              have HM6 := Lib.hid hm6
              obtain ⟨r0, r1, r2, r3, hr56, _⟩ := HM6.out.box
              have HR56 := Lib.hid hr56
              have hl8 : (cellsOf last).length = 4 := by rw [cellsOf_len]; exact hHD.out.last.1
              clear hb6 ho6 hm6 hr17 hd17 hr56
              go_wp2_with (first
                | (refine wpList_load_dsk rfl _ rfl _ _ (by rfl) rfl HR17.out ?_)
                | (refine wpList_store_ags rfl _ _ _ rfl w5.heap.size [.slice sa17 sn17 sc17, .slice pa17 pn17 pc17, .int .i64 l17, .bool b17] _ size25 (by rfl) rfl rfl HR56.out (by rfl) HM6.out.below hge5 ?_; intro v15 hr hb hf; have HM7 := Lib.hid (HM6.out.disk hr HD17.out hb hf); obtain ⟨u0, u1, u2, u3, hru, hdu⟩ := HM7.out.box; have HRU := Lib.hid hru; have HDU := Lib.hid hdu; clear hr hb hf hru hdu)
                | (refine wpList_load_dsk rfl _ rfl _ _ (by rfl) rfl HRU.out ?_)
                | (refine wpList_load_a4 rfl _ rfl _ _ hl8 rfl HM7.out.r8 ?_))
              refine (holds_call HDU.out.rest HHI.out.runs HHI.out.four last last HHI.out.last.1 HHI.out.last.1 (fun i x z hi hj => by rw [hi] at hj; cases hj; exact HHI.out.last.2 i x hi)).mono ?_
              rintro e w9 ⟨rfl, hb9⟩
              have HM9 := Lib.hid (HM7.out.keep hb9)
              clear hb9
              go_wp2_with fail
              exact ⟨⟨i + 1, _, _, _, _, _, room - waiting.length, hlt, by go_num, by go_num, by omega, Nat.zero_le _, ⟨HHI.out, HM9.out⟩⟩, by simp [intOf]; omega⟩
    · obtain rfl : i = ns := by omega
      obtain ⟨su, pu, lu, bu, hru, hdu⟩ := HX.out.box
      obtain ⟨⟨sau, snu, scu, rfl⟩, ⟨pau, pnu, pcu, rfl⟩⟩ := slices_of hdu.rest
      have HDU := Lib.hid hdu.rest
      have HRS := Lib.hid HX.out.hist.restart
      obtain ⟨f0, f1, f2, f3, rfl⟩ := four_of HX.out.hist.secs.1
      obtain ⟨e0, e1, e2, e3, rfl⟩ := four_of HX.out.hist.secs.2.1
      have c0 : ∀ W, Below wr.heap.size wr W → W.cell? ⟨w5.heap.size, 0, none⟩ = some (.slice sau snu scu) := fun W hW => hru.later hW (i := 0) rfl
      have c1 : ∀ W, Below wr.heap.size wr W → W.cell? ⟨w5.heap.size, 1, none⟩ = some (.slice pau pnu pcu) := fun W hW => hru.later hW (i := 1) rfl
      have c2 : ∀ W, Below wr.heap.size wr W → W.cell? ⟨w5.heap.size, 2, none⟩ = some (.int .i64 lu) := fun W hW => hru.later hW (i := 2) rfl
      have c3 : ∀ W, Below wr.heap.size wr W → W.cell? ⟨w5.heap.size, 3, none⟩ = some (.bool bu) := fun W hW => hru.later hW (i := 3) rfl
      have c4 : ∀ W, Below wr.heap.size wr W → W.cell? ⟨v7.heap.size + 1, 0, none⟩ = some (.int .u8 (f0.toNat : Int)) := fun W hW => HX.out.mem.r9.later hW (i := 0) rfl
      have c5 : ∀ W, Below wr.heap.size wr W → W.cell? ⟨v7.heap.size + 1, 1, none⟩ = some (.int .u8 (f1.toNat : Int)) := fun W hW => HX.out.mem.r9.later hW (i := 1) rfl
      have c6 : ∀ W, Below wr.heap.size wr W → W.cell? ⟨v7.heap.size + 1, 2, none⟩ = some (.int .u8 (f2.toNat : Int)) := fun W hW => HX.out.mem.r9.later hW (i := 2) rfl
      have c7 : ∀ W, Below wr.heap.size wr W → W.cell? ⟨v7.heap.size + 1, 3, none⟩ = some (.int .u8 (f3.toNat : Int)) := fun W hW => HX.out.mem.r9.later hW (i := 3) rfl
      have c8 : ∀ W, Below wr.heap.size wr W → W.cell? ⟨v7.heap.size + 1 + 1, 0, none⟩ = some (.int .u8 (e0.toNat : Int)) := fun W hW => HX.out.mem.r10.later hW (i := 0) rfl
      have c9 : ∀ W, Below wr.heap.size wr W → W.cell? ⟨v7.heap.size + 1 + 1, 1, none⟩ = some (.int .u8 (e1.toNat : Int)) := fun W hW => HX.out.mem.r10.later hW (i := 1) rfl
      have cA : ∀ W, Below wr.heap.size wr W → W.cell? ⟨v7.heap.size + 1 + 1, 2, none⟩ = some (.int .u8 (e2.toNat : Int)) := fun W hW => HX.out.mem.r10.later hW (i := 2) rfl
      have cB : ∀ W, Below wr.heap.size wr W → W.cell? ⟨v7.heap.size + 1 + 1, 3, none⟩ = some (.int .u8 (e3.toNat : Int)) := fun W hW => HX.out.mem.r10.later hW (i := 3) rfl
      have HRC : Hid (∀ W, Below wr.heap.size wr W → Calls Try.prog 24 #[.agg #[.slice sau snu scu, .slice pau pnu pcu, .int .i64 lu, .bool bu]] W (NewR W (restartD d))) := Lib.hid (fun W hW => restart_law (HDU.out.keep hW) rfl)
      have HHO : Hid (∀ W s p l b, DRest W.heap.size W (restartD d) (dv s p l b) → Calls Try.prog 35 #[.agg #[s, p, .int .i64 l, .bool b], .agg #[.int .u8 (f0.toNat : Int), .int .u8 (f1.toNat : Int), .int .u8 (f2.toNat : Int), .int .u8 (f3.toNat : Int)], .agg #[.int .u8 (e0.toNat : Int), .int .u8 (e1.toNat : Int), .int .u8 (e2.toNat : Int), .int .u8 (e3.toNat : Int)]] W fun e w' => e = .returned (.bool true) ∧ Below W.heap.size W w') :=
        Lib.hid (fun W s p l b h => holds_call h HRS.out.1 HRS.out.2.1 [f0, f1, f2, f3] [e0, e1, e2, e3] rfl rfl (HRS.out.2.2.reads rfl))
      clear hru hdu
      go_upto_region 40 with (fail)
      go_region_held3 (fun W => Below wr.heap.size wr W) (first | assumption | exact below_drew (Below.refl _ _) | exact below_next (by assumption) (by assumption)) (first
        | (go_at_call 24; refine (HRC.out _ (by assumption)).mono ?_; rintro e wA ⟨s4, p4, l4, b4, rfl, hd4, hb4⟩; unfold dv; have hB4 : Below wr.heap.size wr wA := below_next (by assumption) hb4)
        | (go_at_call 35; refine (HHO.out _ _ _ _ _ (by assumption)).mono ?_; rintro e wB ⟨rfl, hbB⟩; have hBB : Below wr.heap.size wr wB := below_next (by assumption) hbB))
      all_goals go_wp2_with fail
      all_goals go_ret
      all_goals exact ⟨rfl, below_next HX.out.below (by assumption)⟩
end Go.Proofs.Ytlaaolbdadempaa
