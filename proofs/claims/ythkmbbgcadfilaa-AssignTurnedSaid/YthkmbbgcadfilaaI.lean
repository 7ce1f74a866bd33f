/- exchange. -/
import Derived.Test.YthkmbbgcadfilaaH
namespace Go.Proofs.Ythkmbbgcadfilaa
open Go.RowKit Go.Shelf

theorem gI_upd {L : List Int} {d x : Int} {i : Nat} (h : i < L.length) : gI (L.set i x) d = updN (gI L d) i x := by
  funext j
  rw [gI_set h]; rfl
theorem gI_cell {W : World} {g : Nat} {L : List Int} (h : Row W g 3 (nums L)) {j : Nat} (hj : j < L.length) (d : Int) : W.cell? ⟨g, j, none⟩ = some (.int .i64 (gI L d j)) := by
  rw [nrow_cell h hj]
  unfold gI
  simp [hj]
/-- where the exchange stands -/
def ExS (n m : Nat) (c : Nat → Nat → Int) (u v frm row0 : Nat → Int) (r : Nat) (s : Int) (k : Nat) (tt row : Nat → Int) : Prop :=
  (∃ (S : List Nat) (j : Nat), s = (j : Int) ∧ k = S.length + 1 ∧ Exc n m c u v frm row0 r S j tt row) ∨ (s = -1 ∧ k = 0 ∧ Fin' n m c u v row0 r tt row)
set_option maxRecDepth 100000 in
set_option maxHeartbeats 8000000 in
theorem exchange_call {g gu gv gt gr n m gp r e : Nat} {c : Nat → Nat → Int} {u v row0 : Nat → Int} {vc : Value} {U V TO RW LN FR : List Int} {SU : List Bool} {S : List Nat} (w : World) (hd : DMem g gu gv gt gr n m vc U V TO RW w) (hp : PMem gp LN FR SU w) (hx : Dis g gu gv gt gr gp) (hm16 : m ≤ 16)
    (hE : Exc n m c u v (gI FR 0) row0 r S e (gI TO (-1)) (gI RW (-1))) :
    Calls Try.prog 62 #[.pointer (some ⟨g, 0, none⟩), .pointer (some ⟨gp, 0, none⟩), .int .i64 (e : Int)] w fun en w' => (∃ x, en = .returned x) ∧ ∃ TO' RW', DMem g gu gv gt gr n m vc U V TO' RW' w' ∧ Kp2 (fun b => b ≠ gt ∧ b ≠ gr) w w' ∧
      Fin' n m c u v row0 r (gI TO' (-1)) (gI RW' (-1)) := by
  have HD0 := Lib.hid hd
  have HP0 := Lib.hid hp
  have HX := Lib.hid hx
  have HE0 := Lib.hid hE
  clear hd hp hx hE
  go_enter Try.func62, Try.ntmps62
  go_upto_region 0 with (fail)
  go_loopg [2] (S.length + 1) (fun k s2 wr => ∃ (s : Int) (TO2 RW2 : List Int), s2 = .int .i64 s ∧ DMem g gu gv gt gr n m vc U V TO2 RW2 wr ∧ PMem gp LN FR SU wr ∧ Kp2 (fun b => b ≠ gt ∧ b ≠ gr) w wr ∧ ExS n m c u v (gI FR 0) row0 r s k (gI TO2 (-1)) (gI RW2 (-1)))
  case atStart => exact ⟨_, TO, RW, rfl, HD0.out, HP0.out, Kp2.refl _ _, .inl ⟨S, e, rfl, rfl, HE0.out⟩⟩
  case round =>
    obtain ⟨s, TO2, RW2, rfl, hd2, hp2, hk2, hst⟩ := hrel
    have HD := Lib.hid hd2
    have HP := Lib.hid hp2
    have HK := Lib.hid hk2
    clear hd2 hp2 hk2
    rcases hst with ⟨S2, j, rfl, hgk, hE2⟩ | ⟨rfl, hgk, hF⟩
    · have hne : ((j : Int) != -1) = true := by first | (simp; done) | (simp; omega)
      have HGK := Lib.hid hgk
      have hjm := hE2.jm
      have hj16 : j < 16 := by omega
      have hj16i : (j : Int) < 16 := by omega
      have hji : (j : Int) < (m : Int) := by omega
      obtain ⟨i, hf, hin, hstep⟩ := hE2.step
      have hini : (i : Int) < (n : Int) := by omega
      have HST := Lib.hid hstep
      have cF := HP.out.at_frm hj16 0
      rw [show FR.getD j 0 = gI FR 0 j from rfl, hf] at cF
      have d3 := HD.out.rg.cell (i := 3) rfl
      have d4 := HD.out.rg.cell (i := 4) rfl
      have hlr := HD.out.lr
      have hlt := HD.out.lt
      have cR := gI_cell HD.out.rr (show j < RW2.length by omega) (-1)
      have cRf := HD.out.rr.free j
      obtain ⟨y, hy⟩ : ∃ y, y = gI TO2 (-1) i := ⟨_, rfl⟩
      obtain ⟨yr, hyr⟩ : ∃ y, y = gI RW2 (-1) j := ⟨_, rfl⟩
      rw [← hyr] at cR
      have HY := Lib.hid hy
      have HD1 : Hid (DMem g gu gv gt gr n m vc U V TO2 (RW2.set j (i : Int)) (wr.setCell ⟨gr, j, none⟩ (.int .i64 (i : Int)))) := Lib.hid (HD.out.put_r HX.out j _)
      have HP1 : Hid (PMem gp LN FR SU (wr.setCell ⟨gr, j, none⟩ (.int .i64 (i : Int)))) := Lib.hid (HP.out.far _ _ _ (by have := HX.out; unfold Dis at this; omega))
      have HK1 : Hid (Kp2 (fun b => b ≠ gt ∧ b ≠ gr) w (wr.setCell ⟨gr, j, none⟩ (.int .i64 (i : Int)))) := Lib.hid (HK.out.cell _ _ _ (fun h => h.2 rfl))
      have HLN := Lib.hid (And.intro hlr (And.intro hlt (And.intro hin hjm)))
      clear hgk hE2 hjm hf hstep hy hyr hlr hlt hin
      go_upto_region 3 with (fail)
      obtain ⟨W1, hW1⟩ : ∃ W1, W1 = wr.setCell ⟨gr, j, none⟩ (.int .i64 (i : Int)) := ⟨_, rfl⟩
      rw [← hW1] at HD1 HP1 HK1 ⊢
      clear hW1 cF d3 d4 cR cRf
      have d3 := HD1.out.rg.cell (i := 3) rfl
      have cT := gI_cell HD1.out.rt (show i < TO2.length by have := HLN.out; omega) (-1)
      rw [← HY.out] at cT
      have cTf := HD1.out.rt.free i
      go_still_tail 14, (by kernel_rfl)
      go_wp2_with fail
      have hto : gI (TO2.set i (j : Int)) (-1) = updN (gI TO2 (-1)) i (j : Int) := gI_upd (by have := HLN.out; omega)
      have hro : gI (RW2.set j (i : Int)) (-1) = updN (gI RW2 (-1)) j (i : Int) := gI_upd (by have := HLN.out; omega)
      rcases HST.out with ⟨h1, h2⟩ | ⟨j1, S3, h1, h2, h3⟩
      · go_roundg 0
        case measure => have := HGK.out; omega
        case rel => exact ⟨y, _, _, rfl, (HD1.out.put_t HX.out i _).drew 1, (HP1.out.far _ _ _ (by have := HX.out; unfold Dis at this; omega)).drew 1, (HK1.out.cell _ _ _ (fun h => h.1 rfl)).drewN 1, .inr ⟨by rw [HY.out]; exact h1, rfl, by rw [hto, hro]; exact h2⟩⟩
      · go_roundg (S3.length + 1)
        case measure => have := HGK.out; omega
        case rel => exact ⟨y, _, _, rfl, (HD1.out.put_t HX.out i _).drew 1, (HP1.out.far _ _ _ (by have := HX.out; unfold Dis at this; omega)).drew 1, (HK1.out.cell _ _ _ (fun h => h.1 rfl)).drewN 1, .inl ⟨S3, j1, by rw [HY.out]; exact h1, rfl, by rw [hto, hro]; exact h3⟩⟩
    · have HF := Lib.hid hF
      clear hF hgk
      go_wp2_with fail
      go_end0
      exact ⟨⟨_, rfl⟩, TO2, RW2, HD.out, HK.out, HF.out⟩
end Go.Proofs.Ythkmbbgcadfilaa
