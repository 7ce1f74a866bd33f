/- The law DaysSetsSpec. -/
import Derived.Test.YtiicjmbnkjociaaDoorZi
import Derived.Test.YtiicjmbnkjociaaDoorQ
namespace Go.Proofs.YtiicjmbnkjociaaDoor
open Go.RowKit

set_option maxHeartbeats 16000000 in
set_option maxRecDepth 100000 in
theorem sets_walk (la lb : List Sp) (va vb : Value) (w : World) (ha : PRest w.heap.size w la va) (hb : PRest w.heap.size w lb vb) (hT : Tab w) :
    Calls Tryd.prog 5 #[va, vb] w fun e w' => e = .returned (.bool true) ∧ Below w.heap.size w w' := by
  have BW := Lib.hid (Below.refl w.heap.size w)
  have CSA := Lib.hid (sane_call w hT)
  have P0 := Lib.hid (fun W (hW : Below w.heap.size w W) => Union_call la lb va vb _ W (ha.stays hW) (hb.stays hW) hW.size)
  have Q0 := Lib.hid (fun W (hW : Below w.heap.size w W) => refUnion_call la lb va vb _ W (ha.stays hW) (hb.stays hW) hW.size)
  generalize combL (fun p q => p || q) la lb = L0 at *
  generalize combE (fun p q => p || q) la lb = E0 at *
  have P1 := Lib.hid (fun W (hW : Below w.heap.size w W) => Meet_call la lb va vb _ W (ha.stays hW) (hb.stays hW) hW.size)
  have Q1 := Lib.hid (fun W (hW : Below w.heap.size w W) => refMeet_call la lb va vb _ W (ha.stays hW) (hb.stays hW) hW.size)
  generalize combL (fun p q => p && q) la lb = L1 at *
  generalize combE (fun p q => p && q) la lb = E1 at *
  have P2 := Lib.hid (fun W (hW : Below w.heap.size w W) => Without_call la lb va vb _ W (ha.stays hW) (hb.stays hW) hW.size)
  have Q2 := Lib.hid (fun W (hW : Below w.heap.size w W) => refWithout_call la lb va vb _ W (ha.stays hW) (hb.stays hW) hW.size)
  generalize combL (fun p q => p && !q) la lb = L2 at *
  generalize combE (fun p q => p && !q) la lb = E2 at *
  obtain ⟨a1, c1, rfl, -, hm1, -⟩ := id ha
  obtain ⟨a2, c2, rfl, -, hm2, -⟩ := id hb
  have hml1 : la.length ≤ maxLen := by obtain ⟨_, _, e, h1, h2, _⟩ := ha; injection e with _ e2 e3; omega
  have hml2 : lb.length ≤ maxLen := by obtain ⟨_, _, e, h1, h2, _⟩ := hb; injection e with _ e2 e3; omega
  clear ha hb hm1 hm2 hT
  generalize la.length = na at *
  generalize lb.length = nb at *
  have CF := Lib.hid (fun W => Few_call a1 na c1 a2 nb c2 W hml1 hml2)
  clear hml1 hml2
  generalize decide (na ≤ 260 ∧ nb ≤ 260) = few at *
  have SM := Lib.hid (fun l v v' W (h : PRest W.heap.size W l v) (h' : PRest W.heap.size W l v') => (Same_call l l v v' _ W h h' (Nat.le_refl _)).mono fun e w' h => (show e = .returned (.bool true) ∧ Below W.heap.size W w' from ⟨by rw [h.1]; simp, h.2⟩))
  cases few with
  | false =>
    go_enter Tryd.func5, Tryd.ntmps5
    go_wp2_with fail
    refine (CSA.out).mono ?_
    rintro e w1 ⟨rfl, hb⟩
    replace BW := Lib.hid (below_next BW.out hb)
    clear hb
    go_wp2_with fail
    refine (CF.out _).mono ?_
    rintro e w2 ⟨rfl, rfl⟩
    go_wp2_with fail
    go_ret
    exact ⟨rfl, BW.out⟩
  | true =>
    go_enter Tryd.func5, Tryd.ntmps5
    go_wp2_with fail
    refine (CSA.out).mono ?_
    rintro e w1 ⟨rfl, hb⟩
    replace BW := Lib.hid (below_next BW.out hb)
    clear hb
    go_wp2_with fail
    refine (CF.out _).mono ?_
    rintro e w2 ⟨rfl, rfl⟩
    go_wp2_with fail
    refine (P0.out _ BW.out).mono ?_
    rintro e w3 ⟨v3, rfl, hr, hb⟩
    obtain ⟨a3, c3, rfl, -⟩ := id hr
    replace BW := Lib.hid (below_next BW.out hb)
    have R3 := Lib.hid hr
    clear hr hb
    go_wp2_with fail
    refine (Q0.out _ BW.out).mono ?_
    rintro e w4 ⟨v4, rfl, hr, hb⟩
    obtain ⟨a4, c4, rfl, -⟩ := id hr
    replace BW := Lib.hid (below_next BW.out hb)
    replace R3 := Lib.hid (R3.out.keep hb)
    have R4 := Lib.hid hr
    clear hr hb
    go_wp2_with fail
    refine (P1.out _ BW.out).mono ?_
    rintro e w5 ⟨v5, rfl, hr, hb⟩
    obtain ⟨a5, c5, rfl, -⟩ := id hr
    replace BW := Lib.hid (below_next BW.out hb)
    replace R3 := Lib.hid (R3.out.keep hb)
    replace R4 := Lib.hid (R4.out.keep hb)
    have R5 := Lib.hid hr
    clear hr hb
    go_wp2_with fail
    refine (Q1.out _ BW.out).mono ?_
    rintro e w6 ⟨v6, rfl, hr, hb⟩
    obtain ⟨a6, c6, rfl, -⟩ := id hr
    replace BW := Lib.hid (below_next BW.out hb)
    replace R3 := Lib.hid (R3.out.keep hb)
    replace R4 := Lib.hid (R4.out.keep hb)
    replace R5 := Lib.hid (R5.out.keep hb)
    have R6 := Lib.hid hr
    clear hr hb
    go_wp2_with fail
    refine (P2.out _ BW.out).mono ?_
    rintro e w7 ⟨v7, rfl, hr, hb⟩
    obtain ⟨a7, c7, rfl, -⟩ := id hr
    replace BW := Lib.hid (below_next BW.out hb)
    replace R3 := Lib.hid (R3.out.keep hb)
    replace R4 := Lib.hid (R4.out.keep hb)
    replace R5 := Lib.hid (R5.out.keep hb)
    replace R6 := Lib.hid (R6.out.keep hb)
    have R7 := Lib.hid hr
    clear hr hb
    go_wp2_with fail
    refine (Q2.out _ BW.out).mono ?_
    rintro e w8 ⟨v8, rfl, hr, hb⟩
    obtain ⟨a8, c8, rfl, -⟩ := id hr
    replace BW := Lib.hid (below_next BW.out hb)
    replace R3 := Lib.hid (R3.out.keep hb)
    replace R4 := Lib.hid (R4.out.keep hb)
    replace R5 := Lib.hid (R5.out.keep hb)
    replace R6 := Lib.hid (R6.out.keep hb)
    replace R7 := Lib.hid (R7.out.keep hb)
    have R8 := Lib.hid hr
    clear hr hb
    go_wp2_with fail
    refine (SM.out L0 _ _ _ R3.out R4.out).mono ?_
    rintro e w9 ⟨rfl, hb⟩
    replace BW := Lib.hid (below_next BW.out hb)
    replace R3 := Lib.hid (R3.out.keep hb)
    replace R4 := Lib.hid (R4.out.keep hb)
    replace R5 := Lib.hid (R5.out.keep hb)
    replace R6 := Lib.hid (R6.out.keep hb)
    replace R7 := Lib.hid (R7.out.keep hb)
    replace R8 := Lib.hid (R8.out.keep hb)
    clear hb
    go_wp2_with fail
    refine (SM.out L1 _ _ _ R5.out R6.out).mono ?_
    rintro e w10 ⟨rfl, hb⟩
    replace BW := Lib.hid (below_next BW.out hb)
    replace R3 := Lib.hid (R3.out.keep hb)
    replace R4 := Lib.hid (R4.out.keep hb)
    replace R5 := Lib.hid (R5.out.keep hb)
    replace R6 := Lib.hid (R6.out.keep hb)
    replace R7 := Lib.hid (R7.out.keep hb)
    replace R8 := Lib.hid (R8.out.keep hb)
    clear hb
    go_wp2_with fail
    refine (SM.out L2 _ _ _ R7.out R8.out).mono ?_
    rintro e w11 ⟨rfl, hb⟩
    replace BW := Lib.hid (below_next BW.out hb)
    replace R3 := Lib.hid (R3.out.keep hb)
    replace R4 := Lib.hid (R4.out.keep hb)
    replace R5 := Lib.hid (R5.out.keep hb)
    replace R6 := Lib.hid (R6.out.keep hb)
    replace R7 := Lib.hid (R7.out.keep hb)
    replace R8 := Lib.hid (R8.out.keep hb)
    clear hb
    go_wp2_with fail
    go_ret
    exact ⟨by first | rfl | (simp; done), BW.out⟩
end Go.Proofs.YtiicjmbnkjociaaDoor
