/- lists: its iterator yields the lists of rows in their order. -/
import Derived.Test.YthkmbbgcadfilaaPb
import Derived.Deep.LoopGhost
namespace Go.Proofs.Ythkmbbgcadfilaa
open Go.RowKit Go.Shelf
attribute [local go_sem] Oper.semAt_some

def vL (b : Nat) : List Nat → Nat
  | [] => 0
  | x :: xs => x * b ^ xs.length + vL b xs
theorem vL_lt {b : Nat} : ∀ {l : List Nat}, (∀ x, x ∈ l → x < b) → vL b l < b ^ l.length
  | [], _ => by simp [vL]
  | x :: xs, h => by
    have ih := vL_lt (b := b) (l := xs) (fun y hy => h y (by simp [hy]))
    have hx : x + 1 ≤ b := h x (by simp)
    have := Nat.mul_le_mul_right (b ^ xs.length) hx
    rw [Nat.add_mul, Nat.one_mul] at this
    simp only [vL, List.length_cons, Nat.pow_succ]
    rw [Nat.mul_comm (b ^ xs.length) b]
    omega
theorem vL_mono {b : Nat} : ∀ {a c : List Nat}, a.length = c.length → (∀ x, x ∈ a → x < b) → LtL a c → vL b a < vL b c
  | [], _, _, _, ⟨d, h, _⟩ => by simp at h
  | _ :: _, [], h, _, _ => by simp at h
  | x :: a, y :: c, h, hb, ⟨d, h1, h2, h3⟩ => by
    have hl : a.length = c.length := by simpa using h
    simp only [vL, hl]
    cases d with
    | zero =>
      have h4 : x + 1 ≤ y := h3
      have h5 := vL_lt (b := b) (l := a) (fun z hz => hb z (by simp [hz]))
      rw [hl] at h5
      have h6 := Nat.mul_le_mul_right (b ^ c.length) h4
      rw [Nat.add_mul, Nat.one_mul] at h6
      omega
    | succ d =>
      have h4 : x = y := h2 0 (by omega)
      have ih := vL_mono (b := b) hl (fun z hz => hb z (by simp [hz])) ⟨d, by simpa using h1, fun i hi => h2 (i + 1) (by omega), h3⟩
      subst h4
      omega
theorem nextL_lt {n : Nat} {l l' : List Nat} (h : nextL n l = some l') : LtL l l' := by
  obtain ⟨d, h1, rfl, h3, h4⟩ := (nx_spec (n := n) (l := l) (k := l.length)).2 l' h
  refine ⟨d, h1, fun i hi => ?_, ?_⟩
  · rw [nextAt_get h1 (by omega), if_pos hi]
  · rw [nextAt_get h1 h1, if_neg (by omega)]; omega
theorem SL.mem {n : Nat} {l : List Nat} (h : SL n l) : ∀ x, x ∈ l → x < n := fun x hx => by
  obtain ⟨i, hi, rfl⟩ := List.getElem_of_mem hx
  have := h.1 i hi
  rwa [show l.getD i 0 = l[i] by simp [hi]] at this
/-- how many lists are to come at most -/
def rkL (n s : Nat) (l : List Nat) : Nat := n ^ s - vL n l
theorem rkL_next {n s : Nat} {l l' : List Nat} (hl : SL n l) (hs : l.length = s) (h : nextL n l = some l') : rkL n s l' < rkL n s l := by
  obtain ⟨h1, h2, -⟩ := next_some hl h
  have h3 := vL_mono (by omega) hl.mem (nextL_lt h)
  have h4 := vL_lt h1.mem
  unfold rkL
  rw [h2, hs] at h4
  omega
theorem rkL_pos {n s : Nat} {l : List Nat} (hl : SL n l) (hs : l.length = s) : 0 < rkL n s l := by
  have := vL_lt hl.mem
  unfold rkL
  rw [hs] at this
  omega
def outO (n s : Nat) : Option (List Nat) := if s ≤ n then some (List.range s) else none
theorem fill_first (s : Nat) (L : List Int) : L.take 0 ++ fillI (-1) s = ofN (List.range s) := by
  unfold fillI ofN
  rw [List.take_zero, List.nil_append]
  apply List.map_congr_left
  intro i _
  omega
set_option maxRecDepth 100000 in
set_option maxHeartbeats 8000000 in
theorem lists_tells (q : Nat) (hq : 1 ≤ q) (bn : Nat) (B : Nat → Prop) (nn : Nat) (hnn : nn ≤ 16) (w : World) (hBn : B bn) (hBlt : ∀ b, B b → b < w.heap.size) (hc : w.cell? ⟨bn, 0, none⟩ = some (.int .i64 (nn : Int))) :
    TellsL Fence.wide q Try.prog 53 #[.pointer (some ⟨bn, 0, none⟩)] B nn w := by
  intro lp J Jx W hW hJ hY h0
  have HB : Hid (∀ W', Kp2 (fun b => b = bn) W W' → W'.cell? ⟨bn, 0, none⟩ = some (.int .i64 (nn : Int))) := Lib.hid (fun W' hk => hk.keep.cell rfl ((hW.cell (p := ⟨bn, 0, none⟩) (hBlt bn hBn)).trans hc))
  have HY := Lib.hid hY
  have HJ := Lib.hid hJ
  have HBB := Lib.hid hBn
  have H0 : Hid (J (outO nn 1) W) := Lib.hid h0
  have hni : (nn : Int) ≤ 16 := by omega
  clear hY hJ h0 hc hBlt hW
  refine callsIn_of_wp Try.func53 rfl trivial ?_ rfl
  simp only [Try.ntmps53, List.size_toArray, List.length_cons, List.length_nil, Nat.reduceAdd, Nat.reduceSub, Array.replicate_succ, Array.replicate_zero, List.push_toArray, List.append_toArray, List.nil_append, List.cons_append]
  refine wpIn_wide.2 ?_
  go_upto_region 1 with (fail)
  go_loopw [3] (fun s3 wr => ∃ (s : Nat), 1 ≤ s ∧ s ≤ nn + 1 ∧ s3 = .int .i64 (s : Int) ∧ J (outO nn s) wr ∧ Kp2 (fun b => b = bn) W wr) (fun s3 _ => nn + 1 - (intOf s3).toNat)
  case atStart => exact ⟨1, by omega, by omega, rfl, H0.out, Kp2.refl _ _⟩
  case round =>
    obtain ⟨s, hs1, hsn, rfl, hj, hk⟩ := hrel
    have HJ1 := Lib.hid hj
    have HK := Lib.hid hk
    have HS1 := Lib.hid (And.intro hs1 hsn)
    have d0 := HB.out wr hk
    clear hj hk hs1 hsn
    by_cases hle : s ≤ nn
    · have hlei : (s : Int) ≤ (nn : Int) := by omega
      have HLE := Lib.hid hle
      have HO : Hid (outO nn s = some (List.range s)) := Lib.hid (by unfold outO; rw [if_pos hle])
      have HS2 := Lib.hid HK.out.size
      have hs0 : (0 : Int) ≤ (s : Int) := by omega
      clear hle
      go_upto_region 4 with (refine wpList_make rfl (.tmp 11) rfl s (by have := HLE.out; omega) rfl ?_; intro gl w3 hg hr hsz hb; have H3 := Lib.hid (And.intro hg (And.intro hr hb)); clear hg hr hsz hb)
      have HFO := Lib.hid (follow_call (List.replicate s 0) gl 0 s s (-1) w3 H3.out.2.1 (by simp) (by have := HLE.out; omega) (by omega))
      go_upto_region 5 with (go_at_call 54; refine HFO.out.mono ?_; rintro e w4 ⟨⟨r, rfl⟩, hr4, hk4⟩; have H4 := Lib.hid (And.intro hr4 hk4); clear hr4 hk4)
      have HG : Hid (wr.heap.size ≤ gl) := Lib.hid (by rw [H3.out.1]; exact Nat.le_refl _)
      have HR4 : Hid (Row w4 gl 3 (nums (ofN (List.range s)))) := Lib.hid (by have h9 := H4.out.1; rwa [fill_first] at h9)
      have HK4 : Hid (Kp2 (fun b => b < wr.heap.size) wr w4) := Lib.hid (by
        have h1 : Kp2 (fun b => b < wr.heap.size) wr w3 := ⟨H3.out.2.2.size, fun b hb _ => H3.out.2.2.block b hb, H3.out.2.2.os, H3.out.2.2.tape, H3.out.2.2.output⟩
        exact h1.trans (H4.out.2.w (fun b hb => by have := HG.out; omega)))
      have HJ4 : Hid (J (some (List.range s)) w4) := Lib.hid (by
        have h9 := HJ1.out
        rw [HO.out] at h9
        exact HJ.out _ _ _ h9 (HK4.out.w (fun b hb => by have := HS2.out; omega)))
      have HKW : Hid (Kp2 (fun b => b = bn) W w4) := Lib.hid (HK.out.trans (HK4.out.w (fun b hb => by subst hb; exact lt_of_cell (HB.out wr HK.out))))
      clear H3 H4 HFO HJ1 d0
      go_upto_region 6 with (fail)
      go_loopg [5] (rkL nn s (List.range s) + 1) (fun k s5 wi => ∃ bb, s5 = .bool bb ∧ Kp2 (fun b => b = bn) W wi ∧ ((bb = true ∧ ∃ l, SL nn l ∧ l.length = s ∧ J (some l) wi ∧ Row wi gl 3 (nums (ofN l)) ∧ k = rkL nn s l + 1) ∨ (bb = false ∧ J (outO nn (s + 1)) wi)))
      case atStart => exact ⟨true, rfl, HKW.out, .inl ⟨rfl, _, range_SL HLE.out, by simp, HJ4.out, HR4.out, rfl⟩⟩
      case round =>
        obtain ⟨bb, rfl, hkw, hor⟩ := hrel
        have HKI := Lib.hid hkw
        have HOR := Lib.hid hor
        clear hkw hor
        cases bb with
        | false =>
          have HJ9 : Hid (J (outO nn (s + 1)) wr) := Lib.hid (by
            rcases HOR.out with ⟨h, -⟩ | ⟨-, h⟩
            · cases h
            · exact h)
          have HWS := Lib.hid (wrap_succ (show s < 17 by omega) (show 17 ≤ maxLen by unfold maxLen; omega))
          clear HOR
          go_wp2_with fail
          exact ⟨⟨s + 1, by omega, by have := HLE.out; omega, by first | rw [HWS.out, Int.natCast_succ] | go_num, HJ9.out, HKI.out⟩, by have := HLE.out; simp [HWS.out, intOf]; omega⟩
        | true =>
          obtain ⟨l, hsl, hl, hjl, hr, hgk⟩ : ∃ l, SL nn l ∧ l.length = s ∧ J (some l) wr ∧ Row wr gl 3 (nums (ofN l)) ∧ gk = rkL nn s l + 1 := by
            rcases HOR.out with ⟨-, h⟩ | ⟨h, -⟩
            · exact h
            · cases h
          have HSL := Lib.hid (And.intro hsl hl)
          have HGK := Lib.hid hgk
          obtain ⟨fn, tmps, assign, body, hyr, hR⟩ := HY.out gl l wr hjl hsl (by have := HS1.out; omega) hr (by have := HG.out; have := HS2.out; omega)
          rw [hl] at hyr
          have HRL := Lib.hid hr
          clear HOR hsl hl hjl hr hgk
          go_upto_region 8 with (fail)
          refine (wpIn_wide (n := q)).1 ?_
          gi_wp2
          refine hR.mono ?_
          rintro e w7 (⟨rfl, hj7, hk7⟩ | ⟨rfl, hx7⟩)
          · have HJ7 := Lib.hid hj7
            have HK7 := Lib.hid hk7
            have hgW : W.heap.size ≤ gl := by have := HG.out; have := HS2.out; omega
            have HR7 : Hid (Row w7 gl 3 (nums (ofN l))) := Lib.hid (row_kp HRL.out hk7 (.inr hgW))
            have HKB : Hid (Kp2 (fun b => b = bn) W w7) := Lib.hid (HKI.out.trans (hk7.w (fun b hb => .inl (hb ▸ HBB.out))))
            have d7 := HB.out w7 HKB.out
            have HNC := Lib.hid (next_call nn s gl l w7 HR7.out HSL.out.2 hnn HLE.out (fun i hi => HSL.out.1.1 i (by have := HSL.out.2; omega)))
            clear hj7 hk7 hyr hR
            gi_wp2
            cases hnx : nextL nn l with
            | some l2 =>
              rw [hnx] at HNC
              obtain ⟨hs2, hl2, -⟩ := next_some HSL.out.1 hnx
              have HRK : Hid (rkL nn s l2 + 1 < gk) := Lib.hid (by rw [HGK.out]; have := rkL_next HSL.out.1 HSL.out.2 hnx; omega)
              have HSC : Hid (succL nn l = some l2) := Lib.hid (by unfold succL; rw [hnx])
              have HS2L := Lib.hid (And.intro hs2 (hl2.trans HSL.out.2))
              clear hnx hs2 hl2
              go_wp2_with (go_at_call 55; refine HNC.out.mono ?_; rintro e w8 ⟨rfl, hr8, hk8⟩; have H8 := Lib.hid (And.intro hr8 hk8); clear hr8 hk8)
              go_roundg (rkL nn s l2 + 1)
              case measure => exact HRK.out
              case rel =>
                have hjs := HJ7.out
                rw [HSC.out] at hjs
                refine ⟨true, rfl, HKB.out.trans (H8.out.2.w (fun b hb => by subst hb; have := HG.out; have := lt_of_cell (HB.out W (Kp2.refl _ _)); omega)), .inl ⟨rfl, l2, HS2L.out.1, HS2L.out.2, HJ.out _ _ _ hjs (H8.out.2.w (fun b hb => by have := HG.out; have := HS2.out; omega)), H8.out.1, rfl⟩⟩
            | none =>
              rw [hnx] at HNC
              have HRK : Hid (0 < gk) := Lib.hid (by rw [HGK.out]; omega)
              have HSC : Hid (succL nn l = outO nn (s + 1)) := Lib.hid (by unfold succL outO; rw [hnx, HSL.out.2])
              clear hnx
              go_wp2_with (go_at_call 55; refine HNC.out.mono ?_; rintro e w8 ⟨rfl, hr8, hk8⟩; have H8 := Lib.hid (And.intro hr8 hk8); clear hr8 hk8)
              go_roundg 0
              case measure => exact HRK.out
              case rel =>
                have hjs := HJ7.out
                rw [HSC.out] at hjs
                refine ⟨false, rfl, HKB.out.trans (H8.out.2.w (fun b hb => by subst hb; have := HG.out; have := lt_of_cell (HB.out W (Kp2.refl _ _)); omega)), .inr ⟨rfl, HJ.out _ _ _ hjs (H8.out.2.w (fun b hb => by have := HG.out; have := HS2.out; omega))⟩⟩
          · have HX7 := Lib.hid hx7
            clear hx7 hyr hR
            gi_wp2
            go_wp2_with fail
            refine bodyPost_ret (results_none rfl _ _ _) rfl ?_
            exact ⟨⟨_, rfl⟩, .inr HX7.out⟩
    · have hlei : ¬ (s : Int) ≤ (nn : Int) := by omega
      have HO : Hid (outO nn s = none) := Lib.hid (by unfold outO; rw [if_neg hle])
      clear hle
      go_wp2_with fail
      go_end0
      exact ⟨⟨_, rfl⟩, .inl (by have h9 := HJ1.out; rwa [HO.out] at h9)⟩
end Go.Proofs.Ythkmbbgcadfilaa
