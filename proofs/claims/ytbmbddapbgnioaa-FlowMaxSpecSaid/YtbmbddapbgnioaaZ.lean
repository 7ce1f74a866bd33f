/- Max. -/
import Derived.Test.YtbmbddapbgnioaaY
import Derived.Test.YtbmbddapbgnioaaMc
import Derived.Test.YtbmbddapbgnioaaV
import Derived.OwnWalk
namespace Go.Proofs.Ytbmbddapbgnioaa
open Go.RowKit Go.Shelf

def OldB (w : World) (b : Nat) : Prop := b < w.heap.size
def bnd (A : List Ar) (X : List Int) (s : Nat) : Nat := ((A.length : Int) * 1073741824 - surp A X s).toNat
/-- what Max's loop holds -/
structure MX (w : World) (N s t g K : Nat) (A : List Ar) (va : Value) (sb : Nat → Option Addr) (sc : Nat → Nat) (l : Nat) (X L : List Int) (W : World) : Prop where
  net : Net W g K N s t A va sb sc X
  row : Row W l 3 (nums L)
  kl : K ≤ l
  flo : Flo N s t A X
  lv : Lv N s t A X L
  box : Row W w.heap.size 24 [.int .i64 (N : Int), .int .i64 (s : Int), .int .i64 (t : Int), va]
  kp : Kp2 (OldB w) w W
  gB : w.heap.size < g
  lB : w.heap.size < l
theorem kp_old {w W : World} (h : Below w.heap.size w W) : Kp2 (OldB w) w W := ⟨h.size, fun b hb _ => h.block b hb, h.os, h.tape, h.output⟩
theorem kp_next {w W W' : World} (h : Kp2 (OldB w) w W) (hk : ∀ b, b < w.heap.size → b < W.heap.size → W'.heap[b]? = W.heap[b]?) (hs : W.heap.size ≤ W'.heap.size) (ho : W'.os = W.os ∧ W'.tape = W.tape ∧ W'.output = W.output) : Kp2 (OldB w) w W' :=
  ⟨Nat.le_trans h.1 hs, fun b hb hl => (hk b hb (Nat.lt_of_lt_of_le hl h.1)).trans (h.2 b hb hl), ho.1.trans h.os, ho.2.1.trans h.tape, ho.2.2.trans h.output⟩
theorem MX.keep {w : World} {N s t g K : Nat} {A : List Ar} {va : Value} {sb : Nat → Option Addr} {sc : Nat → Nat} {l : Nat} {X L : List Int} {W W' : World} (h : MX w N s t g K A va sb sc l X L W) (hb : Below W.heap.size W W') : MX w N s t g K A va sb sc l X L W' :=
  { h with net := h.net.keep hb, row := h.row.keep hb, box := h.box.keep hb, kp := kp_next h.kp (fun b _ hl => hb.block b hl) hb.size ⟨hb.os, hb.tape, hb.output⟩ }
theorem ofL_rch (L : List Int) : ofL (rchL L) = fun v => decide (L.getD v.toNat 0 ≠ 0) := by
  funext v
  unfold ofL rchL
  rcases Nat.lt_or_ge v.toNat L.length with h | h
  · simp [h]
  · rw [List.getD_eq_getElem?_getD, List.getElem?_eq_none (by simpa using h), List.getD_eq_getElem?_getD, List.getElem?_eq_none h]; rfl
set_option maxRecDepth 100000 in
set_option maxHeartbeats 4000000 in
theorem max_bad (N s t : Int) (A : List Ar) (va : Value) (w : World) (hA : ARest w.heap.size w A va) (hE : netE N s t A ≠ 0) :
    Calls Try.prog 18 #[netV N s t va] w fun e w' => e = .returned (.tuple #[.slice none 0 0, .slice none 0 0, .int .i64 (netE N s t A)]) ∧ Below w.heap.size w w' := by
  have HCK : Hid (∀ W, Below w.heap.size w W → Calls Try.prog 15 #[netV N s t va] W fun e w' => e = .returned (.int .i64 (netE N s t A)) ∧ Below W.heap.size W w') := Lib.hid (fun W hW => check_call N s t A va W ((hA.stays hW).mono hW.size))
  obtain ⟨er, her⟩ : ∃ er, er = netE N s t A := ⟨_, rfl⟩
  rw [← her] at hE HCK ⊢
  clear her hA
  unfold netV at HCK ⊢
  have HX := Lib.hid (bx_new w N s t va)
  obtain ⟨W1, hW1⟩ : ∃ W1, W1 = w.alloc (.cells #[.int .i64 N, .int .i64 s, .int .i64 t, va] 24) := ⟨_, rfl⟩
  have HW1 := Lib.hid hW1
  rw [← hW1] at HX
  clear hW1
  have HCK1 := Lib.hid (HCK.out W1 HX.out.bw)
  have d0 := HX.out.row.cell (i := 0) rfl
  have d1 := HX.out.row.cell (i := 1) rfl
  have d2 := HX.out.row.cell (i := 2) rfl
  have d3 := HX.out.row.cell (i := 3) rfl
  go_enter Try.func18, Try.ntmps18
  go_upto_region 1 with (fail)
  rw [← HW1.out]
  go_wp2_with (go_at_call 15; refine HCK1.out.mono ?_; rintro e w5 ⟨rfl, hb5⟩; have HR5 := Lib.hid (HX.out.keep hb5); clear hb5)
  refine bodyPost_ret (results_tmp3 rfl _ _ _) rfl ?_
  exact ⟨rfl, HR5.out.bw⟩
set_option maxRecDepth 100000 in
set_option maxHeartbeats 8000000 in
theorem max_good (N s t : Nat) (A : List Ar) (va : Value) (w : World) (hA : ARest w.heap.size w A va) (hE : netE N s t A = 0) :
    Calls Try.prog 18 #[netV N s t va] w fun e w' => Kp2 (OldB w) w w' ∧ ∃ vf vs X L, e = .returned (.tuple #[vf, vs, .int .i64 0]) ∧ IBuf w' vf X ∧ BBuf w' vs (rchL L) ∧ Own w.heap.size vf ∧ Own w.heap.size vs ∧ L.length = N ∧ IsMax N s t A X (ofL (rchL L)) := by
  have hok := net_ok hE
  have hinn : Inn N A := hok.net.inn
  have hN : 2 ≤ N ∧ N ≤ 64 := by have := hok.rng; omega
  have hs : s < N := by have := hok.net.src; omega
  have ht : t < N := by have := hok.net.snk; omega
  have hst : s ≠ t := by have := hok.net.ne; omega
  have hnw : Netw N s t A := hok.net
  have HNW := Lib.hid hnw
  have HCAP := Lib.hid hok.caps
  have hfew := hok.few
  obtain ⟨a, c, rfl, -⟩ := id hA
  have HCK : Hid (∀ W, Below w.heap.size w W → Calls Try.prog 15 #[netV N s t (.slice a A.length c)] W fun e w' => e = .returned (.int .i64 0) ∧ Below W.heap.size W w') := Lib.hid (fun W hW => by
    have h9 := check_call N s t A (.slice a A.length c) W ((hA.stays hW).mono hW.size)
    rw [hE] at h9; exact h9)
  have HWH : Hid (∀ W, Below w.heap.size w W → Calls Try.prog 32 #[netV N s t (.slice a A.length c)] W fun e w' => ∃ g K sb sc, e = .returned (.pointer (some ⟨g, 0, none⟩)) ∧ Net w' g K N s t A (.slice a A.length c) sb sc (List.replicate A.length 0) ∧ Below W.heap.size W w' ∧ W.heap.size ≤ g) := Lib.hid (fun W hW => whole_call N s t A _ W ((hA.stays hW).mono hW.size) hinn hok.few hok.caps hN.2 hs ht hst hok.loops)
  have HZ : Hid (Flo N s t A (List.replicate A.length 0)) := Lib.hid (Flo.zero (fun a ha => (hok.caps a ha).1)).1
  have HNN := Lib.hid (And.intro hN (And.intro hs (And.intro ht hst)))
  obtain ⟨n, hn⟩ : ∃ n, n = A.length := ⟨_, rfl⟩
  rw [← hn] at HCK HWH hfew HZ ⊢
  have HNL := Lib.hid hn
  clear hok hA hE hinn hnw hn hN hs hst
  unfold netV at HCK HWH ⊢
  have HX := Lib.hid (bx_new w (N : Int) (s : Int) (t : Int) (.slice a n c))
  obtain ⟨W1, hW1⟩ : ∃ W1, W1 = w.alloc (.cells #[.int .i64 (N : Int), .int .i64 (s : Int), .int .i64 (t : Int), .slice a n c] 24) := ⟨_, rfl⟩
  have HW1 := Lib.hid hW1
  rw [← hW1] at HX
  clear hW1
  have HS1 : Hid (w.heap.size < W1.heap.size) := Lib.hid HX.out.row.lt
  have HCK1 := Lib.hid (HCK.out W1 HX.out.bw)
  have d0 := HX.out.row.cell (i := 0) rfl
  have d1 := HX.out.row.cell (i := 1) rfl
  have d2 := HX.out.row.cell (i := 2) rfl
  have d3 := HX.out.row.cell (i := 3) rfl
  go_enter Try.func18, Try.ntmps18
  go_upto_region 1 with (fail)
  rw [← HW1.out]
  go_upto_region 4 with (go_at_call 15; refine HCK1.out.mono ?_; rintro e w5 ⟨rfl, hb5⟩; have HR5 := Lib.hid (HX.out.keep hb5); have HS5 : Hid (w.heap.size < w5.heap.size) := Lib.hid (Nat.lt_of_lt_of_le HS1.out hb5.size); clear hb5)
  clear d0 d1 d2 d3 HX HCK1 HCK HW1 HS1
  have d0 := HR5.out.row.cell (i := 0) rfl
  have d1 := HR5.out.row.cell (i := 1) rfl
  have d2 := HR5.out.row.cell (i := 2) rfl
  have d3 := HR5.out.row.cell (i := 3) rfl
  have HWH5 := Lib.hid (HWH.out w5 HR5.out.bw)
  clear HWH
  go_upto_region 5 with (go_at_call 32; refine HWH5.out.mono ?_; rintro e w6 ⟨g, K, sb, sc, rfl, hn6, hb6, hg6⟩; have HR6 := Lib.hid (HR5.out.keep hb6); have HN6 := Lib.hid hn6; have HG : Hid (w.heap.size < g ∧ w5.heap.size ≤ g) := Lib.hid ⟨Nat.lt_of_lt_of_le HS5.out hg6, hg6⟩; have HS6 : Hid (w.heap.size < w6.heap.size) := Lib.hid (Nat.lt_of_lt_of_le HS5.out hb6.size); clear hn6 hb6 hg6)
  have HL6 : Hid (Calls Try.prog 33 #[.pointer (some ⟨g, 0, none⟩)] w6 fun e w' => ∃ l L, e = .returned (.slice (some ⟨l, 0, none⟩) N N) ∧ Row w' l 3 (nums L) ∧ w6.heap.size ≤ l ∧ Below w6.heap.size w6 w' ∧ Lv N s t A (List.replicate n 0) L) := Lib.hid (levels_call ⟨g, K, N, s, t, A, _, sb, sc, List.replicate n 0⟩ w6 HN6.out)
  go_upto_region 6 with (go_at_call 33; refine HL6.out.mono ?_; rintro e w7 ⟨l, L, rfl, hr7, hl7, hb7, hv7⟩; have HMX : Hid (MX w N s t g K A (.slice a n c) sb sc l (List.replicate n 0) L w7) := Lib.hid ⟨HN6.out.keep hb7, hr7, Nat.le_trans HN6.out.Kw hl7, HZ.out, hv7, (HR6.out.row.keep hb7), kp_old (below_next HR6.out.bw hb7), HG.out.1, Nat.lt_of_lt_of_le HS6.out hl7⟩; clear hr7 hl7 hb7 hv7)
  clear HN6 HL6 HR6 HR5 HS5 HS6 HG HZ d0 d1 d2 d3 HWH5
  go_loopg [6] (bnd A (List.replicate n 0) s) (fun k s6 wr => ∃ l X L, s6 = .slice (some ⟨l, 0, none⟩) N N ∧ MX w N s t g K A (.slice a n c) sb sc l X L wr ∧ k = bnd A X s)
  case atStart => exact ⟨l, _, L, rfl, HMX.out, rfl⟩
  case round =>
    obtain ⟨l, X, L, rfl, hM, hgk⟩ := hrel
    clear HMX
    have HM := Lib.hid hM
    have HGK := Lib.hid hgk
    clear hM hgk
    have d2 := HM.out.box.cell (i := 2) rfl
    have d4 := nrow_cell HM.out.row (u := t) (by have := HM.out.lv.len; omega)
    obtain ⟨x, hx⟩ : ∃ x, x = L.getD t 0 := ⟨_, rfl⟩
    rw [← hx] at d4
    have HX := Lib.hid hx
    clear hx
    by_cases hx0 : x = 0
    · subst hx0
      have hXl : X.length = A.length := ((okF_iff A X).1 HM.out.flo.ok).1
      have HFL : Hid (Calls Try.prog 35 #[.pointer (some ⟨g, 0, none⟩)] wr fun e w' => ∃ v, e = .returned v ∧ IBuf w' v X ∧ Below wr.heap.size wr w' ∧ Own wr.heap.size v) := Lib.hid (by
        have h9 := HM.out.net
        rw [HNL.out] at h9
        exact flow_call wr a c h9 hXl)
      have HRE : Hid (∀ W, Below wr.heap.size wr W → Calls Try.prog 36 #[.slice (some ⟨l, 0, none⟩) N N] W fun e w' => ∃ v, e = .returned v ∧ BBuf w' v (rchL L) ∧ Below W.heap.size W w' ∧ Own W.heap.size v) := Lib.hid (fun W hW => reached_call W (HM.out.row.keep hW) HM.out.lv.len HNN.out.1.2)
      have HMAX : Hid (IsMax N s t A X (ofL (rchL L))) := Lib.hid (by rw [ofL_rch]; exact HM.out.lv.isMax HNW.out HX.out.symm HM.out.flo)
      clear hXl
      go_wp2_with (first | (go_at_call 35; refine HFL.out.mono ?_; rintro e w8 ⟨vf, rfl, hi8, hb8, ho8⟩; have HRE8 := Lib.hid (HRE.out w8 hb8); have HF8 := Lib.hid (And.intro hi8 (And.intro hb8 ho8)); clear hi8 hb8 ho8) | (go_at_call 36; refine HRE8.out.mono ?_; rintro e w9 ⟨vs, rfl, hi9, hb9, ho9⟩; have HF9 := Lib.hid (And.intro hi9 (And.intro hb9 ho9)); clear hi9 hb9 ho9))
      go_ret3
      have hsz : w.heap.size ≤ wr.heap.size := HM.out.kp.1
      have hb9 := below_next HF8.out.2.1 HF9.out.2.1
      exact ⟨kp_next HM.out.kp (fun b _ hl => hb9.block b hl) hb9.size ⟨hb9.os, hb9.tape, hb9.output⟩, _, _, X, L, rfl, HF8.out.1.keep HF9.out.2.1, HF9.out.1, fun b hb => Nat.le_trans hsz (HF8.out.2.2 b hb), fun b hb => Nat.le_trans (Nat.le_trans hsz HF8.out.2.1.size) (HF9.out.2.2 b hb), HM.out.lv.len, HMAX.out⟩
    · have HFI : Hid (Calls Try.prog 34 #[.pointer (some ⟨g, 0, none⟩), .slice (some ⟨l, 0, none⟩) N N] wr fun e w' => ∃ r X', e = .returned r ∧ Net w' g K N s t A (.slice a n c) sb sc X' ∧ Flo N s t A X' ∧ bnd A X' s < bnd A X s ∧ Kp2 (fun b => b ≠ g ∧ b ≠ l) wr w') := Lib.hid ((fill_call wr HM.out.net HM.out.row HM.out.kl HM.out.lv HM.out.flo.ok).mono fun e w' hp => by
        obtain ⟨⟨r, rfl⟩, p, X', L', F', hpp, hnet, hkp⟩ := hp
        obtain ⟨h1, h2, h3⟩ := pushed HNW.out.inn HNN.out.2.1 HNN.out.2.2.1 HNN.out.2.2.2 HM.out.lv (by rw [← HX.out]; exact hx0) HM.out.flo hpp
        have h4 := h1.bound (M := 1073741824) HNW.out HCAP.out
        exact ⟨r, X', rfl, hnet, h1, by unfold bnd; omega, hkp⟩)
      have HNX : Hid (∀ X' W, Net W g K N s t A (.slice a n c) sb sc X' → Calls Try.prog 33 #[.pointer (some ⟨g, 0, none⟩)] W fun e w' => ∃ l L, e = .returned (.slice (some ⟨l, 0, none⟩) N N) ∧ Row w' l 3 (nums L) ∧ W.heap.size ≤ l ∧ Below W.heap.size W w' ∧ Lv N s t A X' L) := Lib.hid (fun X' W hW => levels_call ⟨g, K, N, s, t, A, _, sb, sc, X'⟩ W hW)
      go_wp2_with (first | (go_at_call 34; refine HFI.out.mono ?_; rintro e w8 ⟨r, X', rfl, hn8, hf8, hm8, hk8⟩; have HNX8 := Lib.hid (HNX.out X' w8 hn8); have HF8 := Lib.hid (And.intro hn8 (And.intro hf8 (And.intro hm8 hk8))); clear hn8 hf8 hm8 hk8) | (go_at_call 33; refine HNX8.out.mono ?_; rintro e w9 ⟨l9, L9, rfl, hr9, hl9, hb9, hv9⟩; have HF9 := Lib.hid (And.intro hr9 (And.intro hl9 (And.intro hb9 hv9))); clear hr9 hl9 hb9 hv9))
      have hM := HM.out
      have hk8 := HF8.out.2.2.2
      have hb9 := HF9.out.2.2.1
      have hw8 : w.heap.size < wr.heap.size := hM.box.lt
      have hbox : Row w8 w.heap.size 24 [.int .i64 (N : Int), .int .i64 (s : Int), .int .i64 (t : Int), .slice a n c] := Eq.trans (hk8.2 _ ⟨by have := hM.gB; omega, by have := hM.lB; omega⟩ hw8) hM.box
      have hnew : MX w N s t g K A (.slice a n c) sb sc l9 X' L9 w9 := ⟨HF8.out.1.keep hb9, HF9.out.1, Nat.le_trans HF8.out.1.Kw HF9.out.2.1, HF8.out.2.1, HF9.out.2.2.2, hbox.keep hb9, kp_next (kp_next hM.kp (fun b hb hl => hk8.2 b ⟨by have := hM.gB; omega, by have := hM.lB; omega⟩ hl) hk8.1 ⟨hk8.os, hk8.tape, hk8.output⟩) (fun b _ hl => hb9.block b hl) hb9.size ⟨hb9.os, hb9.tape, hb9.output⟩, hM.gB, by have := hk8.1; have := HF9.out.2.1; omega⟩
      go_roundg (bnd A X' s)
      case measure => rw [HGK.out]; exact HF8.out.2.2.1
      case rel => exact ⟨l9, X', L9, rfl, hnew, rfl⟩
end Go.Proofs.Ytbmbddapbgnioaa
