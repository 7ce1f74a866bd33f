/- Best and Prices. -/
import Derived.Test.YthkmbbgcadfilaaOe
namespace Go.Proofs.Ythkmbbgcadfilaa
open Go.RowKit Go.Shelf

theorem results_tmp4 {fn : Func} {t u v x : Tmp} (h : fn.results = #[.tmp t, .tmp u, .tmp v, .tmp x]) (tmps : Array Value) (P : Program) (w : World) :
    (results fn tmps).run P w = .ok (.tuple #[tmps.getD t undef, tmps.getD u undef, tmps.getD v undef, tmps.getD x undef]) w := by
  simp [results, h]
abbrev nilV : Value := .slice none 0 0
/-- what Best answers about costs -/
def BestP (C : List (List Int)) (v : Value) (c : Int) (ok : Bool) (w' : World) : Prop :=
  (ok = true ∧ chkE C = 0 ∧ ∃ p, IBuf w' v (ofN p) ∧ p.length = C.length ∧ Lx C.length (colsN C) (cst C) c (gN p)) ∨
  (ok = false ∧ v = nilV ∧ c = 0 ∧ (chkE C = 0 → ∃ R S, Crowd C.length (colsN C) (cst C) R S))
def BestQ (C : List (List Int)) (w : World) (e : Ending) (w' : World) : Prop := Below w.heap.size w w' ∧ ∃ v c ok, e = .returned (.tuple #[v, .int .i64 c, .bool ok, .int .i64 (chkE C)]) ∧ BestP C v c ok w'
set_option maxRecDepth 100000 in
set_option maxHeartbeats 8000000 in
theorem best_call (C : List (List Int)) (vc : Value) (w : World) (hC : NRest w.heap.size w C vc) :
    Calls Try.prog 15 #[vc] w (BestQ C w) := by
  have HCH := Lib.hid (check_call C vc w hC)
  have HC := Lib.hid hC
  obtain ⟨a, c, rfl⟩ := nrest_shape hC
  obtain ⟨n, hn⟩ : ∃ n, n = C.length := ⟨_, rfl⟩
  obtain ⟨m, hm⟩ : ∃ m, m = colsN C := ⟨_, rfl⟩
  have hBP : ∀ v k ok w', BestP C v k ok w' = ((ok = true ∧ chkE C = 0 ∧ ∃ p, IBuf w' v (ofN p) ∧ p.length = n ∧ Lx n m (cst C) k (gN p)) ∨ (ok = false ∧ v = nilV ∧ k = 0 ∧ (chkE C = 0 → ∃ R S, Crowd n m (cst C) R S))) := by
    intro v k ok w'
    unfold BestP
    rw [hn, hm]
  have HBP := Lib.hid hBP
  by_cases h0 : chkE C = 0
  · have hM := chk_ok h0
    rw [← hn, ← hm] at hM
    have HSE := Lib.hid (settle_law C (.slice a C.length c) w hM hm.symm hC)
    have H0 := Lib.hid h0
    rw [h0] at HCH
    rw [← hn] at HCH HSE HC ⊢
    clear hn hm hC h0 hBP
    go_enter Try.func15, Try.ntmps15
    go_upto_region 5 with (first | (go_at_call 31; refine HSE.out.mono ?_; rintro e w8 ⟨hb8, q, ok, rfl, hs8⟩; have HB8 := Lib.hid hb8; have HS8 := Lib.hid hs8; clear hb8 hs8) | (go_at_call 17; refine HCH.out.mono ?_; rintro e w5 ⟨rfl, rfl⟩))
    cases ok with
    | false =>
      go_wp2_with fail
      refine bodyPost_ret (results_tmp4 rfl _ _ _) rfl ?_
      unfold BestQ
      refine ⟨HB8.out, nilV, 0, false, by rw [H0.out]; rfl, ?_⟩
      rw [HBP.out]
      refine .inr ⟨rfl, rfl, rfl, fun _ => ?_⟩
      rcases HS8.out with ⟨h1, -⟩ | ⟨-, h⟩
      · cases h1
      · exact h
    | true =>
      obtain ⟨g, gu, gv, gt, gr, U, V, TO, RW, hq, hsd⟩ : ∃ g gu gv gt gr U V TO RW, q = some ⟨g, 0, none⟩ ∧ Sdl n m C (.slice a n c) w5 w8 g gu gv gt gr U V TO RW := by
        rcases HS8.out with ⟨-, h⟩ | ⟨h1, -⟩
        · exact h
        · cases h1
      subst hq
      obtain ⟨K, hK⟩ : ∃ K, K = bnd n m (gI U 0) (gI V 0) := ⟨_, rfl⟩
      have HLE := Lib.hid (least_call C w8 hM (HC.out.keep HB8.out) hsd.mem hsd.deal hK)
      have HBO : Hid (∀ W, Below w8.heap.size w8 W → Calls Try.prog 33 #[.pointer (some ⟨g, 0, none⟩)] W fun e w' => e = .returned (.int .i64 K) ∧ Below W.heap.size W w') := Lib.hid (fun W hW => by rw [hK]; exact bound_law W (hsd.mem.on hW) hsd.deal)
      clear HS8 hsd hK hM
      go_wp2_with (first | (go_at_call 33; refine (HBO.out _ HB9.out).mono ?_; rintro e w10 ⟨rfl, hb10⟩; have HB10 := Lib.hid hb10; clear hb10) | (go_at_call 32; refine HLE.out.mono ?_; rintro e w9 ⟨hb9, v, p, rfl, hp⟩; have HB9 := Lib.hid hb9; have HP := Lib.hid hp; clear hb9 hp))
      refine bodyPost_ret (results_tmp4 rfl _ _ _) rfl ?_
      unfold BestQ
      refine ⟨below_next (below_next HB8.out HB9.out) HB10.out, v, K, true, by rw [H0.out]; rfl, ?_⟩
      rw [HBP.out]
      exact .inl ⟨rfl, H0.out, p, HP.out.1.keep HB10.out, HP.out.2.1, HP.out.2.2⟩
  · obtain ⟨ce, hce⟩ : ∃ x, x = chkE C := ⟨_, rfl⟩
    have H0 := Lib.hid h0
    have HCE := Lib.hid hce
    rw [← hce] at HCH h0
    rw [← hn] at HCH ⊢
    have h1 : (ce != 0) = true := by simp [h0]
    clear hn hm hce h0 hC hBP
    go_enter Try.func15, Try.ntmps15
    go_wp2_with (go_at_call 17; refine HCH.out.mono ?_; rintro e w5 ⟨rfl, rfl⟩)
    refine bodyPost_ret (results_tmp4 rfl _ _ _) rfl ?_
    unfold BestQ
    refine ⟨Below.refl _ _, nilV, 0, false, by rw [← HCE.out]; rfl, ?_⟩
    rw [HBP.out]
    exact .inr ⟨rfl, rfl, rfl, fun h => absurd h H0.out⟩
/-- what Prices answers about costs -/
def PriP (C : List (List Int)) (vu vv : Value) (ok : Bool) (w' : World) : Prop :=
  (ok = true ∧ chkE C = 0 ∧ ∃ U V, IRest w'.heap.size w' U vu ∧ IRest w'.heap.size w' V vv ∧ FitL C C.length (colsN C) U V ∧ Least C.length (colsN C) (cst C) (lsum U + lsum V)) ∨
  (ok = false ∧ vu = nilV ∧ vv = nilV ∧ (chkE C = 0 → ∃ R S, Crowd C.length (colsN C) (cst C) R S))
theorem Sdl.prices {n m : Nat} {C : List (List Int)} {vc : Value} {w w' : World} {g gu gv gt gr : Nat} {U V TO RW : List Int} (h : Sdl n m C vc w w' g gu gv gt gr U V TO RW) :
    IRest w'.heap.size w' U (.slice (some ⟨gu, 0, none⟩) n n) ∧ IRest w'.heap.size w' V (.slice (some ⟨gv, 0, none⟩) m m) ∧ FitL C n m U V ∧ Least n m (cst C) (lsum U + lsum V) := by
  obtain ⟨-, hu, hv⟩ := deal_bound h.mem h.deal
  have hn := h.deal.n16
  have hm := h.deal.m16
  have hlu := h.mem.lu
  have hlv := h.mem.lv
  have hbu : betB U 1099511627776 = true := all_upto (k := n) (d := 0) (by omega) (fun i hi => decide_eq_true (hu i hi))
  have hbv : betB V 0 = true := all_upto (k := m) (d := 0) (by omega) (fun i hi => decide_eq_true (hv i hi))
  have hI : ∀ {L : List Int} {top : Int}, betB L top = true → top ≤ 1099511627776 → ∀ x, x ∈ L → I64 x := fun {L top} hb ht x hx => by
    unfold betB at hb
    rw [List.all_eq_true] at hb
    have := of_decide_eq_true (hb x hx)
    unfold I64
    omega
  refine ⟨irest_rowN h.mem.ru hlu (by unfold maxLen; omega) (hI hbu (by omega)), irest_rowN h.mem.rv hlv (by unfold maxLen; omega) (hI hbv (by omega)), ⟨hlu, hlv, hbu, hbv, fun i j hi hj hc => h.deal.fit.le i j hi hj hc⟩, ?_⟩
  have h1 := h.least
  have e : lsum U + lsum V = bnd n m (gI U 0) (gI V 0) := by unfold lsum bnd; rw [hlu, hlv]; rfl
  rw [e]; exact h1
def PriQ (C : List (List Int)) (w : World) (e : Ending) (w' : World) : Prop := Below w.heap.size w w' ∧ ∃ vu vv ok, e = .returned (.tuple #[vu, vv, .bool ok, .int .i64 (chkE C)]) ∧ PriP C vu vv ok w'
set_option maxRecDepth 100000 in
set_option maxHeartbeats 8000000 in
theorem prices_call (C : List (List Int)) (vc : Value) (w : World) (hC : NRest w.heap.size w C vc) :
    Calls Try.prog 24 #[vc] w (PriQ C w) := by
  have HCH := Lib.hid (check_call C vc w hC)
  have HC := Lib.hid hC
  obtain ⟨a, c, rfl⟩ := nrest_shape hC
  obtain ⟨n, hn⟩ : ∃ n, n = C.length := ⟨_, rfl⟩
  obtain ⟨m, hm⟩ : ∃ m, m = colsN C := ⟨_, rfl⟩
  have hBP : ∀ vu vv ok w', PriP C vu vv ok w' = ((ok = true ∧ chkE C = 0 ∧ ∃ U V, IRest w'.heap.size w' U vu ∧ IRest w'.heap.size w' V vv ∧ FitL C n m U V ∧ Least n m (cst C) (lsum U + lsum V)) ∨ (ok = false ∧ vu = nilV ∧ vv = nilV ∧ (chkE C = 0 → ∃ R S, Crowd n m (cst C) R S))) := by
    intro vu vv ok w'
    unfold PriP
    rw [hn, hm]
  have HBP := Lib.hid hBP
  by_cases h0 : chkE C = 0
  · have hM := chk_ok h0
    rw [← hn, ← hm] at hM
    have HSE := Lib.hid (settle_law C (.slice a C.length c) w hM hm.symm hC)
    have H0 := Lib.hid h0
    rw [h0] at HCH
    rw [← hn] at HCH HSE HC ⊢
    clear hn hm hC h0 hBP
    go_enter Try.func24, Try.ntmps24
    go_upto_region 5 with (first | (go_at_call 31; refine HSE.out.mono ?_; rintro e w8 ⟨hb8, q, ok, rfl, hs8⟩; have HB8 := Lib.hid hb8; have HS8 := Lib.hid hs8; clear hb8 hs8) | (go_at_call 17; refine HCH.out.mono ?_; rintro e w5 ⟨rfl, rfl⟩))
    cases ok with
    | false =>
      go_wp2_with fail
      refine bodyPost_ret (results_tmp4 rfl _ _ _) rfl ?_
      unfold PriQ
      refine ⟨HB8.out, nilV, nilV, false, by rw [H0.out]; rfl, ?_⟩
      rw [HBP.out]
      refine .inr ⟨rfl, rfl, rfl, fun _ => ?_⟩
      rcases HS8.out with ⟨h1, -⟩ | ⟨-, h⟩
      · cases h1
      · exact h
    | true =>
      obtain ⟨g, gu, gv, gt, gr, U, V, TO, RW, hq, hsd⟩ : ∃ g gu gv gt gr U V TO RW, q = some ⟨g, 0, none⟩ ∧ Sdl n m C (.slice a n c) w5 w8 g gu gv gt gr U V TO RW := by
        rcases HS8.out with ⟨-, h⟩ | ⟨h1, -⟩
        · exact h
        · cases h1
      subst hq
      have HSD := Lib.hid hsd
      have d1 := hsd.mem.rg.cell (i := 1) rfl
      have d2 := hsd.mem.rg.cell (i := 2) rfl
      clear HS8 hsd hM
      go_upto_region 7 with (fail)
      go_quiet (fail)
      go_wp2_with fail
      refine bodyPost_ret (results_tmp4 rfl _ _ _) rfl ?_
      unfold PriQ
      have hbq := below_drewN (Below.refl w8.heap.size w8) nq
      obtain ⟨h1, h2, h3, h4⟩ := HSD.out.prices
      refine ⟨below_next HB8.out hbq, .slice (some ⟨gu, 0, none⟩) n n, .slice (some ⟨gv, 0, none⟩) m m, true, by rw [H0.out]; rfl, ?_⟩
      rw [HBP.out]
      exact .inl ⟨rfl, H0.out, U, V, h1.keep hbq, h2.keep hbq, h3, h4⟩
  · obtain ⟨ce, hce⟩ : ∃ x, x = chkE C := ⟨_, rfl⟩
    have H0 := Lib.hid h0
    have HCE := Lib.hid hce
    rw [← hce] at HCH h0
    rw [← hn] at HCH ⊢
    have h1 : (ce != 0) = true := by simp [h0]
    clear hn hm hce h0 hC hBP
    go_enter Try.func24, Try.ntmps24
    go_wp2_with (go_at_call 17; refine HCH.out.mono ?_; rintro e w5 ⟨rfl, rfl⟩)
    refine bodyPost_ret (results_tmp4 rfl _ _ _) rfl ?_
    unfold PriQ
    refine ⟨Below.refl _ _, nilV, nilV, false, by rw [← HCE.out]; rfl, ?_⟩
    rw [HBP.out]
    exact .inr ⟨rfl, rfl, rfl, fun h => absurd h H0.out⟩
end Go.Proofs.Ythkmbbgcadfilaa
