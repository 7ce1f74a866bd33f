/- The reference's record, walked. -/
import Derived.Deep.Onto
import Derived.Test.YtlaaolbdadempaaZs22
namespace Go.Proofs.Ytlaaolbdadempaa
open Go.RowKit

theorem numR_take4 (b : List UInt8) (hb : b.length = 128) : numR (b.take 4) = num4 b := by
  obtain ⟨a0, a1, a2, a3, c0, c1, c2, c3, x8, x9, m, n, g0, g1, g2, g3, d, hd, rfl⟩ := cut128 b hb
  rw [show (a0 :: a1 :: a2 :: a3 :: c0 :: c1 :: c2 :: c3 :: x8 :: x9 :: m :: n :: (d ++ [g0, g1, g2, g3])).take 4 = [a0, a1, a2, a3] from rfl, numR4]
  rfl
/-- may the sector go on with the record, if it is good? -/
def okR (beg : Bool) (n g g0 : Nat) : Bool := (beg == decide (n = 0)) && (decide (n = 0) || decide (g = g0))
theorem okR_eq (at' n : Nat) (p last : Pce) (g0 : Nat) (hl : 0 < n → endB last = false ∧ last.gen = g0) : (!breakB at' (at' + n) p last) = okR (begB p) n p.gen g0 := by
  unfold breakB okR conB
  rcases Nat.eq_zero_or_pos n with h | h
  · subst h; simp
  · obtain ⟨h1, h2⟩ := hl h
    have h3 : ¬ n = 0 := by omega
    have h4 : ¬ (at' + n = at') := by omega
    have h5 : at' < at' + n := by omega
    simp [h1, h2, h3, h4, h5]
    cases begB p <;> simp
structure RrI (secs : List (List UInt8)) (at' : Nat) (w : World) (s6 : Value) (n : Nat) (acc : List UInt8) (last : Pce) (wr : World) : Prop where
  le : at' + n ≤ secs.length
  own : wr.ownsRow w.heap.size 5 1 s6 acc.length (cellsOf acc)
  len : acc.length ≤ n * 112
  go : recP secs at' = recGo secs at' (secs.length - (at' + n)) (at' + n) acc last
  last : 0 < n → endB last = false ∧ last.gen = num4 (secs.getD at' [])
  bel : Below w.heap.size w wr
def RrHead (secs : List (List UInt8)) (at' : Nat) (w : World) (s6 s7 : Value) (wr : World) : Prop := ∃ (n : Nat) (acc : List UInt8) (last : Pce), s7 = .int .i64 (n : Int) ∧ RrI secs at' w s6 n acc last wr
/-- what record answers -/
def RecAns (secs : List (List UInt8)) (at' : Nat) (w : World) (e : Ending) (w' : World) : Prop :=
  ∃ v, e = .returned (.tuple #[v, .int .i64 ((recP secs at').2.2 : Int)]) ∧ ((recP secs at').2.2 ≠ 0 → Buf w' v (recP secs at').1 ∧ ∀ g, v.ownBlock = some g → w.heap.size ≤ g) ∧ (∃ a n c, v = .slice a n c) ∧ Below w.heap.size w w'
theorem recans_no {secs : List (List UInt8)} {at' : Nat} {w w' : World} (h : recP secs at' = ([], 0, 0)) (hb : Below w.heap.size w w') : RecAns secs at' w (.returned (.tuple #[.slice none 0 0, .int .i64 0])) w' := by
  unfold RecAns
  rw [h]
  exact ⟨_, rfl, fun h => absurd rfl h, ⟨_, _, _, rfl⟩, hb⟩
theorem rest_some {B : Nat} {w : World} {b : List UInt8} {a : Option Addr} {n c : Nat} (h : Rest B w b (.slice a n c)) (h0 : 0 < b.length) : ∃ bb off, a = some ⟨bb, off, none⟩ ∧ ∀ i (h : i < b.length), w.cell? ⟨bb, off + i, none⟩ = some (.int .u8 (b[i].toNat : Int)) := by
  obtain ⟨a3, c3, he, _, _, _, h4⟩ := h
  injection he with he1 he2 he3
  subst he1
  rcases h4 with h4 | ⟨bb, off, rfl, _, hc⟩
  · omega
  · exact ⟨bb, off, rfl, hc⟩
theorem rests_own {w : World} {base n : Nat} {v : Value} {xs : List UInt8} (h : w.ownsRow base 5 1 v n (cellsOf xs)) (hn : n = xs.length) : RestS (fun b => base ≤ b) w xs v := by
  rcases h.2 with ⟨rfl, h1⟩ | ⟨g, cap, cur, rfl, hbg, hg2, hnc, hcm, hcs, htake⟩
  · obtain rfl : xs = [] := List.eq_nil_of_length_eq_zero (by omega)
    exact rests_nil _ _
  · exact rests_of_owns h hn hbg
theorem RrI.drewN {secs at' w s6 n acc last wr} (h : RrI secs at' w s6 n acc last wr) (q : Nat) : RrI secs at' w s6 n acc last (wr.drewN q) :=
  ⟨h.le, owns_heap h.own (fun _ _ => rfl), h.len, h.go, h.last, below_drewN h.bel q⟩
set_option maxHeartbeats 80000000 in
set_option maxRecDepth 100000 in
theorem refrecord_call (secs : List (List UInt8)) (at' : Nat) (v : Value) (w : World) (h : NRest w.heap.size w secs v) (hl : ∀ x ∈ secs, x.length = 128) (hn : secs.length ≤ 4096) (hat : at' ≤ secs.length) :
    Calls Try.prog 82 #[v, .int .i64 (at' : Int)] w (RecAns secs at' w) := by
  have HV := Lib.hid h
  obtain ⟨va, vc, rfl⟩ := nrest_slice h
  have HL := Lib.hid hl
  have hvc : secs.length ≤ vc := by obtain ⟨_, _, he, h1, _⟩ := h; injection he with _ _ h3; omega
  have HMADE : Hid ((w.alloc (.cells #[] 5)).ownsRow w.heap.size 5 1 (.slice (some ⟨w.heap.size, 0, none⟩) 0 0) 0 (cellsOf [])) := Lib.hid (World.ownsRow_made w #[] 0 (Nat.le_refl _) (by unfold maxLen; omega) rfl)
  obtain ⟨S, hS⟩ : ∃ S, S = secs.length := ⟨_, rfl⟩
  rw [← hS] at HV hn hat hvc ⊢
  have HS := Lib.hid hS
  clear h hl hS
  go_enter Try.func82, Try.ntmps82
  go_wp2_with fail
  go_loopw [6, 7] (fun s6 s7 wr => RrHead secs at' w s6 s7 wr) (fun _ s7 _ => S - (intOf s7).toNat)
  case atStart => exact ⟨0, [], zeroP, rfl, by rw [← HS.out]; omega, HMADE.out, by simp, rfl, fun h => absurd h (by omega), Joins.below_alloc1 w _⟩
  case round =>
    obtain ⟨n, acc, last, rfl, hi⟩ := hrel
    obtain ⟨a6, c6, rfl, hc6, hc7⟩ := own_shape hi.own
    have HI := Lib.hid hi
    have hle := hi.le
    rw [← HS.out] at hle
    clear hi
    obtain ⟨kk, hkk⟩ : ∃ kk, kk = at' + n := ⟨_, rfl⟩
    have HK := Lib.hid hkk
    have hw1 : IntKind.i64.wrap ((at' : Int) + (n : Int)) = (kk : Int) := by rw [IntKind.wrap_i64]; omega
    rcases Nat.lt_or_ge kk S with hlt | hge
    · obtain ⟨b, hx⟩ : ∃ x, secs[kk]? = some x := ⟨_, List.getElem?_eq_getElem (by rw [← HS.out]; exact hlt)⟩
      obtain ⟨f, hx0⟩ : ∃ x, secs[at']? = some x := ⟨_, List.getElem?_eq_getElem (by rw [← HS.out]; omega)⟩
      have hbl := HL.out b (List.mem_of_getElem? hx)
      have hfl := HL.out f (List.mem_of_getElem? hx0)
      obtain ⟨vb, vo, u, rfl, _, hru, hcu⟩ := HV.out.at hx
      obtain ⟨vb2, vo2, u2, he, _, hru2, hcu2⟩ := HV.out.at hx0
      injection he with he; injection he with he1 he2; subst he1 he2
      obtain ⟨u0, uc, rfl, huc, huc2⟩ := hru.shape
      obtain ⟨f0, fc, rfl, hfc, hfc2⟩ := hru2.shape
      obtain ⟨ub, uo, rfl, hub⟩ := rest_some hru (by omega)
      obtain ⟨fb, fo, rfl, _⟩ := rest_some hru2 (by omega)
      have hbel := HI.out.bel
      have HU := Lib.hid hru
      have HU2 := Lib.hid hru2
      rw [hbl] at huc2 HU hcu
      rw [hfl] at hfc2 HU2 hcu2
      have HBL := Lib.hid hbl
      have HFL := Lib.hid hfl
      have hget : secs.getD kk [] = b := by rw [List.getD_eq_getElem?_getD, hx]; rfl
      have hget0 : secs.getD at' [] = f := by rw [List.getD_eq_getElem?_getD, hx0]; rfl
      obtain ⟨gd, hgd⟩ : ∃ gd, gd = goodB b kk := ⟨_, rfl⟩
      obtain ⟨g, hg⟩ : ∃ g, g = num4 b := ⟨_, rfl⟩
      obtain ⟨g0, hg0⟩ : ∃ g, g = num4 f := ⟨_, rfl⟩
      obtain ⟨m, hm⟩ : ∃ m, m = (b.getD 10 0).toNat := ⟨_, rfl⟩
      obtain ⟨c, hc⟩ : ∃ c, c = (b.getD 11 0).toNat := ⟨_, rfl⟩
      have hcell : ∀ i, i < 128 → ∀ W, Below w.heap.size w W → W.cell? ⟨ub, uo + i, none⟩ = some (.int .u8 ((b.getD i 0).toNat : Int)) := fun i hi W hW => by
        have h9 := hub i (by omega)
        rw [hW.cell (World.block_lt_of_cell? w _ h9), h9, List.getD_eq_getElem?_getD, List.getElem?_eq_getElem (by omega)]; rfl
      have HCE : Hid (∀ W, Below w.heap.size w W → W.cell? ⟨ub, uo + 10, none⟩ = some (.int .u8 (m : Int))) := Lib.hid (fun W hW => by rw [hm]; exact hcell 10 (by omega) W hW)
      have HG : Hid (∀ q, Calls Try.prog 98 #[.slice (some ⟨ub, uo, none⟩) 128 uc, .int .i64 (kk : Int)] (wr.drewN q) fun e w' => e = .returned (.bool gd) ∧ ∃ m, w' = (wr.drewN q).drewN m) := Lib.hid (fun q => by
        rw [hgd]; exact refgood_call b HBL.out kk (by omega) _ _ _ (HU.out.stays (below_drewN hbel q)))
      have H83 : Hid (∀ q, Calls Try.prog 83 #[.slice (some ⟨ub, uo, none⟩) 4 uc] (wr.drewN q) fun e w' => e = .returned (.int .u64 (g : Int)) ∧ w' = wr.drewN q) := Lib.hid (fun q => by
        have hr := HU.out.stays (below_drewN hbel q)
        rw [← HBL.out] at hr
        have := refnumber_call ((b.drop 0).take 4) (.slice (some ⟨ub, uo + 0, none⟩) 4 uc) _ _ (rest_part hr 0 4 uc (by omega) (by omega) (by omega)) (by rw [List.length_take]; omega)
        rw [List.drop_zero, Nat.add_zero, numR_take4 b HBL.out, ← hg] at this
        exact this)
      have H830 : Hid (∀ q, Calls Try.prog 83 #[.slice (some ⟨fb, fo, none⟩) 4 fc] (wr.drewN q) fun e w' => e = .returned (.int .u64 (g0 : Int)) ∧ w' = wr.drewN q) := Lib.hid (fun q => by
        have hr := HU2.out.stays (below_drewN hbel q)
        rw [← HFL.out] at hr
        have := refnumber_call ((f.drop 0).take 4) (.slice (some ⟨fb, fo + 0, none⟩) 4 fc) _ _ (rest_part hr 0 4 fc (by omega) (by omega) (by omega)) (by rw [List.length_take]; omega)
        rw [List.drop_zero, Nat.add_zero, numR_take4 f HFL.out, ← hg0] at this
        exact this)
      have hml := (b.getD 10 0).toNat_lt
      have hcl := (b.getD 11 0).toNat_lt
      have ck : wr.cell? ⟨vb, vo + kk, none⟩ = some (.slice (some ⟨ub, uo, none⟩) 128 uc) := hcu wr hbel
      have c0 : ∀ q : Nat, (wr.drewN q).cell? ⟨vb, vo + at', none⟩ = some (.slice (some ⟨fb, fo, none⟩) 128 fc) := fun q => hcu2 _ (below_drewN hbel q)
      have b10 : ∀ q : Nat, (wr.drewN q).cell? ⟨ub, uo + 10, none⟩ = some (.int .u8 (m : Int)) := fun q => by rw [hm]; exact hcell 10 (by omega) _ (below_drewN hbel q)
      have b11 : ∀ q : Nat, (wr.drewN q).cell? ⟨ub, uo + 11, none⟩ = some (.int .u8 (c : Int)) := fun q => by rw [hc]; exact hcell 11 (by omega) _ (below_drewN hbel q)
      rw [← hm] at hml
      rw [← hc] at hcl
      have HSTEP : Hid (recP secs at' = if gd && okR (decide (m % 2 = 1)) n g g0 then (if endB (pceOf b) then (acc ++ (pceOf b).data, (pceOf b).gen, kk + 1 - at') else recGo secs at' (secs.length - (kk + 1)) (kk + 1) (acc ++ (pceOf b).data) (pceOf b)) else ([], 0, 0)) := Lib.hid (by
        have h1 := okR_eq at' n (pceOf b) last (num4 f) (fun h => by have := HI.out.last h; rwa [hget0] at this)
        rw [← hkk] at h1
        rw [HI.out.go, ← hkk, recGo_step secs at' kk acc last (by rw [← HS.out]; exact hlt)]
        simp only [hget]
        rw [h1, ← hgd, show begB (pceOf b) = decide (m % 2 = 1) from by unfold begB pceOf; simp only [← hm], show (pceOf b).gen = g from by unfold pceOf; exact hg.symm, ← hg0])
      have HPC : Hid (gd = true → c ≤ 112 ∧ endB (pceOf b) = decide (2 ≤ m) ∧ (pceOf b).data = ((b.drop 12).take c) ∧ (pceOf b).gen = g) := Lib.hid (fun h => by
        rw [hgd] at h
        unfold goodB fitB at h
        simp only [Bool.and_eq_true, decide_eq_true_eq] at h
        obtain ⟨⟨h1, ⟨⟨_, h3⟩, _⟩, _⟩, _⟩ := h
        refine ⟨by omega, ?_, by unfold pceOf; rw [hc], hg.symm⟩
        unfold endB pceOf at *
        simp only at h3 ⊢
        rw [← hm] at h3 ⊢
        apply decide_eq_decide.2
        omega)
      have HGET0 : Hid (g0 = num4 (secs.getD at' [])) := Lib.hid (by rw [hget0]; exact hg0)
      have tm : (m : Int).tmod 2 = ((m % 2 : Nat) : Int) := by rw [Int.tmod_eq_emod_of_nonneg (by omega)]; omega
      have hki : (kk : Int) < (S : Int) := by omega
      have hk0 : (0 : Int) ≤ (kk : Int) := by omega
      have ha0 : (0 : Int) ≤ (at' : Int) := by omega
      have hai : (at' : Int) < (S : Int) := by omega
      have huc4 : (4 : Int) ≤ (uc : Int) := by omega
      have hfc4 : (4 : Int) ≤ (fc : Int) := by omega
      have HMG : Hid (IntKind.i64.wrap ((n : Int) + 1) = (n : Int) + 1 ∧ n + 1 ≤ 4096 ∧ at' + (n + 1) ≤ S) := Lib.hid (by rw [IntKind.wrap_i64]; omega)
      have HGG0 : Hid (n = 0 → g = g0) := Lib.hid (fun h => by
        have h2 : kk = at' := by omega
        rw [h2] at hx; rw [hx0] at hx; cases hx; rw [hg, hg0])
      have HKN : Hid (kk + 1 = at' + (n + 1)) := Lib.hid (by omega)
      clear hub hru hru2 hcu hcu2 hbl hfl hget hget0 hgd hg hg0 hm hc hcell hx hx0 hkk
      go_upto_region 6 with (fail)
      go_cut [55] (fun s55 wx => s55 = .bool (!(gd && okR (decide (m % 2 = 1)) n g g0)) ∧ ∃ q, wx = wr.drewN q)
      case first =>
        have mm : ∀ P, m % 2 = 1 → P = true → P = decide (m % 2 = 1) := fun P h h2 => by rw [h2, decide_eq_true h]
        clear mm
        cases gd with
        | false =>
          go_quiet ((first | (go_at_call 98; exact Calls.quiet_of (HG.out _)) | (go_at_call 83; first | (with_reducible exact Calls.quiet_of_same (H83.out _)) | (with_reducible exact Calls.quiet_of_same (H830.out _)))))
          go_wp2_with fail
          go_meet
          case rel => exact ⟨rfl, _, rfl⟩
        | true =>
          by_cases hb : m % 2 = 1
          · have e1 : ((m : Int) % 2 == 1) = true := by simp; omega
            have hd : decide (m % 2 = 1) = true := decide_eq_true hb
            have HD := Lib.hid hd
            clear hd hb
            by_cases hn0 : n = 0
            · have e2 : ((n : Int) == 0) = true := by simp; omega
              have e3 : decide (0 < n) = false := by simp; omega
              have HN0 := Lib.hid hn0
              clear hn0
              go_quiet ((first | (go_at_call 98; exact Calls.quiet_of (HG.out _)) | (go_at_call 83; first | (with_reducible exact Calls.quiet_of_same (H83.out _)) | (with_reducible exact Calls.quiet_of_same (H830.out _)))))
              go_wp2_with fail
              go_meet
              case rel => exact ⟨by rw [HD.out, HN0.out]; simp [okR], _, rfl⟩
            · have e2 : ((n : Int) == 0) = false := by simp; omega
              go_quiet ((first | (go_at_call 98; exact Calls.quiet_of (HG.out _)) | (go_at_call 83; first | (with_reducible exact Calls.quiet_of_same (H83.out _)) | (with_reducible exact Calls.quiet_of_same (H830.out _)))))
              go_wp2_with fail
              go_meet
              case rel => exact ⟨by rw [HD.out]; simp [okR, hn0], _, rfl⟩
          · have e1 : ((m : Int) % 2 == 1) = false := by simp; omega
            have hd : decide (m % 2 = 1) = false := decide_eq_false hb
            have HD := Lib.hid hd
            clear hd hb
            by_cases hn0 : n = 0
            · have e2 : ((n : Int) == 0) = true := by simp; omega
              have HN0 := Lib.hid hn0
              clear hn0
              go_quiet ((first | (go_at_call 98; exact Calls.quiet_of (HG.out _)) | (go_at_call 83; first | (with_reducible exact Calls.quiet_of_same (H83.out _)) | (with_reducible exact Calls.quiet_of_same (H830.out _)))))
              go_wp2_with fail
              go_meet
              case rel => exact ⟨by rw [HD.out, HN0.out]; simp [okR], _, rfl⟩
            · have e2 : ((n : Int) == 0) = false := by simp; omega
              have e3 : decide (0 < n) = true := by simp; omega
              by_cases hgg : g = g0
              · have e4 : ((g : Int) != (g0 : Int)) = false := by simp; omega
                have HGG := Lib.hid hgg
                clear hgg
                go_quiet ((first | (go_at_call 98; exact Calls.quiet_of (HG.out _)) | (go_at_call 83; first | (with_reducible exact Calls.quiet_of_same (H83.out _)) | (with_reducible exact Calls.quiet_of_same (H830.out _)))))
                go_wp2_with fail
                go_meet
                case rel => exact ⟨by rw [HD.out]; simp [okR, hn0, HGG.out], _, rfl⟩
              · have e4 : ((g : Int) != (g0 : Int)) = true := by simp; omega
                go_quiet ((first | (go_at_call 98; exact Calls.quiet_of (HG.out _)) | (go_at_call 83; first | (with_reducible exact Calls.quiet_of_same (H83.out _)) | (with_reducible exact Calls.quiet_of_same (H830.out _)))))
                go_wp2_with fail
                go_meet
                case rel => exact ⟨by rw [HD.out]; simp [okR, hn0, hgg], _, rfl⟩
      case rest =>
        obtain ⟨rfl, q, rfl⟩ := hcut
        have HIQ := Lib.hid (HI.out.drewN q)
        have ub11 := b11 q
        have ub10 := b10 q
        clear HG H83 H830 ck c0 b10 b11
        cases hok : (gd && okR (decide (m % 2 = 1)) n g g0) with
        | false =>
          have HNO : Hid (recP secs at' = ([], 0, 0)) := Lib.hid (by rw [HSTEP.out, hok]; rfl)
          clear hok
          go_wp2_with fail
          exact bodyPost_ret (v := .tuple #[.slice none 0 0, .int .i64 0]) (by simp [results, Try.results82, go_sem]) rfl (recans_no HNO.out HIQ.out.bel)
        | true =>
          obtain ⟨hc112, hend, hdat, hgen⟩ := HPC.out (by simp at hok; exact hok.1)
          have HEND := Lib.hid hend
          have HDAT := Lib.hid hdat
          have HGEN := Lib.hid hgen
          have HLS : Hid (g = g0) := Lib.hid (by
            simp only [Bool.and_eq_true, okR, Bool.or_eq_true, decide_eq_true_eq] at hok
            rcases hok.2.2 with h | h
            · exact HGG0.out h
            · exact h)
          have HST : Hid (recP secs at' = if endB (pceOf b) then (acc ++ (pceOf b).data, (pceOf b).gen, kk + 1 - at') else recGo secs at' (secs.length - (kk + 1)) (kk + 1) (acc ++ (pceOf b).data) (pceOf b)) := Lib.hid (by rw [HSTEP.out, hok]; rfl)
          clear hok hend hdat hgen HPC HSTEP
          obtain ⟨e12, he12⟩ : ∃ e, e = 12 + c := ⟨_, rfl⟩
          have HE12 := Lib.hid he12
          have hwc : IntKind.i64.wrap (12 + (c : Int)) = (e12 : Int) := by rw [IntKind.wrap_i64]; omega
          have hwc2 : IntKind.i64.wrap (c : Int) = (c : Int) := by rw [IntKind.wrap_i64]; omega
          have hcu1 : (e12 : Int) ≤ (uc : Int) := by omega
          have hcu2 : (12 : Int) ≤ (e12 : Int) := by omega
          have huc12 : ¬ uc = 12 := by omega
          have HRB : Hid (Rest w.heap.size (wr.drewN q) ((b.drop 12).take (e12 - 12)) (.slice (some ⟨ub, uo + 12, none⟩) (e12 - 12) (uc - 12))) := Lib.hid (by
            have hr := HU.out.stays HIQ.out.bel
            rw [← HBL.out] at hr
            have hbl9 := HBL.out
            exact rest_part hr 12 (e12 - 12) (uc - 12) (by omega) (by omega) (by omega))
          have hlen9 := HIQ.out.len
          have hn14 := HMG.out.2.1
          have HLC : Hid (((b.drop 12).take (e12 - 12)).length = c) := Lib.hid (by rw [List.length_take, List.length_drop, HBL.out]; omega)
          have HDT2 : Hid ((pceOf b).data = (b.drop 12).take (e12 - 12)) := Lib.hid (by rw [HDAT.out, he12]; simp)
          clear he12
          have hmg := HMG.out.1
          by_cases h2m : 2 ≤ m
          · have e5 : decide ((2 : Int) ≤ (m : Int)) = true := by simp; omega
            have hst := HST.out
            rw [HEND.out, decide_eq_true h2m, if_pos rfl] at hst
            have HRES := Lib.hid hst
            clear hst
            go_wp2_with (first
              | (refine wpList_append_rest rfl (.tmp 56) (.tmp 63) rfl w.heap.size (.slice a6 acc.length c6) acc.length acc rfl HIQ.out.own ((b.drop 12).take (e12 - 12)) _ rfl HRB.out (by rw [HLC.out]; omega) HIQ.out.bel.size ?_; intro v64 w64 hown hgrow; rw [HLC.out] at hown; obtain ⟨a64, c64, rfl, _, _⟩ := own_shape hown; have HO := Lib.hid hown; have HB64 := Lib.hid (HIQ.out.bel.trans (below_grewn HIQ.out.own hgrow HIQ.out.bel.size (Nat.le_refl _))); have cb10 := HCE.out w64 HB64.out; clear hown hgrow))
            refine bodyPost_ret (v := .tuple #[.slice a64 (acc.length + c) c64, .int .i64 ((n : Int) + 1)]) (by simp [results, Try.results82, go_sem]) rfl ?_
            unfold RecAns
            rw [HRES.out]
            have hkn := HKN.out
            refine ⟨_, by rw [show kk + 1 - at' = n + 1 by omega]; rfl, fun _ => ?_, ⟨_, _, _, rfl⟩, HB64.out⟩
            rw [HDT2.out]
            refine ⟨?_, fun g hg => (HO.out.lt g hg).1⟩
            unfold Buf
            rw [List.length_append, HLC.out]
            exact World.ownsRow.mono HO.out (Nat.zero_le _)
          · have e5 : decide ((2 : Int) ≤ (m : Int)) = false := by simp; omega
            have hst := HST.out
            rw [HEND.out, decide_eq_false h2m, if_neg (by simp)] at hst
            have HRES := Lib.hid hst
            clear hst
            go_wp2_with (first
              | (refine wpList_append_rest rfl (.tmp 56) (.tmp 63) rfl w.heap.size (.slice a6 acc.length c6) acc.length acc rfl HIQ.out.own ((b.drop 12).take (e12 - 12)) _ rfl HRB.out (by rw [HLC.out]; omega) HIQ.out.bel.size ?_; intro v64 w64 hown hgrow; rw [HLC.out] at hown; obtain ⟨a64, c64, rfl, _, _⟩ := own_shape hown; have HO := Lib.hid hown; have HB64 := Lib.hid (HIQ.out.bel.trans (below_grewn HIQ.out.own hgrow HIQ.out.bel.size (Nat.le_refl _))); have cb10 := HCE.out w64 HB64.out; clear hown hgrow))
            have hkn := HKN.out
            have hres := HRES.out
            rw [hkn] at hres
            exact ⟨⟨n + 1, acc ++ (pceOf b).data, pceOf b, by go_num,
              ⟨by rw [← HS.out]; exact HMG.out.2.2, by rw [HDT2.out, List.length_append, HLC.out]; exact HO.out, by rw [HDT2.out, List.length_append, HLC.out]; omega, hres, fun _ => ⟨by rw [HEND.out, decide_eq_false h2m], by rw [HGEN.out, HLS.out]; exact HGET0.out⟩, HB64.out⟩⟩, by simp [intOf]; omega⟩
    · have hno : recP secs at' = ([], 0, 0) := by
        rw [HI.out.go, show secs.length - (at' + n) = 0 from by rw [← HS.out]; omega]; rfl
      have HNO := Lib.hid hno
      have hki : ¬ (kk : Int) < (S : Int) := by omega
      clear hno hkk
      go_wp2_with fail
      exact bodyPost_ret (v := .tuple #[.slice none 0 0, .int .i64 0]) (by simp [results, Try.results82, go_sem]) rfl (recans_no HNO.out HI.out.bel)
end Go.Proofs.Ytlaaolbdadempaa

/- The reference's generation. -/
namespace Go.Proofs.Ytlaaolbdadempaa
open Go.RowKit

theorem numR_last (b : List UInt8) (hb : b.length = 128) : numR (b.drop 124) = num4 (b.drop 124) := by
  obtain ⟨a0, a1, a2, a3, c0, c1, c2, c3, x8, x9, m, n, g0, g1, g2, g3, d, hd, rfl⟩ := cut128 b hb
  have t4 : (a0 :: a1 :: a2 :: a3 :: c0 :: c1 :: c2 :: c3 :: x8 :: x9 :: m :: n :: (d ++ [g0, g1, g2, g3])).drop 124 = [g0, g1, g2, g3] := by
    simp only [List.drop_succ_cons]
    rw [List.drop_append_of_le_length (by omega), List.drop_of_length_le (by omega)]; rfl
  rw [t4, numR4]; rfl
def GnHead (l : List (List UInt8)) (w : World) (s3 s4 : Value) (wr : World) : Prop := ∃ k q : Nat, k ≤ l.length ∧ s3 = .int .u64 (lgK l k : Int) ∧ s4 = .int .i64 (k : Int) ∧ wr = w.drewN q
set_option maxHeartbeats 8000000 in
set_option maxRecDepth 100000 in
theorem refgeneration_call (l : List (List UInt8)) (v : Value) (w : World) (h : NRest w.heap.size w l v) (hl : ∀ x ∈ l, x.length = 128) :
    Calls Try.prog 72 #[v] w fun e w' => e = .returned (.int .u64 ((lastGen l + 1 : Nat) : Int)) ∧ Below w.heap.size w w' := by
  have HV := Lib.hid h
  obtain ⟨va, vc, rfl⟩ := nrest_slice h
  have HL := Lib.hid hl
  have hlast := lastGen_lt l
  have hS63 : l.length ≤ 9223372036854775807 := by
    obtain ⟨_, _, he, h1, h2, _⟩ := h
    unfold maxLen at h2; omega
  have hlk : lgK l l.length = lastGen l := by unfold lgK; rw [List.take_length]
  obtain ⟨S, hS⟩ : ∃ S, S = l.length := ⟨_, rfl⟩
  rw [← hS] at HV hlk hS63 ⊢
  have HS := Lib.hid hS
  have HLK := Lib.hid hlk
  clear h hl hS hlk
  go_enter Try.func72, Try.ntmps72
  go_wp2_with fail
  go_loopw [3, 4] (fun s3 s4 wr => GnHead l w s3 s4 wr) (fun _ s4 _ => S - (intOf s4).toNat)
  case atStart => exact ⟨0, 0, Nat.zero_le _, rfl, rfl, rfl⟩
  case round =>
    obtain ⟨k, q, hk, rfl, rfl, hwq⟩ := hrel
    have hbw : Below w.heap.size w wr := by rw [hwq]; exact below_drewN (Below.refl _ _) q
    have HWQ := Lib.hid hwq
    clear hwq
    rw [← HS.out] at hk
    rcases Nat.lt_or_ge k S with hlt | hge
    · obtain ⟨b, hx⟩ : ∃ x, l[k]? = some x := ⟨_, List.getElem?_eq_getElem (by rw [← HS.out]; exact hlt)⟩
      have hbl := HL.out b (List.mem_of_getElem? hx)
      obtain ⟨vb, vo, u, rfl, _, hru, hcu⟩ := HV.out.at hx
      obtain ⟨u0, uc, rfl, huc, huc2⟩ := hru.shape
      obtain ⟨ub, uo, rfl, _⟩ := rest_some hru (by omega)
      have HU := Lib.hid hru
      have HBL := Lib.hid hbl
      have HSUC := Lib.hid (lgK_succ hx)
      have h1 : ∀ q : Nat, Below w.heap.size w (wr.drewN q) := fun q => below_drewN hbw q
      have H1 := Lib.hid h1
      obtain ⟨g, hg⟩ : ∃ g, g = num4 b := ⟨_, rfl⟩
      obtain ⟨g2, hg2⟩ : ∃ g, g = num4 (b.drop 124) := ⟨_, rfl⟩
      have HG1 : Hid (∀ q, Calls Try.prog 83 #[.slice (some ⟨ub, uo, none⟩) 4 uc] (wr.drewN q) fun e w' => e = .returned (.int .u64 (g : Int)) ∧ w' = wr.drewN q) := Lib.hid (fun q => by
        have hr := HU.out.stays (H1.out q)
        have := refnumber_call ((b.drop 0).take 4) (.slice (some ⟨ub, uo + 0, none⟩) 4 uc) _ _ (rest_part hr 0 4 uc (by omega) (by omega) (by omega)) (by rw [List.length_take]; omega)
        rw [List.drop_zero, Nat.add_zero, numR_take4 b HBL.out, ← hg] at this
        exact this)
      have HG2 : Hid (∀ q, Calls Try.prog 83 #[.slice (some ⟨ub, uo + 124, none⟩) 4 (uc - 124)] (wr.drewN q) fun e w' => e = .returned (.int .u64 (g2 : Int)) ∧ w' = wr.drewN q) := Lib.hid (fun q => by
        have hr := HU.out.stays (H1.out q)
        have := refnumber_call ((b.drop 124).take 4) _ _ _ (rest_part hr 124 4 (uc - 124) (by omega) (by omega) (by omega)) (by rw [List.length_take]; omega)
        rw [List.take_of_length_le (by rw [List.length_drop, HBL.out]; omega), numR_last b HBL.out, ← hg2] at this
        exact this)
      rw [← hg, ← hg2] at HSUC
      rw [hbl] at hcu huc2
      have c0 : ∀ q : Nat, (wr.drewN q).cell? ⟨vb, vo + k, none⟩ = some (.slice (some ⟨ub, uo, none⟩) 128 uc) := fun q => hcu _ (H1.out q)
      have hki : (k : Int) < (S : Int) := by omega
      have hk0 : (0 : Int) ≤ (k : Int) := by omega
      have huc4 : (4 : Int) ≤ (uc : Int) := by omega
      have hu124 : ¬ uc = 124 := by omega
      obtain ⟨z, hz⟩ : ∃ z, z = lgK l k := ⟨_, rfl⟩
      rw [← hz] at HSUC ⊢
      obtain ⟨z2, hz2⟩ : ∃ z, z = lgK l (k + 1) := ⟨_, rfl⟩
      rw [← hz2] at HSUC
      have HZ2 := Lib.hid hz2
      clear hru hcu hbl h1 hg hg2 hx hz hz2
      go_upto_region 5 with (fail)
      go_quiet ((go_at_call 83; first | (with_reducible exact Calls.quiet_of_same (HG1.out _)) | (with_reducible exact Calls.quiet_of_same (HG2.out _))))
      have hmx : (if (if z < g then (g : Int) else (z : Int)) < (g2 : Int) then (g2 : Int) else if z < g then (g : Int) else (z : Int)) = (z2 : Int) := by
        have h9 := HSUC.out
        by_cases e1 : z < g
        · rw [if_pos e1]
          by_cases e2 : g < g2
          · rw [if_pos (by omega)]; omega
          · rw [if_neg (by omega)]; omega
        · rw [if_neg e1]
          by_cases e2 : z < g2
          · rw [if_pos (by omega)]; omega
          · rw [if_neg (by omega)]; omega
      rw [hmx]
      go_wp2_with fail
      exact ⟨⟨k + 1, q + nq, by rw [← HS.out]; omega, by rw [HZ2.out], by go_num, by rw [HWQ.out, World.drewN_drewN]⟩, by simp [intOf]; omega⟩
    · obtain rfl : k = S := by omega
      have hwr : IntKind.u64.wrap ((lastGen l : Int) + 1) = (lastGen l : Int) + 1 := by rw [IntKind.wrap_u64]; omega
      rw [HLK.out]
      go_wp2_with fail
      go_ret
      exact ⟨ret_u64 (by push_cast; rfl), hbw⟩
end Go.Proofs.Ytlaaolbdadempaa

/- The reference's numeral: a number as so many bytes. -/
namespace Go.Proofs.Ytlaaolbdadempaa
open Go.RowKit

/-- the last k bytes of a number -/
def tailN (n : Nat) : Nat → List UInt8
  | 0 => []
  | k + 1 => UInt8.ofNat (n / 256 ^ k) :: tailN n k
theorem tailN_len (n : Nat) : ∀ k, (tailN n k).length = k
  | 0 => rfl
  | k + 1 => by rw [tailN, List.length_cons, tailN_len n k]
theorem tailN_4 (n : Nat) : tailN n 4 = digs n := by
  simp [tailN, digs]
theorem tailN_2 (n : Nat) : tailN n 2 = [UInt8.ofNat (n / 256), UInt8.ofNat n] := by
  simp [tailN]
def nmK (m n k : Nat) : List UInt8 := List.replicate (m - k) 0 ++ tailN n k
theorem nmK_len {m n k : Nat} (h : k ≤ m) : (nmK m n k).length = m := by unfold nmK; rw [List.length_append, List.length_replicate, tailN_len]; omega
theorem nmK_set {i n k : Nat} (x : Int) (hx : x = ((n / 256 ^ k % 256 : Nat) : Int)) : (cellsOf (nmK (i + 1 + k) n k)).set i (.int .u8 x) = cellsOf (nmK (i + 1 + k) n (k + 1)) := by
  subst hx
  unfold nmK
  rw [show i + 1 + k - k = i + 1 by omega, show i + 1 + k - (k + 1) = i by omega, List.replicate_succ', List.append_assoc, cellsOf_append, cellsOf_append]
  rw [List.set_append_right _ _ (by simp [cellsOf]), show i - (cellsOf (List.replicate i 0)).length = 0 by simp [cellsOf]]
  simp only [tailN, cellsOf, List.map_append, List.map_cons, List.map_nil, List.cons_append, List.nil_append, List.set_cons_zero, UInt8.toNat_ofNat']
theorem owns_of_row {w : World} {g base : Nat} {xs : List UInt8} {n : Nat} (h : Row w g 5 (cellsOf xs)) (hl : xs.length = n) (hn : n ≤ 1000000) (hg : base ≤ g) : w.ownsRow base 5 1 (.slice (some ⟨g, 0, none⟩) n n) n (cellsOf xs) := by
  subst hl
  refine ⟨by rw [cellsOf_len, Nat.mul_one], .inr ⟨g, xs.length, (cellsOf xs).toArray, rfl, hg, h, Nat.le_refl _, by unfold maxLen; omega, by simp [cellsOf_len], ?_⟩⟩
  rw [Nat.mul_one]
  exact List.take_of_length_le (by simp [cellsOf_len])
def NmHead (m n g : Nat) (w : World) (s0 s6 : Value) (wr : World) : Prop := ∃ (k : Nat) (j : Int), k ≤ m ∧ j = (m : Int) - 1 - (k : Int) ∧ s0 = .int .u64 ((n / 256 ^ k : Nat) : Int) ∧ s6 = .int .i64 j ∧ Row wr g 5 (cellsOf (nmK m n k)) ∧ Below w.heap.size w wr
/-- what numeral answers -/
def NmAns (w : World) (l : List UInt8) (m : Nat) (e : Ending) (w' : World) : Prop := ∃ g, e = .returned (.slice (some ⟨g, 0, none⟩) m m) ∧ Row w' g 5 (cellsOf l) ∧ w.heap.size ≤ g ∧ Below w.heap.size w w'
set_option maxHeartbeats 2000000 in
set_option maxRecDepth 100000 in
theorem numeral_call (n m : Nat) (hn : n < 18446744073709551616) (hm : m ≤ 8) (w : World) :
    Calls Try.prog 90 #[.int .u64 (n : Int), .int .i64 (m : Int)] w (NmAns w (tailN n m) m) := by
  go_enter Try.func90, Try.ntmps90
  go_wp2_with (refine wpList_make rfl (.tmp 7) rfl m (by omega) rfl ?_; intro g w1 hr hg hb; have HR := Lib.hid hr; have HB := Lib.hid hb; have HG := Lib.hid hg; clear hr hg hb)
  go_loopw [0, 6] (fun s0 s6 wr => NmHead m n g w s0 s6 wr) (fun _ s6 _ => (intOf s6 + 1).toNat)
  case atStart => exact ⟨0, _, Nat.zero_le _, rfl, by simp, by simp, by simpa [nmK, tailN] using HR.out, HB.out⟩
  case round =>
    obtain ⟨k, j, hk, hj, rfl, rfl, hr, hb⟩ := hrel
    replace HR := Lib.hid hr
    replace HB := Lib.hid hb
    clear hr hb
    rcases Nat.lt_or_ge k m with hlt | hge
    · obtain ⟨i, him⟩ : ∃ i, m = i + 1 + k := ⟨m - 1 - k, by omega⟩
      have HIM := Lib.hid him
      obtain rfl : j = (i : Int) := by omega
      have hlm : (i : Int) < (m : Int) := by omega
      clear hj
      obtain ⟨z, hz⟩ : ∃ z, z = n / 256 ^ k := ⟨_, rfl⟩
      have hz1 : z ≤ n := by rw [hz]; exact Nat.div_le_self _ _
      have HZ := Lib.hid hz
      rw [← hz]
      obtain ⟨q, hq⟩ : ∃ q, q = z / 256 := ⟨_, rfl⟩
      obtain ⟨r, hr⟩ : ∃ r, r = z % 256 := ⟨_, rfl⟩
      have hr8 : r < 256 := by omega
      have hq8 : q ≤ n := by omega
      have hmod : (z : Int).tmod 256 = (r : Int) := by rw [Int.tmod_eq_emod_of_nonneg (by omega)]; omega
      have hdiv : (z : Int).tdiv 256 = (q : Int) := by rw [Int.tdiv_eq_ediv_of_nonneg (by omega)]; omega
      have hw8 : IntKind.u8.wrap (r : Int) = (r : Int) := by rw [IntKind.wrap_u8]; omega
      have hwq : IntKind.u64.wrap (q : Int) = (q : Int) := by rw [IntKind.wrap_u64]; omega
      have HQ := Lib.hid hq
      have HR8 := Lib.hid hr
      have hi0 : (0 : Int) ≤ (i : Int) := by omega
      obtain ⟨y, c0⟩ : ∃ y, wr.cell? ⟨g, i, none⟩ = some y := ⟨_, HR.out.cell (i := i) (cellsOf_get (by rw [nmK_len (by omega)]; omega))⟩
      have f0 := HR.out.free i
      clear hz hq hr hz1
      clear hn hr8 hq8 him hlt hk
      go_wp2_with fail
      have h9 := HIM.out
      exact ⟨⟨k + 1, _, by omega, by push_cast; omega, by rw [Nat.pow_succ, ← Nat.div_div_eq_div_mul, ← HZ.out, HQ.out], rfl, HR.out.set i _ (by have h8 := nmK_set (i := i) (n := n) (k := k) (r : Int) (by rw [← HZ.out, HR8.out]); rwa [← h9] at h8), HB.out.setCell HG.out _⟩, by simp [intOf]⟩
    · obtain rfl : k = m := by omega
      obtain rfl : j = -1 := by omega
      go_wp2_with fail
      go_ret
      exact ⟨g, rfl, by have := HR.out; unfold nmK at this; rwa [Nat.sub_self, List.replicate_zero, List.nil_append] at this, HG.out, HB.out⟩
end Go.Proofs.Ytlaaolbdadempaa
