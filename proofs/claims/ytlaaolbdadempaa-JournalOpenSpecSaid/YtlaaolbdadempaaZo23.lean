/- The reference's record, walked. -/
import Derived.Deep.Onto
import Derived.Test.YtlaaolbdadempaaZo22
namespace Go.Proofs.Ytlaaolbdadempaa
open Go.RowKit

theorem numR_take4 (b : List UInt8) (hb : b.length = 128) : numR (b.take 4) = num4 b := by
  obtain ⟨a0, a1, a2, a3, c0, c1, c2, c3, x8, x9, m, n, g0, g1, g2, g3, d, hd, rfl⟩ := cut128 b hb
  rw [show (a0 :: a1 :: a2 :: a3 :: c0 :: c1 :: c2 :: c3 :: x8 :: x9 :: m :: n :: (d ++ [g0, g1, g2, g3])).take 4 = [a0, a1, a2, a3] from rfl, numR4]
  rfl
/-- may the sector go on with the record, if it is good? -/
def okR (beg : Bool) (n g g0 : Nat) : Bool := (beg == decide (n = 0)) && (decide (n = 0) || decide (g = g0))
theorem okR_eq (at' n : Nat) (p last : Pce) (g0 : Nat) (hl : 0 < n → endB last = false ∧ last.gen = g0) : (!breakB at' (at' + n) p last) = okR (begB p) n p.gen g0 := by
  unfold breakB okR conB
  rcases Nat.eq_zero_or_pos n with h | h
  · subst h; simp
  · obtain ⟨h1, h2⟩ := hl h
    have h3 : ¬ n = 0 := by omega
    have h4 : ¬ (at' + n = at') := by omega
    have h5 : at' < at' + n := by omega
    simp [h1, h2, h3, h4, h5]
    cases begB p <;> simp
structure RrI (secs : List (List UInt8)) (at' : Nat) (w : World) (s6 : Value) (n : Nat) (acc : List UInt8) (last : Pce) (wr : World) : Prop where
  le : at' + n ≤ secs.length
  own : wr.ownsRow w.heap.size 5 1 s6 acc.length (cellsOf acc)
  len : acc.length ≤ n * 112
  go : recP secs at' = recGo secs at' (secs.length - (at' + n)) (at' + n) acc last
  last : 0 < n → endB last = false ∧ last.gen = num4 (secs.getD at' [])
  bel : Below w.heap.size w wr
def RrHead (secs : List (List UInt8)) (at' : Nat) (w : World) (s6 s7 : Value) (wr : World) : Prop := ∃ (n : Nat) (acc : List UInt8) (last : Pce), s7 = .int .i64 (n : Int) ∧ RrI secs at' w s6 n acc last wr
/-- what record answers -/
def RecAns (secs : List (List UInt8)) (at' : Nat) (w : World) (e : Ending) (w' : World) : Prop :=
  ∃ v, e = .returned (.tuple #[v, .int .i64 ((recP secs at').2.2 : Int)]) ∧ ((recP secs at').2.2 ≠ 0 → Buf w' v (recP secs at').1 ∧ ∀ g, v.ownBlock = some g → w.heap.size ≤ g) ∧ (∃ a n c, v = .slice a n c) ∧ Below w.heap.size w w'
theorem recans_no {secs : List (List UInt8)} {at' : Nat} {w w' : World} (h : recP secs at' = ([], 0, 0)) (hb : Below w.heap.size w w') : RecAns secs at' w (.returned (.tuple #[.slice none 0 0, .int .i64 0])) w' := by
  unfold RecAns
  rw [h]
  exact ⟨_, rfl, fun h => absurd rfl h, ⟨_, _, _, rfl⟩, hb⟩
theorem rest_some {B : Nat} {w : World} {b : List UInt8} {a : Option Addr} {n c : Nat} (h : Rest B w b (.slice a n c)) (h0 : 0 < b.length) : ∃ bb off, a = some ⟨bb, off, none⟩ ∧ ∀ i (h : i < b.length), w.cell? ⟨bb, off + i, none⟩ = some (.int .u8 (b[i].toNat : Int)) := by
  obtain ⟨a3, c3, he, _, _, _, h4⟩ := h
  injection he with he1 he2 he3
  subst he1
  rcases h4 with h4 | ⟨bb, off, rfl, _, hc⟩
  · omega
  · exact ⟨bb, off, rfl, hc⟩
theorem rests_own {w : World} {base n : Nat} {v : Value} {xs : List UInt8} (h : w.ownsRow base 5 1 v n (cellsOf xs)) (hn : n = xs.length) : RestS (fun b => base ≤ b) w xs v := by
  rcases h.2 with ⟨rfl, h1⟩ | ⟨g, cap, cur, rfl, hbg, hg2, hnc, hcm, hcs, htake⟩
  · obtain rfl : xs = [] := List.eq_nil_of_length_eq_zero (by omega)
    exact rests_nil _ _
  · exact rests_of_owns h hn hbg
theorem RrI.drewN {secs at' w s6 n acc last wr} (h : RrI secs at' w s6 n acc last wr) (q : Nat) : RrI secs at' w s6 n acc last (wr.drewN q) :=
  ⟨h.le, owns_heap h.own (fun _ _ => rfl), h.len, h.go, h.last, below_drewN h.bel q⟩
set_option maxHeartbeats 80000000 in
set_option maxRecDepth 100000 in
theorem refrecord_call (secs : List (List UInt8)) (at' : Nat) (v : Value) (w : World) (h : NRest w.heap.size w secs v) (hl : ∀ x ∈ secs, x.length = 128) (hn : secs.length ≤ 4096) (hat : at' ≤ secs.length) :
    Calls Try.prog 82 #[v, .int .i64 (at' : Int)] w (RecAns secs at' w) := by
  have HV := Lib.hid h
  obtain ⟨va, vc, rfl⟩ := nrest_slice h
  have HL := Lib.hid hl
  have hvc : secs.length ≤ vc := by obtain ⟨_, _, he, h1, _⟩ := h; injection he with _ _ h3; omega
  have HMADE : Hid ((w.alloc (.cells #[] 5)).ownsRow w.heap.size 5 1 (.slice (some ⟨w.heap.size, 0, none⟩) 0 0) 0 (cellsOf [])) := Lib.hid (World.ownsRow_made w #[] 0 (Nat.le_refl _) (by unfold maxLen; omega) rfl)
  obtain ⟨S, hS⟩ : ∃ S, S = secs.length := ⟨_, rfl⟩
  rw [← hS] at HV hn hat hvc ⊢
  have HS := Lib.hid hS
  clear h hl hS
  go_enter Try.func82, Try.ntmps82
  go_wp2_with fail
  go_loopw [6, 7] (fun s6 s7 wr => RrHead secs at' w s6 s7 wr) (fun _ s7 _ => S - (intOf s7).toNat)
  case atStart => exact ⟨0, [], zeroP, rfl, by rw [← HS.out]; omega, HMADE.out, by simp, rfl, fun h => absurd h (by omega), Joins.below_alloc1 w _⟩
  case round =>
    obtain ⟨n, acc, last, rfl, hi⟩ := hrel
    obtain ⟨a6, c6, rfl, hc6, hc7⟩ := own_shape hi.own
    have HI := Lib.hid hi
    have hle := hi.le
    rw [← HS.out] at hle
    clear hi
    obtain ⟨kk, hkk⟩ : ∃ kk, kk = at' + n := ⟨_, rfl⟩
    have HK := Lib.hid hkk
    have hw1 : IntKind.i64.wrap ((at' : Int) + (n : Int)) = (kk : Int) := by rw [IntKind.wrap_i64]; omega
    rcases Nat.lt_or_ge kk S with hlt | hge
    · obtain ⟨b, hx⟩ : ∃ x, secs[kk]? = some x := ⟨_, List.getElem?_eq_getElem (by rw [← HS.out]; exact hlt)⟩
      obtain ⟨f, hx0⟩ : ∃ x, secs[at']? = some x := ⟨_, List.getElem?_eq_getElem (by rw [← HS.out]; omega)⟩
      have hbl := HL.out b (List.mem_of_getElem? hx)
      have hfl := HL.out f (List.mem_of_getElem? hx0)
      obtain ⟨vb, vo, u, rfl, _, hru, hcu⟩ := HV.out.at hx
      obtain ⟨vb2, vo2, u2, he, _, hru2, hcu2⟩ := HV.out.at hx0
      injection he with he; injection he with he1 he2; subst he1 he2
      obtain ⟨u0, uc, rfl, huc, huc2⟩ := hru.shape
      obtain ⟨f0, fc, rfl, hfc, hfc2⟩ := hru2.shape
      obtain ⟨ub, uo, rfl, hub⟩ := rest_some hru (by omega)
      obtain ⟨fb, fo, rfl, _⟩ := rest_some hru2 (by omega)
      have hbel := HI.out.bel
      have HU := Lib.hid hru
      have HU2 := Lib.hid hru2
      rw [hbl] at huc2 HU hcu
      rw [hfl] at hfc2 HU2 hcu2
      have HBL := Lib.hid hbl
      have HFL := Lib.hid hfl
      have hget : secs.getD kk [] = b := by rw [List.getD_eq_getElem?_getD, hx]; rfl
      have hget0 : secs.getD at' [] = f := by rw [List.getD_eq_getElem?_getD, hx0]; rfl
      obtain ⟨gd, hgd⟩ : ∃ gd, gd = goodB b kk := ⟨_, rfl⟩
      obtain ⟨g, hg⟩ : ∃ g, g = num4 b := ⟨_, rfl⟩
      obtain ⟨g0, hg0⟩ : ∃ g, g = num4 f := ⟨_, rfl⟩
      obtain ⟨m, hm⟩ : ∃ m, m = (b.getD 10 0).toNat := ⟨_, rfl⟩
      obtain ⟨c, hc⟩ : ∃ c, c = (b.getD 11 0).toNat := ⟨_, rfl⟩
      have hcell : ∀ i, i < 128 → ∀ W, Below w.heap.size w W → W.cell? ⟨ub, uo + i, none⟩ = some (.int .u8 ((b.getD i 0).toNat : Int)) := fun i hi W hW => by
        have h9 := hub i (by omega)
        rw [hW.cell (World.block_lt_of_cell? w _ h9), h9, List.getD_eq_getElem?_getD, List.getElem?_eq_getElem (by omega)]; rfl
      have HCE : Hid (∀ W, Below w.heap.size w W → W.cell? ⟨ub, uo + 10, none⟩ = some (.int .u8 (m : Int))) := Lib.hid (fun W hW => by rw [hm]; exact hcell 10 (by omega) W hW)
      have HG : Hid (∀ q, Calls Try.prog 98 #[.slice (some ⟨ub, uo, none⟩) 128 uc, .int .i64 (kk : Int)] (wr.drewN q) fun e w' => e = .returned (.bool gd) ∧ ∃ m, w' = (wr.drewN q).drewN m) := Lib.hid (fun q => by
        rw [hgd]; exact refgood_call b HBL.out kk (by omega) _ _ _ (HU.out.stays (below_drewN hbel q)))
      have H83 : Hid (∀ q, Calls Try.prog 83 #[.slice (some ⟨ub, uo, none⟩) 4 uc] (wr.drewN q) fun e w' => e = .returned (.int .u64 (g : Int)) ∧ w' = wr.drewN q) := Lib.hid (fun q => by
        have hr := HU.out.stays (below_drewN hbel q)
        rw [← HBL.out] at hr
        have := refnumber_call ((b.drop 0).take 4) (.slice (some ⟨ub, uo + 0, none⟩) 4 uc) _ _ (rest_part hr 0 4 uc (by omega) (by omega) (by omega)) (by rw [List.length_take]; omega)
        rw [List.drop_zero, Nat.add_zero, numR_take4 b HBL.out, ← hg] at this
        exact this)
      have H830 : Hid (∀ q, Calls Try.prog 83 #[.slice (some ⟨fb, fo, none⟩) 4 fc] (wr.drewN q) fun e w' => e = .returned (.int .u64 (g0 : Int)) ∧ w' = wr.drewN q) := Lib.hid (fun q => by
        have hr := HU2.out.stays (below_drewN hbel q)
        rw [← HFL.out] at hr
        have := refnumber_call ((f.drop 0).take 4) (.slice (some ⟨fb, fo + 0, none⟩) 4 fc) _ _ (rest_part hr 0 4 fc (by omega) (by omega) (by omega)) (by rw [List.length_take]; omega)
        rw [List.drop_zero, Nat.add_zero, numR_take4 f HFL.out, ← hg0] at this
        exact this)
      have hml := (b.getD 10 0).toNat_lt
      have hcl := (b.getD 11 0).toNat_lt
      have ck : wr.cell? ⟨vb, vo + kk, none⟩ = some (.slice (some ⟨ub, uo, none⟩) 128 uc) := hcu wr hbel
      have c0 : ∀ q : Nat, (wr.drewN q).cell? ⟨vb, vo + at', none⟩ = some (.slice (some ⟨fb, fo, none⟩) 128 fc) := fun q => hcu2 _ (below_drewN hbel q)
      have b10 : ∀ q : Nat, (wr.drewN q).cell? ⟨ub, uo + 10, none⟩ = some (.int .u8 (m : Int)) := fun q => by rw [hm]; exact hcell 10 (by omega) _ (below_drewN hbel q)
      have b11 : ∀ q : Nat, (wr.drewN q).cell? ⟨ub, uo + 11, none⟩ = some (.int .u8 (c : Int)) := fun q => by rw [hc]; exact hcell 11 (by omega) _ (below_drewN hbel q)
      rw [← hm] at hml
      rw [← hc] at hcl
      have HSTEP : Hid (recP secs at' = if gd && okR (decide (m % 2 = 1)) n g g0 then (if endB (pceOf b) then (acc ++ (pceOf b).data, (pceOf b).gen, kk + 1 - at') else recGo secs at' (secs.length - (kk + 1)) (kk + 1) (acc ++ (pceOf b).data) (pceOf b)) else ([], 0, 0)) := Lib.hid (by
        have h1 := okR_eq at' n (pceOf b) last (num4 f) (fun h => by have := HI.out.last h; rwa [hget0] at this)
        rw [← hkk] at h1
        rw [HI.out.go, ← hkk, recGo_step secs at' kk acc last (by rw [← HS.out]; exact hlt)]
        simp only [hget]
        rw [h1, ← hgd, show begB (pceOf b) = decide (m % 2 = 1) from by unfold begB pceOf; simp only [← hm], show (pceOf b).gen = g from by unfold pceOf; exact hg.symm, ← hg0])
      have HPC : Hid (gd = true → c ≤ 112 ∧ endB (pceOf b) = decide (2 ≤ m) ∧ (pceOf b).data = ((b.drop 12).take c) ∧ (pceOf b).gen = g) := Lib.hid (fun h => by
        rw [hgd] at h
        unfold goodB fitB at h
        simp only [Bool.and_eq_true, decide_eq_true_eq] at h
        obtain ⟨⟨h1, ⟨⟨_, h3⟩, _⟩, _⟩, _⟩ := h
        refine ⟨by omega, ?_, by unfold pceOf; rw [hc], hg.symm⟩
        unfold endB pceOf at *
        simp only at h3 ⊢
        rw [← hm] at h3 ⊢
        apply decide_eq_decide.2
        omega)
      have HGET0 : Hid (g0 = num4 (secs.getD at' [])) := Lib.hid (by rw [hget0]; exact hg0)
      have tm : (m : Int).tmod 2 = ((m % 2 : Nat) : Int) := by rw [Int.tmod_eq_emod_of_nonneg (by omega)]; omega
      have hki : (kk : Int) < (S : Int) := by omega
      have hk0 : (0 : Int) ≤ (kk : Int) := by omega
      have ha0 : (0 : Int) ≤ (at' : Int) := by omega
      have hai : (at' : Int) < (S : Int) := by omega
      have huc4 : (4 : Int) ≤ (uc : Int) := by omega
      have hfc4 : (4 : Int) ≤ (fc : Int) := by omega
      have HMG : Hid (IntKind.i64.wrap ((n : Int) + 1) = (n : Int) + 1 ∧ n + 1 ≤ 4096 ∧ at' + (n + 1) ≤ S) := Lib.hid (by rw [IntKind.wrap_i64]; omega)
      have HGG0 : Hid (n = 0 → g = g0) := Lib.hid (fun h => by
        have h2 : kk = at' := by omega
        rw [h2] at hx; rw [hx0] at hx; cases hx; rw [hg, hg0])
      have HKN : Hid (kk + 1 = at' + (n + 1)) := Lib.hid (by omega)
      clear hub hru hru2 hcu hcu2 hbl hfl hget hget0 hgd hg hg0 hm hc hcell hx hx0 hkk
      go_upto_region 6 with (fail)
      go_cut [55] (fun s55 wx => s55 = .bool (!(gd && okR (decide (m % 2 = 1)) n g g0)) ∧ ∃ q, wx = wr.drewN q)
      case first =>
        have mm : ∀ P, m % 2 = 1 → P = true → P = decide (m % 2 = 1) := fun P h h2 => by rw [h2, decide_eq_true h]
        clear mm
        cases gd with
        | false =>
          go_quiet ((first | (go_at_call 98; exact Calls.quiet_of (HG.out _)) | (go_at_call 83; first | (with_reducible exact Calls.quiet_of_same (H83.out _)) | (with_reducible exact Calls.quiet_of_same (H830.out _)))))
          go_wp2_with fail
          go_meet
          case rel => exact ⟨rfl, _, rfl⟩
        | true =>
          by_cases hb : m % 2 = 1
          · have e1 : ((m : Int) % 2 == 1) = true := by simp; omega
            have hd : decide (m % 2 = 1) = true := decide_eq_true hb
            have HD := Lib.hid hd
            clear hd hb
            by_cases hn0 : n = 0
            · have e2 : ((n : Int) == 0) = true := by simp; omega
              have e3 : decide (0 < n) = false := by simp; omega
              have HN0 := Lib.hid hn0
              clear hn0
              go_quiet ((first | (go_at_call 98; exact Calls.quiet_of (HG.out _)) | (go_at_call 83; first | (with_reducible exact Calls.quiet_of_same (H83.out _)) | (with_reducible exact Calls.quiet_of_same (H830.out _)))))
              go_wp2_with fail
              go_meet
              case rel => exact ⟨by rw [HD.out, HN0.out]; simp [okR], _, rfl⟩
            · have e2 : ((n : Int) == 0) = false := by simp; omega
              go_quiet ((first | (go_at_call 98; exact Calls.quiet_of (HG.out _)) | (go_at_call 83; first | (with_reducible exact Calls.quiet_of_same (H83.out _)) | (with_reducible exact Calls.quiet_of_same (H830.out _)))))
              go_wp2_with fail
              go_meet
              case rel => exact ⟨by rw [HD.out]; simp [okR, hn0], _, rfl⟩
          · have e1 : ((m : Int) % 2 == 1) = false := by simp; omega
            have hd : decide (m % 2 = 1) = false := decide_eq_false hb
            have HD := Lib.hid hd
            clear hd hb
            by_cases hn0 : n = 0
            · have e2 : ((n : Int) == 0) = true := by simp; omega
              have HN0 := Lib.hid hn0
              clear hn0
              go_quiet ((first | (go_at_call 98; exact Calls.quiet_of (HG.out _)) | (go_at_call 83; first | (with_reducible exact Calls.quiet_of_same (H83.out _)) | (with_reducible exact Calls.quiet_of_same (H830.out _)))))
              go_wp2_with fail
              go_meet
              case rel => exact ⟨by rw [HD.out, HN0.out]; simp [okR], _, rfl⟩
            · have e2 : ((n : Int) == 0) = false := by simp; omega
              have e3 : decide (0 < n) = true := by simp; omega
              by_cases hgg : g = g0
              · have e4 : ((g : Int) != (g0 : Int)) = false := by simp; omega
                have HGG := Lib.hid hgg
                clear hgg
                go_quiet ((first | (go_at_call 98; exact Calls.quiet_of (HG.out _)) | (go_at_call 83; first | (with_reducible exact Calls.quiet_of_same (H83.out _)) | (with_reducible exact Calls.quiet_of_same (H830.out _)))))
                go_wp2_with fail
                go_meet
                case rel => exact ⟨by rw [HD.out]; simp [okR, hn0, HGG.out], _, rfl⟩
              · have e4 : ((g : Int) != (g0 : Int)) = true := by simp; omega
                go_quiet ((first | (go_at_call 98; exact Calls.quiet_of (HG.out _)) | (go_at_call 83; first | (with_reducible exact Calls.quiet_of_same (H83.out _)) | (with_reducible exact Calls.quiet_of_same (H830.out _)))))
                go_wp2_with fail
                go_meet
                case rel => exact ⟨by rw [HD.out]; simp [okR, hn0, hgg], _, rfl⟩
      case rest =>
        obtain ⟨rfl, q, rfl⟩ := hcut
        have HIQ := Lib.hid (HI.out.drewN q)
        have ub11 := b11 q
        have ub10 := b10 q
        clear HG H83 H830 ck c0 b10 b11
        cases hok : (gd && okR (decide (m % 2 = 1)) n g g0) with
        | false =>
          have HNO : Hid (recP secs at' = ([], 0, 0)) := Lib.hid (by rw [HSTEP.out, hok]; rfl)
          clear hok
          go_wp2_with fail
          exact bodyPost_ret (v := .tuple #[.slice none 0 0, .int .i64 0]) (by simp [results, Try.results82, go_sem]) rfl (recans_no HNO.out HIQ.out.bel)
        | true =>
          obtain ⟨hc112, hend, hdat, hgen⟩ := HPC.out (by simp at hok; exact hok.1)
          have HEND := Lib.hid hend
          have HDAT := Lib.hid hdat
          have HGEN := Lib.hid hgen
          have HLS : Hid (g = g0) := Lib.hid (by
            simp only [Bool.and_eq_true, okR, Bool.or_eq_true, decide_eq_true_eq] at hok
            rcases hok.2.2 with h | h
            · exact HGG0.out h
            · exact h)
          have HST : Hid (recP secs at' = if endB (pceOf b) then (acc ++ (pceOf b).data, (pceOf b).gen, kk + 1 - at') else recGo secs at' (secs.length - (kk + 1)) (kk + 1) (acc ++ (pceOf b).data) (pceOf b)) := Lib.hid (by rw [HSTEP.out, hok]; rfl)
          clear hok hend hdat hgen HPC HSTEP
          obtain ⟨e12, he12⟩ : ∃ e, e = 12 + c := ⟨_, rfl⟩
          have HE12 := Lib.hid he12
          have hwc : IntKind.i64.wrap (12 + (c : Int)) = (e12 : Int) := by rw [IntKind.wrap_i64]; omega
          have hwc2 : IntKind.i64.wrap (c : Int) = (c : Int) := by rw [IntKind.wrap_i64]; omega
          have hcu1 : (e12 : Int) ≤ (uc : Int) := by omega
          have hcu2 : (12 : Int) ≤ (e12 : Int) := by omega
          have huc12 : ¬ uc = 12 := by omega
          have HRB : Hid (Rest w.heap.size (wr.drewN q) ((b.drop 12).take (e12 - 12)) (.slice (some ⟨ub, uo + 12, none⟩) (e12 - 12) (uc - 12))) := Lib.hid (by
            have hr := HU.out.stays HIQ.out.bel
            rw [← HBL.out] at hr
            have hbl9 := HBL.out
            exact rest_part hr 12 (e12 - 12) (uc - 12) (by omega) (by omega) (by omega))
          have hlen9 := HIQ.out.len
          have hn14 := HMG.out.2.1
          have HLC : Hid (((b.drop 12).take (e12 - 12)).length = c) := Lib.hid (by rw [List.length_take, List.length_drop, HBL.out]; omega)
          have HDT2 : Hid ((pceOf b).data = (b.drop 12).take (e12 - 12)) := Lib.hid (by rw [HDAT.out, he12]; simp)
          clear he12
          have hmg := HMG.out.1
          by_cases h2m : 2 ≤ m
          · have e5 : decide ((2 : Int) ≤ (m : Int)) = true := by simp; omega
            have hst := HST.out
            rw [HEND.out, decide_eq_true h2m, if_pos rfl] at hst
            have HRES := Lib.hid hst
            clear hst
            go_wp2_with (first
              | (refine wpList_append_rest rfl (.tmp 56) (.tmp 63) rfl w.heap.size (.slice a6 acc.length c6) acc.length acc rfl HIQ.out.own ((b.drop 12).take (e12 - 12)) _ rfl HRB.out (by rw [HLC.out]; omega) HIQ.out.bel.size ?_; intro v64 w64 hown hgrow; rw [HLC.out] at hown; obtain ⟨a64, c64, rfl, _, _⟩ := own_shape hown; have HO := Lib.hid hown; have HB64 := Lib.hid (HIQ.out.bel.trans (below_grewn HIQ.out.own hgrow HIQ.out.bel.size (Nat.le_refl _))); have cb10 := HCE.out w64 HB64.out; clear hown hgrow))
            refine bodyPost_ret (v := .tuple #[.slice a64 (acc.length + c) c64, .int .i64 ((n : Int) + 1)]) (by simp [results, Try.results82, go_sem]) rfl ?_
            unfold RecAns
            rw [HRES.out]
            have hkn := HKN.out
            refine ⟨_, by rw [show kk + 1 - at' = n + 1 by omega]; rfl, fun _ => ?_, ⟨_, _, _, rfl⟩, HB64.out⟩
            rw [HDT2.out]
            refine ⟨?_, fun g hg => (HO.out.lt g hg).1⟩
            unfold Buf
            rw [List.length_append, HLC.out]
            exact World.ownsRow.mono HO.out (Nat.zero_le _)
          · have e5 : decide ((2 : Int) ≤ (m : Int)) = false := by simp; omega
            have hst := HST.out
            rw [HEND.out, decide_eq_false h2m, if_neg (by simp)] at hst
            have HRES := Lib.hid hst
            clear hst
            go_wp2_with (first
              | (refine wpList_append_rest rfl (.tmp 56) (.tmp 63) rfl w.heap.size (.slice a6 acc.length c6) acc.length acc rfl HIQ.out.own ((b.drop 12).take (e12 - 12)) _ rfl HRB.out (by rw [HLC.out]; omega) HIQ.out.bel.size ?_; intro v64 w64 hown hgrow; rw [HLC.out] at hown; obtain ⟨a64, c64, rfl, _, _⟩ := own_shape hown; have HO := Lib.hid hown; have HB64 := Lib.hid (HIQ.out.bel.trans (below_grewn HIQ.out.own hgrow HIQ.out.bel.size (Nat.le_refl _))); have cb10 := HCE.out w64 HB64.out; clear hown hgrow))
            have hkn := HKN.out
            have hres := HRES.out
            rw [hkn] at hres
            exact ⟨⟨n + 1, acc ++ (pceOf b).data, pceOf b, by go_num,
              ⟨by rw [← HS.out]; exact HMG.out.2.2, by rw [HDT2.out, List.length_append, HLC.out]; exact HO.out, by rw [HDT2.out, List.length_append, HLC.out]; omega, hres, fun _ => ⟨by rw [HEND.out, decide_eq_false h2m], by rw [HGEN.out, HLS.out]; exact HGET0.out⟩, HB64.out⟩⟩, by simp [intOf]; omega⟩
    · have hno : recP secs at' = ([], 0, 0) := by
        rw [HI.out.go, show secs.length - (at' + n) = 0 from by rw [← HS.out]; omega]; rfl
      have HNO := Lib.hid hno
      have hki : ¬ (kk : Int) < (S : Int) := by omega
      clear hno hkk
      go_wp2_with fail
      exact bodyPost_ret (v := .tuple #[.slice none 0 0, .int .i64 0]) (by simp [results, Try.results82, go_sem]) rfl (recans_no HNO.out HI.out.bel)
end Go.Proofs.Ytlaaolbdadempaa

/- A record's generation is that of its first sector. -/
namespace Go.Proofs.Ytlaaolbdadempaa
open Go.RowKit

theorem recGo_gen (secs : List (List UInt8)) (at' : Nat) : ∀ (f k : Nat) (acc : List UInt8) (last : Pce), at' ≤ k → (at' < k → last.gen = num4 (secs.getD at' [])) → (recGo secs at' f k acc last).2.2 ≠ 0 → (recGo secs at' f k acc last).2.1 = num4 (secs.getD at' [])
  | 0, _, _, _, _, _, h => by simp [recGo] at h
  | f + 1, k, acc, last, hk, hl, h => by
    unfold recGo at h ⊢
    simp only at h ⊢
    by_cases hg : (goodB (secs.getD k []) k && !breakB at' k (pceOf (secs.getD k [])) last) = true
    · rw [if_pos hg] at h ⊢
      have hgen : (pceOf (secs.getD k [])).gen = num4 (secs.getD at' []) := by
        rcases Nat.eq_or_lt_of_le hk with h1 | h1
        · subst h1; rfl
        · have h2 := hl h1
          simp only [Bool.and_eq_true, Bool.not_eq_true', breakB, Bool.or_eq_false_iff, Bool.and_eq_false_iff, decide_eq_false_iff_not, Bool.not_eq_false'] at hg
          rcases hg.2.2 with h3 | h3
          · exact absurd h1 h3
          · unfold conB at h3
            simp only [Bool.and_eq_true, decide_eq_true_eq] at h3
            rw [h3.1.1, h2]
      by_cases he : endB (pceOf (secs.getD k [])) = true
      · rw [if_pos he]; exact hgen
      · rw [if_neg he] at h ⊢
        exact recGo_gen secs at' f (k + 1) _ _ (by omega) (fun _ => hgen) h
    · rw [if_neg hg] at h; simp at h
theorem recP_gen (secs : List (List UInt8)) (at' : Nat) (h : (recP secs at').2.2 ≠ 0) : (recP secs at').2.1 = num4 (secs.getD at' []) :=
  recGo_gen secs at' _ _ _ _ (Nat.le_refl _) (fun h => absurd h (Nat.lt_irrefl _)) h
theorem recP_end (secs : List (List UInt8)) (at' : Nat) (h : secs.length ≤ at') : recP secs at' = ([], 0, 0) := by
  unfold recP; rw [show secs.length - at' = 0 by omega]; rfl
end Go.Proofs.Ytlaaolbdadempaa

/- The reference's Records, walked. -/
namespace Go.Proofs.Ytlaaolbdadempaa
open Go.RowKit Go.Shelf

structure RsI (secs : List (List UInt8)) (w : World) (s3 : Value) (at' least : Nat) (xs : List Yl) (wr : World) : Prop where
  le : at' ≤ secs.length
  own : wr.ownsRow w.heap.size 35 1 s3 xs.length (valsY xs)
  told : ∀ x ∈ xs, ToldY w.heap.size x wr
  cnt : xs.length ≤ at'
  go : ∃ f, secs.length ≤ at' + f ∧ recsL secs = xs.map (·.1) ++ recsGo secs f at' least
  lst : least < 4294967296
  bel : Below w.heap.size w wr
def RsHd (secs : List (List UInt8)) (w : World) (s3 s4 s5 : Value) (wr : World) : Prop := ∃ (at' least : Nat) (xs : List Yl), s4 = .int .i64 (at' : Int) ∧ s5 = .int .u64 (least : Int) ∧ RsI secs w s3 at' least xs wr
theorem RsI.done {secs : List (List UInt8)} {w wr : World} {s3 : Value} {at' least : Nat} {xs : List Yl} (h : RsI secs w s3 at' least xs wr) (hno : ∀ f, recsGo secs f at' least = []) {w' : World} (hb : Below wr.heap.size wr w') : NRestS (fun b => w.heap.size ≤ b) w' (recsL secs) s3 := by
  have hg : Got secs xs := by
    obtain ⟨f, _, hf⟩ := h.go
    unfold Got; rw [hf, hno, List.append_nil]
  have hl : xs.length = (recsL secs).length := by rw [← hg, List.length_map]
  refine nrests_of_owns (owns_below (World.ownsRow.mono h.own (Nat.zero_le _)) hb) hl (by unfold valsY; rw [List.length_map, hl]) (fun g h9 => (h.own.lt g h9).1) (fun i x u hx hu => ?_)
  rw [← hg, List.getElem?_map, Option.map_eq_some_iff] at hx
  unfold valsY at hu
  rw [List.getElem?_map, Option.map_eq_some_iff] at hu
  obtain ⟨y, hy, rfl⟩ := hx
  obtain ⟨z, hz, rfl⟩ := hu
  rw [hy] at hz; cases hz
  have ht := h.told y (List.mem_of_getElem? hy)
  exact rests_of_buf (buf_stays ht.1 hb) ht.2
theorem own_later {w w' : World} {base e size n : Nat} {v : Value} {xs : List Value} (h : w.ownsRow base e size v n xs) (hb : Below w.heap.size w w') : w'.ownsRow base e size v n xs := by
  rcases Nat.eq_zero_or_pos n with h0 | h0
  · exact h.kept (row := none) ⟨hb.os, hb.tape, hb.output, hb.size, fun k hk _ => hb.block k hk⟩ (by cases hv : v.ownBlock <;> simp)
  · exact h.kept (row := none) ⟨hb.os, hb.tape, hb.output, hb.size, fun k hk _ => hb.block k hk⟩ (by cases hv : v.ownBlock <;> simp)
set_option maxHeartbeats 40000000 in
set_option maxRecDepth 100000 in
theorem refrecords_call (secs : List (List UInt8)) (v : Value) (w : World) (h : NRest w.heap.size w secs v) (hl : ∀ x ∈ secs, x.length = 128) (hn : secs.length ≤ 4096) :
    Calls Try.prog 61 #[v] w fun e w' => ∃ u, e = .returned u ∧ NRestS (fun b => w.heap.size ≤ b) w' (recsL secs) u ∧ Below w.heap.size w w' := by
  have HV := Lib.hid h
  obtain ⟨va, vc, rfl⟩ := nrest_slice h
  have HL := Lib.hid hl
  have hvc : secs.length ≤ vc := by obtain ⟨_, _, he, h1, _⟩ := h; injection he with _ _ h3; omega
  have HMADE : Hid ((w.alloc (.cells #[] 35)).ownsRow w.heap.size 35 1 (.slice (some ⟨w.heap.size, 0, none⟩) 0 0) 0 []) := Lib.hid (World.ownsRow_made w #[] 0 (Nat.le_refl _) (by unfold maxLen; omega) rfl)
  obtain ⟨S, hS⟩ : ∃ S, S = secs.length := ⟨_, rfl⟩
  have HREC : Hid (∀ (at' : Nat) W, at' ≤ S → Below w.heap.size w W → Calls Try.prog 82 #[.slice va S vc, .int .i64 (at' : Int)] W (RecAns secs at' W)) := Lib.hid (fun at' W ha hW => by
    rw [hS]; exact refrecord_call secs at' _ W (h.keep hW) hl hn (by omega))
  rw [← hS] at HV hn hvc ⊢
  have HS := Lib.hid hS
  clear h hl hS
  go_enter Try.func61, Try.ntmps61
  go_wp2_with fail
  go_loopw [3, 4, 5] (fun s3 s4 s5 wr => RsHd secs w s3 s4 s5 wr) (fun _ s4 _ _ => S - (intOf s4).toNat)
  case atStart => exact ⟨0, 0, [], rfl, rfl, Nat.zero_le _, HMADE.out, by simp, Nat.le_refl _, ⟨secs.length, by omega, rfl⟩, by omega, Joins.below_alloc1 w _⟩
  case round =>
    obtain ⟨at', least, xs, rfl, rfl, hi⟩ := hrel
    obtain ⟨a3, c3, rfl, hc6, hc7⟩ := own_shape hi.own
    have HI := Lib.hid hi
    have hle := hi.le
    rw [← HS.out] at hle
    clear hi
    have HCALL := Lib.hid (HREC.out at' wr hle HI.out.bel)
    obtain ⟨n, hn2⟩ : ∃ n, n = (recP secs at').2.2 := ⟨_, rfl⟩
    unfold RecAns at HCALL
    rw [← hn2] at HCALL
    by_cases hz : n = 0
    · have hno : ∀ f, recsGo secs f at' least = [] := fun f => by
        cases f with
        | zero => rfl
        | succ f =>
          rcases Nat.lt_or_ge at' secs.length with h1 | h1
          · rw [recsGo_step secs f at' least h1, if_pos (.inl (by rw [← hn2]; exact hz))]
          · exact recsGo_end secs _ at' least h1
      have HNO := Lib.hid hno
      clear hno hn2
      subst hz
      go_wp2_with (go_at_call 82; refine HCALL.out.mono ?_; rintro e w2 ⟨v2, rfl, hbf, ⟨a9, n9, c9, rfl⟩, hb⟩)
      go_ret
      exact ⟨_, rfl, HI.out.done HNO.out hb, below_next HI.out.bel hb⟩
    · have hat : at' < S := by
        rcases Nat.lt_or_ge at' S with h1 | h1
        · exact h1
        · rw [recP_end secs at' (by rw [← HS.out]; exact h1)] at hn2; exact absurd hn2 hz
      obtain ⟨b, hx⟩ : ∃ x, secs[at']? = some x := ⟨_, List.getElem?_eq_getElem (by rw [← HS.out]; exact hat)⟩
      have hbl := HL.out b (List.mem_of_getElem? hx)
      obtain ⟨vb, vo, u, rfl, _, hru, hcu⟩ := HV.out.at hx
      obtain ⟨u0, uc, rfl, huc, huc2⟩ := hru.shape
      obtain ⟨ub, uo, rfl, _⟩ := rest_some hru (by omega)
      have hgen := recP_gen secs at' (by rw [← hn2]; exact hz)
      rw [show secs.getD at' [] = b from by rw [List.getD_eq_getElem?_getD, hx]; rfl] at hgen
      obtain ⟨g, hg⟩ : ∃ g, g = num4 b := ⟨_, rfl⟩
      rw [← hg] at hgen
      have hgl : g < 4294967296 := by rw [hg]; exact num4_lt b
      have HU := Lib.hid hru
      have HCU := Lib.hid hcu
      have HBL := Lib.hid hbl
      have HG := Lib.hid hg
      have HGEN := Lib.hid hgen
      have HN2 := Lib.hid hn2
      have hple := recP_le secs at' (by rw [← HS.out]; exact hle)
      rw [← hn2, ← HS.out] at hple
      have HNUM : Hid (∀ W, Below w.heap.size w W → Calls Try.prog 83 #[.slice (some ⟨ub, uo, none⟩) 4 uc] W fun e w' => e = .returned (.int .u64 (g : Int)) ∧ w' = W) := Lib.hid (fun W hW => by
        have hr := HU.out.stays hW
        have := refnumber_call ((b.drop 0).take 4) (.slice (some ⟨ub, uo + 0, none⟩) 4 uc) _ _ (rest_part hr 0 4 uc (by omega) (by omega) (by omega)) (by rw [List.length_take]; omega)
        rw [List.drop_zero, Nat.add_zero, numR_take4 b HBL.out, ← HG.out] at this
        exact this)
      rw [hbl] at hcu huc2
      have HCU2 : Hid (∀ W, Below w.heap.size w W → W.cell? ⟨vb, vo + at', none⟩ = some (.slice (some ⟨ub, uo, none⟩) 128 uc)) := Lib.hid hcu
      have hai : (at' : Int) < (S : Int) := by omega
      have ha0 : (0 : Int) ≤ (at' : Int) := by omega
      have huc4 : (4 : Int) ≤ (uc : Int) := by omega
      have hcnt := HI.out.cnt
      have hnz : ((n : Int) == 0) = false := by simp; omega
      have hnz2 : ¬ (n : Int) = 0 := by omega
      clear hru hcu hx hbl hg hgen hn2 hz
      by_cases hlt : g < least
      · have HNO : Hid (∀ f, recsGo secs f at' least = []) := Lib.hid (fun f => by
          cases f with
          | zero => rfl
          | succ f => rw [recsGo_step secs f at' least (by rw [← HS.out]; exact hat), if_pos (.inr (by rw [HGEN.out]; exact hlt))])
        have hlt2 : (g : Int) < (least : Int) := by omega
        go_wp2_with (first
          | (go_at_call 82; refine HCALL.out.mono ?_; rintro e w2 ⟨v2, rfl, hbf, ⟨a9, n9, c9, rfl⟩, hb⟩; have HB2 := Lib.hid hb; have hcx := HCU2.out w2 (below_next HI.out.bel hb); clear hb hbf)
          | (go_at_call 83; refine (HNUM.out _ (below_next HI.out.bel HB2.out)).mono ?_; rintro e w3 ⟨rfl, rfl⟩))
        go_ret
        exact ⟨_, rfl, HI.out.done HNO.out HB2.out, below_next HI.out.bel HB2.out⟩
      · have hlt2 : ¬ (g : Int) < (least : Int) := by omega
        have hwa : IntKind.i64.wrap ((at' : Int) + (n : Int)) = ((at' + n : Nat) : Int) := by rw [IntKind.wrap_i64]; omega
        go_wp2_with (first
          | (go_at_call 82; refine HCALL.out.mono ?_; rintro e w2 ⟨v2, rfl, hbf, ⟨a9, n9, c9, rfl⟩, hb⟩; have HB2 := Lib.hid hb; have HBF := Lib.hid hbf; have hcx := HCU2.out w2 (below_next HI.out.bel hb); have HOWN : Hid ((w2.alloc (.cells #[.slice a9 n9 c9] 35)).ownsRow w.heap.size 35 1 (.slice a3 xs.length c3) xs.length (valsY xs)) := Lib.hid (World.ownsRow.alloc (own_later HI.out.own hb) _); clear hb hbf)
          | (go_at_call 83; refine (HNUM.out _ (below_next HI.out.bel HB2.out)).mono ?_; rintro e w3 ⟨rfl, rfl⟩)
          | (refine wpList_append_ns rfl (.tmp 34) (.tmp 36) rfl w.heap.size (.slice a3 xs.length c3) xs.length (valsY xs) rfl HOWN.out (some ⟨w3.heap.size, 0, none⟩) 1 1 [.slice a9 n9 c9] rfl (fun h => by cases h) rfl (fun b hb j u hu => by injection hb with hb; subst hb; rw [Addr.add_lit, Nat.zero_add]; exact (row_new w3 35 [.slice a9 n9 c9]).cell hu) (by intro u hu; simp at hu; subst hu; rfl) (by omega) (by rw [World.size_alloc]; have := (below_next HI.out.bel HB2.out).size; omega) ?_; intro v37 w37 hown hgrow; obtain ⟨a37, c37, rfl, _, _⟩ := own_shape hown; have HO := Lib.hid hown; have HGR := Lib.hid hgrow; clear hown hgrow))
        have hn0 : n ≠ 0 := by omega
        obtain ⟨hb1, hb2⟩ := HBF.out hn0
        have hbel2 := below_next HI.out.bel HB2.out
        have hal := Joins.below_alloc1 w3 (.cells #[.slice a9 n9 c9] 35)
        have keep : ∀ (y : Value) (ys : List UInt8), Buf w3 y ys → Buf w37 y ys := fun y ys h =>
          World.ownsRow.kept (buf_stays h hal) HGR.out (bufs_apart (buf_stays h hal) HOWN.out)
        refine ⟨⟨at' + n, g, xs ++ [((recP secs at').1, .slice a9 n9 c9)], by go_num, rfl, ?_⟩, by simp [intOf]; omega⟩
        refine ⟨by rw [← HS.out]; exact hple, by rw [List.length_append]; simpa [valsY] using HO.out, fun x hx => ?_, by rw [List.length_append]; simp; omega, ?_, hgl, ?_⟩
        · rcases List.mem_append.1 hx with hx | hx
          · have ht := HI.out.told x hx
            exact ⟨keep _ _ (buf_stays ht.1 HB2.out), ht.2⟩
          · simp at hx
            subst hx
            exact ⟨keep _ _ hb1, fun q hq => Nat.le_trans HI.out.bel.size (hb2 q hq)⟩
        · obtain ⟨f, hf, hgo⟩ := HI.out.go
          rw [← HS.out] at hf
          cases f with
          | zero => omega
          | succ f =>
            refine ⟨f, by rw [← HS.out]; omega, ?_⟩
            rw [hgo, recsGo_step secs f at' least (by rw [← HS.out]; exact hat), if_neg (by rw [← HN2.out, HGEN.out]; omega), HGEN.out, ← HN2.out, List.map_append, List.append_assoc]
            rfl
        · exact (below_next hbel2 hal).trans (below_grewn HOWN.out HGR.out (by rw [World.size_alloc]; have := hbel2.size; omega) (Nat.le_refl _))
end Go.Proofs.Ytlaaolbdadempaa

/- The reference's Open. -/
namespace Go.Proofs.Ytlaaolbdadempaa
open Go.RowKit

set_option maxHeartbeats 8000000 in
set_option maxRecDepth 100000 in
theorem jrefopen_call (d : Dsk) (s p : Value) (w : World) (h : DRest w.heap.size w d (dv s p d.left d.stop)) (l : List (List UInt8)) (m s1 k : Int) (hr : openJ d = (⟨l, m, s1⟩, k)) :
    Calls Try.prog 39 #[dv s p d.left d.stop] w (NewJ w l m s1 k) := by
  have HCK : Hid (∀ W, Below w.heap.size w W → Calls Try.prog 23 #[dv s p d.left d.stop] W fun e w' => e = .returned (.int .i64 (if validB d then 0 else 40)) ∧ Below W.heap.size W w') := Lib.hid (fun W hW => refcheck_call d _ W (h.keep hW))
  have HVS : Hid (chkD d = 0 → _) := Lib.hid (valid_secs (d := d))
  obtain ⟨_, _, ⟨a, c, rfl⟩, ⟨a2, c2, rfl⟩⟩ := drest_left h
  have HS : Hid (NRest w.heap.size w d.secs (.slice a d.secs.length c)) := Lib.hid (by
    obtain ⟨s', p', he, h1, h2⟩ := h
    unfold dv dskOf dskCells at he
    simp at he
    rw [he.1]; exact h1)
  have HREC : Hid (chkD d = 0 → ∀ W, Below w.heap.size w W → Calls Try.prog 61 #[.slice a d.secs.length c] W fun e w' => ∃ u, e = .returned u ∧ NRestS (fun b => W.heap.size ≤ b) w' (recsL d.secs) u ∧ Below W.heap.size W w') := Lib.hid (fun h0 W hW => by
    obtain ⟨h1, h2, _⟩ := HVS.out h0
    exact refrecords_call d.secs _ W ((HS.out.stays hW).mono hW.size) h1 h2)
  have HV : Hid (openJ d = if chkD d = 0 then (⟨recsL d.secs, d.secs.length, (recsL d.secs).length⟩, 0) else (zeroJ, chkD d)) := Lib.hid rfl
  have HC : Hid (chkD d = if validB d then if d.stop then 40 else if 0 < d.pend.length then 1 else 0 else 40) := Lib.hid rfl
  have HRR := Lib.hid hr
  clear h hr
  unfold dv at *
  have HR1 := Lib.hid ((row_new w 25 [.slice a d.secs.length c, .slice a2 d.pend.length c2, .int .i64 d.left, .bool d.stop]).keep (Joins.below_alloc1 _ (.cells #[.slice none 0 0, .int .i64 0, .int .i64 0] 55)))
  have HR2 := row_new (w.alloc (.cells #[.slice a d.secs.length c, .slice a2 d.pend.length c2, .int .i64 d.left, .bool d.stop] 25)) 55 [.slice none 0 0, .int .i64 0, .int .i64 0]
  rw [World.size_alloc] at HR2
  replace HR2 := Lib.hid HR2
  have HB := Lib.hid (below_two w (.cells #[.slice a d.secs.length c, .slice a2 d.pend.length c2, .int .i64 d.left, .bool d.stop] 25) (.cells #[.slice none 0 0, .int .i64 0, .int .i64 0] 55))
  have hzero : ∀ (code : Int) (w9 : World), openJ d = (zeroJ, code) → Below w.heap.size w w9 → NewJ w l m s1 k (.returned (.tuple #[.agg #[.slice none 0 0, .int .i64 0, .int .i64 0], .int .i64 code])) w9 := fun code w9 h hb => by
    rw [HRR.out] at h
    unfold zeroJ at h
    injection h with h9 h10
    injection h9 with h91 h92 h93
    subst h91 h92 h93 h10
    exact ⟨_, rfl, nrests_nil _ _, hb⟩
  have HZ := Lib.hid hzero
  clear hzero
  generalize d.left = lf at *
  obtain ⟨va, hva⟩ : ∃ va, va = validB d := ⟨_, rfl⟩
  obtain ⟨st, hst⟩ : ∃ st, st = d.stop := ⟨_, rfl⟩
  obtain ⟨pm, hpm⟩ : ∃ pm, pm = d.pend.length := ⟨_, rfl⟩
  obtain ⟨n, hn⟩ : ∃ n, n = d.secs.length := ⟨_, rfl⟩
  rw [← hva] at HCK HC
  rw [← hst] at HCK HC HR1 HR2 HB ⊢
  rw [← hpm] at HCK HC HR1 HR2 HB ⊢
  rw [← hn] at HCK HREC HR1 HR2 HB HV ⊢
  clear hva hst hpm hn
  cases va
  · go_enter Try.func39, Try.ntmps39
    go_wp2_with (first
      | (go_at_call 23; refine (HCK.out _ HB.out).mono ?_; rintro e w2 ⟨rfl, hb⟩; replace HR2 := Lib.hid (HR2.out.keep hb); replace HB := Lib.hid (below_next HB.out hb); clear hb)
      | (refine wpList_store_ags rfl 55 (.tmp 2) (.tmp 10) rfl (w.heap.size + 1) [.slice none 0 0, .int .i64 0, .int .i64 0] _ size55 (by rfl) rfl rfl HR2.out (by rfl) HB.out (by omega) ?_; intro w9 hr hb hf))
    exact bodyPost_ret (results_jn Try.results39 _ w9 (w.heap.size + 1) _ rfl rfl _ rfl hr) rfl (HZ.out 40 w9 (by rw [HV.out, HC.out]; simp) hb)
  · cases st
    · by_cases hp : 0 < pm
      · have hp2 : (0 : Int) < (pm : Int) := by omega
        go_enter Try.func39, Try.ntmps39
        go_wp2_with (first
          | (go_at_call 23; refine (HCK.out _ HB.out).mono ?_; rintro e w2 ⟨rfl, hb⟩; have c1 := HR1.out.later hb (i := 1) rfl; have c3 := HR1.out.later hb (i := 3) rfl; replace HR2 := Lib.hid (HR2.out.keep hb); replace HB := Lib.hid (below_next HB.out hb); clear hb)
          | (refine wpList_store_ags rfl 55 (.tmp 2) (.tmp 19) rfl (w.heap.size + 1) [.slice none 0 0, .int .i64 0, .int .i64 0] _ size55 (by rfl) rfl rfl HR2.out (by rfl) HB.out (by omega) ?_; intro w9 hr hb hf))
        exact bodyPost_ret (results_jn Try.results39 _ w9 (w.heap.size + 1) _ rfl rfl _ rfl hr) rfl (HZ.out 1 w9 (by rw [HV.out, HC.out]; simp [hp]) hb)
      · have hp2 : ¬ (0 : Int) < (pm : Int) := by omega
        have h0 : chkD d = 0 := by rw [HC.out]; simp [hp]
        have HRC := Lib.hid (HREC.out h0)
        have HO := Lib.hid (show ((⟨l, m, s1⟩ : Jnl), k) = (⟨recsL d.secs, n, (recsL d.secs).length⟩, 0) from by rw [← HRR.out, HV.out, if_pos h0])
        clear h0
        go_enter Try.func39, Try.ntmps39
        go_wp2_with (first
          | (go_at_call 23; refine (HCK.out _ HB.out).mono ?_; rintro e w2 ⟨rfl, hb⟩; have c0 := HR1.out.later hb (i := 0) rfl; have c1 := HR1.out.later hb (i := 1) rfl; have c3 := HR1.out.later hb (i := 3) rfl; have HR12 := Lib.hid (HR1.out.keep hb); replace HR2 := Lib.hid (HR2.out.keep hb); replace HB := Lib.hid (below_next HB.out hb); clear hb)
          | (go_at_call 61; refine (HRC.out _ HB.out).mono ?_; have HLT := Lib.hid HR2.out.lt; rintro e w3 ⟨u, rfl, hu, hb⟩; have HUU := Lib.hid hu; obtain ⟨ua, uc, rfl⟩ := nrest_slice hu.rest; clear c0 c1 c3; have c0 := HR12.out.later hb (i := 0) rfl; replace HR2 := Lib.hid (HR2.out.keep hb); replace HB := Lib.hid (below_next HB.out hb); clear hb hu)
          | (refine wpList_store_ags rfl 55 (.tmp 2) (.tmp 29) rfl (w.heap.size + 1) [.slice ua (recsL d.secs).length uc, .int .i64 n, .int .i64 (recsL d.secs).length] _ size55 (by rfl) rfl rfl HR2.out (by rfl) HB.out (by omega) ?_; intro w9 hr hb hf))
        refine bodyPost_ret (results_jn Try.results39 _ w9 (w.heap.size + 1) _ rfl rfl _ rfl hr) rfl ?_
        have hu9 := HUU.out.keep (.far (w.heap.size + 1) (fun h9 => Nat.lt_irrefl _ (Nat.lt_of_lt_of_le HLT.out h9)) hf)
        have h9 := HO.out
        injection h9 with h9 h10
        injection h9 with h91 h92 h93
        subst h91 h92 h93 h10
        exact ⟨_, rfl, hu9.rest, hb⟩
    · go_enter Try.func39, Try.ntmps39
      go_wp2_with (first
        | (go_at_call 23; refine (HCK.out _ HB.out).mono ?_; rintro e w2 ⟨rfl, hb⟩; have c3 := HR1.out.later hb (i := 3) rfl; replace HR2 := Lib.hid (HR2.out.keep hb); replace HB := Lib.hid (below_next HB.out hb); clear hb)
        | (refine wpList_store_ags rfl 55 (.tmp 2) (.tmp 14) rfl (w.heap.size + 1) [.slice none 0 0, .int .i64 0, .int .i64 0] _ size55 (by rfl) rfl rfl HR2.out (by rfl) HB.out (by omega) ?_; intro w9 hr hb hf))
      exact bodyPost_ret (results_jn Try.results39 _ w9 (w.heap.size + 1) _ rfl rfl _ rfl hr) rfl (HZ.out 40 w9 (by rw [HV.out, HC.out]; simp) hb)
end Go.Proofs.Ytlaaolbdadempaa

/- JournalOpenSpec: the walk. -/
namespace Go.Proofs.Ytlaaolbdadempaa
open Go.RowKit

set_option maxHeartbeats 8000000 in
set_option maxRecDepth 100000 in
theorem openspec_walk (d : Dsk) (v : Value) (w : World) (h : DRest w.heap.size w d v) :
    Calls Try.prog 10 #[v] w fun e w' => e = .returned (.bool true) ∧ Below w.heap.size w w' := by
  obtain ⟨s, p, rfl, hs, hp⟩ := h
  have HD := Lib.hid (show DRest w.heap.size w d (dv s p d.left d.stop) from ⟨s, p, rfl, hs, hp⟩)
  obtain ⟨a, cap, rfl, hc1, hc2⟩ := hs.shape
  obtain ⟨a2, cap2, rfl, hc3, hc4⟩ := hp.shape
  clear hs hp
  have HX0 := Lib.hid (Box.new HD.out (row_new w 25 [.slice a d.secs.length cap, .slice a2 d.pend.length cap2, .int .i64 d.left, .bool d.stop]) (Joins.below_alloc1 w _))
  have HB := Lib.hid (Joins.below_alloc1 w (.cells #[.slice a d.secs.length cap, .slice a2 d.pend.length cap2, .int .i64 d.left, .bool d.stop] 25))
  unfold dskOf dskCells
  obtain ⟨⟨⟨l1, m1, s1⟩, k1⟩, hap⟩ : ∃ r, openJ d = r := ⟨_, rfl⟩
  have HAP := Lib.hid hap
  clear hap
  go_enter Try.func10, Try.ntmps10
  go_wp2_with fail
  refine (jsane_call _).mono ?_
  rintro e wS ⟨rfl, hb⟩
  replace HB := Lib.hid (below_next HB.out hb)
  replace HX0 := Lib.hid (HX0.out.keep hb)
  clear hb
  go_wp2_with (first
    | (refine wpList_load_dsk rfl _ rfl _ _ (by rfl) rfl HX0.out.row ?_))
  refine (jfew_call [] _ _ _ _ _ _ _ _ _ wS (nrests_nil _ _)).mono ?_
  rintro e wF ⟨r, rfl, hb⟩
  replace HB := Lib.hid (below_next HB.out hb)
  replace HX0 := Lib.hid (HX0.out.keep hb)
  clear hb
  cases r
  · go_wp2_with fail
    go_ret
    exact ⟨rfl, HB.out⟩
  go_wp2_with (first
    | (refine wpList_load_dsk rfl _ rfl _ _ (by rfl) rfl HX0.out.row ?_))
  refine (open_law HX0.out.drest HAP.out).mono ?_
  rintro e w5 ⟨jv5, rfl, hn, hb⟩
  replace HB := Lib.hid (below_next HB.out hb)
  replace HX0 := Lib.hid (HX0.out.keep hb)
  have HN5 := Lib.hid hn
  obtain ⟨ja5, jc5, rfl⟩ := nrest_slice hn
  clear hn hb
  go_wp2_with (first
    | (refine wpList_store_ags rfl _ _ _ rfl w5.heap.size [.slice ja5 (l1).length jc5, .int .i64 m1, .int .i64 s1] _ size55 (by rfl) rfl rfl (row_new w5 55 _) (one_alj HN5.out) (Joins.below_alloc1 w5 _) (Nat.le_refl _) ?_; intro v5 hr hb _; replace HB := Lib.hid (below_next HB.out hb); replace HX0 := Lib.hid (HX0.out.keep hb); have HJ5 := Lib.hid (JBox.new HN5.out hr hb); clear hr hb HN5)
    | (refine wpList_load_dsk rfl _ rfl _ _ (by rfl) rfl HX0.out.row ?_))
  refine (jrefopen_call d _ _ _ HX0.out.drest _ _ _ _ HAP.out).mono ?_
  rintro e w6 ⟨jv6, rfl, hn, hb⟩
  replace HB := Lib.hid (below_next HB.out hb)
  replace HX0 := Lib.hid (HX0.out.keep hb)
  replace HJ5 := Lib.hid (HJ5.out.keep hb)
  have HN6 := Lib.hid hn
  obtain ⟨ja6, jc6, rfl⟩ := nrest_slice hn
  clear hn hb
  go_wp2_with (first
    | (refine wpList_store_ags rfl _ _ _ rfl w6.heap.size [.slice ja6 (l1).length jc6, .int .i64 m1, .int .i64 s1] _ size55 (by rfl) rfl rfl (row_new w6 55 _) (one_alj HN6.out) (Joins.below_alloc1 w6 _) (Nat.le_refl _) ?_; intro v6 hr hb _; replace HB := Lib.hid (below_next HB.out hb); replace HX0 := Lib.hid (HX0.out.keep hb); replace HJ5 := Lib.hid (HJ5.out.keep hb); have HJ6 := Lib.hid (JBox.new HN6.out hr hb); clear hr hb HN6)
    | (refine wpList_load_jnl rfl _ rfl _ _ (by rfl) rfl HJ5.out.row ?_)
    | (refine wpList_load_jnl rfl _ rfl _ _ (by rfl) rfl HJ6.out.row ?_))
  have hsm := jrefsame_call l1 l1 _ _ m1 s1 m1 s1 v6 HJ5.out.nrest HJ6.out.nrest
  rw [decide_eq_true (show m1 = m1 ∧ s1 = s1 ∧ l1 = l1 from ⟨rfl, rfl, rfl⟩)] at hsm
  refine hsm.mono ?_
  rintro e w9 ⟨rfl, hb⟩
  replace HB := Lib.hid (below_next HB.out hb)
  clear hb hsm
  go_wp2_with fail
  go_ret
  exact ⟨rfl, HB.out⟩
end Go.Proofs.Ytlaaolbdadempaa
